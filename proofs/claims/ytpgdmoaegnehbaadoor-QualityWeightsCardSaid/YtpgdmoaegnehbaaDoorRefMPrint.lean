/-
  What the document's own Print of media types, and its comparison, come to.
-/
import Derived.Test.YtpgdmoaegnehbaaDoorRefQuote
import Derived.Test.YtpgdmoaegnehbaaDoorPairs
namespace Go.Proofs.YtpgdmoaegnehbaaDoor
open Go.RowKit

/-- Print's answer. -/
def mtA (m : Md.Med) : ByteArray := ⟨(Md.print m).toArray⟩
theorem mtA_list (m : Md.Med) : (mtA m).data.toList = Md.print m := mk_list _
theorem tell_step {t x : ByteArray} {l : List Pair} {k : Nat} (h : k < l.length) {h0 : List UInt8} (ht : t.data.toList = h0 ++ (l.take k).flatMap Md.tellP) (hx : x.data.toList = t.data.toList ++ Md.tellP l[k]) : x.data.toList = h0 ++ (l.take (k + 1)).flatMap Md.tellP := by
  rw [hx, ht, List.take_succ_eq_append_getElem h, List.flatMap_append]; simp

theorem keep3c {f : FuncId} {args : Array Value} {v : Value} {W w0 : World} {a0 a1 a2 : Addr} {x0 x1 x2 : Value} (hC : ∀ W, Below w0.heap.size w0 W → Calls Tryd.prog f args W fun e w' => e = .returned v ∧ Below W.heap.size W w')
    (h : W.cell? a0 = some x0 ∧ W.cell? a1 = some x1 ∧ W.cell? a2 = some x2 ∧ Below w0.heap.size w0 W) :
    Calls Tryd.prog f args W fun e w' => e = .returned v ∧ (w'.cell? a0 = some x0 ∧ w'.cell? a1 = some x1 ∧ w'.cell? a2 = some x2 ∧ Below w0.heap.size w0 w') := by
  obtain ⟨h0, h1, h2, e⟩ := h
  refine (hC W e).mono fun _ _ ⟨he, hb⟩ => ⟨he, ?_⟩
  have on := fun {a : Addr} {x : Value} (hx : W.cell? a = some x) => (hb.cell (World.block_lt_of_cell? W _ hx)).trans hx
  exact ⟨on h0, on h1, on h2, e.trans (hb.mono e.size)⟩

end Go.Proofs.YtpgdmoaegnehbaaDoor
