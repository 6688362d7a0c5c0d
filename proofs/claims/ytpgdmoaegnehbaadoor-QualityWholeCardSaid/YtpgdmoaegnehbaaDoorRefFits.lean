/-
  What the document's own words of parameters and of ranges come to: contracts of Param, Fits.
-/
import Derived.Test.YtpgdmoaegnehbaaDoorRefMParse
import Derived.Deep.RegionHeld3
namespace Go.Proofs.YtpgdmoaegnehbaaDoor
open Go.RowKit

/-- Param's answers. -/
def paA (ps : List Pair) (n : ByteArray) : ByteArray := (Md.param ps n).getD ⟨#[]⟩
def paB (ps : List Pair) (n : ByteArray) : Bool := (Md.param ps n).isSome
theorem param_cons (p : Pair) (t : List Pair) (n : ByteArray) : Md.param (p :: t) n = if p.name = n then some p.value else Md.param t n := by
  unfold Md.param
  rw [List.find?_cons]
  by_cases h : p.name = n
  · rw [if_pos h, decide_eq_true h]; rfl
  · rw [if_neg h, decide_eq_false h]
theorem pa_some {ps : List Pair} {n v : ByteArray} (h : Md.param ps n = some v) : paA ps n = v ∧ paB ps n = true := by unfold paA paB; rw [h]; exact ⟨rfl, rfl⟩
theorem pa_none {ps : List Pair} {n : ByteArray} (h : Md.param ps n = none) : paA ps n = ⟨#[]⟩ ∧ paB ps n = false := by unfold paA paB; rw [h]; exact ⟨rfl, rfl⟩
theorem same_str {a b : ByteArray} (h : a = b) : (a.toList == b.toList) = true := by subst h; exact beq_self_eq_true _
theorem not_str {a b : ByteArray} (h : ¬ a = b) : (a.toList == b.toList) = false := by
  rw [ByteArray.toList_eq, ByteArray.toList_eq]; exact beq_false_of_ne (fun e => h (bytes_eq e))
theorem ret_par {a b : ByteArray} {x y : Bool} (h1 : a = b) (h2 : x = y) : Ending.returned (.tuple #[.string a, .bool x]) = .returned (.tuple #[.string b, .bool y]) := by rw [h1, h2]

/-- the cells that Fits reads, and what stands below. -/
theorem keep6 {f : FuncId} {args : Array Value} {v : Value} {W w0 : World} {a0 a1 a2 a3 a4 a5 : Addr} {x0 x1 x2 x3 x4 x5 : Value} (hC : ∀ W, Below w0.heap.size w0 W → Calls Tryd.prog f args W fun e w' => e = .returned v ∧ Below W.heap.size W w')
    (h : W.cell? a0 = some x0 ∧ W.cell? a1 = some x1 ∧ W.cell? a2 = some x2 ∧ W.cell? a3 = some x3 ∧ W.cell? a4 = some x4 ∧ W.cell? a5 = some x5 ∧ Below w0.heap.size w0 W) :
    Calls Tryd.prog f args W fun e w' => e = .returned v ∧ (w'.cell? a0 = some x0 ∧ w'.cell? a1 = some x1 ∧ w'.cell? a2 = some x2 ∧ w'.cell? a3 = some x3 ∧ w'.cell? a4 = some x4 ∧ w'.cell? a5 = some x5 ∧ Below w0.heap.size w0 w') := by
  obtain ⟨h0, h1, h2, h3, h4, h5, e⟩ := h
  refine (hC W e).mono fun _ _ ⟨he, hb⟩ => ⟨he, ?_⟩
  have on := fun {a : Addr} {x : Value} (hx : W.cell? a = some x) => (hb.cell (World.block_lt_of_cell? W _ hx)).trans hx
  exact ⟨on h0, on h1, on h2, on h3, on h4, on h5, e.trans (hb.mono e.size)⟩

theorem fits_ty {r m : Md.Med} (h : ¬ r.ty = Md.star ∧ ¬ r.ty = m.ty) : Md.fits r m = false := by
  unfold Md.fits; rw [decide_eq_false h.1, decide_eq_false h.2]; rfl
theorem fits_sub {r m : Md.Med} (h : ¬ r.sub = Md.star ∧ ¬ r.sub = m.sub) : Md.fits r m = false := by
  unfold Md.fits; rw [decide_eq_false h.1, decide_eq_false h.2]; simp
theorem fits_rest {r m : Md.Med} (h : r.ty = Md.star ∨ r.ty = m.ty) (h2 : r.sub = Md.star ∨ r.sub = m.sub) : Md.fits r m = r.params.all (Md.fitsP m.params) := by
  unfold Md.fits
  rw [show (decide (r.ty = Md.star) || decide (r.ty = m.ty)) = true by rcases h with h | h <;> simp [h], show (decide (r.sub = Md.star) || decide (r.sub = m.sub)) = true by rcases h2 with h | h <;> simp [h]]
  simp
theorem all_bad {α : Type} (p : α → Bool) (l : List α) (k : Nat) (h : k < l.length) (hn : p l[k] = false) : l.all p = false := by
  rw [← Bool.not_eq_true, List.all_eq_true]
  intro x
  have := x l[k] (List.getElem_mem h)
  rw [hn] at this; cases this
theorem all_more {α : Type} (p : α → Bool) (l : List α) (k : Nat) (h : k < l.length) (ha : (l.take k).all p = true) (hn : p l[k] = true) : (l.take (k + 1)).all p = true := by
  rw [List.take_succ_eq_append_getElem h, List.all_append, ha, List.all_cons, hn]; rfl
theorem param_mem {ps : List Pair} {n v : ByteArray} (h : Md.param ps n = some v) : ∃ p, p ∈ ps ∧ p.value = v := by
  unfold Md.param at h
  cases hf : ps.find? (fun p => decide (p.name = n)) with
  | none => rw [hf] at h; cases h
  | some p => rw [hf] at h; exact ⟨p, List.mem_of_find?_eq_some hf, Option.some.inj h⟩
theorem loA_iff {a b : ByteArray} : loA a = loA b ↔ Md.lower a.data.toList = Md.lower b.data.toList := by
  constructor
  · intro h; rw [← loA_list, ← loA_list, h]
  · intro h; apply bytes_eq; rw [loA_list, loA_list, h]
theorem star_data {a : ByteArray} : a = Md.star ↔ a.data.toList = [42] := by
  constructor
  · rintro rfl; rfl
  · intro h; exact bytes_eq h

end Go.Proofs.YtpgdmoaegnehbaaDoor
