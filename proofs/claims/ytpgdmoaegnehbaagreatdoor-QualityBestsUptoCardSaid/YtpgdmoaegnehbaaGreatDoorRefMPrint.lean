/-
  What the document's own Print of media types, and its comparison, come to.
-/
import Derived.Test.YtpgdmoaegnehbaaGreatDoorRefQuote
import Derived.Test.YtpgdmoaegnehbaaGreatDoorPairs
namespace Go.Proofs.YtpgdmoaegnehbaaGreatDoor
open Go.RowKit

/-- Print's answer. -/
def mtA (m : Md.Med) : ByteArray := ⟨(Md.print m).toArray⟩
theorem mtA_list (m : Md.Med) : (mtA m).data.toList = Md.print m := mk_list _
theorem tell_step {t x : ByteArray} {l : List Pair} {k : Nat} (h : k < l.length) {h0 : List UInt8} (ht : t.data.toList = h0 ++ (l.take k).flatMap Md.tellP) (hx : x.data.toList = t.data.toList ++ Md.tellP l[k]) : x.data.toList = h0 ++ (l.take (k + 1)).flatMap Md.tellP := by
  rw [hx, ht, List.take_succ_eq_append_getElem h, List.flatMap_append]; simp

theorem keep3c {f : FuncId} {args : Array Value} {v : Value} {W w0 : World} {a0 a1 a2 : Addr} {x0 x1 x2 : Value} (hC : ∀ W, Below w0.heap.size w0 W → Calls Tryz.prog f args W fun e w' => e = .returned v ∧ Below W.heap.size W w')
    (h : W.cell? a0 = some x0 ∧ W.cell? a1 = some x1 ∧ W.cell? a2 = some x2 ∧ Below w0.heap.size w0 W) :
    Calls Tryz.prog f args W fun e w' => e = .returned v ∧ (w'.cell? a0 = some x0 ∧ w'.cell? a1 = some x1 ∧ w'.cell? a2 = some x2 ∧ Below w0.heap.size w0 w') := by
  obtain ⟨h0, h1, h2, e⟩ := h
  refine (hC W e).mono fun _ _ ⟨he, hb⟩ => ⟨he, ?_⟩
  have on := fun {a : Addr} {x : Value} (hx : W.cell? a = some x) => (hb.cell (World.block_lt_of_cell? W _ hx)).trans hx
  exact ⟨on h0, on h1, on h2, e.trans (hb.mono e.size)⟩

set_option maxRecDepth 100000 in
set_option maxHeartbeats 3200000 in
theorem refMPrint_wide {ao : Option Addr} {cap n : Nat} (x y : ByteArray) (ps : List Pair) (w : World) (hp : PairsIn w ao ps) (hn : ps.length = n) (hl : n ≤ 1048576) (hx : x.size ≤ 1048576) (hy : y.size ≤ 1048576) (hz : ∀ p ∈ ps, p.name.size ≤ 1048576 ∧ p.value.size ≤ 1048576) :
    Calls Tryz.prog 15 #[.agg #[.string x, .string y, .slice ao n cap]] w fun e w' => e = .returned (.string (mtA ⟨x, y, ps⟩)) ∧ Below w.heap.size w w' := by
  replace hn := Lib.hid hn
  replace hz := Lib.hid hz
  have bA : Below w.heap.size w (w.alloc (.cells #[.string x, .string y, .slice ao n cap] 40)) := (Below.refl _ _).alloc (Nat.le_refl _) _
  have k0 := Box3.new w (.string x) (.string y) (.slice ao n cap)
  have hp2 := hp.below bA
  have c0 := k0.c0
  have c1 := k0.c1
  have c2 := k0.c2
  have one1 : (⟨#[47]⟩ : ByteArray).size = 1 := rfl
  have hres : Hid ((mtA ⟨x, y, ps⟩).data.toList = (x.data.toList ++ 47 :: y.data.toList) ++ ps.flatMap Md.tellP) := Lib.hid (by rw [mtA_list, Md.print]; simp)
  generalize mtA ⟨x, y, ps⟩ = R at *
  clear k0 hp
  go_enter Tryz.func15, Tryz.ntmps15
  obtain ⟨wA, hA⟩ : ∃ wA, (w.alloc (.cells #[.string x, .string y, .slice ao n cap] 40)) = wA := ⟨_, rfl⟩
  rw [hA] at bA hp2 c0 c1 c2
  obtain ⟨H, hH⟩ : ∃ H : ByteArray, x ++ ⟨#[47]⟩ ++ y = H := ⟨_, rfl⟩
  have hHl : Hid (H.data.toList = x.data.toList ++ 47 :: y.data.toList) := Lib.hid (by rw [← hH]; simp)
  have hHz : H.size ≤ 2097153 := by rw [← hH, ByteArray.size_append, ByteArray.size_append, one1]; omega
  go_wp2_with fail
  clear hH
  go_loopw [3, 4] (fun v i wr => ∃ (k : Nat) (t : ByteArray), k ≤ n ∧ i = .int .i64 (k : Int) ∧ v = .string t ∧ t.size ≤ 2097153 + 4194304 * k ∧ Hid (t.data.toList = (x.data.toList ++ 47 :: y.data.toList) ++ (ps.take k).flatMap Md.tellP) ∧ Below wA.heap.size wA wr) (fun _ i _ => n - (intOf i).toNat)
  case atStart => exact ⟨0, H, Nat.zero_le _, rfl, rfl, by omega, Lib.hid (by rw [hHl.out]; simp), Below.refl _ _⟩
  case round =>
    obtain ⟨k, t, hk, rfl, rfl, htz, ht, bw⟩ := hrel
    have on := fun {a : Addr} {x : Value} (hx : wA.cell? a = some x) => (bw.cell (World.block_lt_of_cell? wA _ hx)).trans hx
    have e2 := on c2
    clear on c0 c1 c2 hA
    by_cases hlt : k < n
    · have hkl : k < ps.length := by rw [hn.out]; exact hlt
      obtain ⟨b, off, rfl, v0, v1⟩ := (hp2.below bw) k hkl
      have hst := Lib.hid (fun (z : ByteArray) (h : z.data.toList = t.data.toList ++ Md.tellP ps[k]) => tell_step hkl ht.out h)
      obtain ⟨z1, z2⟩ := hz.out ps[k] (List.getElem_mem hkl)
      generalize ps[k] = a at *
      obtain ⟨an, av⟩ := a
      dsimp only at *
      have hqz := qoA_size av
      have hql := Lib.hid (qoA_list av)
      have hquo := refQuote_any av
      generalize qoA av = Q at *
      have g5 : (k : Int) < (n : Int) := by omega
      have s2 : (⟨#[59, 32]⟩ : ByteArray).size = 2 := rfl
      have s1 : (⟨#[61]⟩ : ByteArray).size = 1 := rfl
      have n1 : ¬ 9223372036854775807 < t.size + 2 := by omega
      have n2 : ¬ 9223372036854775807 < t.size + 2 + an.size := by omega
      have n3 : ¬ 9223372036854775807 < t.size + 2 + an.size + 1 := by omega
      have n4 : ¬ 9223372036854775807 < t.size + 2 + an.size + 1 + Q.size := by omega
      have hfin : Hid ((t ++ ⟨#[59, 32]⟩ ++ an ++ ⟨#[61]⟩ ++ Q).data.toList = (x.data.toList ++ 47 :: y.data.toList) ++ (ps.take (k + 1)).flatMap Md.tellP) := Lib.hid (hst.out _ (by
        simp only [ByteArray.data_append, Array.toList_append, hql.out, Md.tellP]
        simp))
      have hfz : Hid ((t ++ ⟨#[59, 32]⟩ ++ an ++ ⟨#[61]⟩ ++ Q).size ≤ 2097153 + 4194304 * (k + 1)) := Lib.hid (by
        rw [ByteArray.size_append, ByteArray.size_append, ByteArray.size_append, ByteArray.size_append, s1, s2]; omega)
      clear hst hz htz
      go_wp2_with fail
      go_region_held3 (fun w' => w'.cell? ⟨w.heap.size, 2, none⟩ = some (.slice (some ⟨b, off, none⟩) n cap) ∧ w'.cell? ⟨b, off + k * 2, none⟩ = some (.string an) ∧ w'.cell? ⟨b, off + k * 2 + 1, none⟩ = some (.string av) ∧ Below wA.heap.size wA w') (first | exact ⟨e2, v0, v1, bw.drew⟩ | assumption)
        (first
          | (go_at_call 26; refine (keep3c (w0 := wA) (a0 := ⟨w.heap.size, 2, none⟩) (a1 := ⟨b, off + k * 2, none⟩) (a2 := ⟨b, off + k * 2 + 1, none⟩) (x0 := .slice (some ⟨b, off, none⟩) n cap) (x1 := .string an) (x2 := .string av) (fun W hb => hquo W (by omega)) ?_).mono ?_; assumption; rintro e w' ⟨rfl, hcb⟩))
      all_goals
        obtain ⟨-, -, -, bw3⟩ := hcb
        clear e2 v0 v1
        go_wp2_with fail
        go_roundw
        case rel => exact ⟨k + 1, _, by omega, by go_num, rfl, hfz.out, hfin, bw3⟩
        case measure => simp [intOf]; omega
    · have hfin : Hid (t = R) := Lib.hid (by
        apply bytes_eq
        rw [hres.out, ht.out, List.take_of_length_le (by rw [hn.out]; omega)])
      go_wp2_with fail
      go_ret
      exact ⟨ret_str hfin.out, bA.trans (bw.mono bA.size)⟩

theorem refMPrint_any {ao : Option Addr} {cap n : Nat} (x y : ByteArray) (ps : List Pair) (w : World) (hp : PairsIn w ao ps) (hn : ps.length = n) (hl : n ≤ 100000) (hx : x.size ≤ 100000) (hy : y.size ≤ 100000) (hz : ∀ p ∈ ps, p.name.size ≤ 100000 ∧ p.value.size ≤ 100000) :
    Calls Tryz.prog 15 #[.agg #[.string x, .string y, .slice ao n cap]] w fun e w' => e = .returned (.string (mtA ⟨x, y, ps⟩)) ∧ Below w.heap.size w w' :=
  refMPrint_wide x y ps w hp hn (by omega) (by omega) (by omega) (fun p h => by have := hz p h; omega)

end Go.Proofs.YtpgdmoaegnehbaaGreatDoor
