/-
  The program's own Type and Sub, at a text's head.
-/
import Derived.Test.YtpgdmoaegnehbaaGreatDoorProgPart
namespace Go.Proofs.YtpgdmoaegnehbaaGreatDoor
open Go.RowKit

def kT1 (s : ByteArray) : ByteArray := skA s
def kA (s : ByteArray) : ByteArray := loA (tkA (kT1 s))
def kT2 (s : ByteArray) : ByteArray := tkB (kT1 s)
def kT3 (s : ByteArray) : ByteArray := hdR 47 (kT2 s)
def kS (s : ByteArray) : ByteArray := loA (tkA (kT3 s))
def kR (s : ByteArray) : ByteArray := tkB (kT3 s)
def kOk (s : ByteArray) : Bool := !(kA s).toList.isEmpty && hdB 47 (kT2 s) && !(kS s).toList.isEmpty && (!((kA s).toList == [42]) || ((kS s).toList == [42]))

theorem kind_step {s : ByteArray} : (kOk s = true → Md.parse s.data.toList = (Md.paramsG [] (kR s).data.toList).map (fun ps => ⟨kA s, kS s, ps⟩)) ∧ (kOk s = false → Md.parse s.data.toList = none) := by
  have e1 : (tkA (kT1 s)).data.toList = Md.tok (Md.skip s.data.toList) := by unfold kT1; rw [tkA_list, skA_list]
  have e2 : (kT2 s).data.toList = Md.tokR (Md.skip s.data.toList) := by unfold kT2 kT1; rw [tkB_list, skA_list]
  have n1 : (kA s).toList.isEmpty = (Md.tok (Md.skip s.data.toList)).isEmpty := by
    unfold kA
    rw [ByteArray.toList_eq, loA_list, e1]; unfold Md.lower; simp
  have s1 : ((kA s).toList == [42]) = decide (Md.tok (Md.skip s.data.toList) = [42]) := by
    unfold kA
    rw [ByteArray.toList_eq, loA_list, e1, Bool.eq_iff_iff, beq_iff_eq, decide_eq_true_eq, Md.lower_star]
  have a1 : kA s = ⟨(Md.lower (Md.tok (Md.skip s.data.toList))).toArray⟩ := by unfold kA loA; rw [e1]
  unfold kOk
  rw [n1, s1]
  by_cases h0 : Md.tok (Md.skip s.data.toList) = []
  · refine ⟨fun e => by rw [h0] at e; simp at e, fun _ => ?_⟩
    unfold Md.parse; rw [if_pos (.inl h0)]
  have i0 : (Md.tok (Md.skip s.data.toList)).isEmpty = false := by simpa using h0
  rw [i0]
  cases h47 : hdB 47 (kT2 s) with
  | false =>
    refine ⟨fun e => by simp at e, fun _ => ?_⟩
    unfold Md.parse
    rw [if_pos (.inr (by rw [← e2]; intro e; rw [hdB_iff.2 e] at h47; cases h47))]
  | true =>
    have hh := hdB_iff.1 h47
    rw [e2] at hh
    have e3 : (kT3 s).data.toList = (Md.tokR (Md.skip s.data.toList)).drop 1 := by unfold kT3; rw [hdR_list h47, e2]
    have e4 : (tkA (kT3 s)).data.toList = Md.tok ((Md.tokR (Md.skip s.data.toList)).drop 1) := by rw [tkA_list, e3]
    have n2 : (kS s).toList.isEmpty = (Md.tok ((Md.tokR (Md.skip s.data.toList)).drop 1)).isEmpty := by
      unfold kS
      rw [ByteArray.toList_eq, loA_list, e4]; unfold Md.lower; simp
    have s2 : ((kS s).toList == [42]) = decide (Md.tok ((Md.tokR (Md.skip s.data.toList)).drop 1) = [42]) := by
      unfold kS
      rw [ByteArray.toList_eq, loA_list, e4, Bool.eq_iff_iff, beq_iff_eq, decide_eq_true_eq, Md.lower_star]
    have a2 : kS s = ⟨(Md.lower (Md.tok ((Md.tokR (Md.skip s.data.toList)).drop 1))).toArray⟩ := by unfold kS loA; rw [e4]
    have e5 : (kR s).data.toList = Md.tokR ((Md.tokR (Md.skip s.data.toList)).drop 1) := by unfold kR; rw [tkB_list, e3]
    rw [n2, s2, a1, a2, e5]
    unfold Md.parse
    rw [if_neg (by rintro (e | e); exact h0 e; exact e hh)]
    by_cases h1 : Md.tok ((Md.tokR (Md.skip s.data.toList)).drop 1) = []
    · rw [if_pos h1]
      exact ⟨fun e => by rw [h1] at e; simp at e, fun _ => rfl⟩
    · have i1 : (Md.tok ((Md.tokR (Md.skip s.data.toList)).drop 1)).isEmpty = false := by simpa using h1
      rw [if_neg h1, i1]
      by_cases hs : Md.tok (Md.skip s.data.toList) = [42] ∧ Md.tok ((Md.tokR (Md.skip s.data.toList)).drop 1) ≠ [42]
      · refine ⟨fun e => by rw [decide_eq_true hs.1, decide_eq_false hs.2] at e; simp at e, fun _ => ?_⟩
        cases Md.paramsG [] (Md.tokR ((Md.tokR (Md.skip s.data.toList)).drop 1)) with
        | none => rfl
        | some ps => simp only; rw [if_pos hs]
      · refine ⟨fun _ => ?_, fun e => ?_⟩
        · cases Md.paramsG [] (Md.tokR ((Md.tokR (Md.skip s.data.toList)).drop 1)) with
          | none => rfl
          | some ps => simp only; rw [if_neg hs]; rfl
        · exfalso
          apply hs
          by_cases q1 : Md.tok (Md.skip s.data.toList) = [42]
          · by_cases q2 : Md.tok ((Md.tokR (Md.skip s.data.toList)).drop 1) = [42]
            · rw [decide_eq_true q1, decide_eq_true q2] at e; simp at e
            · exact ⟨q1, q2⟩
          · rw [decide_eq_false q1] at e; simp at e

set_option maxRecDepth 100000 in
set_option maxHeartbeats 6400000 in
theorem kind_any (b : Nat) (s : ByteArray) (w : World) (h : At b s w) :
    Calls Tryz.prog 47 #[.pointer (some ⟨b, 0, none⟩)] w fun e w' => e = .returned (.tuple #[.agg #[.string (kA s), .string (kS s), .slice none 0 0], .bool (kOk s)]) ∧ At b (kR s) w' ∧ w.grownBy w' (some b) := by
  have hz1 := skA_size s
  have hz2 := tkB_size (kT1 s)
  have hz3 := hdR_size 47 (kT2 s)
  have hsN : (tkA (kT1 s)).size ≤ 70368744177664 := by
    have := tkA_size (kT1 s)
    have := h.small
    have : (kT1 s).size ≤ s.size := hz1
    omega
  have hsM : (tkA (kT3 s)).size ≤ 70368744177664 := by
    have := tkA_size (kT3 s)
    have := h.small
    have : (kT1 s).size ≤ s.size := hz1
    have : (kT2 s).size ≤ (kT1 s).size := hz2
    have : (kT3 s).size ≤ (kT2 s).size := hz3
    omega
  clear hz1 hz2 hz3
  have hok : Hid (kOk s = (!(kA s).toList.isEmpty && hdB 47 (kT2 s) && !(kS s).toList.isEmpty && (!((kA s).toList == [42]) || ((kS s).toList == [42])))) := Lib.hid rfl
  have P0 := Lib.hid (Pt.new h 40 #[.string ⟨#[]⟩, .string ⟨#[]⟩, .slice none 0 0])
  clear h
  have k1 := Lib.hid (fun W hA => space_any b s W hA)
  have k2 := Lib.hid (fun W hA => token_any b (kT1 s) W hA)
  have k3 := Lib.hid (fun W => mSmall_any (tkA (kT1 s)) W hsN)
  have k4 := Lib.hid (fun W hA => takes_any b (kT2 s) 47 47 W hA rfl)
  have k5 := Lib.hid (fun W hA => token_any b (kT3 s) W hA)
  have k6 := Lib.hid (fun W => mSmall_any (tkA (kT3 s)) W hsM)
  rw [show skA s = kT1 s from rfl] at k1
  rw [show tkB (kT1 s) = kT2 s from rfl] at k2
  rw [show loA (tkA (kT1 s)) = kA s from rfl] at k3
  rw [show hdR 47 (kT2 s) = kT3 s from rfl] at k4
  rw [show tkB (kT3 s) = kR s from rfl] at k5
  rw [show loA (tkA (kT3 s)) = kS s from rfl] at k6
  generalize kOk s = OK at *
  generalize kR s = RR at *
  generalize kS s = SS at *
  generalize kA s = NN at *
  generalize tkA (kT1 s) = N1 at *
  generalize tkA (kT3 s) = N2 at *
  generalize hdB 47 (kT2 s) = B1 at *
  generalize kT3 s = T3 at *
  generalize kT2 s = T2 at *
  generalize kT1 s = T1 at *
  clear hsN hsM
  go_enter Tryz.func47, Tryz.ntmps47
  go_upto_region 1 with fail
  generalize w.alloc (.cells #[.string ⟨#[]⟩, .string ⟨#[]⟩, .slice none 0 0] 40) = w0 at *
  go_wp2_with fail
  (with_reducible refine (k1.out _ P0.out.text).mono ?_); rintro e w1 ⟨rfl, hA, hg⟩
  have P1 := Lib.hid (P0.out.read hA hg)
  clear P0 hA hg k1
  go_wp2_with fail
  (with_reducible refine (k2.out _ P1.out.text).mono ?_); rintro e w2 ⟨rfl, hA, hg⟩
  have P2 := Lib.hid (P1.out.read hA hg)
  clear P1 hA hg k2
  go_wp2_with fail
  (with_reducible refine (k3.out _).mono ?_); rintro e w3 ⟨rfl, hb⟩
  have P3 := P2.out.below hb
  clear P2 hb k3
  have c0 := P3.res.cell (i := 0) rfl
  have f0 := P3.res.free 0
  have P4 := Lib.hid (P3.put 0 (.string NN))
  clear P3
  go_wp2_with fail
  clear c0 f0
  (with_reducible refine (k4.out _ P4.out.text).mono ?_); rintro e w4 ⟨rfl, hA, hg⟩
  have P5 := Lib.hid (P4.out.read hA hg)
  clear P4 hA hg k4
  go_wp2_with fail
  (with_reducible refine (k5.out _ P5.out.text).mono ?_); rintro e w5 ⟨rfl, hA, hg⟩
  have P6 := Lib.hid (P5.out.read hA hg)
  clear P5 hA hg k5
  go_wp2_with fail
  (with_reducible refine (k6.out _).mono ?_); rintro e w6 ⟨rfl, hb⟩
  have P7 := P6.out.below hb
  clear P6 hb k6
  have c1 := P7.res.cell (i := 1) rfl
  have f1 := P7.res.free 1
  have P8 := Lib.hid (P7.put 1 (.string SS))
  clear P7
  go_upto_region 5 with fail
  clear c1 f1
  generalize w6.setCell ⟨w.heap.size, 1, none⟩ (.string SS) = w7 at *
  have c0 := P8.out.res.cell (i := 0) rfl
  have c1 := P8.out.res.cell (i := 1) rfl
  have c2 := P8.out.res.cell (i := 2) rfl
  have f0 := P8.out.res.free 0
  have f1 := P8.out.res.free 1
  have f2 := P8.out.res.free 2
  have P9 := Lib.hid (((P8.out.put 0 (.string NN)).put 1 (.string SS)).put 2 (.slice none 0 0))
  clear P8
  by_cases h0 : NN.size = 0
  · have he := empty_yes h0
    have hO : OK = false := by rw [hok.out, he]; rfl
    subst hO
    obtain rfl : NN = ByteArray.empty := ByteArray.size_eq_zero_iff.1 h0
    have he3 : (ByteArray.empty.toList == []) = true := by rw [ByteArray.toList_eq]; rfl
    have he4 : (ByteArray.empty.toList != []) = false := by rw [ByteArray.toList_eq]; rfl
    have he2 : ByteArray.empty.toList = [] := by rw [ByteArray.toList_eq]; rfl
    go_wp2_with fail
    exact media_end (k := w.heap.size) rfl rfl rfl P9.out.res ⟨rfl, P9.out.text, P9.out.grown⟩
  have hp : 0 < NN.size := by omega
  have hne := ne_empty hp
  have hne3 : ¬ NN.toList = [] := by
    rw [ByteArray.toList_eq]
    exact lst_ne hp
  have hne2 : (NN.toList == []) = false := by
    rw [beq_eq_false_iff_ne]; exact hne3
  have hne4 : (NN.toList != []) = true := by rw [bne, hne2]; rfl
  rw [hne] at hok
  replace hne := Lib.hid hne
  cases B1
  case false =>
    have hO : OK = false := by rw [hok.out]; rfl
    subst hO
    go_wp2_with fail
    exact media_end (k := w.heap.size) rfl rfl rfl P9.out.res ⟨rfl, P9.out.text, P9.out.grown⟩
  by_cases h1 : SS.size = 0
  · have he := empty_yes h1
    have hO : OK = false := by rw [hok.out, he]; rfl
    subst hO
    obtain rfl : SS = ByteArray.empty := ByteArray.size_eq_zero_iff.1 h1
    have he3 : (ByteArray.empty.toList == []) = true := by rw [ByteArray.toList_eq]; rfl
    have he4 : (ByteArray.empty.toList != []) = false := by rw [ByteArray.toList_eq]; rfl
    have he2 : ByteArray.empty.toList = [] := by rw [ByteArray.toList_eq]; rfl
    go_wp2_with fail
    exact media_end (k := w.heap.size) rfl rfl rfl P9.out.res ⟨rfl, P9.out.text, P9.out.grown⟩
  have hq : 0 < SS.size := by omega
  have gne := ne_empty hq
  have gne3 : ¬ SS.toList = [] := by
    rw [ByteArray.toList_eq]
    exact lst_ne hq
  have gne2 : (SS.toList == []) = false := by
    rw [beq_eq_false_iff_ne]; exact gne3
  have gne4 : (SS.toList != []) = true := by rw [bne, gne2]; rfl
  rw [gne] at hok
  replace gne := Lib.hid gne
  cases hs1 : (NN.toList == [42])
  case false =>
    have hs1b : (NN.toList != [42]) = true := by rw [bne, hs1]; rfl
    have hs1c : ¬ NN.toList = [42] := fun e => by rw [e] at hs1; cases hs1
    have hO : OK = true := by rw [hok.out, hs1]; rfl
    subst hO
    go_wp2_with fail
    exact media_end (k := w.heap.size) rfl rfl rfl P9.out.res ⟨rfl, P9.out.text, P9.out.grown⟩
  case true =>
    have hs1b : (NN.toList != [42]) = false := by rw [bne, hs1]; rfl
    have hs1c := Lib.hid (beq_iff_eq.1 hs1)
    have hO : OK = (SS.toList == [42]) := by rw [hok.out, hs1]; rfl
    subst hO
    clear hok
    go_wp2_with fail
    exact media_end (k := w.heap.size) rfl rfl rfl P9.out.res ⟨rfl, P9.out.text, P9.out.grown⟩
end Go.Proofs.YtpgdmoaegnehbaaGreatDoor
