/-
  The program's own Split.
-/
import Derived.Test.YtpgdmoaegnehbaaGreatDoorRefSplit
import Derived.Test.YtpgdmoaegnehbaaGreatDoorProgTake
import Derived.Test.YtpgdmoaegnehbaaGreatDoorQualityEnv
namespace Go.Proofs.YtpgdmoaegnehbaaGreatDoor
open Go.RowKit

theorem contains_blank (b : UInt8) : ([32, 9] : List UInt8).contains b = Md.blankB b := by
  have : ∀ n, n < 256 → ([32, 9] : List UInt8).contains (UInt8.ofNat n) = Md.blankB (UInt8.ofNat n) := by decide +kernel
  have := this b.toNat b.toNat_lt
  rwa [UInt8.ofNat_toNat] at this
theorem dropWhile_none {α : Type} (p : α → Bool) : ∀ l : List α, l.dropWhile p = [] ↔ ∀ x ∈ l, p x = true
  | [] => by simp
  | b :: t => by
    rw [List.dropWhile_cons]
    by_cases h : p b = true
    · rw [if_pos h, dropWhile_none p t]
      simp [h]
    · rw [if_neg h]
      simp [h]
theorem OwnsStrs.on {B : Nat} {v : Value} {P : List (List UInt8)} {w w' : World} (h : OwnsStrs B v P w) (hb : Below w.heap.size w w') : OwnsStrs B v P w' :=
  World.ownsRow.kept h (grown_of_below hb none) (by cases v.ownBlock <;> simp)
theorem trim_both (l : List UInt8) : Lib.trimS l [32, 9] = [] ↔ Md.skip l = [] := by
  have e : (fun b => ([32, 9] : List UInt8).contains b) = Md.blankB := funext contains_blank
  unfold Lib.trimS Lib.trimLeftS Lib.trimRightS Md.skip
  rw [e, dropWhile_none, dropWhile_none]
  constructor
  · intro h x hx
    by_cases hb : Md.blankB x = true
    · exact hb
    refine h x ?_
    rw [List.mem_reverse]
    have hr : x ∈ l.reverse := List.mem_reverse.2 hx
    rw [← List.takeWhile_append_dropWhile (p := Md.blankB) (l := l.reverse), List.mem_append] at hr
    rcases hr with hr | hr
    · exact absurd (List.all_eq_true.1 (List.all_takeWhile (p := Md.blankB) (l := l.reverse)) x hr) hb
    · exact hr
  · intro h x hx
    rw [List.mem_reverse] at hx
    exact h x (List.mem_reverse.1 ((List.dropWhile_sublist _).subset hx))

set_option maxRecDepth 100000 in
set_option maxHeartbeats 3200000 in
theorem withPiece_any {B : Nat} {W0 : World} {v : Value} {P : List (List UInt8)} (x : ByteArray) (w : World) (hx : x.size ≤ 1000000) (hP : P.length ≤ 1000000) (ho : OwnsStrs B v P w) (hb : Below B W0 w) (hB : B ≤ w.heap.size) :
    Calls Tryz.prog 24 #[v, .string x] w fun e w' => ∃ v', e = .returned v' ∧ OwnsStrs B v' (if Md.skip x.data.toList = [] then P else P ++ [x.data.toList]) w' ∧ Below B W0 w' ∧ w.heap.size ≤ w'.heap.size := by
  obtain ⟨i0, hi, hz0, hz1, hz2⟩ := info_parts infoStr
  obtain ⟨ao, cap, rfl, hcap, -, -⟩ := ho.form
  have ht : ∀ W, Calls Tryz.prog 41 #[.string x, .string ⟨#[32, 9]⟩] W fun e w' => e = .returned (.string ⟨(Lib.trimS x.data.toList [32, 9]).toArray⟩) ∧ Below W.heap.size W w' := fun W =>
    Any.strings_Trim_laid Tryz.lays160 infoSet x ⟨#[32, 9]⟩ W (by omega) (by decide) (Go.Proofs.ascii_of_all (by decide))
  have hiff := trim_both x.data.toList
  obtain ⟨T, hT⟩ : ∃ T : ByteArray, T = ⟨(Lib.trimS x.data.toList [32, 9]).toArray⟩ := ⟨_, rfl⟩
  rw [← hT] at ht
  have hTl : T.data.toList = [] ↔ Md.skip x.data.toList = [] := by rw [hT, mk_list]; exact hiff
  replace ht := Lib.hid ht
  replace hT := Lib.hid hT
  clear hiff
  by_cases h0 : T.size = 0
  · have t1 : T.toList = [] := by rw [ByteArray.toList_eq]; exact nil_of_size h0
    have t3 : (T.toList == []) = true := by rw [t1]; rfl
    have t4 := empty_yes h0
    have hs := hTl.1 (nil_of_size h0)
    rw [if_pos hs]
    replace hs := Lib.hid hs
    replace hTl := Lib.hid hTl
    replace h0 := Lib.hid h0
    replace ho := Lib.hid ho
    replace hb := Lib.hid hb
    go_enter Tryz.func24, Tryz.ntmps24
    go_wp2_with fail
    (refine (ht.out _).mono ?_); rintro e w1 ⟨rfl, b1⟩
    go_wp2_with fail
    go_ret
    exact ⟨_, rfl, ho.out.on b1, hb.out.trans (b1.mono hB), b1.size⟩
  · have t0 : ¬ T.data.toList = [] := lst_ne (by omega)
    have t1 : ¬ T.toList = [] := by rw [ByteArray.toList_eq]; exact t0
    have t3 : (T.toList == []) = false := by rw [beq_eq_false_iff_ne]; exact t1
    have t4 : T.toList.isEmpty = false := by rw [List.isEmpty_eq_false_iff]; exact t1
    rw [if_neg (fun h => t0 (hTl.2 h))]
    replace hTl := Lib.hid hTl
    replace h0 := Lib.hid h0
    replace t0 := Lib.hid t0
    replace ho := Lib.hid ho
    replace hb := Lib.hid hb
    have hPc : P.length + 1 ≤ maxLen := by unfold maxLen; omega
    have hPb : (P.length + 1) * 16 ≤ 140737488355328 := by omega
    go_enter Tryz.func24, Tryz.ntmps24
    go_wp2_with fail
    (refine (ht.out _).mono ?_); rintro e w1 ⟨rfl, b1⟩
    have ho1 := ho.out.on b1
    have hb1 := hb.out.trans (b1.mono hB)
    have hz1' := b1.size
    replace hb1 := Lib.hid hb1
    replace ho1 := Lib.hid ho1
    clear ho hb b1 ht
    go_wp2_with (at_builtin; refine wpList_append_own _ rfl _ _ 33 rfl B 9 i0 _ 1 16 Tryz.underlying33 hi hz0 hz1 hz2 rfl (by decide) _ _ _ rfl (World.ownsRow.alloc ho1.out _) ⟨w1.heap.size, 0, none⟩ 1 1 [.string x] rfl rfl (cell_one_new _ _ _) (fun u hu => by simp at hu; subst hu; rfl) hPc hPb (by simp; omega) ?_)
    intro v5 w5 hown5 hg5 _
    have hga : w1.grownBy w5 _ := (World.grownBy_alloc w1 _ _).trans hg5
    have b5 := Lib.hid (hb1.out.grown hga (by omega) (fun j e => (World.ownsRow.lt ho1.out j e).1))
    have ho5 := Lib.hid (OwnsStrs.pushed hown5 (l := x.data.toList) (by cases x; simp))
    have hz5 := Nat.le_trans hz1' hga.size
    clear hown5 hga hg5
    go_wp2_with fail
    go_ret
    exact ⟨v5, rfl, ho5.out, b5.out, hz5⟩

/-- Where the program's Split stands: behind a sign that is passed over it may stand past the end. -/
def SpIs (l : List UInt8) (i f : Nat) (q : Bool) (out : List (List UInt8)) : Prop := ∃ k, k ≤ l.length ∧ (i = k ∨ (k = l.length ∧ i = k + 1)) ∧ Ql.SpAt l k f q out
theorem SpIs.here {l : List UInt8} {i f : Nat} {q : Bool} {out : List (List UInt8)} (h : SpIs l i f q out) (hi : i < l.length) : Ql.SpAt l i f q out := by
  obtain ⟨k, hk, rfl | ⟨e, rfl⟩, ha⟩ := h
  · exact ha
  · omega
theorem SpIs.fin {l : List UInt8} {i f : Nat} {q : Bool} {out : List (List UInt8)} (h : SpIs l i f q out) (hi : l.length ≤ i) : f ≤ l.length ∧ Ql.split l = if Md.skip (l.drop f) = [] then out else out ++ [l.drop f] := by
  obtain ⟨k, hk, he, ha⟩ := h
  have e : k = l.length := by omega
  subst e
  have h1 := ha.last rfl
  have h2 := h1.fin (by omega)
  rw [List.take_of_length_le (Nat.le_refl _)] at h2
  exact ⟨ha.from_le (Nat.le_refl _), h2⟩

set_option maxRecDepth 100000 in
set_option maxHeartbeats 12800000 in
theorem qSplit_at (s : ByteArray) (w : World) (hs : s.size ≤ 100000) :
    Calls Tryz.prog 13 #[.string s] w fun e w' => ∃ ao cap, e = .returned (.slice ao (Ql.split s.data.toList).length cap) ∧ TextsIn w' ao (Ql.split s.data.toList) ∧ Below w.heap.size w w' := by
  have hlen := Lib.hid (list_len s)
  go_enter Tryz.func13, Tryz.ntmps13
  go_wp2_with fail
  go_loopw [3, 4, 5, 6] (fun v fv qv iv wr => ∃ (i f : Nat) (q : Bool) (out : List (List UInt8)), fv = .int .i64 f ∧ qv = .bool q ∧ iv = .int .i64 i ∧ i ≤ s.size + 1 ∧ f ≤ s.size ∧ Hid (SpIs s.data.toList i f q out) ∧ out.length ≤ i ∧ Hid (OwnsStrs w.heap.size v out wr) ∧ Hid (Below w.heap.size w wr)) (fun _ _ _ i _ => s.size + 1 - (intOf i).toNat)
  case atStart => exact ⟨0, 0, false, [], rfl, rfl, rfl, by omega, by omega, Lib.hid ⟨0, Nat.zero_le _, .inl rfl, Ql.SpAt.start _⟩, Nat.le_refl _, Lib.hid (OwnsStrs.nil _ _), Lib.hid (Below.refl _ _)⟩
  case round =>
    obtain ⟨i, f, q, out, rfl, rfl, rfl, hi1, hf, hat, hol, hown, bw⟩ := hrel
    have hp := fun k => extract_list s f k
    obtain ⟨ao, cap, rfl, hcap, -, -⟩ := hown.out.form
    by_cases hin : i < s.size
    case neg =>
      obtain ⟨hfl, hfin⟩ := hat.out.fin (by rw [hlen.out]; omega)
      have hki : ¬ (i : Int) < (s.size : Int) := by omega
      have hx : (s.extract f s.size).data.toList = s.data.toList.drop f := by rw [extract_list, List.take_of_length_le (by rw [hlen.out]; exact Nat.le_refl _)]
      have hwp := withPiece_any (W0 := w) (s.extract f s.size) wr (by rw [ByteArray.size_extract]; omega) (by omega) hown.out bw.out bw.out.size
      rw [hx, ← hfin] at hwp
      have f1 : (f : Int) ≤ (s.size : Int) := by omega
      replace hwp := Lib.hid hwp
      replace hfin := Lib.hid hfin
      replace hx := Lib.hid hx
      replace hfl := Lib.hid hfl
      clear hat hp hown
      go_wp2_with fail
      (refine (hwp.out).mono ?_); rintro e w1 ⟨v1, rfl, ho1, b1, -⟩
      obtain ⟨ao1, cap1, rfl, -, hS, -⟩ := ho1.form
      replace hS := Lib.hid hS
      replace b1 := Lib.hid b1
      clear ho1
      go_wp2_with fail
      go_ret
      exact ⟨ao1, cap1, rfl, hS.out, b1.out⟩
    have hki : (i : Int) < (s.size : Int) := by omega
    have hat' := hat.out.here (by rw [hlen.out]; exact hin)
    have hfi := hat'.from_le (by rw [hlen.out]; omega)
    have hnl : s.data.toList[i]'(by rw [hlen.out]; exact hin) = s[i] := rfl
    have more : ∀ {f' : Nat} {q' : Bool} {out' : List (List UInt8)}, Ql.SpAt s.data.toList (i + 1) f' q' out' → SpIs s.data.toList (i + 1) f' q' out' := fun h => ⟨i + 1, by rw [hlen.out]; omega, .inl rfl, h⟩
    have hb := (s[i]).toNat_lt
    by_cases h34 : s[i] = 34
    · have e2 : ((s[i].toNat : Int) == 34) = true := by rw [h34]; rfl
      have hnx := Lib.hid (more (hat'.quote (by rw [hlen.out]; exact hin) (hnl.trans h34)))
      replace h34 := Lib.hid h34
      replace hnl := Lib.hid hnl
      replace hat' := Lib.hid hat'
      clear more hat hp
      go_wp2_with fail
      go_round
      case rel => exact ⟨i + 1, f, !q, out, rfl, rfl, by go_num, by omega, by omega, hnx, by omega, hown, bw⟩
      case measure => simp [intOf]; omega
    have e2 : ((s[i].toNat : Int) == 34) = false := by
      rw [beq_eq_false_iff_ne]
      exact fun e => h34 (UInt8.toNat_inj.1 (by have : (34 : UInt8).toNat = 34 := rfl; omega))
    by_cases h92 : s[i] = 92 ∧ q = true
    · obtain ⟨h92, rfl⟩ := h92
      have e3 : ((s[i].toNat : Int) == 92) = true := by rw [h92]; rfl
      have hnx : Hid (SpIs s.data.toList (i + 2) f true out) := Lib.hid (by
        by_cases hk1 : i + 1 < s.size
        · exact ⟨i + 2, by rw [hlen.out]; omega, .inl rfl, hat'.esc (by rw [hlen.out]; exact hk1) (hnl.trans h92) rfl⟩
        · refine ⟨i + 1, by rw [hlen.out]; omega, .inr ⟨by rw [hlen.out]; omega, rfl⟩, ?_⟩
          exact hat'.skip (by rw [hlen.out]; exact hin) (fun h => by cases h.2) (fun h => h34 (hnl.symm.trans h)) (fun h => hk1 (by have := h.2.2; rw [hlen.out] at this; exact this)))
      replace h34 := Lib.hid h34
      replace h92 := Lib.hid h92
      replace hnl := Lib.hid hnl
      replace hat' := Lib.hid hat'
      clear more hat hp
      go_wp2_with fail
      go_round
      case rel => exact ⟨i + 2, f, true, out, rfl, rfl, by go_num, by omega, by omega, hnx, by omega, hown, bw⟩
      case measure => simp [intOf]; omega
    have g92 : ((s[i].toNat : Int) == 92) = false ∨ (((s[i].toNat : Int) == 92) = true ∧ q = false) := by
      by_cases h : s[i] = 92
      · exact .inr ⟨by rw [h]; rfl, by cases q; rfl; exact absurd ⟨h, rfl⟩ h92⟩
      · refine .inl ?_
        rw [beq_eq_false_iff_ne]
        exact fun e => h (UInt8.toNat_inj.1 (by have : (92 : UInt8).toNat = 92 := rfl; omega))
    by_cases h44 : s[i] = 44 ∧ q = false
    · obtain ⟨h44, rfl⟩ := h44
      have e4 : ((s[i].toNat : Int) == 44) = true := by rw [h44]; rfl
      have e5 : ((s[i].toNat : Int) == 92) = false := by rw [h44]; rfl
      have hx := hp i
      have hnx := more (hat'.piece (by rw [hlen.out]; exact hin) (hnl.trans h44) rfl)
      have hwp := withPiece_any (W0 := w) (s.extract f i) wr (by rw [ByteArray.size_extract]; omega) (by omega) hown.out bw.out bw.out.size
      rw [← hx] at hnx
      obtain ⟨O, hO⟩ : ∃ O, O = if Md.skip (s.extract f i).data.toList = [] then out else out ++ [(s.extract f i).data.toList] := ⟨_, rfl⟩
      rw [← hO] at hnx hwp
      have hOl : O.length ≤ i + 1 := by
        rw [hO]
        split
        · omega
        · rw [List.length_append, List.length_singleton]; omega
      have f1 : (f : Int) ≤ (i : Int) := by omega
      replace hnx := Lib.hid hnx
      replace hwp := Lib.hid hwp
      replace h34 := Lib.hid h34
      replace h44 := Lib.hid h44
      replace h92 := Lib.hid h92
      replace hnl := Lib.hid hnl
      replace hat' := Lib.hid hat'
      replace hx := Lib.hid hx
      replace hO := Lib.hid hO
      clear more hat hp hown g92
      go_wp2_with fail
      (refine (hwp.out).mono ?_); rintro e w1 ⟨v1, rfl, ho1, b1, -⟩
      replace ho1 := Lib.hid ho1
      replace b1 := Lib.hid b1
      go_wp2_with fail
      go_round
      case rel => exact ⟨i + 1, i + 1, false, O, by go_num, rfl, by go_num, by omega, by omega, hnx, hOl, ho1, b1⟩
      case measure => simp [intOf]; omega
    have g44 : ((s[i].toNat : Int) == 44) = false ∨ (((s[i].toNat : Int) == 44) = true ∧ q = true) := by
      by_cases h : s[i] = 44
      · exact .inr ⟨by rw [h]; rfl, by cases q; exact absurd ⟨h, rfl⟩ h44; rfl⟩
      · refine .inl ?_
        rw [beq_eq_false_iff_ne]
        exact fun e => h (UInt8.toNat_inj.1 (by have : (44 : UInt8).toNat = 44 := rfl; omega))
    have hnx := Lib.hid (more (hat'.skip (by rw [hlen.out]; exact hin) (fun h => h44 ⟨hnl.symm.trans h.1, h.2⟩) (fun h => h34 (hnl.symm.trans h)) (fun h => h92 ⟨hnl.symm.trans h.1, h.2.1⟩)))
    replace h34 := Lib.hid h34
    replace h44 := Lib.hid h44
    replace h92 := Lib.hid h92
    replace hnl := Lib.hid hnl
    replace hat' := Lib.hid hat'
    clear more hat hp
    rcases g92 with e5 | ⟨e5, hq1⟩ <;> rcases g44 with e4 | ⟨e4, hq2⟩
    · go_wp2_with fail
      go_round
      case rel => exact ⟨i + 1, f, q, out, rfl, rfl, by go_num, by omega, by omega, hnx, by omega, hown, bw⟩
      case measure => simp [intOf]; omega
    · subst hq2
      go_wp2_with fail
      go_round
      case rel => exact ⟨i + 1, f, true, out, rfl, rfl, by go_num, by omega, by omega, hnx, by omega, hown, bw⟩
      case measure => simp [intOf]; omega
    · subst hq1
      go_wp2_with fail
      go_round
      case rel => exact ⟨i + 1, f, false, out, rfl, rfl, by go_num, by omega, by omega, hnx, by omega, hown, bw⟩
      case measure => simp [intOf]; omega
    · rw [hq1] at hq2
      cases hq2
end Go.Proofs.YtpgdmoaegnehbaaGreatDoor
