/-
  What stands between commas: in plain Lean; the document's Split.
-/
import Derived.Test.YtpgdmoaegnehbaaGreatDoorOwnStrs
import Derived.Test.YtpgdmoaegnehbaaGreatDoorRefLow
import Derived.Deep.DeepCutAuto
namespace Go.Proofs.YtpgdmoaegnehbaaGreatDoor
open Go.RowKit

namespace Ql
def keep (cur : List UInt8) (rest : List (List UInt8)) : List (List UInt8) := if Md.skip cur = [] then rest else cur :: rest
/-- What stands between commas, behind what has been read of one piece. -/
def splitG (cur : List UInt8) (inq : Bool) : List UInt8 → List (List UInt8)
  | [] => keep cur []
  | b :: t => if b = 44 ∧ inq = false then keep cur (splitG [] false t) else if b = 34 then splitG (cur ++ [b]) (!inq) t else match t with
    | [] => keep (cur ++ [b]) []
    | c :: u => if b = 92 ∧ inq = true then splitG (cur ++ [b, c]) inq u else splitG (cur ++ [b]) inq (c :: u)
def split (l : List UInt8) : List (List UInt8) := splitG [] false l
theorem splitG_comma {cur t : List UInt8} : splitG cur false (44 :: t) = keep cur (splitG [] false t) := by
  conv => lhs; unfold splitG
  rw [if_pos ⟨rfl, rfl⟩]
theorem splitG_quote {cur t : List UInt8} {q : Bool} : splitG cur q (34 :: t) = splitG (cur ++ [34]) (!q) t := by
  conv => lhs; unfold splitG
  rw [if_neg (by rintro ⟨h, _⟩; cases h), if_pos rfl]
theorem splitG_esc {cur u : List UInt8} {c : UInt8} : splitG cur true (92 :: c :: u) = splitG (cur ++ [92, c]) true u := by
  conv => lhs; unfold splitG
  rw [if_neg (by rintro ⟨h, _⟩; cases h), if_neg (by decide)]
  simp
theorem splitG_other {cur t : List UInt8} {b : UInt8} {q : Bool} (h1 : ¬ (b = 44 ∧ q = false)) (h2 : b ≠ 34) (h3 : ¬ (b = 92 ∧ q = true ∧ t ≠ [])) : splitG cur q (b :: t) = splitG (cur ++ [b]) q t := by
  conv => lhs; unfold splitG
  rw [if_neg h1, if_neg h2]
  cases t with
  | nil => rfl
  | cons c u =>
    simp only
    rw [if_neg (fun h => h3 ⟨h.1, h.2, by simp⟩)]
/-- Where Split stands. -/
inductive SpAt (l : List UInt8) (k f : Nat) (q : Bool) (out : List (List UInt8)) : Prop where
  | mid (hk : k ≤ l.length) (hf : f ≤ k) (he : split l = out ++ splitG ((l.take k).drop f) q (l.drop k))
  | done (hk : k = l.length + 1) (he : split l = out)
theorem SpAt.start (l : List UInt8) : SpAt l 0 0 false [] := .mid (Nat.zero_le _) (Nat.le_refl _) (by simp [split])
theorem taken (l : List UInt8) {k f : Nat} (hk : k < l.length) (hf : f ≤ k) : (l.take (k + 1)).drop f = (l.take k).drop f ++ [l[k]] := by
  rw [List.take_succ_eq_append_getElem hk, List.drop_append_of_le_length (by rw [List.length_take]; omega)]
theorem SpAt.piece {l : List UInt8} {k f : Nat} {q : Bool} {out : List (List UInt8)} (h : SpAt l k f q out) (hk : k < l.length) (hb : l[k] = 44) (hq : q = false) :
    SpAt l (k + 1) (k + 1) false (if Md.skip ((l.take k).drop f) = [] then out else out ++ [(l.take k).drop f]) := by
  rcases h with ⟨_, hf, he⟩ | ⟨hk1, _⟩
  · refine .mid (by omega) (Nat.le_refl _) ?_
    have e1 : (l.take (k + 1)).drop (k + 1) = [] := List.drop_of_length_le (by rw [List.length_take]; omega)
    rw [he, List.drop_eq_getElem_cons hk, hb, hq, splitG_comma, keep, e1]
    split <;> simp
  · omega
theorem SpAt.last {l : List UInt8} {k f : Nat} {q : Bool} {out : List (List UInt8)} (h : SpAt l k f q out) (hk : k = l.length) :
    SpAt l (k + 1) (k + 1) q (if Md.skip ((l.take k).drop f) = [] then out else out ++ [(l.take k).drop f]) := by
  rcases h with ⟨_, hf, he⟩ | ⟨hk1, _⟩
  · refine .done (by omega) ?_
    have e1 : l.drop k = [] := List.drop_of_length_le (by omega)
    rw [he, e1]
    unfold splitG keep
    split <;> simp
  · omega
theorem SpAt.quote {l : List UInt8} {k f : Nat} {q : Bool} {out : List (List UInt8)} (h : SpAt l k f q out) (hk : k < l.length) (hb : l[k] = 34) : SpAt l (k + 1) f (!q) out := by
  rcases h with ⟨_, hf, he⟩ | ⟨hk1, _⟩
  · refine .mid (by omega) (by omega) ?_
    rw [he, List.drop_eq_getElem_cons hk, hb, splitG_quote, taken l hk hf, hb]
  · omega
theorem SpAt.esc {l : List UInt8} {k f : Nat} {q : Bool} {out : List (List UInt8)} (h : SpAt l k f q out) (hk : k + 1 < l.length) (hb : l[k] = 92) (hq : q = true) : SpAt l (k + 2) f q out := by
  rcases h with ⟨_, hf, he⟩ | ⟨hk1, _⟩
  · refine .mid (by omega) (by omega) ?_
    rw [he, List.drop_eq_getElem_cons (by omega : k < l.length), List.drop_eq_getElem_cons hk, hb, hq, splitG_esc, taken l hk (by omega), taken l (by omega) hf, hb]
    simp
  · omega
theorem SpAt.skip {l : List UInt8} {k f : Nat} {q : Bool} {out : List (List UInt8)} (h : SpAt l k f q out) (hk : k < l.length) (h1 : ¬ (l[k] = 44 ∧ q = false)) (h2 : l[k] ≠ 34) (h3 : ¬ (l[k] = 92 ∧ q = true ∧ k + 1 < l.length)) : SpAt l (k + 1) f q out := by
  rcases h with ⟨_, hf, he⟩ | ⟨hk1, _⟩
  · refine .mid (by omega) (by omega) ?_
    rw [he, List.drop_eq_getElem_cons hk, splitG_other h1 h2, taken l hk hf]
    rintro ⟨a, b, c⟩
    refine h3 ⟨a, b, ?_⟩
    have := List.length_pos_iff.2 c
    rw [List.length_drop] at this
    omega
  · omega
theorem SpAt.fin {l : List UInt8} {k f : Nat} {q : Bool} {out : List (List UInt8)} (h : SpAt l k f q out) (hk : l.length < k) : split l = out := by
  rcases h with ⟨hk1, _, _⟩ | ⟨_, he⟩
  · omega
  · exact he
theorem SpAt.from_le {l : List UInt8} {k f : Nat} {q : Bool} {out : List (List UInt8)} (h : SpAt l k f q out) (hk : k ≤ l.length) : f ≤ k := by
  rcases h with ⟨_, hf, _⟩ | ⟨hk1, _⟩ <;> omega
end Ql
theorem piece_str (s : ByteArray) (f k : Nat) : s.extract f k = ⟨((s.data.toList.take k).drop f).toArray⟩ := bytes_eq (by rw [extract_list, mk_list])

set_option maxRecDepth 100000 in
set_option maxHeartbeats 12800000 in
theorem refSplit_any (s : ByteArray) (w : World) (hs : s.size ≤ 1000000) :
    Calls Tryz.prog 14 #[.string s] w fun e w' => ∃ ao cap, e = .returned (.slice ao (Ql.split s.data.toList).length cap) ∧ TextsIn w' ao (Ql.split s.data.toList) ∧ (∀ x, ao = some x → w.heap.size ≤ x.block) ∧ Below w.heap.size w w' := by
  obtain ⟨i0, hi, hz0, hz1, hz2⟩ := info_parts infoStr
  have hlen := Lib.hid (list_len s)
  go_enter Tryz.func14, Tryz.ntmps14
  go_wp2_with fail
  go_loopw [3, 4, 5, 6] (fun v fv qv iv wr => ∃ (k f : Nat) (q : Bool) (out : List (List UInt8)), fv = .int .i64 f ∧ qv = .bool q ∧ iv = .int .i64 k ∧ k ≤ s.size + 1 ∧ f ≤ s.size + 1 ∧ Hid (Ql.SpAt s.data.toList k f q out) ∧ out.length ≤ k ∧ Hid (OwnsStrs w.heap.size v out wr) ∧ Hid (Below w.heap.size w wr)) (fun _ _ _ i _ => s.size + 1 - (intOf i).toNat)
  case atStart => exact ⟨0, 0, false, [], rfl, rfl, rfl, by omega, by omega, Lib.hid (Ql.SpAt.start _), Nat.le_refl _, Lib.hid (OwnsStrs.nil _ _), Lib.hid (Below.refl _ _)⟩
  case round =>
    obtain ⟨k, f, q, out, rfl, rfl, rfl, hk, hf, hat, hol, hown, bw⟩ := hrel
    obtain ⟨ao, cap, rfl, hcap, hS, hB⟩ := hown.out.form
    replace hS := Lib.hid hS
    replace hB := Lib.hid hB
    by_cases hin : k ≤ s.size
    case neg =>
      have hfin := hat.out.fin (by rw [hlen.out]; omega)
      have hki : ¬ (k : Int) ≤ (s.size : Int) := by omega
      replace hfin := Lib.hid hfin
      go_wp2_with fail
      go_ret
      exact ⟨ao, ⟨cap, by rw [hfin.out]; rfl⟩, by rw [hfin.out]; exact hS.out, hB.out, bw.out⟩
    have hfk := hat.out.from_le (by rw [hlen.out]; exact hin)
    have hki : (k : Int) ≤ (s.size : Int) := by omega
    have hnl : ∀ h : k < s.size, s.data.toList[k]'(by rw [hlen.out]; exact h) = s[k] := fun _ => rfl
    replace hnl := Lib.hid hnl
    go_upto_region 7 with fail
    go_cut [13] (fun c wx => wr = wx ∧ ((c = .bool true ∧ Hid (Ql.SpAt s.data.toList (k + 1) (k + 1) q (if Md.skip ((s.data.toList.take k).drop f) = [] then out else out ++ [(s.data.toList.take k).drop f]))) ∨ (c = .bool false ∧ k < s.size ∧ Hid (∀ h : k < s.size, ¬ (s[k] = 44 ∧ q = false)))))
    case first =>
      by_cases hkk : k = s.size
      · have hnx := Lib.hid (hat.out.last (by rw [hlen.out]; exact hkk))
        have e1 : ((k : Int) == (s.size : Int)) = true := by rw [beq_iff_eq]; omega
        replace hkk := Lib.hid hkk
        go_wp2_with fail
        go_meet
        exact ⟨rfl, .inl ⟨rfl, hnx⟩⟩
      have hlt : k < s.size := by omega
      have e1 : ((k : Int) == (s.size : Int)) = false := by rw [beq_eq_false_iff_ne]; omega
      have hb := (s[k]).toNat_lt
      by_cases h44 : s[k] = 44
      · have e2 : ((s[k].toNat : Int) == 44) = true := by rw [h44]; rfl
        cases q
        · have hnx := Lib.hid (hat.out.piece (by rw [hlen.out]; exact hlt) ((hnl.out hlt).trans h44) rfl)
          replace h44 := Lib.hid h44
          go_wp2_with fail
          go_meet
          exact ⟨rfl, .inl ⟨rfl, hnx⟩⟩
        · have hno : Hid (∀ h : k < s.size, ¬ (s[k] = 44 ∧ true = false)) := Lib.hid (fun _ h => by cases h.2)
          replace h44 := Lib.hid h44
          go_wp2_with fail
          go_meet
          exact ⟨rfl, .inr ⟨rfl, hlt, hno⟩⟩
      · have e2 : ((s[k].toNat : Int) == 44) = false := by
          rw [beq_eq_false_iff_ne]
          exact fun e => h44 (UInt8.toNat_inj.1 (by have : (44 : UInt8).toNat = 44 := rfl; omega))
        have hno : Hid (∀ h : k < s.size, ¬ (s[k] = 44 ∧ q = false)) := Lib.hid (fun _ h => h44 h.1)
        replace h44 := Lib.hid h44
        go_wp2_with fail
        go_meet
        exact ⟨rfl, .inr ⟨rfl, hlt, hno⟩⟩
    case rest =>
    obtain ⟨rfl, ⟨rfl, hnx⟩ | ⟨rfl, hlt, hno⟩⟩ := hcut
    · -- a piece
      have hp := piece_str s f k
      have hps : (s.extract f k).data.toList = (s.data.toList.take k).drop f := extract_list s f k
      have hz : (s.extract f k).size ≤ maxLen := by unfold maxLen; rw [ByteArray.size_extract]; omega
      have hsk := Lib.hid (fun W => refSkip_any (s.extract f k) W hz)
      have f0 : (0 : Int) ≤ (f : Int) := by omega
      have f1 : (f : Int) ≤ (k : Int) := by omega
      obtain ⟨T, hT⟩ : ∃ T, T = skA (s.extract f k) := ⟨_, rfl⟩
      rw [← hT] at hsk
      have hTl : T.data.toList = Md.skip ((s.data.toList.take k).drop f) := by rw [hT, ← hps]; exact mk_list _
      replace hT := Lib.hid hT
      replace hp := Lib.hid hp
      replace hps := Lib.hid hps
      go_wp2_with fail
      (refine (hsk.out _).mono ?_); rintro e w1 ⟨rfl, rfl⟩
      by_cases h0 : T.size = 0
      · have t1 : T.toList = [] := by rw [ByteArray.toList_eq]; exact nil_of_size h0
        have t2 : (T.toList != []) = false := by rw [t1]; rfl
        have t3 : (T.toList == []) = true := by rw [t1]; rfl
        have t4 := empty_yes h0
        have hnx2 : Hid (Ql.SpAt s.data.toList (k + 1) (k + 1) q out) := Lib.hid (by
          have := hnx.out
          rwa [if_pos (by rw [← hTl]; exact nil_of_size h0)] at this)
        replace hTl := Lib.hid hTl
        replace h0 := Lib.hid h0
        go_wp2_with fail
        go_round
        case rel => exact ⟨k + 1, k + 1, q, out, by go_num, rfl, by go_num, by omega, by omega, hnx2, by omega, hown, bw⟩
        case measure => simp [intOf]; omega
      · have t0 : ¬ T.data.toList = [] := lst_ne (by omega)
        have t1 : ¬ T.toList = [] := by rw [ByteArray.toList_eq]; exact t0
        have t3 : (T.toList == []) = false := by rw [beq_eq_false_iff_ne]; exact t1
        have t2 : (T.toList != []) = true := by rw [bne, t3]; rfl
        have t4 : T.toList.isEmpty = false := by rw [List.isEmpty_eq_false_iff]; exact t1
        have hnx2 : Hid (Ql.SpAt s.data.toList (k + 1) (k + 1) q (out ++ [(s.data.toList.take k).drop f])) := Lib.hid (by
          have := hnx.out
          rwa [if_neg (by rw [← hTl]; exact t0)] at this)
        replace hTl := Lib.hid hTl
        replace h0 := Lib.hid h0
        replace t0 := Lib.hid t0
        have hPc : out.length + 1 ≤ maxLen := by unfold maxLen; omega
        have hPb : (out.length + 1) * 16 ≤ 140737488355328 := by omega
        go_wp2_with (at_builtin; refine wpList_append_own _ rfl _ _ 33 rfl w.heap.size 9 i0 _ 1 16 Tryz.underlying33 hi hz0 hz1 hz2 rfl (by decide) _ _ _ rfl (World.ownsRow.alloc hown.out _) ⟨wr.heap.size, 0, none⟩ 1 1 [.string (s.extract f k)] rfl rfl (cell_one_new _ _ _) (fun u hu => by simp at hu; subst hu; rfl) hPc hPb (by have := bw.out.size; simp; omega) ?_)
        intro v5 w5 hown5 hg5 _
        have hga : wr.grownBy w5 _ := (World.grownBy_alloc wr _ _).trans hg5
        have b5 := Lib.hid (bw.out.trans ((Below.refl _ _).grown hga bw.out.size (fun j e => (World.ownsRow.lt hown.out j e).1)))
        have ho5 := Lib.hid (OwnsStrs.pushed hown5 hp.out)
        clear hown5 hga hg5
        go_wp2_with fail
        go_round
        case rel => exact ⟨k + 1, k + 1, q, _, by go_num, rfl, by go_num, by omega, by omega, hnx2, by simp; omega, ho5, b5⟩
        case measure => simp [intOf]; omega
    -- no piece
    have hb := (s[k]).toNat_lt
    by_cases h34 : s[k] = 34
    · have e2 : ((s[k].toNat : Int) == 34) = true := by rw [h34]; rfl
      have hnx := Lib.hid (hat.out.quote (by rw [hlen.out]; exact hlt) ((hnl.out hlt).trans h34))
      replace h34 := Lib.hid h34
      go_wp2_with fail
      go_round
      case rel => exact ⟨k + 1, f, !q, out, rfl, rfl, by go_num, by omega, by omega, hnx, by omega, hown, bw⟩
      case measure => simp [intOf]; omega
    have e2 : ((s[k].toNat : Int) == 34) = false := by
      rw [beq_eq_false_iff_ne]
      exact fun e => h34 (UInt8.toNat_inj.1 (by have : (34 : UInt8).toNat = 34 := rfl; omega))
    by_cases h92 : s[k] = 92
    case neg =>
      have e3 : ((s[k].toNat : Int) == 92) = false := by
        rw [beq_eq_false_iff_ne]
        exact fun e => h92 (UInt8.toNat_inj.1 (by have : (92 : UInt8).toNat = 92 := rfl; omega))
      have hnx := Lib.hid (hat.out.skip (by rw [hlen.out]; exact hlt) (fun h => hno.out hlt ⟨(hnl.out hlt).symm.trans h.1, h.2⟩) (fun h => h34 ((hnl.out hlt).symm.trans h)) (fun h => h92 ((hnl.out hlt).symm.trans h.1)))
      replace h92 := Lib.hid h92
      replace h34 := Lib.hid h34
      go_wp2_with fail
      go_round
      case rel => exact ⟨k + 1, f, q, out, rfl, rfl, by go_num, by omega, by omega, hnx, by omega, hown, bw⟩
      case measure => simp [intOf]; omega
    have e3 : ((s[k].toNat : Int) == 92) = true := by rw [h92]; rfl
    cases q
    case false =>
      have hnx := Lib.hid (hat.out.skip (by rw [hlen.out]; exact hlt) (fun h => hno.out hlt ⟨(hnl.out hlt).symm.trans h.1, h.2⟩) (fun h => h34 ((hnl.out hlt).symm.trans h)) (fun h => by cases h.2.1))
      replace h92 := Lib.hid h92
      replace h34 := Lib.hid h34
      go_wp2_with fail
      go_round
      case rel => exact ⟨k + 1, f, false, out, rfl, rfl, by go_num, by omega, by omega, hnx, by omega, hown, bw⟩
      case measure => simp [intOf]; omega
    by_cases hk1 : k + 1 < s.size
    · have e4 : (k : Int) + 1 < (s.size : Int) := by omega
      have e5 : decide ((k : Int) + 1 < (s.size : Int)) = true := decide_eq_true e4
      have hnx := Lib.hid (hat.out.esc (by rw [hlen.out]; exact hk1) ((hnl.out hlt).trans h92) rfl)
      replace h92 := Lib.hid h92
      replace h34 := Lib.hid h34
      go_wp2_with fail
      go_round
      case rel => exact ⟨k + 2, f, true, out, rfl, rfl, by go_num, by omega, by omega, hnx, by omega, hown, bw⟩
      case measure => simp [intOf]; omega
    · have e4 : ¬ (k : Int) + 1 < (s.size : Int) := by omega
      have e5 : decide ((k : Int) + 1 < (s.size : Int)) = false := decide_eq_false e4
      have hnx := Lib.hid (hat.out.skip (by rw [hlen.out]; exact hlt) (fun h => hno.out hlt ⟨(hnl.out hlt).symm.trans h.1, h.2⟩) (fun h => h34 ((hnl.out hlt).symm.trans h)) (fun h => hk1 (by have := h.2.2; rw [hlen.out] at this; exact this)))
      replace h92 := Lib.hid h92
      replace h34 := Lib.hid h34
      go_wp2_with fail
      go_round
      case rel => exact ⟨k + 1, f, true, out, rfl, rfl, by go_num, by omega, by omega, hnx, by omega, hown, bw⟩
      case measure => simp [intOf]; omega
end Go.Proofs.YtpgdmoaegnehbaaGreatDoor
