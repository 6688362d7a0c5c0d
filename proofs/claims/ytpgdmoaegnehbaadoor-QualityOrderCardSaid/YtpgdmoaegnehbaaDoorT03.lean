/-
  What stands between commas of a text without quotes: where, and what of two such texts with a comma between.
  The statements' walks: QualityMore.
  The statements' walks: QualityWhole.
  The statements' walks: QualitySmall.
-/
import Derived.Test.YtpgdmoaegnehbaaDoorRefRanges
import Derived.Test.YtpgdmoaegnehbaaDoorT01
import Derived.Deep.Cut
import Derived.Deep.DeepCutAuto
import Derived.Deep.QuietTactic
import Derived.Test.YtpgdmoaegnehbaaDoorPieces
namespace Go.Proofs.YtpgdmoaegnehbaaDoor
namespace Ql
/-- Texts stand in a text one behind the other, from a place on. -/
def Placed (l : List UInt8) : Nat → List (List UInt8) → Prop
  | _, [] => True
  | f, p :: t => ∃ a, f ≤ a ∧ a + p.length ≤ l.length ∧ (l.drop a).take p.length = p ∧ Placed l (a + p.length) t
theorem Placed.less {l : List UInt8} : ∀ {P : List (List UInt8)} {f g : Nat}, Placed l f P → g ≤ f → Placed l g P
  | [], _, _, _, _ => trivial
  | _ :: _, _, _, ⟨a, h1, h2, h3, h4⟩, hg => ⟨a, Nat.le_trans hg h1, h2, h3, h4⟩
theorem Placed.keep {l cur : List UInt8} {f : Nat} {P : List (List UInt8)} (h : Placed l (f + cur.length) P) (h1 : f + cur.length ≤ l.length) (h2 : (l.drop f).take cur.length = cur) : Placed l f (keep cur P) := by
  unfold Ql.keep
  split
  · exact h.less (by omega)
  · exact ⟨f, Nat.le_refl _, h1, h2, h⟩
theorem splitG_placed : ∀ (rest pre cur : List UInt8), 34 ∉ rest → Placed (pre ++ cur ++ rest) pre.length (splitG cur false rest)
  | [], pre, cur, _ => by
    unfold splitG
    exact Placed.keep trivial (by simp) (by simp)
  | b :: t, pre, cur, h => by
    have ht : 34 ∉ t := fun e => h (List.mem_cons_of_mem _ e)
    by_cases hb : b = 44
    · subst hb
      rw [splitG_comma]
      have ih := splitG_placed t (pre ++ cur ++ [44]) [] ht
      rw [List.append_nil] at ih
      have e : pre ++ cur ++ [44] ++ t = pre ++ cur ++ 44 :: t := by simp
      rw [e] at ih
      exact Placed.keep (ih.less (by simp)) (by simp) (by simp)
    · rw [splitG_other (by rintro ⟨h, _⟩; exact hb h) (fun e => h (by simp [e])) (by rintro ⟨_, h, _⟩; cases h)]
      have ih := splitG_placed t pre (cur ++ [b]) ht
      have e : pre ++ (cur ++ [b]) ++ t = pre ++ cur ++ b :: t := by simp
      rwa [e] at ih
theorem split_placed {l : List UInt8} (h : 34 ∉ l) : Placed l 0 (split l) := splitG_placed l [] [] h
theorem keep_length (cur : List UInt8) (P : List (List UInt8)) : (Ql.keep cur P).length ≤ P.length + 1 := by
  unfold Ql.keep; split
  · omega
  · simp
theorem mem_keep {cur p : List UInt8} {P : List (List UInt8)} (h : p ∈ Ql.keep cur P) : (p = cur ∧ Md.skip cur ≠ []) ∨ p ∈ P := by
  unfold Ql.keep at h; split at h
  · exact .inr h
  · next hn => rcases List.mem_cons.1 h with h | h
               · exact .inl ⟨h, hn⟩
               · exact .inr h
theorem splitG_plain : ∀ (rest cur : List UInt8), 34 ∉ rest → 44 ∉ cur → (splitG cur false rest).length ≤ rest.count 44 + 1 ∧ ∀ p ∈ splitG cur false rest, p ≠ [] ∧ 44 ∉ p
  | [], cur, _, hc => by
    unfold splitG
    refine ⟨by have := keep_length cur []; simpa using this, fun p hp => ?_⟩
    rcases mem_keep hp with ⟨rfl, hn⟩ | hp
    · exact ⟨fun e => hn (by rw [e]; rfl), hc⟩
    · cases hp
  | b :: t, cur, h, hc => by
    have ht : 34 ∉ t := fun e => h (List.mem_cons_of_mem _ e)
    by_cases hb : b = 44
    · subst hb
      rw [splitG_comma]
      have ih := splitG_plain t [] ht (by simp)
      refine ⟨?_, fun p hp => ?_⟩
      · have := keep_length cur (splitG [] false t)
        rw [List.count_cons_self]
        omega
      · rcases mem_keep hp with ⟨rfl, hn⟩ | hp
        · exact ⟨fun e => hn (by rw [e]; rfl), hc⟩
        · exact ih.2 p hp
    · rw [splitG_other (by rintro ⟨h, _⟩; exact hb h) (fun e => h (by simp [e])) (by rintro ⟨_, h, _⟩; cases h)]
      have ih := splitG_plain t (cur ++ [b]) ht (by
        rw [List.mem_append, List.mem_singleton]
        rintro (h | h)
        · exact hc h
        · exact hb h.symm)
      rw [List.count_cons_of_ne hb]
      exact ih
theorem split_plain {l : List UInt8} (h : 34 ∉ l) : (split l).length ≤ l.count 44 + 1 ∧ ∀ p ∈ split l, p ≠ [] ∧ 44 ∉ p := splitG_plain l [] h (by simp)
/-- Two texts with a comma between, the first without quotes. -/
theorem splitG_append : ∀ (s cur t : List UInt8), 34 ∉ s → splitG cur false (s ++ 44 :: t) = splitG cur false s ++ split t
  | [], cur, t, _ => by
    rw [List.nil_append, splitG_comma]
    conv => rhs; unfold splitG
    unfold Ql.keep split
    split <;> rfl
  | b :: s, cur, t, h => by
    have hs : 34 ∉ s := fun e => h (List.mem_cons_of_mem _ e)
    rw [List.cons_append]
    by_cases hb : b = 44
    · subst hb
      rw [splitG_comma, splitG_comma, splitG_append s [] t hs]
      unfold Ql.keep
      split <;> rfl
    · have h1 : ¬ (b = 44 ∧ false = false) := by rintro ⟨h, _⟩; exact hb h
      have h2 : b ≠ 34 := fun e => h (by simp [e])
      rw [splitG_other h1 h2 (by rintro ⟨_, h, _⟩; cases h), splitG_other h1 h2 (by rintro ⟨_, h, _⟩; cases h), splitG_append s (cur ++ [b]) t hs]
theorem split_append {s : List UInt8} (t : List UInt8) (h : 34 ∉ s) : split (s ++ 44 :: t) = split s ++ split t := splitG_append s [] t h
end Ql
end Go.Proofs.YtpgdmoaegnehbaaDoor
namespace Go.Proofs.YtpgdmoaegnehbaaDoor
open Go.RowKit

namespace Ql
theorem ofG_more {m : Md.Med} {r : List Rg} (h : ∀ x ∈ r, Md.fits x.m m = false) : ∀ (l : List Rg) (w : Option Nat) (n : Int), ofG (l ++ r) m w n = ofG l m w n
  | [], w, n => by
    rw [List.nil_append]
    induction r generalizing w n with
    | nil => rfl
    | cons x r ih =>
      conv => lhs; unfold ofG
      rw [h x (by simp), if_neg (by rintro ⟨h, _⟩; cases h)]
      exact ih (fun y hy => h y (by simp [hy])) w n
  | x :: l, w, n => by
    rw [List.cons_append]
    unfold ofG
    split
    · exact ofG_more h l _ _
    · exact ofG_more h l _ _
theorem ofG_ahead {m : Md.Med} : ∀ (r l : List Rg) (_ : ∀ x ∈ r, Md.fits x.m m = false) (w : Option Nat) (n : Int), ofG (r ++ l) m w n = ofG l m w n
  | [], _, _, _, _ => rfl
  | x :: r, l, h, w, n => by
    rw [List.cons_append]
    conv => lhs; unfold ofG
    rw [h x (by simp), if_neg (by rintro ⟨h, _⟩; cases h)]
    exact ofG_ahead r l (fun y hy => h y (by simp [hy])) w n
theorem bestG_same {l l' : List Rg} : ∀ (H : List Md.Med) (_ : ∀ m ∈ H, ofL l m = ofL l' m) (k : Nat) (a : Int) (w : Nat), bestG l H k a w = bestG l' H k a w
  | [], _, _, _, _ => rfl
  | m :: H, h, k, a, w => by
    unfold bestG
    rw [h m (by simp)]
    split
    · exact bestG_same H (fun y hy => h y (by simp [hy])) _ _ _
    · exact bestG_same H (fun y hy => h y (by simp [hy])) _ _ _
/-- ' audio/*, x'. -/
def tailT : List UInt8 := [32, 97, 117, 100, 105, 111, 47, 42, 44, 32, 120]
/-- 'audio/ogg;q=0.7,,/'. -/
def headT : List UInt8 := [97, 117, 100, 105, 111, 47, 111, 103, 103, 59, 113, 61, 48, 46, 55, 44, 44, 47]
theorem tail_fits : ∀ x ∈ ranges tailT, ∀ m ∈ haves, Md.fits x.m m = false := by decide +kernel
theorem head_fits : ∀ x ∈ ranges headT, ∀ m ∈ haves, Md.fits x.m m = false := by decide +kernel
theorem ranges_append {s : List UInt8} (t : List UInt8) (h : 34 ∉ s) : ranges (s ++ 44 :: t) = ranges s ++ ranges t := by
  unfold ranges
  rw [split_append t h, List.filterMap_append]
theorem best_more {s : List UInt8} (h : 34 ∉ s) : best (s ++ 44 :: tailT) haves = best s haves := by
  unfold best
  rw [ranges_append _ h]
  refine bestG_same _ (fun m hm => ?_) _ _ _
  unfold ofL
  rw [ofG_more (fun x hx => tail_fits x hx m hm)]
theorem best_ahead (s : List UInt8) : best (headT ++ 44 :: s) haves = best s haves := by
  unfold best
  rw [ranges_append _ (by decide)]
  refine bestG_same _ (fun m hm => ?_) _ _ _
  unfold ofL
  rw [ofG_ahead _ _ (fun x hx => head_fits x hx m hm)]
end Ql

theorem Ql.none_more {l : List UInt8} {k : Nat} {c : UInt8} (h : k < l.length) (hn : c ∉ l.take k) (he : ¬ l[k] = c) : c ∉ l.take (k + 1) := by
  rw [List.take_succ_eq_append_getElem h, List.mem_append, List.mem_singleton]
  rintro (e | e)
  · exact hn e
  · exact he e.symm
theorem Ql.byte_yes {b c : UInt8} {n : Nat} (hc : c.toNat = n) (h : b = c) : ((b.toNat : Int) == (n : Int)) = true := by subst h; rw [hc]; exact beq_self_eq_true _
theorem Ql.byte_no {b c : UInt8} {n : Nat} (hc : c.toNat = n) (h : ¬ b = c) : ((b.toNat : Int) == (n : Int)) = false := by
  rw [beq_eq_false_iff_ne]
  exact fun e => h (UInt8.toNat_inj.1 (by omega))

theorem qBest_have {ao : Option Addr} {A : Int} {W : Nat} (s : ByteArray) (w : World) (hs : s.size ≤ 100000) (hm : MedsIn w ao Ql.haves) (hE : Env w) (hA : (Ql.best s.data.toList Ql.haves).1 = A) (hW : (Ql.best s.data.toList Ql.haves).2 = W) :
    Calls Tryd.prog 20 #[.string s, .slice ao 4 4] w fun e w' => e = .returned (.tuple #[.int .i64 A, .float .f64 (Fl.W W)]) ∧ Below w.heap.size w w' := by
  subst hA; subst hW
  exact qBest_any (cap := 4) s Ql.haves w hs hm (by decide) Ql.haves_small.1 Ql.haves_small.2 hE
set_option maxRecDepth 100000 in
set_option maxHeartbeats 12800000 in
theorem more_any (s : ByteArray) (w : World) (hs : s.size ≤ maxLen) (hE : Env w) : Calls Tryd.prog 6 #[.string s] w fun e w' => e = .returned (.bool true) ∧ Below w.heap.size w w' := by
  unfold maxLen at hs
  have hlen := Lib.hid (list_len s)
  have aw := Lib.hid (awake_any w hE)
  go_enter Tryd.func6, Tryd.ntmps6
  go_wp2_with fail
  (with_reducible refine (aw.out).mono ?_); rintro e w1 ⟨rfl, b1⟩
  replace b1 := Lib.hid b1
  clear aw
  go_wp2_with fail
  go_loop [4] (fun i => ∃ k : Nat, k ≤ s.size ∧ i = .int .i64 (k : Int) ∧ Hid (34 ∉ s.data.toList.take k)) (fun i => s.size - (intOf i).toNat)
  case atStart => exact ⟨0, Nat.zero_le _, rfl, Lib.hid (by simp)⟩
  case round =>
    obtain ⟨k, hk, rfl, hD⟩ := hrel
    by_cases hlt : k < s.size
    · have hnl : s.data.toList[k]'(by rw [hlen.out]; exact hlt) = s[k] := rfl
      have hb := (s[k]).toNat_lt
      by_cases he : s[k] = 34
      · have e1 : ((s[k].toNat : Int) == 34) = true := Ql.byte_yes (c := 34) rfl he
        clear hD hnl he
        go_wp2_with fail
        go_ret
        exact ⟨rfl, b1.out⟩
      · have e1 : ((s[k].toNat : Int) == 34) = false := Ql.byte_no (c := 34) rfl he
        have hD' := Lib.hid (Ql.none_more (by rw [hlen.out]; exact hlt) hD.out (fun e => he (hnl.symm.trans e)))
        clear hD hnl he
        go_wp2_with fail
        go_round
        case rel => exact ⟨k + 1, by omega, by go_num, hD'⟩
        case measure => simp [intOf]; omega
    · have hno : Hid (34 ∉ s.data.toList) := Lib.hid (by have := hD.out; rwa [List.take_of_length_le (by rw [hlen.out]; omega)] at this)
      clear hD
      by_cases hl : 1000 < s.size
      · go_wp2_with fail
        go_ret
        exact ⟨rfl, b1.out⟩
      have hh := Lib.hid have_any
      go_wp2_with fail
      (with_reducible refine (hh.out _).mono ?_); rintro e w2 ⟨⟨ao, rfl, hm⟩, b2⟩
      have x2 := Lib.hid (b1.out.trans (b2.mono b1.out.size))
      clear b1 b2
      go_wp2_with fail
      obtain ⟨A, hA⟩ : ∃ A, (Ql.best s.data.toList Ql.haves).1 = A := ⟨_, rfl⟩
      obtain ⟨V, hV⟩ : ∃ V, (Ql.best s.data.toList Ql.haves).2 = V := ⟨_, rfl⟩
      (with_reducible refine (qBest_have s _ (by omega) hm (hE.on x2.out) hA hV).mono ?_); rintro e w3 ⟨rfl, b3⟩
      have x3 := Lib.hid (x2.out.trans (b3.mono x2.out.size))
      clear x2 b3 hm
      go_wp2_with fail
      (with_reducible refine (hh.out _).mono ?_); rintro e w4 ⟨⟨ao2, rfl, hm⟩, b4⟩
      have x4 := Lib.hid (x3.out.trans (b4.mono x3.out.size))
      clear x3 b4
      go_wp2_with fail
      have hl1 : Hid ((s ++ ⟨#[44, 32, 97, 117, 100, 105, 111, 47, 42, 44, 32, 120]⟩ : ByteArray).size ≤ 100000) := Lib.hid (by rw [ByteArray.size_append]; have : (⟨#[44, 32, 97, 117, 100, 105, 111, 47, 42, 44, 32, 120]⟩ : ByteArray).size = 12 := rfl; omega)
      have hl2 : Hid ((⟨#[97, 117, 100, 105, 111, 47, 111, 103, 103, 59, 113, 61, 48, 46, 55, 44, 44, 47, 44]⟩ ++ s : ByteArray).size ≤ 100000) := Lib.hid (by rw [ByteArray.size_append]; have : (⟨#[97, 117, 100, 105, 111, 47, 111, 103, 103, 59, 113, 61, 48, 46, 55, 44, 44, 47, 44]⟩ : ByteArray).size = 19 := rfl; omega)
      have hb1 : Ql.best (s ++ ⟨#[44, 32, 97, 117, 100, 105, 111, 47, 42, 44, 32, 120]⟩ : ByteArray).data.toList Ql.haves = Ql.best s.data.toList Ql.haves := by
        rw [ByteArray.data_append, Array.toList_append]
        exact Ql.best_more hno.out
      have hb2 : Ql.best (⟨#[97, 117, 100, 105, 111, 47, 111, 103, 103, 59, 113, 61, 48, 46, 55, 44, 44, 47, 44]⟩ ++ s : ByteArray).data.toList Ql.haves = Ql.best s.data.toList Ql.haves := by
        rw [ByteArray.data_append, Array.toList_append]
        exact (congrArg (fun l => Ql.best l Ql.haves) (show _ = Ql.headT ++ 44 :: s.data.toList from rfl)).trans (Ql.best_ahead _)
      have hA1 := (congrArg Prod.fst hb1).trans hA
      have hV1 := (congrArg Prod.snd hb1).trans hV
      have hA2 := (congrArg Prod.fst hb2).trans hA
      have hV2 := (congrArg Prod.snd hb2).trans hV
      clear hb1 hb2 hA hV
      generalize (s ++ ⟨#[44, 32, 97, 117, 100, 105, 111, 47, 42, 44, 32, 120]⟩ : ByteArray) = s1 at *
      (with_reducible refine (qBest_have s1 _ hl1.out hm (hE.on x4.out) hA1 hV1).mono ?_); rintro e w5 ⟨rfl, b5⟩
      have x5 := Lib.hid (x4.out.trans (b5.mono x4.out.size))
      clear x4 b5 hm hl1 hA1 hV1
      go_wp2_with fail
      (with_reducible refine (hh.out _).mono ?_); rintro e w6 ⟨⟨ao3, rfl, hm⟩, b6⟩
      have x6 := Lib.hid (x5.out.trans (b6.mono x5.out.size))
      clear x5 b6
      go_wp2_with fail
      (with_reducible refine (qBest_have _ _ hl2.out hm (hE.on x6.out) hA2 hV2).mono ?_); rintro e w7 ⟨rfl, b7⟩
      have x7 := Lib.hid (x6.out.trans (b7.mono x6.out.size))
      clear x6 b7 hm hl2 hA2 hV2
      have e0 : (A == A) = true := beq_self_eq_true _
      go_wp2_with fail
      (with_reducible refine (same_any (Fl.W V) (Fl.W V) _).mono ?_); rintro e w8 ⟨rfl, rfl⟩
      rw [same_refl]
      go_wp2_with fail
      (with_reducible refine (same_any (Fl.W V) (Fl.W V) _).mono ?_); rintro e w9 ⟨rfl, rfl⟩
      rw [same_refl]
      go_wp2_with fail
      go_ret
      exact ⟨rfl, x7.out⟩
end Go.Proofs.YtpgdmoaegnehbaaDoor
namespace Go.Proofs.YtpgdmoaegnehbaaDoor
open Go.RowKit

theorem Ql.count_more {l : List UInt8} {k : Nat} (h : k < l.length) : (l.take (k + 1)).count 44 = (l.take k).count 44 + (if l[k] = 44 then 1 else 0) := by
  rw [List.take_succ_eq_append_getElem h, List.count_append]
  by_cases e : l[k] = 44
  · rw [if_pos e, e]; rfl
  · rw [if_neg e, List.count_cons_of_ne e]; rfl
theorem str_piece (s : ByteArray) (p : List UInt8) (a n : Nat) (h : (s.data.toList.drop a).take n = p) : s.extract a (a + n) = ⟨p.toArray⟩ := by
  rw [piece_str]
  refine congrArg (fun l : List UInt8 => (⟨l.toArray⟩ : ByteArray)) ?_
  rw [← h, List.drop_take, Nat.add_sub_cancel_left]

set_option maxRecDepth 100000 in
set_option maxHeartbeats 12800000 in
theorem whole_any (s : ByteArray) (w : World) (hs : s.size ≤ maxLen) (hE : Env w) : Calls Tryd.prog 7 #[.string s] w fun e w' => e = .returned (.bool true) ∧ Below w.heap.size w w' := by
  unfold maxLen at hs
  have hlen := Lib.hid (list_len s)
  have aw := Lib.hid (awake_any w hE)
  go_enter Tryd.func7, Tryd.ntmps7
  go_wp2_with fail
  (with_reducible refine (aw.out).mono ?_); rintro e w1 ⟨rfl, b1⟩
  replace b1 := Lib.hid b1
  clear aw
  go_wp2_with fail
  go_loop [4, 5] (fun cv i => ∃ k c : Nat, k ≤ s.size ∧ c ≤ k ∧ cv = .int .i64 (c : Int) ∧ i = .int .i64 (k : Int) ∧ Hid (34 ∉ s.data.toList.take k) ∧ Hid ((s.data.toList.take k).count 44 = c)) (fun _ i => s.size - (intOf i).toNat)
  case atStart => exact ⟨0, 0, Nat.zero_le _, Nat.le_refl _, rfl, rfl, Lib.hid (by simp), Lib.hid (by simp)⟩
  case round =>
    obtain ⟨k, c, hk, hc, rfl, rfl, hD, hC⟩ := hrel
    by_cases hlt : k < s.size
    · have hnl : s.data.toList[k]'(by rw [hlen.out]; exact hlt) = s[k] := rfl
      have hb := (s[k]).toNat_lt
      by_cases he : s[k] = 34
      · have e1 : ((s[k].toNat : Int) == 34) = true := Ql.byte_yes (c := 34) rfl he
        clear hD hC hnl he
        go_wp2_with fail
        go_ret
        exact ⟨rfl, b1.out⟩
      · have e1 : ((s[k].toNat : Int) == 34) = false := Ql.byte_no (c := 34) rfl he
        have hD' := Lib.hid (Ql.none_more (by rw [hlen.out]; exact hlt) hD.out (fun e => he (hnl.symm.trans e)))
        have hC' := Ql.count_more (l := s.data.toList) (k := k) (by rw [hlen.out]; exact hlt)
        rw [hC.out, hnl] at hC'
        by_cases hq : s[k] = 44
        · have e2 : ((s[k].toNat : Int) == 44) = true := Ql.byte_yes (c := 44) rfl hq
          rw [if_pos hq] at hC'
          replace hC' := Lib.hid hC'
          clear hD hC hnl he hq
          go_wp2_with fail
          go_round
          case rel => exact ⟨k + 1, c + 1, by omega, by omega, by go_num, by go_num, hD', hC'⟩
          case measure => simp [intOf]; omega
        · have e2 : ((s[k].toNat : Int) == 44) = false := Ql.byte_no (c := 44) rfl hq
          rw [if_neg hq] at hC'
          replace hC' := Lib.hid hC'
          clear hD hC hnl he hq
          go_wp2_with fail
          go_round
          case rel => exact ⟨k + 1, c, by omega, by omega, rfl, by go_num, hD', hC'⟩
          case measure => simp [intOf]; omega
    · have hno : Hid (34 ∉ s.data.toList) := Lib.hid (by have := hD.out; rwa [List.take_of_length_le (by rw [hlen.out]; omega)] at this)
      have hcn : Hid (s.data.toList.count 44 = c) := Lib.hid (by have := hC.out; rwa [List.take_of_length_le (by rw [hlen.out]; omega)] at this)
      clear hD hC
      by_cases hl : 2000 < s.size
      · go_wp2_with fail
        go_ret
        exact ⟨rfl, b1.out⟩
      go_wp2_with fail
      (with_reducible refine (qSplit_any s _ (by omega) (hE.on b1.out)).mono ?_); rintro e w2 ⟨ao, cap, rfl, hT, b2⟩
      have x2 := Lib.hid (b1.out.trans (b2.mono b1.out.size))
      obtain ⟨hpn, hpp⟩ := Ql.split_plain hno.out
      have hpl := Lib.hid (Ql.split_placed hno.out)
      have hps := Lib.hid (Ql.split_small s.data.toList).1
      rw [hcn.out] at hpn
      rw [hlen.out] at hps
      clear b1 b2
      generalize Ql.split s.data.toList = P at *
      replace hpp := Lib.hid hpp
      replace hT := Lib.hid hT
      go_wp2_with fail
      go_loopw [7, 8] (fun av iv wr => ∃ j f : Nat, av = .int .i64 (f : Int) ∧ iv = .int .i64 (j : Int) ∧ j ≤ P.length ∧ f ≤ s.size ∧ Hid (Ql.Placed s.data.toList f (P.drop j)) ∧ Hid (Below w2.heap.size w2 wr)) (fun _ iv _ => P.length - (intOf iv).toNat)
      case atStart => exact ⟨0, 0, rfl, rfl, Nat.zero_le _, Nat.zero_le _, Lib.hid hpl.out, Lib.hid (Below.refl _ _)⟩
      case round =>
        obtain ⟨j, f, rfl, rfl, hj, hf, hP, bw⟩ := hrel
        by_cases hlj : j < P.length
        case neg =>
          have x3 := Lib.hid (x2.out.trans (bw.out.mono x2.out.size))
          have hji : ¬ (j : Int) < (P.length : Int) := by omega
          go_wp2_with fail
          go_ret
          exact ⟨rfl, x3.out⟩
        have hji : (j : Int) < (P.length : Int) := by omega
        have hpj := hP.out
        rw [List.drop_eq_getElem_cons hlj] at hpj
        obtain ⟨a, ha1, ha2, ha3, ha4⟩ := hpj
        obtain ⟨hne, hnc⟩ := hpp.out _ (List.getElem_mem hlj)
        obtain ⟨b, off, rfl, d0⟩ := (hT.out.below bw.out) j hlj
        clear hP
        generalize P[j] = p at *
        obtain ⟨n, hn⟩ : ∃ n, p.length = n := ⟨_, rfl⟩
        have hxa := Lib.hid (str_piece s p a n (by rw [← hn]; exact ha3))
        rw [hn] at ha2 ha4
        rw [hlen.out] at ha2
        have hn1 : 1 ≤ n := by
          rw [← hn]
          cases p with
          | nil => exact absurd rfl hne
          | cons x t => simp
        have hxs : (⟨p.toArray⟩ : ByteArray).size = n := by rw [← hn]; rfl
        have hxn : Hid (∀ q (h : q < (⟨p.toArray⟩ : ByteArray).size), ¬ (⟨p.toArray⟩ : ByteArray)[q] = 44) := Lib.hid (fun q h e => hnc (by
          have h' : q < p.length := h
          have : p[q] = 44 := e
          rw [← this]
          exact List.getElem_mem h'))
        have hxe : Hid (((⟨p.toArray⟩ : ByteArray).toList == []) = false) := Lib.hid (by
          rw [ByteArray.toList_eq]
          rw [beq_eq_false_iff_ne]
          intro e
          exact hne (by simpa using e))
        clear ha3 hne hnc hn
        generalize (⟨p.toArray⟩ : ByteArray) = x at *
        subst hxs
        replace ha4 := Lib.hid ha4
        replace d0 := Lib.hid d0
        rename World => w3
        go_wp2_with fail
        go_loopw [7] (fun av wi => ∃ g : Nat, av = .int .i64 (g : Int) ∧ g ≤ a ∧ Hid (Below w3.heap.size w3 wi)) (fun av _ => a - (intOf av).toNat)
        case atStart => exact ⟨f, rfl, ha1, Lib.hid (Below.refl _ _)⟩
        case round =>
          obtain ⟨g, rfl, hg, bi⟩ := hrel
          have d1 := (bi.out.cell (World.block_lt_of_cell? w3 _ d0.out)).trans d0.out
          have hgs : (g : Int) < (s.size : Int) := by omega
          have hns : ¬ ((s.size : Int) - (g : Int) < (x.size : Int)) := by omega
          go_upto_region 21 with fail
          by_cases he : s.extract g (g + x.size) = x
          · have ht : ((s.extract g (g + x.size)).toList == x.toList) = true := by rw [he]; exact beq_self_eq_true _
            clear he
            have bi' := Lib.hid (bw.out.trans (bi.out.mono bw.out.size))
            go_quiet (fail)
            have hx0 := hxe.out
            have d2 := d1
            have bz := Lib.hid (bi'.out.trans ⟨rfl, rfl, rfl, Nat.le_refl _, fun _ _ => rfl⟩ : Below w2.heap.size w2 (wr.drewN nq))
            have d3 : (wr.drewN nq).cell? ⟨b, off + j, none⟩ = some (.string x) := d1
            have hpl' := Lib.hid (ha4.out.less (show g + x.size ≤ a + x.size by omega))
            go_wp2_with fail
            generalize wr.drewN nq = wz at *
            clear d1 d2 bi bi' hx0 ht hns
            go_loop [9] (fun kv => ∃ q : Nat, q ≤ x.size ∧ kv = .int .i64 (q : Int)) (fun kv => x.size - (intOf kv).toNat)
            case atStart => exact ⟨0, Nat.zero_le _, rfl⟩
            case round =>
              obtain ⟨q, hq, rfl⟩ := hrel
              by_cases hqs : q < x.size
              · have hbb := (x[q]).toNat_lt
                have e1 : ((x[q].toNat : Int) == 44) = false := Ql.byte_no (c := 44) rfl (hxn.out q hqs)
                go_wp2_with fail
                go_round
                case rel => exact ⟨q + 1, by omega, by go_num⟩
                case measure => simp [intOf]; omega
              · go_wp2_with fail
                go_round
                case rel => exact ⟨j + 1, g + x.size, by go_num, by go_num, by omega, by omega, hpl', bz⟩
                case measure => simp [intOf]; omega
          · have ht : ((s.extract g (g + x.size)).toList == x.toList) = false := not_str he
            have hga : g + 1 ≤ a := by
              rcases Nat.lt_or_ge g a with h | h
              · exact h
              · exact absurd (by rw [show g = a by omega]; exact hxa.out) he
            clear he
            go_quiet (fail)
            go_wp2_with fail
            go_round
            case rel => exact ⟨g + 1, by go_num, hga, Lib.hid (bi.out.trans ⟨rfl, rfl, rfl, Nat.le_refl _, fun _ _ => rfl⟩)⟩
            case measure => simp [intOf]; omega
end Go.Proofs.YtpgdmoaegnehbaaDoor
namespace Go.Proofs.YtpgdmoaegnehbaaDoor
open Go.RowKit

end Go.Proofs.YtpgdmoaegnehbaaDoor
