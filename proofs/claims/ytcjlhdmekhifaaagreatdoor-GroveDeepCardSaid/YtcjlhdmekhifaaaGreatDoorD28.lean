/-
  References in plain Lean, as the program goes about them: cut at a byte, the number that stands for a reference.
  What the program's words of references come to: names, number, point, first.
-/
import Derived.Test.YtcjlhdmekhifaaaGreatDoorD27
import Derived.Lib.IndexMore
import Derived.Lib.Strings
import Derived.Test.YtcjlhdmekhifaaaGreatDoorD26
import Derived.Maps.Own
import Derived.Lib.OthersKept
import Derived.BigQuiet
namespace Go.Proofs.YtcjlhdmekhifaaaGreatDoor
open Go.RowKit
namespace E

/-- What stands ahead of the first such byte, and behind it. -/
def parts (c : UInt8) (t : List UInt8) : Option (List UInt8 × List UInt8) :=
  match t.drop (t.takeWhile (· ≠ c)).length with
  | [] => none
  | _ :: r => some (t.takeWhile (· ≠ c), r)

theorem parts_hit (c : UInt8) (t : List UInt8) : parts c (c :: t) = some ([], t) := by simp [parts]
theorem parts_step {c b : UInt8} (h : b ≠ c) (t : List UInt8) : parts c (b :: t) = (parts c t).map fun x => (b :: x.1, x.2) := by
  unfold parts
  rw [List.takeWhile_cons_of_pos (by simpa using h)]
  simp only [List.length_cons, List.drop_succ_cons]
  cases t.drop (t.takeWhile (· ≠ c)).length <;> rfl
theorem semi_parts (t : List UInt8) : semi t = parts 59 t := rfl

theorem index_parts (c : UInt8) : ∀ l : List UInt8, Lib.index l [c] = match parts c l with | some x => (x.1.length : Int) | none => -1
  | [] => rfl
  | b :: t => by
    by_cases h : b = c
    · subst h
      rw [parts_hit]
      simp [Lib.index, List.isPrefixOf]
    · rw [parts_step h]
      have ih := index_parts c t
      simp only [Lib.index]
      have hp : [c].isPrefixOf (b :: t) = false := by simp [List.isPrefixOf, Ne.symm h]
      rw [hp, ih]
      cases parts c t with
      | none => rfl
      | some x =>
        have : ((x.1.length : Int) == -1) = false := by rw [beq_eq_false_iff_ne]; omega
        simp [this]

theorem parts_append {c : UInt8} {l a r : List UInt8} (h : parts c l = some (a, r)) : l = a ++ c :: r := by
  induction l generalizing a with
  | nil => cases h
  | cons b t ih =>
    by_cases e : b = c
    · subst e
      rw [parts_hit] at h
      cases h; rfl
    · rw [parts_step e] at h
      cases hp : parts c t with
      | none => rw [hp] at h; cases h
      | some x =>
        rw [hp] at h
        cases h
        rw [List.cons_append, ← ih hp]

theorem cut_hit {c : UInt8} {l a r : List UInt8} (h : parts c l = some (a, r)) : Lib.cut l [c] = (a, r, true) := by
  have e := parts_append h
  unfold Lib.cut
  rw [index_parts, h]
  simp only []
  rw [if_pos (by omega)]
  subst e
  simp
theorem cut_miss {c : UInt8} {l : List UInt8} (h : parts c l = none) : Lib.cut l [c] = (l, [], false) := by
  unfold Lib.cut
  rw [index_parts, h]
  rfl

theorem expand_miss (attr : Bool) : ∀ l : List UInt8, parts 38 l = none → expand attr l = some (l.map (blank attr))
  | [], _ => rfl
  | b :: t, h => by
    by_cases e : b = 38
    · subst e; rw [parts_hit] at h; cases h
    · rw [parts_step e] at h
      rw [expand_byte attr b t e, expand_miss attr t (by cases hp : parts 38 t with | none => rfl | some x => rw [hp] at h; cases h)]
      rfl
theorem expand_hit (attr : Bool) : ∀ (l a r : List UInt8), parts 38 l = some (a, r) → expand attr l = (expand attr (38 :: r)).map fun t => a.map (blank attr) ++ t
  | [], _, _, h => by cases h
  | b :: t, a, r, h => by
    by_cases e : b = 38
    · subst e; rw [parts_hit] at h; cases h
      cases expand attr (38 :: t) <;> rfl
    · rw [parts_step e] at h
      cases hp : parts 38 t with
      | none => rw [hp] at h; cases h
      | some x =>
        rw [hp] at h
        cases h
        rw [expand_byte attr b t e, expand_hit attr t x.1 x.2 hp]
        cases expand attr (38 :: x.2) <;> rfl

theorem numGo_val (base : Nat) (hb : 1 ≤ base) : ∀ (l : List UInt8) (n : Nat), numGo base (min n 1114112) l = (valGo base n l).map (min · 1114112)
  | [], n => rfl
  | c :: t, n => by
    simp only [numGo, valGo]
    cases digit c base with
    | none => rfl
    | some d =>
      simp only [Option.bind_some]
      rw [← numGo_val base hb t]
      congr 1
      by_cases h : n ≤ 1114112
      · rw [Nat.min_eq_left h]
      · rw [Nat.min_eq_right (show 1114112 ≤ n by omega)]
        have h1 : 1114112 ≤ 1114112 * base := Nat.le_mul_of_pos_right _ (by omega)
        have h2 : n ≤ n * base := Nat.le_mul_of_pos_right _ (by omega)
        omega

theorem char_zero : G.char 0 = false := by decide
theorem char_big {n : Nat} (h : 1114112 ≤ n) : G.char (n : Int) = false := by
  simp [G.char, G.inR]; omega

theorem number_val (base : Nat) (hb : 1 ≤ base) (l : List UInt8) : number base l = if G.char (val32 base l : Nat) then some (val32 base l) else none := by
  unfold number val32
  by_cases h : l = []
  · rw [if_pos h, if_pos h]
    rw [show ((0 : Nat) : Int) = 0 from rfl, char_zero]
    rfl
  · rw [if_neg h, if_neg h]
    have hn := numGo_val base hb l 0
    rw [Nat.min_eq_left (by omega)] at hn
    rw [hn]
    cases valGo base 0 l with
    | none => simp [char_zero]
    | some m =>
      simp only [Option.map_some, Option.bind_some]
      by_cases hm : m < 1114112
      · rw [Nat.min_eq_left (by omega), if_pos (show m ≤ 4294967295 by omega)]
      · rw [Nat.min_eq_right (by omega), if_neg (by rw [char_big (Nat.le_refl _)]; decide)]
        rw [if_neg]
        split
        · rw [char_big (by omega)]; decide
        · rw [show ((0 : Nat) : Int) = 0 from rfl, char_zero]; decide

/-- The code point of a reference that is a name; 0: none. -/
def nameN (l : List UInt8) : Nat := if l = [108, 116] then 60 else if l = [103, 116] then 62 else if l = [97, 109, 112] then 38 else if l = [113, 117, 111, 116] then 34 else if l = [97, 112, 111, 115] then 39 else 0
theorem nameN_le (l : List UInt8) : nameN l ≤ 62 := by
  unfold nameN
  repeat' split
  all_goals omega
/-- The number that stands for a reference. -/
def pointN (l : List UInt8) : Nat :=
  if Lib.hasPrefix l [35] then (if Lib.hasPrefix (l.drop 1) [120] then val32 16 (l.drop 2) else val32 10 (l.drop 1)) else nameN l
theorem named_point (l : List UInt8) : named l = if G.char (pointN l : Nat) then some (Lib.encodeRune (pointN l : Nat)) else none := by
  by_cases h1 : l = [108, 116]
  · subst h1; decide
  by_cases h2 : l = [103, 116]
  · subst h2; decide
  by_cases h3 : l = [97, 109, 112]
  · subst h3; decide
  by_cases h4 : l = [113, 117, 111, 116]
  · subst h4; decide
  by_cases h5 : l = [97, 112, 111, 115]
  · subst h5; decide
  unfold named
  rw [if_neg h1, if_neg h2, if_neg h3, if_neg h4, if_neg h5]
  match l, h1, h2, h3, h4, h5 with
  | [], _, _, _, _, _ => decide
  | b :: t, h1, h2, h3, h4, h5 =>
    by_cases hb : b = 35
    · subst hb
      match t with
      | [] => decide
      | c :: t =>
        by_cases hc : c = 120
        · subst hc
          match t with
          | [] =>
            have e1 : number 10 [120] = none := by decide
            have e2 : pointN [35, 120] = 0 := by decide
            rw [if_neg (by simp), if_pos (by simp), e2]
            simp only [List.drop_succ_cons, List.drop_zero]
            rw [e1]
            simp [char_zero]
          | d :: t =>
            have hp : pointN (35 :: 120 :: d :: t) = val32 16 (d :: t) := by simp [pointN, Lib.hasPrefix, List.isPrefixOf]
            rw [if_pos (by simp), hp]
            simp only [List.drop_succ_cons, List.drop_zero]
            rw [number_val 16 (by decide)]
            split <;> simp_all
        · have hp : pointN (35 :: c :: t) = val32 10 (c :: t) := by simp [pointN, Lib.hasPrefix, List.isPrefixOf, Ne.symm hc]
          rw [if_neg (by simp [hc]), if_pos (by simp), hp]
          simp only [List.drop_succ_cons, List.drop_zero]
          rw [number_val 10 (by decide)]
          split <;> simp_all
    · have hp : pointN (b :: t) = 0 := by
        have : Lib.hasPrefix (b :: t) [35] = false := by simp [Lib.hasPrefix, List.isPrefixOf, Ne.symm hb]
        unfold pointN
        rw [this]
        simp only [Bool.false_eq_true, if_false]
        unfold nameN
        rw [if_neg h1, if_neg h2, if_neg h3, if_neg h4, if_neg h5]
      rw [if_neg (by simp [hb]), if_neg (by simp [hb]), hp]
      simp [char_zero]
end E
end Go.Proofs.YtcjlhdmekhifaaaGreatDoor
namespace Go.Proofs.YtcjlhdmekhifaaaGreatDoor
open Go.RowKit Go.Maps Go.WideMaps

/-! ### numbers -/
/-- What the outer call answers. -/
def ParsedOut (base : Nat) (l : List UInt8) (w : World) (e : Ending) (w' : World) : Prop :=
  ((∃ n : Nat, E.Read base l n ∧ e = .returned (.tuple #[.int .u64 (n : Int), .nilIface])) ∨ (∃ (v : Int) (p : Value), E.NotRead base l ∧ e = .returned (.tuple #[.int .u64 v, .iface 216 p]))) ∧ Below w.heap.size w w'

theorem parsed_out (base : Int) (b : Nat) (s : ByteArray) (w : World) (hs : s.size ≤ 1000000) (hE : Env w)
    (inner : ∀ w, Calls Tryz.prog 176 #[.string s, .int .i64 base, .int .i64 32] w (Parsed b s.data.toList w)) :
    Calls Tryz.prog 175 #[.string s, .int .i64 base, .int .i64 32] w (ParsedOut b s.data.toList w) := by
  go_enter Tryz.func175, Tryz.ntmps175
  go_wp2_with fail
  (with_reducible refine (inner _).mono ?_)
  rintro e w1 ⟨⟨n, hr, rfl⟩ | ⟨v, k, hn, hk, rfl⟩, b1⟩
  · have hr := Lib.hid hr
    go_wp2
    go_ret2
    exact ⟨.inl ⟨n, hr.out, rfl⟩, b1⟩
  · have hn := Lib.hid hn
    obtain ⟨⟨t, p, hsy⟩, ⟨t', p', hrg⟩⟩ := (hE.on b1).texts
    rcases hk with rfl | rfl
    · go_wp2_with fail
      (with_reducible refine (Tryz.strconv_toError_range _ s _ _ _ _ (by omega) hrg (.inr ⟨t', p', rfl⟩)).mono ?_)
      rintro e w2 ⟨N, rfl, _, _, b2⟩
      go_wp2
      go_ret2
      exact ⟨.inr ⟨_, _, hn.out, rfl⟩, b1.trans (b2.mono b1.size)⟩
    · go_wp2_with fail
      (with_reducible refine (Tryz.strconv_toError_syntax _ s _ _ _ _ (by omega) hsy (.inr ⟨t, p, rfl⟩)).mono ?_)
      rintro e w2 ⟨N, rfl, _, _, b2⟩
      go_wp2
      go_ret2
      exact ⟨.inr ⟨_, _, hn.out, rfl⟩, b1.trans (b2.mono b1.size)⟩

theorem number_of (base : Int) (b : Nat) (s : ByteArray) (w : World)
    (outer : ∀ w, Env w → Calls Tryz.prog 175 #[.string s, .int .i64 base, .int .i64 32] w (ParsedOut b s.data.toList w)) (hE : Env w) :
    Calls Tryz.prog 173 #[.string s, .int .i64 base] w fun e w' => e = .returned (.int .i64 (E.val32 b s.data.toList : Nat)) ∧ Below w.heap.size w w' := by
  go_enter Tryz.func173, Tryz.ntmps173
  go_wp2_with fail
  (with_reducible refine (outer _ hE).mono ?_)
  rintro e w1 ⟨⟨n, hr, rfl⟩ | ⟨v, p, hn, rfl⟩, b1⟩
  · have hle := hr.2.2
    have hr := Lib.hid hr.val
    go_wp2
    go_ret
    exact ⟨ret_int (by rw [hr.out]), b1⟩
  · have hn := Lib.hid hn.val
    go_wp2
    go_ret
    exact ⟨ret_int (by rw [hn.out]; rfl), b1⟩

theorem number10_any (s : ByteArray) (w : World) (hs : s.size ≤ 1000000) (hE : Env w) :
    Calls Tryz.prog 173 #[.string s, .int .i64 10] w fun e w' => e = .returned (.int .i64 (E.val32 10 s.data.toList : Nat)) ∧ Below w.heap.size w w' :=
  number_of 10 10 s w (fun w hE => parsed_out 10 10 s w hs hE fun w => parseUint_10 s hs w) hE
theorem number16_any (s : ByteArray) (w : World) (hs : s.size ≤ 1000000) (hE : Env w) :
    Calls Tryz.prog 173 #[.string s, .int .i64 16] w fun e w' => e = .returned (.int .i64 (E.val32 16 s.data.toList : Nat)) ∧ Below w.heap.size w w' :=
  number_of 16 16 s w (fun w hE => parsed_out 16 16 s w hs hE fun w => parseUint_16 s hs w) hE

/-! ### names -/
theorem keyed : Keyed Tryz.prog 9 := string_keyed Tryz.underlying9
theorem zeroRune (w : World) : (zeroValue 21).run Tryz.prog w = .ok (.int .i32 0) w := by kernel_rfl
theorem keyOf_str (s : ByteArray) (h : s.size ≤ 1000000) : keyOf Tryz.prog 9 (.string s) = some (.string s.data.toList) := keyOf_string_mk Tryz.underlying9 (by unfold maxLen; omega)

/-- The names, as data. -/
def namesD : DataW Unit := (((((DataW.map []).put (.string [108, 116]) (.lit (.int .i32 60))).put (.string [103, 116]) (.lit (.int .i32 62))).put (.string [97, 109, 112]) (.lit (.int .i32 38))).put (.string [113, 117, 111, 116]) (.lit (.int .i32 34))).put (.string [97, 112, 111, 115]) (.lit (.int .i32 39))
theorem namesD_is : namesD = .map [(.string [97, 109, 112], .lit (.int .i32 38)), (.string [97, 112, 111, 115], .lit (.int .i32 39)), (.string [103, 116], .lit (.int .i32 62)), (.string [108, 116], .lit (.int .i32 60)), (.string [113, 117, 111, 116], .lit (.int .i32 34))] := by rfl
theorem beq_list {a b : List UInt8} : (a == b) = decide (a = b) := by
  by_cases h : a = b
  · subst h; simp
  · simp [h]
theorem namesD_at (l : List UInt8) : namesD.atKey (.string l) (.lit (.int .i32 0)) = .lit (.int .i32 (E.nameN l : Nat)) := by
  rw [namesD_is]
  unfold E.nameN
  by_cases h1 : l = [108, 116]
  · subst h1; rfl
  by_cases h2 : l = [103, 116]
  · subst h2; rfl
  by_cases h3 : l = [97, 109, 112]
  · subst h3; rfl
  by_cases h4 : l = [113, 117, 111, 116]
  · subst h4; rfl
  by_cases h5 : l = [97, 112, 111, 115]
  · subst h5; rfl
  rw [if_neg h1, if_neg h2, if_neg h3, if_neg h4, if_neg h5]
  simp [DataW.atKey, List.find?, Lit.sameKey, beq_list, Ne.symm h1, Ne.symm h2, Ne.symm h3, Ne.symm h4, Ne.symm h5]

set_option maxRecDepth 100000 in
set_option maxHeartbeats 1600000 in
theorem names_any (w : World) : Calls Tryz.prog 172 #[] w fun e w' => e = .returned (.map (some w.heap.size)) ∧ w'.ownsMap Tryz.prog 9 (plainElem Tryz.prog 21) w.heap.size 5 namesD ∧ Below w.heap.size w w' := by
  have hmm := @run_makeMap Tryz.prog
  have o0 : (w.alloc (.map #[] 0)).ownsMap Tryz.prog 9 (plainElem (H := Unit) Tryz.prog 21) w.heap.size 0 (.map []) := World.ownsMap_made w _ _ _
  have b0 : Below w.heap.size w (w.alloc (.map #[] 0)) := (Below.refl _ _).alloc (Nat.le_refl _) _
  obtain ⟨w1, r1, o1, g1⟩ := o0.update keyed Tryz.underlying197 (by decide) (key := .string ⟨#[108, 116]⟩) (val := .int .i32 60) (keyOf_str _ (by decide)) (plainElem_int Tryz.underlying21 (by decide))
  obtain ⟨w2, r2, o2, g2⟩ := o1.update keyed Tryz.underlying197 (by decide) (key := .string ⟨#[103, 116]⟩) (val := .int .i32 62) (keyOf_str _ (by decide)) (plainElem_int Tryz.underlying21 (by decide))
  obtain ⟨w3, r3, o3, g3⟩ := o2.update keyed Tryz.underlying197 (by decide) (key := .string ⟨#[97, 109, 112]⟩) (val := .int .i32 38) (keyOf_str _ (by decide)) (plainElem_int Tryz.underlying21 (by decide))
  obtain ⟨w4, r4, o4, g4⟩ := o3.update keyed Tryz.underlying197 (by decide) (key := .string ⟨#[113, 117, 111, 116]⟩) (val := .int .i32 34) (keyOf_str _ (by decide)) (plainElem_int Tryz.underlying21 (by decide))
  obtain ⟨w5, r5, o5, g5⟩ := o4.update keyed Tryz.underlying197 (by decide) (key := .string ⟨#[97, 112, 111, 115]⟩) (val := .int .i32 39) (keyOf_str _ (by decide)) (plainElem_int Tryz.underlying21 (by decide))
  have hr : ∀ k, some w.heap.size = some k → w.heap.size ≤ k := fun k e => by cases e; exact Nat.le_refl _
  have b1 := b0.grown g1 b0.size hr
  have b2 := b1.grown g2 b1.size hr
  have b3 := b2.grown g3 b2.size hr
  have b4 := b3.grown g4 b3.size hr
  have b5 := b4.grown g5 b4.size hr
  clear g1 g2 g3 g4 g5 b0 b1 b2 b3 b4 o0 o1 o2 o3 o4 hr
  go_enter Tryz.func172, Tryz.ntmps172
  go_wp2
  go_ret
  exact ⟨rfl, o5, b5⟩

theorem cutPrefix_yes (s t p : ByteArray) (w : World) (h : Lib.hasPrefix s.data.toList p.data.toList = true) (ht : t.data.toList = s.data.toList.drop p.data.toList.length) :
    Calls Tryz.prog 62 #[.string s, .string p] w fun e w' => e = .returned (.tuple #[.string t, .bool true]) ∧ w = w' := by
  refine (Tryz.strings_CutPrefix s p w).mono ?_
  rintro e w' ⟨rfl, rfl⟩
  have : (⟨(Lib.trimPrefix s.data.toList p.data.toList).toArray⟩ : ByteArray) = t := bytes_eq (by rw [ht]; simp [Lib.trimPrefix, h])
  exact ⟨by rw [this, h], rfl⟩
theorem cutPrefix_no (s p : ByteArray) (w : World) (h : Lib.hasPrefix s.data.toList p.data.toList = false) :
    Calls Tryz.prog 62 #[.string s, .string p] w fun e w' => e = .returned (.tuple #[.string s, .bool false]) ∧ w = w' := by
  refine (Tryz.strings_CutPrefix s p w).mono ?_
  rintro e w' ⟨rfl, rfl⟩
  have : (⟨(Lib.trimPrefix s.data.toList p.data.toList).toArray⟩ : ByteArray) = s := bytes_eq (by simp [Lib.trimPrefix, h])
  exact ⟨by rw [this, h], rfl⟩

theorem dropped (s : ByteArray) (k : Nat) (hs : s.size ≤ 1000000) : ∃ t : ByteArray, t.data.toList = s.data.toList.drop k ∧ t.size ≤ 1000000 := by
  refine ⟨⟨(s.data.toList.drop k).toArray⟩, rfl, ?_⟩
  have h1 : s.data.toList.length = s.size := by rw [list_len]
  show (s.data.toList.drop k).toArray.size ≤ _
  simp
  have h2 : s.data.size = s.size := rfl
  omega

set_option maxRecDepth 100000 in
set_option maxHeartbeats 1600000 in
theorem point_any (s : ByteArray) (w : World) (hs : s.size ≤ 1000000) (hE : Env w) :
    Calls Tryz.prog 164 #[.string s] w fun e w' => e = .returned (.int .i64 (E.pointN s.data.toList : Nat)) ∧ Below w.heap.size w w' := by
  cases h1 : Lib.hasPrefix s.data.toList [35] with
  | true =>
    obtain ⟨t, ht, hz⟩ := dropped s 1 hs
    have c1 := cutPrefix_yes s t ⟨#[35]⟩ w h1 ht
    cases h2 : Lib.hasPrefix t.data.toList [120] with
    | true =>
      obtain ⟨u, hu, hzu⟩ := dropped t 1 hz
      have c2 := cutPrefix_yes t u ⟨#[120]⟩ w h2 hu
      have hp := Lib.hid (show E.pointN s.data.toList = E.val32 16 u.data.toList by rw [hu, ht]; rw [ht] at h2; unfold E.pointN; rw [h1, h2]; simp)
      have hn := number16_any u w hzu hE
      clear h1 h2 hu ht
      go_enter Tryz.func164, Tryz.ntmps164
      go_wp2_with fail
      (with_reducible refine c1.mono ?_)
      rintro e w' ⟨rfl, rfl⟩
      go_wp2_with fail
      (with_reducible refine c2.mono ?_)
      rintro e w' ⟨rfl, rfl⟩
      go_wp2_with fail
      (with_reducible refine hn.mono ?_)
      rintro e w1 ⟨rfl, b1⟩
      go_wp2
      go_ret
      exact ⟨ret_int (by rw [hp.out]), b1⟩
    | false =>
      have c2 := cutPrefix_no t ⟨#[120]⟩ w h2
      have hp := Lib.hid (show E.pointN s.data.toList = E.val32 10 t.data.toList by rw [ht]; rw [ht] at h2; unfold E.pointN; rw [h1, h2]; simp)
      have hn := number10_any t w hz hE
      clear h1 h2 ht
      go_enter Tryz.func164, Tryz.ntmps164
      go_wp2_with fail
      (with_reducible refine c1.mono ?_)
      rintro e w' ⟨rfl, rfl⟩
      go_wp2_with fail
      (with_reducible refine c2.mono ?_)
      rintro e w' ⟨rfl, rfl⟩
      go_wp2_with fail
      (with_reducible refine hn.mono ?_)
      rintro e w1 ⟨rfl, b1⟩
      go_wp2
      go_ret
      exact ⟨ret_int (by rw [hp.out]), b1⟩
  | false =>
    have c1 := cutPrefix_no s ⟨#[35]⟩ w h1
    have hp := Lib.hid (show E.pointN s.data.toList = E.nameN s.data.toList by unfold E.pointN; rw [h1]; simp)
    have hkey := keyOf_str s hs
    have hat := Lib.hid (namesD_at s.data.toList)
    have hle := E.nameN_le s.data.toList
    generalize E.nameN s.data.toList = n at *
    clear h1
    go_enter Tryz.func164, Tryz.ntmps164
    go_wp2_with fail
    (with_reducible refine c1.mono ?_)
    rintro e w' ⟨rfl, rfl⟩
    go_wp2_with fail
    (with_reducible refine (names_any _).mono ?_)
    rintro e w1 ⟨rfl, o1, b1⟩
    obtain ⟨c, hrun, hc, _⟩ := o1.lookup_int keyed Tryz.underlying197 Tryz.underlying21 (zeroRune _) hkey
    rw [hat.out] at hc
    obtain rfl : (n : Int) = c := by injection hc with h; injection h
    clear hc o1 hkey
    go_wp2
    go_ret
    exact ⟨ret_int (by rw [hp.out]), b1⟩
end Go.Proofs.YtcjlhdmekhifaaaGreatDoor
