/-
  What the program's words of references come to: names, number, point, first.
-/
import Derived.Test.YtmeliljioagipaaGreatDoorEscEnv
import Derived.Test.YtmeliljioagipaaGreatDoorRefWords
import Derived.Maps.Own
import Derived.Lib.OthersKept
import Derived.BigQuiet
namespace Go.Proofs.YtmeliljioagipaaGreatDoor
open Go.RowKit Go.Maps Go.WideMaps

/-! ### numbers -/
/-- What the outer call answers. -/
def ParsedOut (base : Nat) (l : List UInt8) (w : World) (e : Ending) (w' : World) : Prop :=
  ((∃ n : Nat, E.Read base l n ∧ e = .returned (.tuple #[.int .u64 (n : Int), .nilIface])) ∨ (∃ (v : Int) (p : Value), E.NotRead base l ∧ e = .returned (.tuple #[.int .u64 v, .iface 154 p]))) ∧ Below w.heap.size w w'

theorem parsed_out (base : Int) (b : Nat) (s : ByteArray) (w : World) (hs : s.size ≤ 1000000) (hE : Env w)
    (inner : ∀ w, Calls Tryz.prog 106 #[.string s, .int .i64 base, .int .i64 32] w (Parsed b s.data.toList w)) :
    Calls Tryz.prog 105 #[.string s, .int .i64 base, .int .i64 32] w (ParsedOut b s.data.toList w) := by
  go_enter Tryz.func105, Tryz.ntmps105
  go_wp2_with fail
  (with_reducible refine (inner _).mono ?_)
  rintro e w1 ⟨⟨n, hr, rfl⟩ | ⟨v, k, hn, hk, rfl⟩, b1⟩
  · have hr := Lib.hid hr
    go_wp2
    go_ret2
    exact ⟨.inl ⟨n, hr.out, rfl⟩, b1⟩
  · have hn := Lib.hid hn
    obtain ⟨⟨t, p, hsy⟩, ⟨t', p', hrg⟩⟩ := (hE.on b1).texts
    rcases hk with rfl | rfl
    · go_wp2_with fail
      (with_reducible refine (Tryz.strconv_toError_range _ s _ _ _ _ (by omega) hrg (.inr ⟨t', p', rfl⟩)).mono ?_)
      rintro e w2 ⟨N, rfl, _, _, b2⟩
      go_wp2
      go_ret2
      exact ⟨.inr ⟨_, _, hn.out, rfl⟩, b1.trans (b2.mono b1.size)⟩
    · go_wp2_with fail
      (with_reducible refine (Tryz.strconv_toError_syntax _ s _ _ _ _ (by omega) hsy (.inr ⟨t, p, rfl⟩)).mono ?_)
      rintro e w2 ⟨N, rfl, _, _, b2⟩
      go_wp2
      go_ret2
      exact ⟨.inr ⟨_, _, hn.out, rfl⟩, b1.trans (b2.mono b1.size)⟩

theorem number_of (base : Int) (b : Nat) (s : ByteArray) (w : World)
    (outer : ∀ w, Env w → Calls Tryz.prog 105 #[.string s, .int .i64 base, .int .i64 32] w (ParsedOut b s.data.toList w)) (hE : Env w) :
    Calls Tryz.prog 103 #[.string s, .int .i64 base] w fun e w' => e = .returned (.int .i64 (E.val32 b s.data.toList : Nat)) ∧ Below w.heap.size w w' := by
  go_enter Tryz.func103, Tryz.ntmps103
  go_wp2_with fail
  (with_reducible refine (outer _ hE).mono ?_)
  rintro e w1 ⟨⟨n, hr, rfl⟩ | ⟨v, p, hn, rfl⟩, b1⟩
  · have hle := hr.2.2
    have hr := Lib.hid hr.val
    go_wp2
    go_ret
    exact ⟨ret_int (by rw [hr.out]), b1⟩
  · have hn := Lib.hid hn.val
    go_wp2
    go_ret
    exact ⟨ret_int (by rw [hn.out]; rfl), b1⟩

theorem number10_any (s : ByteArray) (w : World) (hs : s.size ≤ 1000000) (hE : Env w) :
    Calls Tryz.prog 103 #[.string s, .int .i64 10] w fun e w' => e = .returned (.int .i64 (E.val32 10 s.data.toList : Nat)) ∧ Below w.heap.size w w' :=
  number_of 10 10 s w (fun w hE => parsed_out 10 10 s w hs hE fun w => parseUint_10 s hs w) hE
theorem number16_any (s : ByteArray) (w : World) (hs : s.size ≤ 1000000) (hE : Env w) :
    Calls Tryz.prog 103 #[.string s, .int .i64 16] w fun e w' => e = .returned (.int .i64 (E.val32 16 s.data.toList : Nat)) ∧ Below w.heap.size w w' :=
  number_of 16 16 s w (fun w hE => parsed_out 16 16 s w hs hE fun w => parseUint_16 s hs w) hE

/-! ### names -/
theorem keyed : Keyed Tryz.prog 9 := string_keyed Tryz.underlying9
theorem zeroRune (w : World) : (zeroValue 21).run Tryz.prog w = .ok (.int .i32 0) w := by kernel_rfl
theorem keyOf_str (s : ByteArray) (h : s.size ≤ 1000000) : keyOf Tryz.prog 9 (.string s) = some (.string s.data.toList) := keyOf_string_mk Tryz.underlying9 (by unfold maxLen; omega)

/-- The names, as data. -/
def namesD : DataW Unit := (((((DataW.map []).put (.string [108, 116]) (.lit (.int .i32 60))).put (.string [103, 116]) (.lit (.int .i32 62))).put (.string [97, 109, 112]) (.lit (.int .i32 38))).put (.string [113, 117, 111, 116]) (.lit (.int .i32 34))).put (.string [97, 112, 111, 115]) (.lit (.int .i32 39))
theorem namesD_is : namesD = .map [(.string [97, 109, 112], .lit (.int .i32 38)), (.string [97, 112, 111, 115], .lit (.int .i32 39)), (.string [103, 116], .lit (.int .i32 62)), (.string [108, 116], .lit (.int .i32 60)), (.string [113, 117, 111, 116], .lit (.int .i32 34))] := by rfl
theorem beq_list {a b : List UInt8} : (a == b) = decide (a = b) := by
  by_cases h : a = b
  · subst h; simp
  · simp [h]
theorem namesD_at (l : List UInt8) : namesD.atKey (.string l) (.lit (.int .i32 0)) = .lit (.int .i32 (E.nameN l : Nat)) := by
  rw [namesD_is]
  unfold E.nameN
  by_cases h1 : l = [108, 116]
  · subst h1; rfl
  by_cases h2 : l = [103, 116]
  · subst h2; rfl
  by_cases h3 : l = [97, 109, 112]
  · subst h3; rfl
  by_cases h4 : l = [113, 117, 111, 116]
  · subst h4; rfl
  by_cases h5 : l = [97, 112, 111, 115]
  · subst h5; rfl
  rw [if_neg h1, if_neg h2, if_neg h3, if_neg h4, if_neg h5]
  simp [DataW.atKey, List.find?, Lit.sameKey, beq_list, Ne.symm h1, Ne.symm h2, Ne.symm h3, Ne.symm h4, Ne.symm h5]

set_option maxRecDepth 100000 in
set_option maxHeartbeats 1600000 in
theorem names_any (w : World) : Calls Tryz.prog 102 #[] w fun e w' => e = .returned (.map (some w.heap.size)) ∧ w'.ownsMap Tryz.prog 9 (plainElem Tryz.prog 21) w.heap.size 5 namesD ∧ Below w.heap.size w w' := by
  have hmm := @run_makeMap Tryz.prog
  have o0 : (w.alloc (.map #[] 0)).ownsMap Tryz.prog 9 (plainElem (H := Unit) Tryz.prog 21) w.heap.size 0 (.map []) := World.ownsMap_made w _ _ _
  have b0 : Below w.heap.size w (w.alloc (.map #[] 0)) := (Below.refl _ _).alloc (Nat.le_refl _) _
  obtain ⟨w1, r1, o1, g1⟩ := o0.update keyed Tryz.underlying134 (by decide) (key := .string ⟨#[108, 116]⟩) (val := .int .i32 60) (keyOf_str _ (by decide)) (plainElem_int Tryz.underlying21 (by decide))
  obtain ⟨w2, r2, o2, g2⟩ := o1.update keyed Tryz.underlying134 (by decide) (key := .string ⟨#[103, 116]⟩) (val := .int .i32 62) (keyOf_str _ (by decide)) (plainElem_int Tryz.underlying21 (by decide))
  obtain ⟨w3, r3, o3, g3⟩ := o2.update keyed Tryz.underlying134 (by decide) (key := .string ⟨#[97, 109, 112]⟩) (val := .int .i32 38) (keyOf_str _ (by decide)) (plainElem_int Tryz.underlying21 (by decide))
  obtain ⟨w4, r4, o4, g4⟩ := o3.update keyed Tryz.underlying134 (by decide) (key := .string ⟨#[113, 117, 111, 116]⟩) (val := .int .i32 34) (keyOf_str _ (by decide)) (plainElem_int Tryz.underlying21 (by decide))
  obtain ⟨w5, r5, o5, g5⟩ := o4.update keyed Tryz.underlying134 (by decide) (key := .string ⟨#[97, 112, 111, 115]⟩) (val := .int .i32 39) (keyOf_str _ (by decide)) (plainElem_int Tryz.underlying21 (by decide))
  have hr : ∀ k, some w.heap.size = some k → w.heap.size ≤ k := fun k e => by cases e; exact Nat.le_refl _
  have b1 := b0.grown g1 b0.size hr
  have b2 := b1.grown g2 b1.size hr
  have b3 := b2.grown g3 b2.size hr
  have b4 := b3.grown g4 b3.size hr
  have b5 := b4.grown g5 b4.size hr
  clear g1 g2 g3 g4 g5 b0 b1 b2 b3 b4 o0 o1 o2 o3 o4 hr
  go_enter Tryz.func102, Tryz.ntmps102
  go_wp2
  go_ret
  exact ⟨rfl, o5, b5⟩

theorem cutPrefix_yes (s t p : ByteArray) (w : World) (h : Lib.hasPrefix s.data.toList p.data.toList = true) (ht : t.data.toList = s.data.toList.drop p.data.toList.length) :
    Calls Tryz.prog 23 #[.string s, .string p] w fun e w' => e = .returned (.tuple #[.string t, .bool true]) ∧ w = w' := by
  refine (Tryz.strings_CutPrefix s p w).mono ?_
  rintro e w' ⟨rfl, rfl⟩
  have : (⟨(Lib.trimPrefix s.data.toList p.data.toList).toArray⟩ : ByteArray) = t := bytes_eq (by rw [ht]; simp [Lib.trimPrefix, h])
  exact ⟨by rw [this, h], rfl⟩
theorem cutPrefix_no (s p : ByteArray) (w : World) (h : Lib.hasPrefix s.data.toList p.data.toList = false) :
    Calls Tryz.prog 23 #[.string s, .string p] w fun e w' => e = .returned (.tuple #[.string s, .bool false]) ∧ w = w' := by
  refine (Tryz.strings_CutPrefix s p w).mono ?_
  rintro e w' ⟨rfl, rfl⟩
  have : (⟨(Lib.trimPrefix s.data.toList p.data.toList).toArray⟩ : ByteArray) = s := bytes_eq (by simp [Lib.trimPrefix, h])
  exact ⟨by rw [this, h], rfl⟩

theorem dropped (s : ByteArray) (k : Nat) (hs : s.size ≤ 1000000) : ∃ t : ByteArray, t.data.toList = s.data.toList.drop k ∧ t.size ≤ 1000000 := by
  refine ⟨⟨(s.data.toList.drop k).toArray⟩, rfl, ?_⟩
  have h1 : s.data.toList.length = s.size := by rw [list_len]
  show (s.data.toList.drop k).toArray.size ≤ _
  simp
  have h2 : s.data.size = s.size := rfl
  omega

set_option maxRecDepth 100000 in
set_option maxHeartbeats 1600000 in
theorem point_any (s : ByteArray) (w : World) (hs : s.size ≤ 1000000) (hE : Env w) :
    Calls Tryz.prog 96 #[.string s] w fun e w' => e = .returned (.int .i64 (E.pointN s.data.toList : Nat)) ∧ Below w.heap.size w w' := by
  cases h1 : Lib.hasPrefix s.data.toList [35] with
  | true =>
    obtain ⟨t, ht, hz⟩ := dropped s 1 hs
    have c1 := cutPrefix_yes s t ⟨#[35]⟩ w h1 ht
    cases h2 : Lib.hasPrefix t.data.toList [120] with
    | true =>
      obtain ⟨u, hu, hzu⟩ := dropped t 1 hz
      have c2 := cutPrefix_yes t u ⟨#[120]⟩ w h2 hu
      have hp := Lib.hid (show E.pointN s.data.toList = E.val32 16 u.data.toList by rw [hu, ht]; rw [ht] at h2; unfold E.pointN; rw [h1, h2]; simp)
      have hn := number16_any u w hzu hE
      clear h1 h2 hu ht
      go_enter Tryz.func96, Tryz.ntmps96
      go_wp2_with fail
      (with_reducible refine c1.mono ?_)
      rintro e w' ⟨rfl, rfl⟩
      go_wp2_with fail
      (with_reducible refine c2.mono ?_)
      rintro e w' ⟨rfl, rfl⟩
      go_wp2_with fail
      (with_reducible refine hn.mono ?_)
      rintro e w1 ⟨rfl, b1⟩
      go_wp2
      go_ret
      exact ⟨ret_int (by rw [hp.out]), b1⟩
    | false =>
      have c2 := cutPrefix_no t ⟨#[120]⟩ w h2
      have hp := Lib.hid (show E.pointN s.data.toList = E.val32 10 t.data.toList by rw [ht]; rw [ht] at h2; unfold E.pointN; rw [h1, h2]; simp)
      have hn := number10_any t w hz hE
      clear h1 h2 ht
      go_enter Tryz.func96, Tryz.ntmps96
      go_wp2_with fail
      (with_reducible refine c1.mono ?_)
      rintro e w' ⟨rfl, rfl⟩
      go_wp2_with fail
      (with_reducible refine c2.mono ?_)
      rintro e w' ⟨rfl, rfl⟩
      go_wp2_with fail
      (with_reducible refine hn.mono ?_)
      rintro e w1 ⟨rfl, b1⟩
      go_wp2
      go_ret
      exact ⟨ret_int (by rw [hp.out]), b1⟩
  | false =>
    have c1 := cutPrefix_no s ⟨#[35]⟩ w h1
    have hp := Lib.hid (show E.pointN s.data.toList = E.nameN s.data.toList by unfold E.pointN; rw [h1]; simp)
    have hkey := keyOf_str s hs
    have hat := Lib.hid (namesD_at s.data.toList)
    have hle := E.nameN_le s.data.toList
    generalize E.nameN s.data.toList = n at *
    clear h1
    go_enter Tryz.func96, Tryz.ntmps96
    go_wp2_with fail
    (with_reducible refine c1.mono ?_)
    rintro e w' ⟨rfl, rfl⟩
    go_wp2_with fail
    (with_reducible refine (names_any _).mono ?_)
    rintro e w1 ⟨rfl, o1, b1⟩
    obtain ⟨c, hrun, hc, _⟩ := o1.lookup_int keyed Tryz.underlying134 Tryz.underlying21 (zeroRune _) hkey
    rw [hat.out] at hc
    obtain rfl : (n : Int) = c := by injection hc with h; injection h
    clear hc o1 hkey
    go_wp2
    go_ret
    exact ⟨ret_int (by rw [hp.out]), b1⟩
end Go.Proofs.YtmeliljioagipaaGreatDoor
