/-
  What the reader's word of characters comes to.
  What the reader's word of an attribute comes to.
  What the reader's words of the declaration come to.
  What the parser's own words come to: endTag, characters, instruction, take.
-/
import Derived.Test.YtcjlhdmekhifaaaGreatDoorD36
import Derived.BigQuiet
import Derived.Test.YtcjlhdmekhifaaaGreatDoorD25
import Derived.Test.YtcjlhdmekhifaaaGreatDoorD26
namespace Go.Proofs.YtcjlhdmekhifaaaGreatDoor
open Go.RowKit

/-- What stands ahead of the first such byte. -/
theorem index_take (c : UInt8) : ∀ l : List UInt8, Lib.indexByte l c = if c ∈ l then ((l.takeWhile (· ≠ c)).length : Int) else -1
  | [] => by simp [Lib.indexByte]
  | b :: t => by
    have ih := index_take c t
    unfold Lib.indexByte
    by_cases hb : b = c
    · subst hb; simp
    · have h1 : (b == c) = false := by simpa using hb
      rw [h1, ih]
      by_cases hc : c ∈ t
      · have h2 : c ∈ b :: t := List.mem_cons_of_mem _ hc
        simp [hc, h2, hb]
      · have h2 : ¬ c ∈ b :: t := by simp [hc, Ne.symm hb]
        rw [if_neg hc, if_neg h2]
        rfl
theorem take_all {c : UInt8} : ∀ {l : List UInt8}, c ∉ l → l.takeWhile (· ≠ c) = l ∧ l.dropWhile (· ≠ c) = []
  | [], _ => ⟨rfl, rfl⟩
  | b :: t, h => by
    have hb : b ≠ c := by rintro rfl; exact h (by simp)
    obtain ⟨i1, i2⟩ := take_all (c := c) (l := t) (fun h2 => h (List.mem_cons_of_mem _ h2))
    rw [List.takeWhile_cons, List.dropWhile_cons, if_pos (decide_eq_true hb), if_pos (decide_eq_true hb), i1, i2]
    exact ⟨rfl, rfl⟩
theorem take_len (c : UInt8) (l : List UInt8) : l.takeWhile (· ≠ c) = l.take (l.takeWhile (· ≠ c)).length ∧ l.dropWhile (· ≠ c) = l.drop (l.takeWhile (· ≠ c)).length := by
  have h := List.takeWhile_append_dropWhile (p := fun b : UInt8 => decide (b ≠ c)) (l := l)
  have h1 := congrArg (List.take (l.takeWhile (fun b : UInt8 => decide (b ≠ c))).length) h
  have h2 := congrArg (List.drop (l.takeWhile (fun b : UInt8 => decide (b ≠ c))).length) h
  rw [List.take_left] at h1
  rw [List.drop_left] at h2
  exact ⟨h1, h2⟩

theorem contains_any (s p : ByteArray) (w : World) (hs : s.size ≤ 1000000) (hE : Env w) (hp : p.data.toList ≠ []) (c : Bool) (hc : (T.cutAt p.data.toList s.data.toList).isSome = c) :
    Calls Tryz.prog 89 #[.string s, .string p] w fun e w' => e = .returned (.bool c) ∧ w = w' := by
  obtain ⟨m, hm⟩ := hE.most
  refine (Tryz.strings_Contains s p m w (by omega) hm).mono ?_
  rintro e w' ⟨rfl, rfl⟩
  rw [contains_cut hp, hc]
  exact ⟨rfl, rfl⟩
theorem cut_one (c : UInt8) : ∀ l : List UInt8, (T.cutAt [c] l).isSome = decide (c ∈ l)
  | [] => by simp [T.cutAt]
  | b :: t => by
    have ih := cut_one c t
    unfold T.cutAt
    by_cases hb : b = c
    · subst hb
      rw [if_pos (T.begins_cons _ _)]
      simp
    · rw [if_neg (by rw [T.begins_not t hb]; decide), Option.isSome_map, ih]
      simp [Ne.symm hb]

theorem index_yes (s : ByteArray) (k : Nat) (w : World) (h : 60 ∈ s.data.toList) (hk : (s.data.toList.takeWhile (· ≠ 60)).length = k) :
    Calls Tryz.prog 63 #[.string s, .int .u8 60] w fun e w' => e = .returned (.int .i64 (k : Int)) ∧ w = w' := by
  refine (Tryz.strings_IndexByte s 60 w).mono ?_
  rintro e w' ⟨rfl, rfl⟩
  have e1 : (60 : Int).toNat.toUInt8 = 60 := rfl
  rw [e1, index_take, if_pos h, hk]
  exact ⟨rfl, rfl⟩
theorem index_no (s : ByteArray) (w : World) (h : ¬ 60 ∈ s.data.toList) :
    Calls Tryz.prog 63 #[.string s, .int .u8 60] w fun e w' => e = .returned (.int .i64 (-1)) ∧ w = w' := by
  refine (Tryz.strings_IndexByte s 60 w).mono ?_
  rintro e w' ⟨rfl, rfl⟩
  have e1 : (60 : Int).toNat.toUInt8 = 60 := rfl
  rw [e1, index_take, if_neg h]
  exact ⟨rfl, rfl⟩
theorem expand_yes (attr : Bool) (s d : ByteArray) (h : E.expand attr s.data.toList = some d.data.toList) : E.expA attr s = d ∧ E.expE attr s = 0 := by
  obtain ⟨e1, e2⟩ := E.exp_some h
  exact ⟨e1, e2⟩

set_option maxRecDepth 100000 in
set_option maxHeartbeats 1600000 in
theorem characters_any (b : Nat) (s : ByteArray) (w : World) (h : At b s w) :
    Calls Tryz.prog 75 #[.pointer (some ⟨b, 0, none⟩)] w (Ans b w (T.text s.data.toList)) := by
  have g0 := World.grownBy_alloc w (.cells #[.int .i64 0, .string ⟨#[]⟩, .slice none 0 0, .bool false, .string ⟨#[]⟩] 41) (some b)
  have hA := h.below ((Below.refl w.heap.size w).alloc (Nat.le_refl _) (.cells #[.int .i64 0, .string ⟨#[]⟩, .slice none 0 0, .bool false, .string ⟨#[]⟩] 41))
  have bx := Box5.new w
  have hb := h.lt
  have hsm := h.small
  have hne : some w.heap.size ≠ some b := by simp; omega
  clear h
  have hcell := hA.cell
  have hfree := hA.free
  by_cases h60 : 60 ∈ s.data.toList
  · obtain ⟨k, hk⟩ : ∃ k, (s.data.toList.takeWhile (· ≠ 60)).length = k := ⟨_, rfl⟩
    have hraw : (s.extract 0 k).data.toList = s.data.toList.takeWhile (· ≠ 60) := by rw [take_list, (take_len 60 s.data.toList).1, hk]
    have htl : (s.extract k s.size).data.toList = s.data.toList.dropWhile (· ≠ 60) := by rw [drop_list, (take_len 60 s.data.toList).2, hk]
    have hks : k ≤ s.size := by
      have := (List.takeWhile_sublist (fun b : UInt8 => decide (b ≠ 60)) (l := s.data.toList)).length_le
      rw [list_len] at this
      omega
    have c1 := fun w => index_yes s k w h60 hk
    clear h60 hk
    have hts : ((s.extract k s.size) : ByteArray).size ≤ 1000000 := by simp; omega
    have hrs : ((s.extract 0 k) : ByteArray).size ≤ 1000000 := by simp; omega
    have hP : ∀ n, At b (s.extract k s.size) (((w.alloc (.cells #[.int .i64 0, .string ⟨#[]⟩, .slice none 0 0, .bool false, .string ⟨#[]⟩] 41)).drewN n).setCell ⟨b, 0, none⟩ (.string (s.extract k s.size))) := fun n => (hA.below (below_drewN (Below.refl _ _) n)).put hts
    have gP : ∀ n, w.grownBy (((w.alloc (.cells #[.int .i64 0, .string ⟨#[]⟩, .slice none 0 0, .bool false, .string ⟨#[]⟩] 41)).drewN n).setCell ⟨b, 0, none⟩ (.string (s.extract k s.size))) (some b) := fun n => grown_set (g0.trans (grown_of_below (below_drewN (Below.refl _ _) n) (some b))) _
    have bP : ∀ n, Box5 (((w.alloc (.cells #[.int .i64 0, .string ⟨#[]⟩, .slice none 0 0, .bool false, .string ⟨#[]⟩] 41)).drewN n).setCell ⟨b, 0, none⟩ (.string (s.extract k s.size))) w.heap.size (.int .i64 0) (.string ⟨#[]⟩) (.slice none 0 0) (.bool false) (.string ⟨#[]⟩) := fun n => bx.on (grown_set (grown_of_below (below_drewN (Below.refl _ _) n) (some b)) _) hne
    cases hb2 : (T.cutAt [93, 93, 62] (s.extract 0 k).data.toList).isSome with
    | true =>
      have hr := Lib.hid (T.text_bad (l := s.data.toList) (by rw [← hraw]; exact hb2))
      have c2 := fun w (h : At b (s.extract k s.size) w) => contains_any (s.extract 0 k) ⟨#[93, 93, 62]⟩ w hrs h.env (by simp) true hb2
      clear hb2 bx bP hraw htl
      go_enter Tryz.func75, Tryz.ntmps75
      go_wp2_with fail
      (with_reducible refine (c1 _).mono ?_); rintro e w1 ⟨rfl, rfl⟩
      generalize w.alloc (.cells #[.int .i64 0, .string ⟨#[]⟩, .slice none 0 0, .bool false, .string ⟨#[]⟩] 41) = W1 at *
      go_wp2
      go_quiet (fail)
      go_wp2_with fail
      (with_reducible refine (c2 _ (hP _)).mono ?_); rintro e w2 ⟨rfl, rfl⟩
      go_wp2_with fail
      (with_reducible refine (insist_no _).mono ?_); rintro e w3 ⟨rfl, rfl⟩
      exact ⟨rfl, ans_no hr.out (gP _)⟩
    | false =>
      have c2 := fun w (h : At b (s.extract k s.size) w) => contains_any (s.extract 0 k) ⟨#[93, 93, 62]⟩ w hrs h.env (by simp) false hb2
      cases he : E.expand false (s.extract 0 k).data.toList with
      | none =>
        have hr := Lib.hid (T.text_ref (l := s.data.toList) (by rw [← hraw]; exact hb2) (by rw [← hraw]; exact he))
        have c3 := fun w (h : At b (s.extract k s.size) w) => eExpand_any (s.extract 0 k) w hrs h.env
        rw [(E.exp_none he).1, (E.exp_none he).2] at c3
        clear hb2 he bx bP hraw htl
        go_enter Tryz.func75, Tryz.ntmps75
        go_wp2_with fail
        (with_reducible refine (c1 _).mono ?_); rintro e w1 ⟨rfl, rfl⟩
        generalize w.alloc (.cells #[.int .i64 0, .string ⟨#[]⟩, .slice none 0 0, .bool false, .string ⟨#[]⟩] 41) = W1 at *
        go_wp2
        go_quiet (fail)
        go_wp2_with fail
        (with_reducible refine (c2 _ (hP _)).mono ?_); rintro e w2 ⟨rfl, rfl⟩
        go_wp2_with fail
        (with_reducible refine (insist_yes _).mono ?_); rintro e w3 ⟨rfl, rfl⟩
        go_wp2_with fail
        (with_reducible refine (c3 _ (hP _)).mono ?_); rintro e w4 ⟨rfl, b4⟩
        go_wp2_with fail
        (with_reducible refine (meant_no _ _).mono ?_); rintro e w5 ⟨rfl, rfl⟩
        exact ⟨rfl, ans_no hr.out (grown_then (gP _) b4)⟩
      | some u =>
        obtain ⟨d, rfl⟩ := bytes_of u
        have hr : T.text s.data.toList = .ok (⟨2, [], [], decide (38 ∈ (s.extract 0 k).data.toList), d.data.toList⟩, ((s.extract k s.size) : ByteArray).data.toList) := by
          have := T.text_ok (l := s.data.toList) (d := d.data.toList) (by rw [← hraw]; exact hb2) (by rw [← hraw]; exact he)
          rw [← hraw, ← htl] at this
          exact this
        replace hr := Lib.hid hr
        have c3 := fun w (h : At b (s.extract k s.size) w) => eExpand_any (s.extract 0 k) w hrs h.env
        rw [(expand_yes _ _ _ he).1, (expand_yes _ _ _ he).2] at c3
        have c4 := fun w (h : At b (s.extract k s.size) w) => contains_any (s.extract 0 k) ⟨#[38]⟩ w hrs h.env (by simp) _ (cut_one 38 (s.extract 0 k).data.toList)
        clear hb2 he bx hraw htl
        go_enter Tryz.func75, Tryz.ntmps75
        go_wp2_with fail
        (with_reducible refine (c1 _).mono ?_); rintro e w1 ⟨rfl, rfl⟩
        generalize w.alloc (.cells #[.int .i64 0, .string ⟨#[]⟩, .slice none 0 0, .bool false, .string ⟨#[]⟩] 41) = W1 at *
        go_wp2
        go_quiet (fail)
        go_wp2_with fail
        (with_reducible refine (c2 _ (hP _)).mono ?_); rintro e w2 ⟨rfl, rfl⟩
        go_wp2_with fail
        (with_reducible refine (insist_yes _).mono ?_); rintro e w3 ⟨rfl, rfl⟩
        go_wp2_with fail
        (with_reducible refine (c3 _ (hP _)).mono ?_); rintro e w4 ⟨rfl, b4⟩
        go_wp2_with fail
        (with_reducible refine (meant_yes _ _).mono ?_); rintro e w5 ⟨rfl, rfl⟩
        have h4 := (hP _).below b4
        have g4 := grown_then (gP _) b4
        have bA := (bP _).on (grown_of_below b4 (some b)) hne
        go_wp2_with fail
        (with_reducible refine (c4 _ h4).mono ?_); rintro e w6 ⟨rfl, rfl⟩
        have d0 := bA.c0
        have d1 := bA.c1
        have d2 := bA.c2
        have d3 := bA.c3
        have d4 := bA.c4
        have f0 := bA.free 0
        have f1 := bA.free 1
        have f2 := bA.free 2
        have f3 := bA.free 3
        have f4 := bA.free 4
        replace bA := Lib.hid bA
        clear bP hP gP
        generalize hq : decide (38 ∈ (s.extract 0 k).data.toList) = q at *
        go_wp2_with fail
        exact tok_end rfl rfl (bA.out.set _ _ _ _ _) (ans_plain hr.out rfl h4 g4 hb rfl)
  · have hraw : s.data.toList = s.data.toList.takeWhile (· ≠ 60) := (take_all h60).1.symm
    have htl : (⟨#[]⟩ : ByteArray).data.toList = s.data.toList.dropWhile (· ≠ 60) := (take_all h60).2.symm
    have c1 := fun w => index_no s w h60
    clear h60
    have hts : (⟨#[]⟩ : ByteArray).size ≤ 1000000 := by decide
    have hrs := hsm
    have hP : At b ⟨#[]⟩ ((w.alloc (.cells #[.int .i64 0, .string ⟨#[]⟩, .slice none 0 0, .bool false, .string ⟨#[]⟩] 41)).setCell ⟨b, 0, none⟩ (.string ⟨#[]⟩)) := hA.put hts
    have gP : w.grownBy ((w.alloc (.cells #[.int .i64 0, .string ⟨#[]⟩, .slice none 0 0, .bool false, .string ⟨#[]⟩] 41)).setCell ⟨b, 0, none⟩ (.string ⟨#[]⟩)) (some b) := grown_set g0 _
    have bP : Box5 ((w.alloc (.cells #[.int .i64 0, .string ⟨#[]⟩, .slice none 0 0, .bool false, .string ⟨#[]⟩] 41)).setCell ⟨b, 0, none⟩ (.string ⟨#[]⟩)) w.heap.size (.int .i64 0) (.string ⟨#[]⟩) (.slice none 0 0) (.bool false) (.string ⟨#[]⟩) := bx.on (grown_set (grown_refl _ (some b)) _) hne
    cases hb2 : (T.cutAt [93, 93, 62] s.data.toList).isSome with
    | true =>
      have hr := Lib.hid (T.text_bad (l := s.data.toList) (by rw [← hraw]; exact hb2))
      have c2 := fun w (h : At b ⟨#[]⟩ w) => contains_any s ⟨#[93, 93, 62]⟩ w hrs h.env (by simp) true hb2
      clear hb2 bx bP hraw htl
      go_enter Tryz.func75, Tryz.ntmps75
      go_wp2_with fail
      (with_reducible refine (c1 _).mono ?_); rintro e w1 ⟨rfl, rfl⟩
      generalize w.alloc (.cells #[.int .i64 0, .string ⟨#[]⟩, .slice none 0 0, .bool false, .string ⟨#[]⟩] 41) = W1 at *
      go_wp2_with fail
      (with_reducible refine (c2 _ (hP )).mono ?_); rintro e w2 ⟨rfl, rfl⟩
      go_wp2_with fail
      (with_reducible refine (insist_no _).mono ?_); rintro e w3 ⟨rfl, rfl⟩
      exact ⟨rfl, ans_no hr.out (gP )⟩
    | false =>
      have c2 := fun w (h : At b ⟨#[]⟩ w) => contains_any s ⟨#[93, 93, 62]⟩ w hrs h.env (by simp) false hb2
      cases he : E.expand false s.data.toList with
      | none =>
        have hr := Lib.hid (T.text_ref (l := s.data.toList) (by rw [← hraw]; exact hb2) (by rw [← hraw]; exact he))
        have c3 := fun w (h : At b ⟨#[]⟩ w) => eExpand_any s w hrs h.env
        rw [(E.exp_none he).1, (E.exp_none he).2] at c3
        clear hb2 he bx bP hraw htl
        go_enter Tryz.func75, Tryz.ntmps75
        go_wp2_with fail
        (with_reducible refine (c1 _).mono ?_); rintro e w1 ⟨rfl, rfl⟩
        generalize w.alloc (.cells #[.int .i64 0, .string ⟨#[]⟩, .slice none 0 0, .bool false, .string ⟨#[]⟩] 41) = W1 at *
        go_wp2_with fail
        (with_reducible refine (c2 _ (hP )).mono ?_); rintro e w2 ⟨rfl, rfl⟩
        go_wp2_with fail
        (with_reducible refine (insist_yes _).mono ?_); rintro e w3 ⟨rfl, rfl⟩
        go_wp2_with fail
        (with_reducible refine (c3 _ (hP )).mono ?_); rintro e w4 ⟨rfl, b4⟩
        go_wp2_with fail
        (with_reducible refine (meant_no _ _).mono ?_); rintro e w5 ⟨rfl, rfl⟩
        exact ⟨rfl, ans_no hr.out (grown_then (gP ) b4)⟩
      | some u =>
        obtain ⟨d, rfl⟩ := bytes_of u
        have hr : T.text s.data.toList = .ok (⟨2, [], [], decide (38 ∈ s.data.toList), d.data.toList⟩, (⟨#[]⟩ : ByteArray).data.toList) := by
          have := T.text_ok (l := s.data.toList) (d := d.data.toList) (by rw [← hraw]; exact hb2) (by rw [← hraw]; exact he)
          rw [← hraw, ← htl] at this
          exact this
        replace hr := Lib.hid hr
        have c3 := fun w (h : At b ⟨#[]⟩ w) => eExpand_any s w hrs h.env
        rw [(expand_yes _ _ _ he).1, (expand_yes _ _ _ he).2] at c3
        have c4 := fun w (h : At b ⟨#[]⟩ w) => contains_any s ⟨#[38]⟩ w hrs h.env (by simp) _ (cut_one 38 s.data.toList)
        clear hb2 he bx hraw htl
        go_enter Tryz.func75, Tryz.ntmps75
        go_wp2_with fail
        (with_reducible refine (c1 _).mono ?_); rintro e w1 ⟨rfl, rfl⟩
        generalize w.alloc (.cells #[.int .i64 0, .string ⟨#[]⟩, .slice none 0 0, .bool false, .string ⟨#[]⟩] 41) = W1 at *
        go_wp2_with fail
        (with_reducible refine (c2 _ (hP )).mono ?_); rintro e w2 ⟨rfl, rfl⟩
        go_wp2_with fail
        (with_reducible refine (insist_yes _).mono ?_); rintro e w3 ⟨rfl, rfl⟩
        go_wp2_with fail
        (with_reducible refine (c3 _ (hP )).mono ?_); rintro e w4 ⟨rfl, b4⟩
        go_wp2_with fail
        (with_reducible refine (meant_yes _ _).mono ?_); rintro e w5 ⟨rfl, rfl⟩
        have h4 := (hP ).below b4
        have g4 := grown_then (gP ) b4
        have bA := (bP ).on (grown_of_below b4 (some b)) hne
        go_wp2_with fail
        (with_reducible refine (c4 _ h4).mono ?_); rintro e w6 ⟨rfl, rfl⟩
        have d0 := bA.c0
        have d1 := bA.c1
        have d2 := bA.c2
        have d3 := bA.c3
        have d4 := bA.c4
        have f0 := bA.free 0
        have f1 := bA.free 1
        have f2 := bA.free 2
        have f3 := bA.free 3
        have f4 := bA.free 4
        replace bA := Lib.hid bA
        clear bP hP gP
        generalize hq : decide (38 ∈ s.data.toList) = q at *
        go_wp2_with fail
        exact tok_end rfl rfl (bA.out.set _ _ _ _ _) (ans_plain hr.out rfl h4 g4 hb rfl)
end Go.Proofs.YtcjlhdmekhifaaaGreatDoor
namespace Go.Proofs.YtcjlhdmekhifaaaGreatDoor
open Go.RowKit

/-- A box of two cells. -/
def Box2 (w : World) (k : Nat) (x0 x1 : Value) : Prop := w.heap[k]? = some (.cells #[x0, x1] 86 (0, 0))
theorem Box2.lt {w : World} {k : Nat} {x0 x1 : Value} (h : Box2 w k x0 x1) : k < w.heap.size := (Array.getElem?_eq_some_iff.1 h).1
theorem Box2.on {w w' : World} {k : Nat} {x0 x1 : Value} (h : Box2 w k x0 x1) {row : Option Nat} (hg : w.grownBy w' row) (hne : some k ≠ row) : Box2 w' k x0 x1 := (hg.block k h.lt hne).trans h
theorem Box2.c0 {w : World} {k : Nat} {x0 x1 : Value} (h : Box2 w k x0 x1) : w.cell? ⟨k, 0, none⟩ = some x0 := by unfold World.cell?; rw [show w.heap[k]? = _ from h]; rfl
theorem Box2.c1 {w : World} {k : Nat} {x0 x1 : Value} (h : Box2 w k x0 x1) : w.cell? ⟨k, 1, none⟩ = some x1 := by unfold World.cell?; rw [show w.heap[k]? = _ from h]; rfl
theorem Box2.free {w : World} {k : Nat} {x0 x1 : Value} (h : Box2 w k x0 x1) (i : Nat) : w.frozen? ⟨k, i, none⟩ = false := by simp [World.frozen?, show w.heap[k]? = _ from h]
def set2 (w : World) (k : Nat) (x0 x1 : Value) : World := (w.setCell ⟨k, 0, none⟩ x0).setCell ⟨k, 1, none⟩ x1
theorem Box2.set {w : World} {k : Nat} {x0 x1 : Value} (h : Box2 w k x0 x1) (y0 y1 : Value) : Box2 (set2 w k y0 y1) k y0 y1 := by
  have := box_set (box_set (show w.heap[k]? = _ from h) 0 y0) 1 y1
  exact this
theorem grown_set2 (w : World) (k : Nat) (x0 x1 : Value) : w.grownBy (set2 w k x0 x1) (some k) := (grown_setAny w k 0 x0).trans (grown_setAny _ k 1 x1)
theorem Box2.new (w : World) : Box2 (w.alloc (.cells #[.string ⟨#[]⟩, .string ⟨#[]⟩] 86)) w.heap.size (.string ⟨#[]⟩) (.string ⟨#[]⟩) := heap_alloc_new w _
theorem pair_end {fn : Func} (hres : fn.results = #[.cell 2 86]) {R : Ending → World → Prop} {tmps : Array Value} {w : World} {k : Nat} {x0 x1 : Value} (h2 : tmps[2]? = some (.pointer (some ⟨k, 0, none⟩)))
    (hb : Box2 w k x0 x1) (hR : R (.returned (.agg #[x0, x1])) w) : bodyPost Tryz.prog fn R .ret { tmps := tmps, defers := [] } w := by
  refine ⟨rfl, _, ?_, hR⟩
  have l2 : 2 < tmps.size := (Array.getElem?_eq_some_iff.1 h2).1
  have g2 : tmps[2] = .pointer (some ⟨k, 0, none⟩) := (Array.getElem?_eq_some_iff.1 h2).2
  have c0 := hb.c0
  have c1 := hb.c1
  simp [results, hres, go_sem, l2, g2, c0, c1]

/-- What the word of an attribute answers. -/
def AnsP (b : Nat) (w : World) (g : Except Nat ((List UInt8 × List UInt8) × List UInt8)) (e : Ending) (w' : World) : Prop :=
  match g with
  | .ok x => ∃ n v t : ByteArray, n.data.toList = x.1.1 ∧ v.data.toList = x.1.2 ∧ t.data.toList = x.2 ∧ n.size ≤ 1000000 ∧ e = .returned (.agg #[.string n, .string v]) ∧ At b t w' ∧ w.grownBy w' (some b)
  | .error n => Tossed b w (n : Int) e w'
theorem ansP_no {b : Nat} {w wn : World} {g : Except Nat ((List UInt8 × List UInt8) × List UInt8)} {n : Nat} (hg : g = .error n) (gr : w.grownBy wn (some b)) : AnsP b w g (.panicked (tossed n)) wn := by
  subst hg; exact ⟨rfl, gr⟩
theorem ansP_ok {b : Nat} {w wn : World} {g : Except Nat ((List UInt8 × List UInt8) × List UInt8)} {n v t : ByteArray} (hg : g = .ok ((n.data.toList, v.data.toList), t.data.toList)) (hn : n.size ≤ 1000000) (hA : At b t wn) (gr : w.grownBy wn (some b)) (hb : b < w.heap.size) :
    AnsP b w g (.returned (.agg #[.string n, .string v])) (set2 wn w.heap.size (.string n) (.string v)) := by
  subst hg
  exact ⟨n, v, t, rfl, rfl, rfl, hn, rfl, hA.other (grown_set2 _ _ _ _) (by simp; omega) (fun k e => by cases e; omega), gr.andThen (grown_set2 _ _ _ _) (fun j e => by cases e; exact .inl (Nat.le_refl _))⟩

theorem cut_lt (l : List UInt8) : (T.cutAt [60] l).isSome = decide (60 ∈ l) := cut_one 60 l
theorem given_small {s v t : ByteArray} (h : T.given s.data.toList = some (v.data.toList, t.data.toList)) (hs : s.size ≤ 1000000) : v.size ≤ 1000000 := by
  obtain ⟨t1, t2, q, h1, h2, _, h4⟩ := T.given_some h
  have e1 := T.skip_le s.data.toList
  have e2 := T.skip_le t1
  have e3 := congrArg List.length (T.cutAt_eq h4)
  rw [h1] at e1
  rw [h2] at e2
  simp only [List.length_append, List.length_cons, list_len] at e1 e2 e3
  omega

set_option maxRecDepth 100000 in
set_option maxHeartbeats 1600000 in
theorem attribute_any (b : Nat) (s : ByteArray) (w : World) (h : At b s w) :
    Calls Tryz.prog 108 #[.pointer (some ⟨b, 0, none⟩)] w (AnsP b w (T.attr s.data.toList)) := by
  have g0 := World.grownBy_alloc w (.cells #[.string ⟨#[]⟩, .string ⟨#[]⟩] 86) (some b)
  have hA := h.below ((Below.refl w.heap.size w).alloc (Nat.le_refl _) (.cells #[.string ⟨#[]⟩, .string ⟨#[]⟩] 86))
  have bx := Box2.new w
  have hb := h.lt
  have hsm := h.small
  have hne : some w.heap.size ≠ some b := by simp; omega
  clear h
  cases hn : T.nameAt s.data.toList with
  | none =>
    have hr := Lib.hid (T.attr_noname hn)
    have c1 := fun w h => name_no b s w h hn
    clear hn
    go_enter Tryz.func108, Tryz.ntmps108
    go_wp2_with fail
    (with_reducible refine (c1 _ hA).mono ?_); rintro e w1 ⟨rfl, g1⟩
    exact ⟨rfl, ansP_no hr.out (g0.trans g1)⟩
  | some x =>
    obtain ⟨ln, lr⟩ := x
    obtain ⟨n, rfl⟩ := bytes_of ln
    obtain ⟨s1, rfl⟩ := bytes_of lr
    have hns := name_small hn hsm
    have hs1 := (name_parts hn).2.2.2
    have c1 := fun w h => name_ok b s n s1 w h hn
    cases hg : T.given s1.data.toList with
    | none =>
      have hr := Lib.hid (T.attr_nogiven hn hg)
      have c2 := fun w h => given_no b s1 w h hg
      clear hn hg
      go_enter Tryz.func108, Tryz.ntmps108
      go_wp2_with fail
      (with_reducible refine (c1 _ hA).mono ?_); rintro e w1 ⟨rfl, h1, g1⟩
      go_wp2_with fail
      (with_reducible refine (c2 _ h1).mono ?_); rintro e w2 ⟨rfl, g2⟩
      exact ⟨rfl, ansP_no hr.out ((g0.trans g1).trans g2)⟩
    | some x =>
      obtain ⟨lq, lt⟩ := x
      obtain ⟨q, rfl⟩ := bytes_of lq
      obtain ⟨t, rfl⟩ := bytes_of lt
      have hqs := given_small hg (by omega)
      have c2 := fun w h => given_ok b s1 q t w h hg
      by_cases h60 : 60 ∈ q.data.toList
      · have hr := Lib.hid (T.attr_lt hn hg h60)
        have c3 := fun w hE => contains_any q ⟨#[60]⟩ w hqs hE (by simp) true ((cut_lt _).trans (decide_eq_true h60))
        clear hn hg h60
        go_enter Tryz.func108, Tryz.ntmps108
        go_wp2_with fail
        (with_reducible refine (c1 _ hA).mono ?_); rintro e w1 ⟨rfl, h1, g1⟩
        go_wp2_with fail
        (with_reducible refine (c2 _ h1).mono ?_); rintro e w2 ⟨rfl, h2, g2⟩
        go_wp2_with fail
        (with_reducible refine (c3 _ h2.env).mono ?_); rintro e w3 ⟨rfl, rfl⟩
        go_wp2_with fail
        (with_reducible refine (insist_no _).mono ?_); rintro e w4 ⟨rfl, rfl⟩
        exact ⟨rfl, ansP_no hr.out ((g0.trans g1).trans g2)⟩
      have c3 := fun w hE => contains_any q ⟨#[60]⟩ w hqs hE (by simp) false ((cut_lt _).trans (decide_eq_false h60))
      cases he : E.expand true q.data.toList with
      | none =>
        have hr := Lib.hid (T.attr_ref hn hg h60 he)
        have c4 := fun w hE => eValue_any q w hqs hE
        rw [(E.exp_none he).1, (E.exp_none he).2] at c4
        clear hn hg h60 he
        go_enter Tryz.func108, Tryz.ntmps108
        go_wp2_with fail
        (with_reducible refine (c1 _ hA).mono ?_); rintro e w1 ⟨rfl, h1, g1⟩
        go_wp2_with fail
        (with_reducible refine (c2 _ h1).mono ?_); rintro e w2 ⟨rfl, h2, g2⟩
        go_wp2_with fail
        (with_reducible refine (c3 _ h2.env).mono ?_); rintro e w3 ⟨rfl, rfl⟩
        go_wp2_with fail
        (with_reducible refine (insist_yes _).mono ?_); rintro e w4 ⟨rfl, rfl⟩
        go_wp2_with fail
        (with_reducible refine (c4 _ h2.env).mono ?_); rintro e w5 ⟨rfl, b5⟩
        have h5 := h2.below b5
        have g5 := grown_of_below b5 (some b)
        go_wp2_with fail
        (with_reducible refine (meant_no _ _).mono ?_); rintro e w6 ⟨rfl, rfl⟩
        exact ⟨rfl, ansP_no hr.out (((g0.trans g1).trans g2).trans g5)⟩
      | some u =>
        obtain ⟨v, rfl⟩ := bytes_of u
        have hr := Lib.hid (T.attr_ok hn hg h60 he)
        have c4 := fun w hE => eValue_any q w hqs hE
        rw [(expand_yes _ _ _ he).1, (expand_yes _ _ _ he).2] at c4
        clear hn hg h60 he
        go_enter Tryz.func108, Tryz.ntmps108
        go_wp2_with fail
        (with_reducible refine (c1 _ hA).mono ?_); rintro e w1 ⟨rfl, h1, g1⟩
        go_wp2_with fail
        (with_reducible refine (c2 _ h1).mono ?_); rintro e w2 ⟨rfl, h2, g2⟩
        go_wp2_with fail
        (with_reducible refine (c3 _ h2.env).mono ?_); rintro e w3 ⟨rfl, rfl⟩
        go_wp2_with fail
        (with_reducible refine (insist_yes _).mono ?_); rintro e w4 ⟨rfl, rfl⟩
        go_wp2_with fail
        (with_reducible refine (c4 _ h2.env).mono ?_); rintro e w5 ⟨rfl, b5⟩
        have h5 := h2.below b5
        have g5 := grown_of_below b5 (some b)
        go_wp2_with fail
        (with_reducible refine (meant_yes _ _).mono ?_); rintro e w6 ⟨rfl, rfl⟩
        have gA := ((g1.trans g2).trans g5)
        have bA := bx.on gA hne
        have d0 := bA.c0
        have d1 := bA.c1
        have f0 := bA.free 0
        have f1 := bA.free 1
        replace bA := Lib.hid bA
        clear bx
        go_wp2_with fail
        exact pair_end rfl rfl (bA.out.set _ _) (ansP_ok hr.out hns h5 (((g0.trans g1).trans g2).trans g5) hb)
end Go.Proofs.YtcjlhdmekhifaaaGreatDoor
namespace Go.Proofs.YtcjlhdmekhifaaaGreatDoor
open Go.RowKit

namespace T
def stdEnd (l : List UInt8) : Got := match standalone l with | none => .error 70 | some r => declEnd r
theorem decl_def (l : List UInt8) : decl l = match word l [118, 101, 114, 115, 105, 111, 110] with
    | none => .error 70
    | some (v, rest) => if version v then match encoding rest with | none => .error 70 | some r => stdEnd r else .error 70 := rfl
theorem word_no {l n : List UInt8} (h : ¬ (skip l).length < l.length ∨ begins n (skip l) = false) : word l n = none := by
  have := skip_le l
  rw [word_given]
  by_cases h1 : (skip l).length = l.length
  · rw [if_pos h1]
  · rw [if_neg h1]
    rcases h with h | h
    · omega
    · rw [if_neg (by rw [h]; decide)]
theorem word_is {l n r : List UInt8} (hs : (skip l).length < l.length) (h : skip l = n ++ r) : word l n = given r := by
  rw [word_given, if_neg (by omega), if_pos (by rw [h]; exact begins_iff.2 ⟨r, rfl⟩), h, List.drop_left]
theorem decl_nov {l : List UInt8} (h : begins [118, 101, 114, 115, 105, 111, 110] (skip l) = false) : decl l = .error 70 := by
  rw [decl_def, word_no (.inr h)]
theorem decl_nogiven {l r : List UInt8} (hs : (skip l).length < l.length) (h : skip l = [118, 101, 114, 115, 105, 111, 110] ++ r) (hg : given r = none) : decl l = .error 70 := by
  rw [decl_def, word_is hs h, hg]
theorem decl_word {l r v m : List UInt8} (hs : (skip l).length < l.length) (h : skip l = [118, 101, 114, 115, 105, 111, 110] ++ r) (hg : given r = some (v, m)) : decl l = if version v then match encoding m with | none => .error 70 | some r => stdEnd r else .error 70 := by
  rw [decl_def, word_is hs h, hg]
theorem enc_no {l : List UInt8} (h : ¬ (skip l).length < l.length ∨ begins [101, 110, 99, 111, 100, 105, 110, 103] (skip l) = false) : encoding l = some l := by
  unfold encoding; rw [word_no h]
theorem enc_bad {l r v m : List UInt8} (hs : (skip l).length < l.length) (h : skip l = [101, 110, 99, 111, 100, 105, 110, 103] ++ r) (hg : given r = some (v, m)) (hv : ¬ v.map lower = [117, 116, 102, 45, 56]) : encoding l = none := by
  unfold encoding
  rw [word_is hs h, hg]
  simp only
  rw [if_neg hv]
theorem enc_ok {l r v m : List UInt8} (hs : (skip l).length < l.length) (h : skip l = [101, 110, 99, 111, 100, 105, 110, 103] ++ r) (hg : given r = some (v, m)) (hv : v.map lower = [117, 116, 102, 45, 56]) : encoding l = some m := by
  unfold encoding
  rw [word_is hs h, hg]
  simp only
  rw [if_pos hv]
theorem declEnd_not {l : List UInt8} {b : UInt8} {r : List UInt8} (h : skip l = b :: r) (hb : b ≠ 63) : declEnd l = .error 70 := by
  unfold declEnd
  split
  · rename_i h2
    rw [h] at h2
    cases h2
    exact absurd rfl hb
  · rfl
/-- `encoding` without its value. -/
theorem enc_nogiven {l r : List UInt8} (hs : (skip l).length < l.length) (h : skip l = [101, 110, 99, 111, 100, 105, 110, 103] ++ r) (hg : given r = none) : (match encoding l with | none => .error 70 | some r => stdEnd r) = (.error 70 : Got) := by
  have h1 : encoding l = some l := by unfold encoding; rw [word_is hs h, hg]
  have h2 : standalone l = some l := by unfold standalone; rw [word_no (.inr (by rw [h]; rfl))]
  rw [h1]
  show stdEnd l = _
  unfold stdEnd
  rw [h2]
  exact declEnd_not h (by decide)
theorem std_no {l : List UInt8} (h : ¬ (skip l).length < l.length ∨ begins [115, 116, 97, 110, 100, 97, 108, 111, 110, 101] (skip l) = false) : stdEnd l = declEnd l := by
  unfold stdEnd standalone; rw [word_no h]
theorem std_nogiven {l r : List UInt8} (hs : (skip l).length < l.length) (h : skip l = [115, 116, 97, 110, 100, 97, 108, 111, 110, 101] ++ r) (hg : given r = none) : stdEnd l = .error 70 := by
  have h2 : standalone l = some l := by unfold standalone; rw [word_is hs h, hg]
  unfold stdEnd
  rw [h2]
  exact declEnd_not h (by decide)
theorem std_bad {l r v m : List UInt8} (hs : (skip l).length < l.length) (h : skip l = [115, 116, 97, 110, 100, 97, 108, 111, 110, 101] ++ r) (hg : given r = some (v, m)) (h1 : ¬ v = [121, 101, 115]) (h2 : ¬ v = [110, 111]) : stdEnd l = .error 70 := by
  unfold stdEnd standalone
  rw [word_is hs h, hg]
  simp only
  rw [if_neg (by rintro (e | e); exact h1 e; exact h2 e)]
theorem std_ok {l r v m : List UInt8} (hs : (skip l).length < l.length) (h : skip l = [115, 116, 97, 110, 100, 97, 108, 111, 110, 101] ++ r) (hg : given r = some (v, m)) (h1 : v = [121, 101, 115] ∨ v = [110, 111]) : stdEnd l = declEnd m := by
  unfold stdEnd standalone
  rw [word_is hs h, hg]
  simp only
  rw [if_pos h1]
theorem end_ok {l r : List UInt8} (h : skip l = [63, 62] ++ r) : declEnd l = .ok (⟨5, [], [], false, []⟩, r) := by
  unfold declEnd; rw [h]; rfl
theorem end_no {l : List UInt8} (h : begins [63, 62] (skip l) = false) : declEnd l = .error 70 := by
  unfold declEnd
  split
  · rename_i r h2
    rw [h2] at h
    have : begins [63, 62] (63 :: 62 :: r) = true := begins_iff.2 ⟨r, rfl⟩
    rw [this] at h; cases h
  · rfl
theorem declares_skip {l r : List UInt8} (h : declares l = true) (hr : l = [60, 63, 120, 109, 108] ++ r) : (skip r).length < r.length := by
  unfold declares at h
  have : l.drop 5 = r := by rw [hr]; rfl
  rw [this] at h
  cases r with
  | nil => simp at h
  | cons b t =>
    have hb : G.space (b.toNat : Int) = true := by simpa using (Bool.and_eq_true_iff.1 h).2
    rw [skip_head, hb]
    have := skip_le t
    simp; omega
theorem dropWhile_nil (p : UInt8 → Bool) : ∀ l : List UInt8, l.dropWhile p = [] ↔ l.all p = true
  | [] => by simp
  | b :: t => by
    rw [List.dropWhile_cons, List.all_cons]
    cases hb : p b with
    | true => simpa using dropWhile_nil p t
    | false => simp
theorem trim_digits (l : List UInt8) : Lib.trimS l [48, 49, 50, 51, 52, 53, 54, 55, 56, 57] = [] ↔ l.all (fun b => decide (48 ≤ b.toNat ∧ b.toNat ≤ 57)) = true := by
  have e : (fun b : UInt8 => ([48, 49, 50, 51, 52, 53, 54, 55, 56, 57] : List UInt8).contains b) = fun b => decide (48 ≤ b.toNat ∧ b.toNat ≤ 57) := by
    funext b
    have : ∀ n, n < 256 → ([48, 49, 50, 51, 52, 53, 54, 55, 56, 57] : List UInt8).contains (UInt8.ofNat n) = decide (48 ≤ (UInt8.ofNat n).toNat ∧ (UInt8.ofNat n).toNat ≤ 57) := by decide +kernel
    have := this b.toNat b.toNat_lt
    rwa [UInt8.ofNat_toNat] at this
  unfold Lib.trimS Lib.trimLeftS Lib.trimRightS
  rw [e, dropWhile_nil, List.all_reverse]
  have h1 := List.takeWhile_append_dropWhile (p := fun b : UInt8 => decide (48 ≤ b.toNat ∧ b.toNat ≤ 57)) (l := l.reverse)
  have h2 := congrArg (List.all · (fun b : UInt8 => decide (48 ≤ b.toNat ∧ b.toNat ≤ 57))) h1
  simp only [List.all_append, List.all_reverse] at h2
  rw [← h2]
  have h3 : (List.takeWhile (fun b : UInt8 => decide (48 ≤ b.toNat ∧ b.toNat ≤ 57)) l.reverse).all (fun b : UInt8 => decide (48 ≤ b.toNat ∧ b.toNat ≤ 57)) = true := List.all_takeWhile
  rw [h3, Bool.true_and]
theorem version_of {l r : List UInt8} (h : l = [49, 46] ++ r) : version l = (decide (r ≠ []) && r.all (fun b => decide (48 ≤ b.toNat ∧ b.toNat ≤ 57))) := by
  subst h
  unfold version
  have h1 : begins [49, 46] ([49, 46] ++ r) = true := begins_iff.2 ⟨r, rfl⟩
  have h2 : ([49, 46] ++ r).drop 2 = r := rfl
  rw [h1, h2, Bool.true_and]
  congr 1
  rw [decide_eq_decide]
  cases r <;> simp
theorem version_no {l : List UInt8} (h : begins [49, 46] l = false) : version l = false := by unfold version; rw [h]; rfl
theorem isSpace_index : ∀ n, n < 256 → decide (0 ≤ Lib.indexByte [32, 9, 10, 13] (UInt8.ofNat n)) = G.space (((UInt8.ofNat n).toNat : Int)) := by decide +kernel
end T

/-! ### isVersion -/
theorem lit_digits : (⟨#[48, 49, 50, 51, 52, 53, 54, 55, 56, 57]⟩ : ByteArray).data.toList = [48, 49, 50, 51, 52, 53, 54, 55, 56, 57] := rfl
theorem trim_any (s u : ByteArray) (w : World) (hs : s.size ≤ 1000000) (hu : u.data.toList = Lib.trimS s.data.toList [48, 49, 50, 51, 52, 53, 54, 55, 56, 57]) :
    Calls Tryz.prog 43 #[.string s, .string ⟨#[48, 49, 50, 51, 52, 53, 54, 55, 56, 57]⟩] w fun e w' => e = .returned (.string u) ∧ Below w.heap.size w w' := by
  refine (Any.strings_Trim_laid Tryz.lays160 infoSet s ⟨#[48, 49, 50, 51, 52, 53, 54, 55, 56, 57]⟩ w (by omega) (by decide) (Go.Proofs.ascii_of_all (by decide))).mono ?_
  rintro e w' ⟨rfl, b⟩
  rw [lit_digits, ← hu]
  exact ⟨rfl, b⟩

set_option maxHeartbeats 800000 in
theorem isVersion_any (s : ByteArray) (w : World) (hs : s.size ≤ 1000000) (z : Bool) (hz : T.version s.data.toList = z) :
    Calls Tryz.prog 67 #[.string s] w fun e w' => e = .returned (.bool z) ∧ Below w.heap.size w w' := by
  cases hb : T.begins [49, 46] s.data.toList with
  | false =>
    have c1 := fun w => cutPrefix_no s ⟨#[49, 46]⟩ w hb
    have hr := Lib.hid (hz.symm.trans (T.version_no hb))
    clear hb hz
    go_enter Tryz.func67, Tryz.ntmps67
    go_wp2_with fail
    (with_reducible refine (c1 _).mono ?_); rintro e w1 ⟨rfl, rfl⟩
    go_wp2
    go_ret
    exact ⟨ret_bool hr.out.symm, Below.refl _ _⟩
  | true =>
    obtain ⟨lt, ht⟩ := T.begins_iff.1 hb
    obtain ⟨t, rfl⟩ := bytes_of lt
    have hts : t.size ≤ 1000000 := by
      have := congrArg List.length ht
      rw [List.length_append, list_len, list_len] at this
      omega
    have c1 := fun w => cutPrefix_yes s t ⟨#[49, 46]⟩ w hb (by rw [← ht]; rfl)
    have hv := T.version_of ht.symm
    by_cases h0 : t.size = 0
    · have he := empty_is h0
      have hnil : t.data.toList = [] := List.eq_nil_of_length_eq_zero (by rw [list_len]; exact h0)
      have hr := Lib.hid (show z = false from hz.symm.trans (hv.trans (by rw [hnil]; rfl)))
      clear hb hz hv hnil ht
      go_enter Tryz.func67, Tryz.ntmps67
      go_wp2_with fail
      (with_reducible refine (c1 _).mono ?_); rintro e w1 ⟨rfl, rfl⟩
      go_wp2
      go_ret
      exact ⟨ret_bool hr.out.symm, Below.refl _ _⟩
    · have he := ne_empty (s := t) (by omega)
      have hnn : t.data.toList ≠ [] := by intro e; rw [← list_len t, e] at h0; exact h0 rfl
      obtain ⟨u, hu⟩ := bytes_of (Lib.trimS t.data.toList [48, 49, 50, 51, 52, 53, 54, 55, 56, 57])
      have c2 := fun w => trim_any t u w hts hu
      have hd := T.trim_digits t.data.toList
      rw [← hu] at hd
      by_cases hu0 : u.size = 0
      · have he2 := empty_is hu0
        have hnil : u.data.toList = [] := List.eq_nil_of_length_eq_zero (by rw [list_len]; exact hu0)
        have hr := Lib.hid (show z = true from hz.symm.trans (hv.trans (by rw [hd.1 hnil, decide_eq_true hnn]; rfl)))
        clear hb hz hv hnil ht hd hu hnn
        go_enter Tryz.func67, Tryz.ntmps67
        go_wp2_with fail
        (with_reducible refine (c1 _).mono ?_); rintro e w1 ⟨rfl, rfl⟩
        go_wp2_with fail
        (with_reducible refine (c2 _).mono ?_); rintro e w2 ⟨rfl, b2⟩
        go_wp2
        go_ret
        exact ⟨ret_bool hr.out.symm, b2⟩
      · have he2 := ne_empty (s := u) (by omega)
        have hun : ¬ u.data.toList = [] := by intro e; rw [← list_len u, e] at hu0; exact hu0 rfl
        have hr := Lib.hid (show z = false from hz.symm.trans (hv.trans (by
          have : ¬ (t.data.toList.all (fun b => decide (48 ≤ b.toNat ∧ b.toNat ≤ 57)) = true) := fun h => hun (hd.2 h)
          rw [Bool.not_eq_true] at this
          rw [this, Bool.and_false])))
        clear hb hz hv ht hd hu hnn hun
        go_enter Tryz.func67, Tryz.ntmps67
        go_wp2_with fail
        (with_reducible refine (c1 _).mono ?_); rintro e w1 ⟨rfl, rfl⟩
        go_wp2_with fail
        (with_reducible refine (c2 _).mono ?_); rintro e w2 ⟨rfl, b2⟩
        go_wp2
        go_ret
        exact ⟨ret_bool hr.out.symm, b2⟩

/-! ### isAtDeclaration -/
theorem isSpace_any (c : UInt8) (i : Int) (w : World) (hi : Lib.indexByte [32, 9, 10, 13] c = i) :
    Calls Tryz.prog 63 #[.string ⟨#[32, 9, 10, 13]⟩, .int .u8 (c.toNat : Int)] w fun e w' => e = .returned (.int .i64 i) ∧ w = w' := by
  refine (Tryz.strings_IndexByte ⟨#[32, 9, 10, 13]⟩ (c.toNat : Int) w).mono ?_
  rintro e w' ⟨rfl, rfl⟩
  have e1 : (c.toNat : Int).toNat.toUInt8 = c := by simp
  rw [e1, lit_spaces, hi]
  exact ⟨rfl, rfl⟩

set_option maxHeartbeats 800000 in
theorem isAt_any (b : Nat) (s : ByteArray) (w : World) (h : At b s w) (z : Bool) (hz : T.declares s.data.toList = z) :
    Calls Tryz.prog 35 #[.pointer (some ⟨b, 0, none⟩)] w fun e w' => e = .returned (.bool z) ∧ w = w' := by
  have hc := h.cell
  have hsm := h.small
  clear h
  cases hb : T.begins [60, 63, 120, 109, 108] s.data.toList with
  | false =>
    have c1 := fun w => cutPrefix_no s ⟨#[60, 63, 120, 109, 108]⟩ w hb
    have hr := Lib.hid (show false = z by rw [← hz]; unfold T.declares; rw [hb]; rfl)
    clear hb hz
    go_enter Tryz.func35, Tryz.ntmps35
    go_wp2_with fail
    (with_reducible refine (c1 _).mono ?_); rintro e w1 ⟨rfl, rfl⟩
    go_wp2
    go_ret
    exact ⟨ret_bool hr.out, rfl⟩
  | true =>
    obtain ⟨lt, ht⟩ := T.begins_iff.1 hb
    obtain ⟨t, rfl⟩ := bytes_of lt
    have c1 := fun w => cutPrefix_yes s t ⟨#[60, 63, 120, 109, 108]⟩ w hb (by rw [← ht]; rfl)
    have hd : s.data.toList.drop 5 = t.data.toList := by rw [← ht]; rfl
    by_cases h0 : t.size = 0
    · have he := empty_is h0
      have hnil : t.data.toList = [] := List.eq_nil_of_length_eq_zero (by rw [list_len]; exact h0)
      have hr := Lib.hid (show false = z by rw [← hz]; unfold T.declares; rw [hb, hd, hnil]; rfl)
      clear hb hz hnil ht hd
      go_enter Tryz.func35, Tryz.ntmps35
      go_wp2_with fail
      (with_reducible refine (c1 _).mono ?_); rintro e w1 ⟨rfl, rfl⟩
      go_wp2
      go_ret
      exact ⟨ret_bool hr.out, rfl⟩
    · have he := ne_empty (s := t) (by omega)
      have h0' : 0 < t.size := by omega
      obtain ⟨i, hi⟩ : ∃ i, Lib.indexByte [32, 9, 10, 13] (t[0]'h0') = i := ⟨_, rfl⟩
      have c2 := fun w => isSpace_any (t[0]'h0') i w hi
      have hsp := T.isSpace_index (t[0]'h0').toNat (t[0]'h0').toNat_lt
      rw [UInt8.ofNat_toNat, hi] at hsp
      have hr : decide (0 ≤ i) = z := by
        rw [← hz, hsp]
        unfold T.declares
        rw [hb, hd, drop_zero_cons t h0']
        rfl
      clear hb hz ht hd hi hsp
      have h0i : (0 : Int) < (t.size : Int) := by omega
      by_cases hi0 : (0 : Int) ≤ i
      · have hr2 := Lib.hid ((decide_eq_true hi0).symm.trans hr)
        clear hr
        go_enter Tryz.func35, Tryz.ntmps35
        go_wp2_with fail
        (with_reducible refine (c1 _).mono ?_); rintro e w1 ⟨rfl, rfl⟩
        go_wp2_with fail
        (with_reducible refine (c2 _).mono ?_); rintro e w2 ⟨rfl, rfl⟩
        go_wp2
        go_ret
        exact ⟨ret_bool hr2.out, rfl⟩
      · have hr2 := Lib.hid ((decide_eq_false hi0).symm.trans hr)
        clear hr
        go_enter Tryz.func35, Tryz.ntmps35
        go_wp2_with fail
        (with_reducible refine (c1 _).mono ?_); rintro e w1 ⟨rfl, rfl⟩
        go_wp2_with fail
        (with_reducible refine (c2 _).mono ?_); rintro e w2 ⟨rfl, rfl⟩
        go_wp2
        go_ret
        exact ⟨ret_bool ((decide_eq_false (by omega)).trans hr2.out), rfl⟩
end Go.Proofs.YtcjlhdmekhifaaaGreatDoor
namespace Go.Proofs.YtcjlhdmekhifaaaGreatDoor
open Go.RowKit

namespace T
theorem trim_spaces (l : List UInt8) : Lib.trimS l [32, 9, 10, 13] = [] ↔ Gv.blankText l = true := by
  have e : (fun b : UInt8 => ([32, 9, 10, 13] : List UInt8).contains b) = fun b => G.space (b.toNat : Int) := by
    funext b
    have : ∀ n, n < 256 → ([32, 9, 10, 13] : List UInt8).contains (UInt8.ofNat n) = G.space ((UInt8.ofNat n).toNat : Int) := by decide +kernel
    have := this b.toNat b.toNat_lt
    rwa [UInt8.ofNat_toNat] at this
  unfold Lib.trimS Lib.trimLeftS Lib.trimRightS Gv.blankText
  rw [e, dropWhile_nil, List.all_reverse]
  have h1 := List.takeWhile_append_dropWhile (p := fun b : UInt8 => G.space (b.toNat : Int)) (l := l.reverse)
  have h2 := congrArg (List.all · (fun b : UInt8 => G.space (b.toNat : Int))) h1
  simp only [List.all_append, List.all_reverse] at h2
  rw [← h2]
  have h3 : (List.takeWhile (fun b : UInt8 => G.space (b.toNat : Int)) l.reverse).all (fun b : UInt8 => G.space (b.toNat : Int)) = true := List.all_takeWhile
  rw [h3, Bool.true_and]
end T
theorem trimSpaces_any (s : ByteArray) (w : World) (hs : s.size ≤ 1000000000) :
    Calls Tryz.prog 43 #[.string s, .string ⟨#[32, 9, 10, 13]⟩] w fun e w' => ∃ u : ByteArray, e = .returned (.string u) ∧ (u.toList = [] ↔ Gv.blankText s.data.toList = true) ∧ Below w.heap.size w w' := by
  refine (Any.strings_Trim_laid Tryz.lays160 infoSet s ⟨#[32, 9, 10, 13]⟩ w (by omega) (by decide) (Go.Proofs.ascii_of_all (by decide))).mono ?_
  rintro e w' ⟨rfl, b⟩
  refine ⟨_, rfl, ?_, b⟩
  rw [ByteArray.toList_eq, ← T.trim_spaces]
namespace Gv
theorem shut_none {r : Option Node} {t : T.Tok} (ht : t.kind = 1) : step ⟨[], r⟩ t = .error 90 := by
  unfold step; simp only; rw [if_neg (by rintro ⟨a, _⟩; omega), if_pos (.inl ht)]
theorem shut_bad {o : Open} {os : List Open} {r : Option Node} {t : T.Tok} (ht : t.kind = 1) (h : ¬ t.name = o.tag) : step ⟨o :: os, r⟩ t = .error 90 := by
  unfold step; simp only; rw [if_pos ht, if_neg h]
theorem shut_ok {o : Open} {os : List Open} {r : Option Node} {t : T.Tok} (ht : t.kind = 1) (h : t.name = o.tag) : step ⟨o :: os, r⟩ t = .ok (ended os r o.node) := by
  unfold step; simp only; rw [if_pos ht, if_pos h]
theorem chars_out_bad {r : Option Node} {t : T.Tok} (ht : t.kind = 2) (h : t.alone = true ∨ blankText t.data = false) : step ⟨[], r⟩ t = .error 90 := by
  unfold step; simp only; rw [if_pos ⟨ht, h⟩]
theorem chars_out {r : Option Node} {t : T.Tok} (ht : t.kind = 2) (h1 : t.alone = false) (h2 : blankText t.data = true) : step ⟨[], r⟩ t = .ok ⟨[], r⟩ :=
  step_aside ⟨by omega, by omega, fun _ => ⟨h1, h2⟩, fun e => by omega⟩ r
theorem in_go {o : Open} {os : List Open} {r : Option Node} {t : T.Tok} (h0 : t.kind ≠ 0) (h1 : t.kind ≠ 1) (h4 : t.kind = 4 → G.plain t.name = true) : step ⟨o :: os, r⟩ t = .ok ⟨{ o with kids := grown o.kids (leaf t) } :: os, r⟩ := by
  unfold step; simp only; rw [if_neg h1, if_neg h0, if_neg (by rintro ⟨a, b⟩; rw [h4 a] at b; cases b)]
theorem pi_bad {s : List Open} {r : Option Node} {t : T.Tok} (ht : t.kind = 4) (h : G.plain t.name = false) : step ⟨s, r⟩ t = .error 80 := by
  cases s with
  | nil => unfold step; simp only; rw [if_neg (by rintro ⟨a, _⟩; omega), if_neg (by rintro (a | ⟨a, _⟩) <;> omega), if_pos ⟨ht, h⟩]
  | cons o os => unfold step; simp only; rw [if_neg (by omega), if_neg (by omega), if_pos ⟨ht, h⟩]
theorem aside_out {r : Option Node} {t : T.Tok} (h0 : t.kind ≠ 0) (h1 : t.kind ≠ 1) (h2 : t.kind ≠ 2) (h4 : t.kind = 4 → G.plain t.name = true) : step ⟨[], r⟩ t = .ok ⟨[], r⟩ := step_aside ⟨h0, h1, fun e => absurd e h2, h4⟩ r
end Gv
/-- the parser's stack where nothing is open. -/
theorem PSs.empty {pb : Nat} {r : Option Gv.Node} {w : World} (h : PSs pb ⟨[], r⟩ w) : ∃ so scap, w.cell? ⟨pb, 0, none⟩ = some (.slice so 0 scap) := by
  obtain ⟨es, sv, k, sp, nm, d, va, vk, h1, h2⟩ := h
  have h3 : es = [] := List.map_eq_nil_iff.1 h2
  subst h3
  obtain ⟨so, scap, rfl, _⟩ := h1.shape
  exact ⟨so, scap, h1.box.cell rfl⟩

set_option maxRecDepth 100000 in
set_option maxHeartbeats 3200000 in
theorem endTag_any {pb m : Nat} {st : Gv.St} (t : T.Tok) (w : World) (h : PSs pb st w) (hF : Gv.Fine m st) (hm : m ≤ 200000) (ht : t.kind = 1) :
    Calls Tryz.prog 19 #[.pointer (some ⟨pb, 0, none⟩), .string ⟨t.name.toArray⟩] w (StepTold pb st t w) := by
  obtain ⟨s, root⟩ := st
  cases s with
  | nil =>
    obtain ⟨so, scap, p0⟩ := h.empty
    have hr := Lib.hid (Gv.shut_none (r := root) ht)
    clear h hF ht
    go_enter Tryz.func19, Tryz.ntmps19
    go_wp2_with fail
    (with_reducible refine (top_nil _ p0).mono ?_); rintro x w2 ⟨rfl, rfl⟩
    go_wp2_with fail
    go_ret
    exact stepTold_err hr.out rfl (Below.refl _ _)
  | cons o os =>
    obtain rfl : root = none := hF.lone (by simp)
    have hr1 := fun hx => Lib.hid (Gv.shut_bad (o := o) (os := os) (r := none) ht hx)
    have hr2 := fun hx => Lib.hid (Gv.shut_ok (o := o) (os := os) (r := none) ht hx)
    have hos : os.length ≤ 100 := by have := hF.deep; simp at this; omega
    have hkl : Hid (∀ x ∈ os, x.kids.length ≤ 1000000) := Lib.hid (fun x hx => by have := (hF.kids x (by simp [hx])).1; omega)
    have h' := h
    obtain ⟨es, sv, k, sp, nm, d, va, vk, h1, hes⟩ := h'
    obtain ⟨e, es, rfl⟩ : ∃ a l, es = a :: l := by
      cases es with
      | nil => simp at hes
      | cons a l => exact ⟨a, l, rfl⟩
    simp only [List.map_cons, List.cons.injEq] at hes
    obtain ⟨heo, hel⟩ := hes
    have hln : es.length = os.length := by rw [← hel, List.length_map]
    obtain ⟨g, cap, rfl, hgp, hgl⟩ := h1.svAt
    have p0 := h1.box.cell (i := 0) (v := .slice (some ⟨g, 0, none⟩) (es.length + 1) cap) rfl
    have t0 := h1.top 0 (.string ⟨e.o.tag.toArray⟩) rfl
    rw [heo, hln] at t0
    rw [hln] at p0
    rw [Nat.add_zero] at t0
    replace h := Lib.hid h
    clear h1 hF ht hel hln heo
    go_enter Tryz.func19, Tryz.ntmps19
    go_wp2_with fail
    (with_reducible refine (top_cons _ p0 hos).mono ?_); rintro x w2 ⟨rfl, nq, rfl⟩
    have b2 := below_quiet w nq
    have h2 := Lib.hid (h.out.on b2)
    have hpl : pb ≤ w.heap.size := Nat.le_of_lt (World.block_lt_of_cell? w _ p0)
    have b3 := Lib.hid (b2.mono hpl)
    have t0 : (w.drewN nq).cell? ⟨g, os.length * 8, none⟩ = some (.string ⟨o.tag.toArray⟩) := t0
    clear h p0 b2
    generalize w.drewN nq = W at *
    by_cases hx : t.name = o.tag
    · have hr := hr2 hx
      have g1 : ((⟨o.tag.toArray⟩ : ByteArray).toList != (⟨t.name.toArray⟩ : ByteArray).toList) = false := by rw [hx]; simp
      have g2 : (⟨o.tag.toArray⟩ : ByteArray).toList = (⟨t.name.toArray⟩ : ByteArray).toList := by rw [hx]
      clear hr1 hr2 hx
      generalize (⟨t.name.toArray⟩ : ByteArray) = tn at *
      generalize (⟨o.tag.toArray⟩ : ByteArray) = tg at *
      go_wp2_with fail
      (with_reducible refine (pend_any _ h2.out hos hkl.out).mono ?_); rintro x w7 ⟨rfl, b7, h7⟩
      replace h7 := Lib.hid h7
      go_wp2_with fail
      go_ret
      exact stepTold_ok hr.out (b3.out.trans b7) h7.out
    · have hr := hr1 hx
      have hx2 : ¬ (⟨o.tag.toArray⟩ : ByteArray) = ⟨t.name.toArray⟩ := fun e => hx (by have := congrArg (fun b : ByteArray => b.data.toList) e; simpa using this.symm)
      have g1 : (!(⟨o.tag.toArray⟩ : ByteArray).toList == (⟨t.name.toArray⟩ : ByteArray).toList) = true := sn_ne hx2
      have g2 := sn_prop hx2
      clear hr1 hr2 hx hx2
      generalize (⟨t.name.toArray⟩ : ByteArray) = tn at *
      generalize (⟨o.tag.toArray⟩ : ByteArray) = tg at *
      go_wp2_with fail
      go_ret
      exact stepTold_err hr.out rfl b3.out

namespace Gv
theorem leaf_two {t : T.Tok} (h : t.kind = 2) : leaf t = text ⟨t.data.toArray⟩ := by
  unfold leaf; rw [if_neg (by omega), if_neg (by omega)]; rfl
theorem leaf_three {t : T.Tok} (h : t.kind = 3) : leaf t = .mk 2 ByteArray.empty ByteArray.empty [] [] ⟨t.data.toArray⟩ := by
  unfold leaf; rw [if_pos h]; rfl
theorem leaf_four {t : T.Tok} (h : t.kind = 4) : leaf t = .mk 3 ByteArray.empty ⟨t.name.toArray⟩ [] [] ⟨t.data.toArray⟩ := by
  unfold leaf; rw [if_neg (by omega), if_pos h]; rfl
end Gv
/-- the parser's stack where something is open. -/
theorem PSs.full {pb : Nat} {o : Gv.Open} {os : List Gv.Open} {r : Option Gv.Node} {w : World} (h : PSs pb ⟨o :: os, r⟩ w) : ∃ (e : El) (es : List El) (g cap : Nat) (k : Int) (sp nm d : ByteArray) (va vk : Value), e.o = o ∧ es.map El.o = os ∧ es.length = os.length ∧ PSt pb (e :: es) (.slice (some ⟨g, 0, none⟩) (os.length + 1) cap) k sp nm d va vk r w := by
  obtain ⟨es, sv, k, sp, nm, d, va, vk, h1, hes⟩ := h
  obtain ⟨e, es, rfl⟩ : ∃ a l, es = a :: l := by
    cases es with
    | nil => simp at hes
    | cons a l => exact ⟨a, l, rfl⟩
  simp only [List.map_cons, List.cons.injEq] at hes
  obtain ⟨heo, hel⟩ := hes
  have hln : es.length = os.length := by rw [← hel, List.length_map]
  obtain ⟨g, cap, rfl, _, _⟩ := h1.svAt
  rw [hln] at h1
  exact ⟨e, es, g, cap, k, sp, nm, d, va, vk, heo, hel, hln, h1⟩

set_option maxRecDepth 100000 in
set_option maxHeartbeats 6400000 in
theorem parserCharacters_any {pb m : Nat} {st : Gv.St} (t : T.Tok) (tao : Option Addr) (tl tc : Nat) (w : World) (h : PSs pb st w) (hF : Gv.Fine m st) (hm : m ≤ 200000) (ht : t.kind = 2) (hd : t.data.length ≤ 400000) :
    Calls Tryz.prog 20 #[.pointer (some ⟨pb, 0, none⟩), .agg #[.int .i64 (t.kind : Int), .string ⟨t.name.toArray⟩, .slice tao tl tc, .bool t.alone, .string ⟨t.data.toArray⟩]] w (StepTold pb st t w) := by
  obtain ⟨s, root⟩ := st
  have hds : (⟨t.data.toArray⟩ : ByteArray).size ≤ 400000 := by simpa [ByteArray.size] using hd
  have bA := (Below.refl w.heap.size w).alloc (Nat.le_refl _) (.cells #[.int .i64 (t.kind : Int), .string ⟨t.name.toArray⟩, .slice tao tl tc, .bool t.alone, .string ⟨t.data.toArray⟩] 41)
  have kT := Cells.new w 41 #[.int .i64 (t.kind : Int), .string ⟨t.name.toArray⟩, .slice tao tl tc, .bool t.alone, .string ⟨t.data.toArray⟩]
  have h1 := h.on bA
  cases s with
  | nil =>
    obtain ⟨so, scap, p0⟩ := h1.empty
    have hr1 := fun hx => Lib.hid (Gv.chars_out_bad (r := root) ht hx)
    have hr2 := fun ha hb => Lib.hid (Gv.chars_out (r := root) ht ha hb)
    have hpl : pb ≤ w.heap.size := by
      obtain ⟨_, _, _, _, _, _, _, _, hh, _⟩ := h
      exact Nat.le_of_lt hh.box.lt
    have b1 := Lib.hid (bA.mono hpl)
    replace h1 := Lib.hid h1
    replace ht := Lib.hid ht
    clear h hF bA
    go_enter Tryz.func20, Tryz.ntmps20
    go_wp2_with fail
    (with_reducible refine (top_nil _ p0).mono ?_); rintro x w2 ⟨rfl, rfl⟩
    generalize hW : w.alloc (.cells #[.int .i64 (t.kind : Int), .string ⟨t.name.toArray⟩, .slice tao tl tc, .bool t.alone, .string ⟨t.data.toArray⟩] 41) = W at *
    clear hW p0
    have x3 := kT.cell (i := 3) (v := .bool t.alone) rfl
    have x4 := kT.cell (i := 4) (v := .string ⟨t.data.toArray⟩) rfl
    cases ha : t.alone with
    | true =>
      have hr := hr1 (.inl ha)
      rw [ha] at x3
      clear hr1 hr2 ha kT
      go_wp2_with fail
      go_ret
      exact stepTold_err hr.out rfl b1.out
    | false =>
      rw [ha] at x3
      replace hr1 := fun hx => hr1 (.inr hx)
      replace hr2 := fun hb => hr2 ha hb
      clear ha kT
      generalize hdb : (⟨t.data.toArray⟩ : ByteArray) = db at *
      have hdt : Hid (db.data.toList = t.data) := Lib.hid (by rw [← hdb])
      clear hdb
      go_wp2_with fail
      (with_reducible refine (trimSpaces_any db _ (by omega)).mono ?_); rintro x w3 ⟨u, rfl, hu, b3⟩
      have h3 := Lib.hid (h1.out.on b3)
      have b4 := Lib.hid (b1.out.trans (b3.mono (by
        obtain ⟨_, _, _, _, _, _, _, _, hh, _⟩ := h1.out
        exact Nat.le_of_lt hh.box.lt)))
      rw [hdt.out] at hu
      cases hb : Gv.blankText t.data with
      | true =>
        have hr := hr2 hb
        have g1 : u.toList = [] := hu.2 hb
        clear hr1 hr2 hb hu
        go_wp2_with fail
        go_ret
        exact stepTold_ok hr.out b4.out h3.out
      | false =>
        have hr := hr1 hb
        have g1 : ¬ u.toList = [] := fun e => by have := hu.1 e; rw [hb] at this; cases this
        have g2 : u.toList.isEmpty = false := by simpa using g1
        clear hr1 hr2 hb hu
        go_wp2_with fail
        go_ret
        exact stepTold_err hr.out rfl b4.out
  | cons o os =>
    obtain rfl : root = none := hF.lone (by simp)
    have hr := Lib.hid (Gv.in_go (o := o) (os := os) (r := none) (t := t) (by omega) (by omega) (fun e => by omega))
    rw [Gv.leaf_two ht] at hr
    obtain ⟨e, es, g, cap, k, sp, nm, d, va, vk, rfl, rfl, hln, h2⟩ := h1.full
    have hos : (es.map El.o).length ≤ 100 := by have := hF.deep; simp at this ⊢; omega
    obtain ⟨hk1, hk2⟩ := hF.kids e.o (by simp)
    have hk3 : e.o.kids.length ≤ 1000000 := by omega
    have hk4 : Hid (∀ x, e.o.kids.getLast? = some x → x.kind = 1 → x = Gv.text x.data ∧ x.data.size ≤ 1000000000000) := Lib.hid (fun x hx h1 => by
      obtain ⟨a, b⟩ := hk2 x hx h1
      refine ⟨a, Nat.le_trans b ?_⟩
      have := Nat.mul_le_mul_right 400000 hm
      omega)
    have hpl : pb ≤ w.heap.size := by
      obtain ⟨_, _, _, _, _, _, _, _, hh, _⟩ := h
      exact Nat.le_of_lt hh.box.lt
    have b1 := Lib.hid (bA.mono hpl)
    have p0 := h2.box.cell (i := 0) (v := .slice (some ⟨g, 0, none⟩) ((es.map El.o).length + 1) cap) rfl
    replace h2 := Lib.hid h2
    replace ht := Lib.hid ht
    replace hln := Lib.hid hln
    generalize (es.map El.o).length = L at *
    clear h h1 hF bA hk1 hk2
    go_enter Tryz.func20, Tryz.ntmps20
    go_wp2_with fail
    (with_reducible refine (top_cons _ p0 hos).mono ?_); rintro x w2 ⟨rfl, nq, rfl⟩
    have bq := below_quiet (w.alloc (.cells #[.int .i64 (t.kind : Int), .string ⟨t.name.toArray⟩, .slice tao tl tc, .bool t.alone, .string ⟨t.data.toArray⟩] 41)) nq
    have h3 := Lib.hid (h2.out.on bq)
    have b3 := Lib.hid (b1.out.trans (bq.mono (Nat.le_of_lt h2.out.box.lt)))
    have x4 := (kT.drewN nq).cell (i := 4) (v := .string ⟨t.data.toArray⟩) rfl
    clear h2 b1 bq p0 kT
    generalize hW : (w.alloc (.cells #[.int .i64 (t.kind : Int), .string ⟨t.name.toArray⟩, .slice tao tl tc, .bool t.alone, .string ⟨t.data.toArray⟩] 41)).drewN nq = W at *
    clear hW
    have hadd := addText_any (es := es) (e := e) ⟨t.data.toArray⟩ W h3.out hk3 (by omega) hk4.out
    rw [hln.out] at hadd
    replace hadd := Lib.hid hadd
    generalize (⟨t.data.toArray⟩ : ByteArray) = db at *
    go_wp2_with fail
    (with_reducible refine hadd.out.mono ?_); rintro x w7 ⟨rfl, b7, vk2, h7⟩
    have h8 : Hid (PSs pb ⟨{ e.o with kids := Gv.grown e.o.kids (Gv.text db) } :: es.map El.o, none⟩ w7) := Lib.hid ⟨_, _, _, _, _, _, _, _, h7, rfl⟩
    clear h7 h3
    go_wp2_with fail
    go_ret
    exact stepTold_ok hr.out (b3.out.trans b7) h8.out
end Go.Proofs.YtcjlhdmekhifaaaGreatDoor
