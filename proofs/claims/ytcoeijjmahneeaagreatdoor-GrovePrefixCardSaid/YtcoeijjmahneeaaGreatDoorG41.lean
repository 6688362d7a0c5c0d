/-
  What the reader's word of characters comes to.
  What the reader's word of an attribute comes to.
-/
import Derived.Test.YtcoeijjmahneeaaGreatDoorG40
import Derived.BigQuiet
namespace Go.Proofs.YtcoeijjmahneeaaGreatDoor
open Go.RowKit

/-- What stands ahead of the first such byte. -/
theorem index_take (c : UInt8) : ∀ l : List UInt8, Lib.indexByte l c = if c ∈ l then ((l.takeWhile (· ≠ c)).length : Int) else -1
  | [] => by simp [Lib.indexByte]
  | b :: t => by
    have ih := index_take c t
    unfold Lib.indexByte
    by_cases hb : b = c
    · subst hb; simp
    · have h1 : (b == c) = false := by simpa using hb
      rw [h1, ih]
      by_cases hc : c ∈ t
      · have h2 : c ∈ b :: t := List.mem_cons_of_mem _ hc
        simp [hc, h2, hb]
      · have h2 : ¬ c ∈ b :: t := by simp [hc, Ne.symm hb]
        rw [if_neg hc, if_neg h2]
        rfl
theorem take_all {c : UInt8} : ∀ {l : List UInt8}, c ∉ l → l.takeWhile (· ≠ c) = l ∧ l.dropWhile (· ≠ c) = []
  | [], _ => ⟨rfl, rfl⟩
  | b :: t, h => by
    have hb : b ≠ c := by rintro rfl; exact h (by simp)
    obtain ⟨i1, i2⟩ := take_all (c := c) (l := t) (fun h2 => h (List.mem_cons_of_mem _ h2))
    rw [List.takeWhile_cons, List.dropWhile_cons, if_pos (decide_eq_true hb), if_pos (decide_eq_true hb), i1, i2]
    exact ⟨rfl, rfl⟩
theorem take_len (c : UInt8) (l : List UInt8) : l.takeWhile (· ≠ c) = l.take (l.takeWhile (· ≠ c)).length ∧ l.dropWhile (· ≠ c) = l.drop (l.takeWhile (· ≠ c)).length := by
  have h := List.takeWhile_append_dropWhile (p := fun b : UInt8 => decide (b ≠ c)) (l := l)
  have h1 := congrArg (List.take (l.takeWhile (fun b : UInt8 => decide (b ≠ c))).length) h
  have h2 := congrArg (List.drop (l.takeWhile (fun b : UInt8 => decide (b ≠ c))).length) h
  rw [List.take_left] at h1
  rw [List.drop_left] at h2
  exact ⟨h1, h2⟩

theorem contains_any (s p : ByteArray) (w : World) (hs : s.size ≤ 1000000) (hE : Env w) (hp : p.data.toList ≠ []) (c : Bool) (hc : (T.cutAt p.data.toList s.data.toList).isSome = c) :
    Calls Tryz.prog 93 #[.string s, .string p] w fun e w' => e = .returned (.bool c) ∧ w = w' := by
  obtain ⟨m, hm⟩ := hE.most
  refine (Tryz.strings_Contains s p m w (by omega) hm).mono ?_
  rintro e w' ⟨rfl, rfl⟩
  rw [contains_cut hp, hc]
  exact ⟨rfl, rfl⟩
theorem cut_one (c : UInt8) : ∀ l : List UInt8, (T.cutAt [c] l).isSome = decide (c ∈ l)
  | [] => by simp [T.cutAt]
  | b :: t => by
    have ih := cut_one c t
    unfold T.cutAt
    by_cases hb : b = c
    · subst hb
      rw [if_pos (T.begins_cons _ _)]
      simp
    · rw [if_neg (by rw [T.begins_not t hb]; decide), Option.isSome_map, ih]
      simp [Ne.symm hb]

theorem index_yes (s : ByteArray) (k : Nat) (w : World) (h : 60 ∈ s.data.toList) (hk : (s.data.toList.takeWhile (· ≠ 60)).length = k) :
    Calls Tryz.prog 67 #[.string s, .int .u8 60] w fun e w' => e = .returned (.int .i64 (k : Int)) ∧ w = w' := by
  refine (Tryz.strings_IndexByte s 60 w).mono ?_
  rintro e w' ⟨rfl, rfl⟩
  have e1 : (60 : Int).toNat.toUInt8 = 60 := rfl
  rw [e1, index_take, if_pos h, hk]
  exact ⟨rfl, rfl⟩
theorem index_no (s : ByteArray) (w : World) (h : ¬ 60 ∈ s.data.toList) :
    Calls Tryz.prog 67 #[.string s, .int .u8 60] w fun e w' => e = .returned (.int .i64 (-1)) ∧ w = w' := by
  refine (Tryz.strings_IndexByte s 60 w).mono ?_
  rintro e w' ⟨rfl, rfl⟩
  have e1 : (60 : Int).toNat.toUInt8 = 60 := rfl
  rw [e1, index_take, if_neg h]
  exact ⟨rfl, rfl⟩
theorem expand_yes (attr : Bool) (s d : ByteArray) (h : E.expand attr s.data.toList = some d.data.toList) : E.expA attr s = d ∧ E.expE attr s = 0 := by
  obtain ⟨e1, e2⟩ := E.exp_some h
  exact ⟨e1, e2⟩

set_option maxRecDepth 100000 in
set_option maxHeartbeats 1600000 in
theorem characters_any (b : Nat) (s : ByteArray) (w : World) (h : At b s w) :
    Calls Tryz.prog 79 #[.pointer (some ⟨b, 0, none⟩)] w (Ans b w (T.text s.data.toList)) := by
  have g0 := World.grownBy_alloc w (.cells #[.int .i64 0, .string ⟨#[]⟩, .slice none 0 0, .bool false, .string ⟨#[]⟩] 44) (some b)
  have hA := h.below ((Below.refl w.heap.size w).alloc (Nat.le_refl _) (.cells #[.int .i64 0, .string ⟨#[]⟩, .slice none 0 0, .bool false, .string ⟨#[]⟩] 44))
  have bx := Box5.new w
  have hb := h.lt
  have hsm := h.small
  have hne : some w.heap.size ≠ some b := by simp; omega
  clear h
  have hcell := hA.cell
  have hfree := hA.free
  by_cases h60 : 60 ∈ s.data.toList
  · obtain ⟨k, hk⟩ : ∃ k, (s.data.toList.takeWhile (· ≠ 60)).length = k := ⟨_, rfl⟩
    have hraw : (s.extract 0 k).data.toList = s.data.toList.takeWhile (· ≠ 60) := by rw [take_list, (take_len 60 s.data.toList).1, hk]
    have htl : (s.extract k s.size).data.toList = s.data.toList.dropWhile (· ≠ 60) := by rw [drop_list, (take_len 60 s.data.toList).2, hk]
    have hks : k ≤ s.size := by
      have := (List.takeWhile_sublist (fun b : UInt8 => decide (b ≠ 60)) (l := s.data.toList)).length_le
      rw [list_len] at this
      omega
    have c1 := fun w => index_yes s k w h60 hk
    clear h60 hk
    have hts : ((s.extract k s.size) : ByteArray).size ≤ 1000000 := by simp; omega
    have hrs : ((s.extract 0 k) : ByteArray).size ≤ 1000000 := by simp; omega
    have hP : ∀ n, At b (s.extract k s.size) (((w.alloc (.cells #[.int .i64 0, .string ⟨#[]⟩, .slice none 0 0, .bool false, .string ⟨#[]⟩] 44)).drewN n).setCell ⟨b, 0, none⟩ (.string (s.extract k s.size))) := fun n => (hA.below (below_drewN (Below.refl _ _) n)).put hts
    have gP : ∀ n, w.grownBy (((w.alloc (.cells #[.int .i64 0, .string ⟨#[]⟩, .slice none 0 0, .bool false, .string ⟨#[]⟩] 44)).drewN n).setCell ⟨b, 0, none⟩ (.string (s.extract k s.size))) (some b) := fun n => grown_set (g0.trans (grown_of_below (below_drewN (Below.refl _ _) n) (some b))) _
    have bP : ∀ n, Box5 (((w.alloc (.cells #[.int .i64 0, .string ⟨#[]⟩, .slice none 0 0, .bool false, .string ⟨#[]⟩] 44)).drewN n).setCell ⟨b, 0, none⟩ (.string (s.extract k s.size))) w.heap.size (.int .i64 0) (.string ⟨#[]⟩) (.slice none 0 0) (.bool false) (.string ⟨#[]⟩) := fun n => bx.on (grown_set (grown_of_below (below_drewN (Below.refl _ _) n) (some b)) _) hne
    cases hb2 : (T.cutAt [93, 93, 62] (s.extract 0 k).data.toList).isSome with
    | true =>
      have hr := Lib.hid (T.text_bad (l := s.data.toList) (by rw [← hraw]; exact hb2))
      have c2 := fun w (h : At b (s.extract k s.size) w) => contains_any (s.extract 0 k) ⟨#[93, 93, 62]⟩ w hrs h.env (by simp) true hb2
      clear hb2 bx bP hraw htl
      go_enter Tryz.func79, Tryz.ntmps79
      go_wp2_with fail
      (with_reducible refine (c1 _).mono ?_); rintro e w1 ⟨rfl, rfl⟩
      generalize w.alloc (.cells #[.int .i64 0, .string ⟨#[]⟩, .slice none 0 0, .bool false, .string ⟨#[]⟩] 44) = W1 at *
      go_wp2
      go_quiet (fail)
      go_wp2_with fail
      (with_reducible refine (c2 _ (hP _)).mono ?_); rintro e w2 ⟨rfl, rfl⟩
      go_wp2_with fail
      (with_reducible refine (insist_no _).mono ?_); rintro e w3 ⟨rfl, rfl⟩
      exact ⟨rfl, ans_no hr.out (gP _)⟩
    | false =>
      have c2 := fun w (h : At b (s.extract k s.size) w) => contains_any (s.extract 0 k) ⟨#[93, 93, 62]⟩ w hrs h.env (by simp) false hb2
      cases he : E.expand false (s.extract 0 k).data.toList with
      | none =>
        have hr := Lib.hid (T.text_ref (l := s.data.toList) (by rw [← hraw]; exact hb2) (by rw [← hraw]; exact he))
        have c3 := fun w (h : At b (s.extract k s.size) w) => eExpand_any (s.extract 0 k) w hrs h.env
        rw [(E.exp_none he).1, (E.exp_none he).2] at c3
        clear hb2 he bx bP hraw htl
        go_enter Tryz.func79, Tryz.ntmps79
        go_wp2_with fail
        (with_reducible refine (c1 _).mono ?_); rintro e w1 ⟨rfl, rfl⟩
        generalize w.alloc (.cells #[.int .i64 0, .string ⟨#[]⟩, .slice none 0 0, .bool false, .string ⟨#[]⟩] 44) = W1 at *
        go_wp2
        go_quiet (fail)
        go_wp2_with fail
        (with_reducible refine (c2 _ (hP _)).mono ?_); rintro e w2 ⟨rfl, rfl⟩
        go_wp2_with fail
        (with_reducible refine (insist_yes _).mono ?_); rintro e w3 ⟨rfl, rfl⟩
        go_wp2_with fail
        (with_reducible refine (c3 _ (hP _)).mono ?_); rintro e w4 ⟨rfl, b4⟩
        go_wp2_with fail
        (with_reducible refine (meant_no _ _).mono ?_); rintro e w5 ⟨rfl, rfl⟩
        exact ⟨rfl, ans_no hr.out (grown_then (gP _) b4)⟩
      | some u =>
        obtain ⟨d, rfl⟩ := bytes_of u
        have hr : T.text s.data.toList = .ok (⟨2, [], [], decide (38 ∈ (s.extract 0 k).data.toList), d.data.toList⟩, ((s.extract k s.size) : ByteArray).data.toList) := by
          have := T.text_ok (l := s.data.toList) (d := d.data.toList) (by rw [← hraw]; exact hb2) (by rw [← hraw]; exact he)
          rw [← hraw, ← htl] at this
          exact this
        replace hr := Lib.hid hr
        have c3 := fun w (h : At b (s.extract k s.size) w) => eExpand_any (s.extract 0 k) w hrs h.env
        rw [(expand_yes _ _ _ he).1, (expand_yes _ _ _ he).2] at c3
        have c4 := fun w (h : At b (s.extract k s.size) w) => contains_any (s.extract 0 k) ⟨#[38]⟩ w hrs h.env (by simp) _ (cut_one 38 (s.extract 0 k).data.toList)
        clear hb2 he bx hraw htl
        go_enter Tryz.func79, Tryz.ntmps79
        go_wp2_with fail
        (with_reducible refine (c1 _).mono ?_); rintro e w1 ⟨rfl, rfl⟩
        generalize w.alloc (.cells #[.int .i64 0, .string ⟨#[]⟩, .slice none 0 0, .bool false, .string ⟨#[]⟩] 44) = W1 at *
        go_wp2
        go_quiet (fail)
        go_wp2_with fail
        (with_reducible refine (c2 _ (hP _)).mono ?_); rintro e w2 ⟨rfl, rfl⟩
        go_wp2_with fail
        (with_reducible refine (insist_yes _).mono ?_); rintro e w3 ⟨rfl, rfl⟩
        go_wp2_with fail
        (with_reducible refine (c3 _ (hP _)).mono ?_); rintro e w4 ⟨rfl, b4⟩
        go_wp2_with fail
        (with_reducible refine (meant_yes _ _).mono ?_); rintro e w5 ⟨rfl, rfl⟩
        have h4 := (hP _).below b4
        have g4 := grown_then (gP _) b4
        have bA := (bP _).on (grown_of_below b4 (some b)) hne
        go_wp2_with fail
        (with_reducible refine (c4 _ h4).mono ?_); rintro e w6 ⟨rfl, rfl⟩
        have d0 := bA.c0
        have d1 := bA.c1
        have d2 := bA.c2
        have d3 := bA.c3
        have d4 := bA.c4
        have f0 := bA.free 0
        have f1 := bA.free 1
        have f2 := bA.free 2
        have f3 := bA.free 3
        have f4 := bA.free 4
        replace bA := Lib.hid bA
        clear bP hP gP
        generalize hq : decide (38 ∈ (s.extract 0 k).data.toList) = q at *
        go_wp2_with fail
        exact tok_end rfl rfl (bA.out.set _ _ _ _ _) (ans_plain hr.out rfl h4 g4 hb rfl)
  · have hraw : s.data.toList = s.data.toList.takeWhile (· ≠ 60) := (take_all h60).1.symm
    have htl : (⟨#[]⟩ : ByteArray).data.toList = s.data.toList.dropWhile (· ≠ 60) := (take_all h60).2.symm
    have c1 := fun w => index_no s w h60
    clear h60
    have hts : (⟨#[]⟩ : ByteArray).size ≤ 1000000 := by decide
    have hrs := hsm
    have hP : At b ⟨#[]⟩ ((w.alloc (.cells #[.int .i64 0, .string ⟨#[]⟩, .slice none 0 0, .bool false, .string ⟨#[]⟩] 44)).setCell ⟨b, 0, none⟩ (.string ⟨#[]⟩)) := hA.put hts
    have gP : w.grownBy ((w.alloc (.cells #[.int .i64 0, .string ⟨#[]⟩, .slice none 0 0, .bool false, .string ⟨#[]⟩] 44)).setCell ⟨b, 0, none⟩ (.string ⟨#[]⟩)) (some b) := grown_set g0 _
    have bP : Box5 ((w.alloc (.cells #[.int .i64 0, .string ⟨#[]⟩, .slice none 0 0, .bool false, .string ⟨#[]⟩] 44)).setCell ⟨b, 0, none⟩ (.string ⟨#[]⟩)) w.heap.size (.int .i64 0) (.string ⟨#[]⟩) (.slice none 0 0) (.bool false) (.string ⟨#[]⟩) := bx.on (grown_set (grown_refl _ (some b)) _) hne
    cases hb2 : (T.cutAt [93, 93, 62] s.data.toList).isSome with
    | true =>
      have hr := Lib.hid (T.text_bad (l := s.data.toList) (by rw [← hraw]; exact hb2))
      have c2 := fun w (h : At b ⟨#[]⟩ w) => contains_any s ⟨#[93, 93, 62]⟩ w hrs h.env (by simp) true hb2
      clear hb2 bx bP hraw htl
      go_enter Tryz.func79, Tryz.ntmps79
      go_wp2_with fail
      (with_reducible refine (c1 _).mono ?_); rintro e w1 ⟨rfl, rfl⟩
      generalize w.alloc (.cells #[.int .i64 0, .string ⟨#[]⟩, .slice none 0 0, .bool false, .string ⟨#[]⟩] 44) = W1 at *
      go_wp2_with fail
      (with_reducible refine (c2 _ (hP )).mono ?_); rintro e w2 ⟨rfl, rfl⟩
      go_wp2_with fail
      (with_reducible refine (insist_no _).mono ?_); rintro e w3 ⟨rfl, rfl⟩
      exact ⟨rfl, ans_no hr.out (gP )⟩
    | false =>
      have c2 := fun w (h : At b ⟨#[]⟩ w) => contains_any s ⟨#[93, 93, 62]⟩ w hrs h.env (by simp) false hb2
      cases he : E.expand false s.data.toList with
      | none =>
        have hr := Lib.hid (T.text_ref (l := s.data.toList) (by rw [← hraw]; exact hb2) (by rw [← hraw]; exact he))
        have c3 := fun w (h : At b ⟨#[]⟩ w) => eExpand_any s w hrs h.env
        rw [(E.exp_none he).1, (E.exp_none he).2] at c3
        clear hb2 he bx bP hraw htl
        go_enter Tryz.func79, Tryz.ntmps79
        go_wp2_with fail
        (with_reducible refine (c1 _).mono ?_); rintro e w1 ⟨rfl, rfl⟩
        generalize w.alloc (.cells #[.int .i64 0, .string ⟨#[]⟩, .slice none 0 0, .bool false, .string ⟨#[]⟩] 44) = W1 at *
        go_wp2_with fail
        (with_reducible refine (c2 _ (hP )).mono ?_); rintro e w2 ⟨rfl, rfl⟩
        go_wp2_with fail
        (with_reducible refine (insist_yes _).mono ?_); rintro e w3 ⟨rfl, rfl⟩
        go_wp2_with fail
        (with_reducible refine (c3 _ (hP )).mono ?_); rintro e w4 ⟨rfl, b4⟩
        go_wp2_with fail
        (with_reducible refine (meant_no _ _).mono ?_); rintro e w5 ⟨rfl, rfl⟩
        exact ⟨rfl, ans_no hr.out (grown_then (gP ) b4)⟩
      | some u =>
        obtain ⟨d, rfl⟩ := bytes_of u
        have hr : T.text s.data.toList = .ok (⟨2, [], [], decide (38 ∈ s.data.toList), d.data.toList⟩, (⟨#[]⟩ : ByteArray).data.toList) := by
          have := T.text_ok (l := s.data.toList) (d := d.data.toList) (by rw [← hraw]; exact hb2) (by rw [← hraw]; exact he)
          rw [← hraw, ← htl] at this
          exact this
        replace hr := Lib.hid hr
        have c3 := fun w (h : At b ⟨#[]⟩ w) => eExpand_any s w hrs h.env
        rw [(expand_yes _ _ _ he).1, (expand_yes _ _ _ he).2] at c3
        have c4 := fun w (h : At b ⟨#[]⟩ w) => contains_any s ⟨#[38]⟩ w hrs h.env (by simp) _ (cut_one 38 s.data.toList)
        clear hb2 he bx hraw htl
        go_enter Tryz.func79, Tryz.ntmps79
        go_wp2_with fail
        (with_reducible refine (c1 _).mono ?_); rintro e w1 ⟨rfl, rfl⟩
        generalize w.alloc (.cells #[.int .i64 0, .string ⟨#[]⟩, .slice none 0 0, .bool false, .string ⟨#[]⟩] 44) = W1 at *
        go_wp2_with fail
        (with_reducible refine (c2 _ (hP )).mono ?_); rintro e w2 ⟨rfl, rfl⟩
        go_wp2_with fail
        (with_reducible refine (insist_yes _).mono ?_); rintro e w3 ⟨rfl, rfl⟩
        go_wp2_with fail
        (with_reducible refine (c3 _ (hP )).mono ?_); rintro e w4 ⟨rfl, b4⟩
        go_wp2_with fail
        (with_reducible refine (meant_yes _ _).mono ?_); rintro e w5 ⟨rfl, rfl⟩
        have h4 := (hP ).below b4
        have g4 := grown_then (gP ) b4
        have bA := (bP ).on (grown_of_below b4 (some b)) hne
        go_wp2_with fail
        (with_reducible refine (c4 _ h4).mono ?_); rintro e w6 ⟨rfl, rfl⟩
        have d0 := bA.c0
        have d1 := bA.c1
        have d2 := bA.c2
        have d3 := bA.c3
        have d4 := bA.c4
        have f0 := bA.free 0
        have f1 := bA.free 1
        have f2 := bA.free 2
        have f3 := bA.free 3
        have f4 := bA.free 4
        replace bA := Lib.hid bA
        clear bP hP gP
        generalize hq : decide (38 ∈ s.data.toList) = q at *
        go_wp2_with fail
        exact tok_end rfl rfl (bA.out.set _ _ _ _ _) (ans_plain hr.out rfl h4 g4 hb rfl)
end Go.Proofs.YtcoeijjmahneeaaGreatDoor
namespace Go.Proofs.YtcoeijjmahneeaaGreatDoor
open Go.RowKit

/-- A box of two cells. -/
def Box2 (w : World) (k : Nat) (x0 x1 : Value) : Prop := w.heap[k]? = some (.cells #[x0, x1] 88 (0, 0))
theorem Box2.lt {w : World} {k : Nat} {x0 x1 : Value} (h : Box2 w k x0 x1) : k < w.heap.size := (Array.getElem?_eq_some_iff.1 h).1
theorem Box2.on {w w' : World} {k : Nat} {x0 x1 : Value} (h : Box2 w k x0 x1) {row : Option Nat} (hg : w.grownBy w' row) (hne : some k ≠ row) : Box2 w' k x0 x1 := (hg.block k h.lt hne).trans h
theorem Box2.c0 {w : World} {k : Nat} {x0 x1 : Value} (h : Box2 w k x0 x1) : w.cell? ⟨k, 0, none⟩ = some x0 := by unfold World.cell?; rw [show w.heap[k]? = _ from h]; rfl
theorem Box2.c1 {w : World} {k : Nat} {x0 x1 : Value} (h : Box2 w k x0 x1) : w.cell? ⟨k, 1, none⟩ = some x1 := by unfold World.cell?; rw [show w.heap[k]? = _ from h]; rfl
theorem Box2.free {w : World} {k : Nat} {x0 x1 : Value} (h : Box2 w k x0 x1) (i : Nat) : w.frozen? ⟨k, i, none⟩ = false := by simp [World.frozen?, show w.heap[k]? = _ from h]
def set2 (w : World) (k : Nat) (x0 x1 : Value) : World := (w.setCell ⟨k, 0, none⟩ x0).setCell ⟨k, 1, none⟩ x1
theorem Box2.set {w : World} {k : Nat} {x0 x1 : Value} (h : Box2 w k x0 x1) (y0 y1 : Value) : Box2 (set2 w k y0 y1) k y0 y1 := by
  have := box_set (box_set (show w.heap[k]? = _ from h) 0 y0) 1 y1
  exact this
theorem grown_set2 (w : World) (k : Nat) (x0 x1 : Value) : w.grownBy (set2 w k x0 x1) (some k) := (grown_setAny w k 0 x0).trans (grown_setAny _ k 1 x1)
theorem Box2.new (w : World) : Box2 (w.alloc (.cells #[.string ⟨#[]⟩, .string ⟨#[]⟩] 88)) w.heap.size (.string ⟨#[]⟩) (.string ⟨#[]⟩) := heap_alloc_new w _
theorem pair_end {fn : Func} (hres : fn.results = #[.cell 2 88]) {R : Ending → World → Prop} {tmps : Array Value} {w : World} {k : Nat} {x0 x1 : Value} (h2 : tmps[2]? = some (.pointer (some ⟨k, 0, none⟩)))
    (hb : Box2 w k x0 x1) (hR : R (.returned (.agg #[x0, x1])) w) : bodyPost Tryz.prog fn R .ret { tmps := tmps, defers := [] } w := by
  refine ⟨rfl, _, ?_, hR⟩
  have l2 : 2 < tmps.size := (Array.getElem?_eq_some_iff.1 h2).1
  have g2 : tmps[2] = .pointer (some ⟨k, 0, none⟩) := (Array.getElem?_eq_some_iff.1 h2).2
  have c0 := hb.c0
  have c1 := hb.c1
  simp [results, hres, go_sem, l2, g2, c0, c1]

/-- What the word of an attribute answers. -/
def AnsP (b : Nat) (w : World) (g : Except Nat ((List UInt8 × List UInt8) × List UInt8)) (e : Ending) (w' : World) : Prop :=
  match g with
  | .ok x => ∃ n v t : ByteArray, n.data.toList = x.1.1 ∧ v.data.toList = x.1.2 ∧ t.data.toList = x.2 ∧ n.size ≤ 1000000 ∧ e = .returned (.agg #[.string n, .string v]) ∧ At b t w' ∧ w.grownBy w' (some b)
  | .error n => Tossed b w (n : Int) e w'
theorem ansP_no {b : Nat} {w wn : World} {g : Except Nat ((List UInt8 × List UInt8) × List UInt8)} {n : Nat} (hg : g = .error n) (gr : w.grownBy wn (some b)) : AnsP b w g (.panicked (tossed n)) wn := by
  subst hg; exact ⟨rfl, gr⟩
theorem ansP_ok {b : Nat} {w wn : World} {g : Except Nat ((List UInt8 × List UInt8) × List UInt8)} {n v t : ByteArray} (hg : g = .ok ((n.data.toList, v.data.toList), t.data.toList)) (hn : n.size ≤ 1000000) (hA : At b t wn) (gr : w.grownBy wn (some b)) (hb : b < w.heap.size) :
    AnsP b w g (.returned (.agg #[.string n, .string v])) (set2 wn w.heap.size (.string n) (.string v)) := by
  subst hg
  exact ⟨n, v, t, rfl, rfl, rfl, hn, rfl, hA.other (grown_set2 _ _ _ _) (by simp; omega) (fun k e => by cases e; omega), gr.andThen (grown_set2 _ _ _ _) (fun j e => by cases e; exact .inl (Nat.le_refl _))⟩

theorem cut_lt (l : List UInt8) : (T.cutAt [60] l).isSome = decide (60 ∈ l) := cut_one 60 l
theorem given_small {s v t : ByteArray} (h : T.given s.data.toList = some (v.data.toList, t.data.toList)) (hs : s.size ≤ 1000000) : v.size ≤ 1000000 := by
  obtain ⟨t1, t2, q, h1, h2, _, h4⟩ := T.given_some h
  have e1 := T.skip_le s.data.toList
  have e2 := T.skip_le t1
  have e3 := congrArg List.length (T.cutAt_eq h4)
  rw [h1] at e1
  rw [h2] at e2
  simp only [List.length_append, List.length_cons, list_len] at e1 e2 e3
  omega

set_option maxRecDepth 100000 in
set_option maxHeartbeats 1600000 in
theorem attribute_any (b : Nat) (s : ByteArray) (w : World) (h : At b s w) :
    Calls Tryz.prog 112 #[.pointer (some ⟨b, 0, none⟩)] w (AnsP b w (T.attr s.data.toList)) := by
  have g0 := World.grownBy_alloc w (.cells #[.string ⟨#[]⟩, .string ⟨#[]⟩] 88) (some b)
  have hA := h.below ((Below.refl w.heap.size w).alloc (Nat.le_refl _) (.cells #[.string ⟨#[]⟩, .string ⟨#[]⟩] 88))
  have bx := Box2.new w
  have hb := h.lt
  have hsm := h.small
  have hne : some w.heap.size ≠ some b := by simp; omega
  clear h
  cases hn : T.nameAt s.data.toList with
  | none =>
    have hr := Lib.hid (T.attr_noname hn)
    have c1 := fun w h => name_no b s w h hn
    clear hn
    go_enter Tryz.func112, Tryz.ntmps112
    go_wp2_with fail
    (with_reducible refine (c1 _ hA).mono ?_); rintro e w1 ⟨rfl, g1⟩
    exact ⟨rfl, ansP_no hr.out (g0.trans g1)⟩
  | some x =>
    obtain ⟨ln, lr⟩ := x
    obtain ⟨n, rfl⟩ := bytes_of ln
    obtain ⟨s1, rfl⟩ := bytes_of lr
    have hns := name_small hn hsm
    have hs1 := (name_parts hn).2.2.2
    have c1 := fun w h => name_ok b s n s1 w h hn
    cases hg : T.given s1.data.toList with
    | none =>
      have hr := Lib.hid (T.attr_nogiven hn hg)
      have c2 := fun w h => given_no b s1 w h hg
      clear hn hg
      go_enter Tryz.func112, Tryz.ntmps112
      go_wp2_with fail
      (with_reducible refine (c1 _ hA).mono ?_); rintro e w1 ⟨rfl, h1, g1⟩
      go_wp2_with fail
      (with_reducible refine (c2 _ h1).mono ?_); rintro e w2 ⟨rfl, g2⟩
      exact ⟨rfl, ansP_no hr.out ((g0.trans g1).trans g2)⟩
    | some x =>
      obtain ⟨lq, lt⟩ := x
      obtain ⟨q, rfl⟩ := bytes_of lq
      obtain ⟨t, rfl⟩ := bytes_of lt
      have hqs := given_small hg (by omega)
      have c2 := fun w h => given_ok b s1 q t w h hg
      by_cases h60 : 60 ∈ q.data.toList
      · have hr := Lib.hid (T.attr_lt hn hg h60)
        have c3 := fun w hE => contains_any q ⟨#[60]⟩ w hqs hE (by simp) true ((cut_lt _).trans (decide_eq_true h60))
        clear hn hg h60
        go_enter Tryz.func112, Tryz.ntmps112
        go_wp2_with fail
        (with_reducible refine (c1 _ hA).mono ?_); rintro e w1 ⟨rfl, h1, g1⟩
        go_wp2_with fail
        (with_reducible refine (c2 _ h1).mono ?_); rintro e w2 ⟨rfl, h2, g2⟩
        go_wp2_with fail
        (with_reducible refine (c3 _ h2.env).mono ?_); rintro e w3 ⟨rfl, rfl⟩
        go_wp2_with fail
        (with_reducible refine (insist_no _).mono ?_); rintro e w4 ⟨rfl, rfl⟩
        exact ⟨rfl, ansP_no hr.out ((g0.trans g1).trans g2)⟩
      have c3 := fun w hE => contains_any q ⟨#[60]⟩ w hqs hE (by simp) false ((cut_lt _).trans (decide_eq_false h60))
      cases he : E.expand true q.data.toList with
      | none =>
        have hr := Lib.hid (T.attr_ref hn hg h60 he)
        have c4 := fun w hE => eValue_any q w hqs hE
        rw [(E.exp_none he).1, (E.exp_none he).2] at c4
        clear hn hg h60 he
        go_enter Tryz.func112, Tryz.ntmps112
        go_wp2_with fail
        (with_reducible refine (c1 _ hA).mono ?_); rintro e w1 ⟨rfl, h1, g1⟩
        go_wp2_with fail
        (with_reducible refine (c2 _ h1).mono ?_); rintro e w2 ⟨rfl, h2, g2⟩
        go_wp2_with fail
        (with_reducible refine (c3 _ h2.env).mono ?_); rintro e w3 ⟨rfl, rfl⟩
        go_wp2_with fail
        (with_reducible refine (insist_yes _).mono ?_); rintro e w4 ⟨rfl, rfl⟩
        go_wp2_with fail
        (with_reducible refine (c4 _ h2.env).mono ?_); rintro e w5 ⟨rfl, b5⟩
        have h5 := h2.below b5
        have g5 := grown_of_below b5 (some b)
        go_wp2_with fail
        (with_reducible refine (meant_no _ _).mono ?_); rintro e w6 ⟨rfl, rfl⟩
        exact ⟨rfl, ansP_no hr.out (((g0.trans g1).trans g2).trans g5)⟩
      | some u =>
        obtain ⟨v, rfl⟩ := bytes_of u
        have hr := Lib.hid (T.attr_ok hn hg h60 he)
        have c4 := fun w hE => eValue_any q w hqs hE
        rw [(expand_yes _ _ _ he).1, (expand_yes _ _ _ he).2] at c4
        clear hn hg h60 he
        go_enter Tryz.func112, Tryz.ntmps112
        go_wp2_with fail
        (with_reducible refine (c1 _ hA).mono ?_); rintro e w1 ⟨rfl, h1, g1⟩
        go_wp2_with fail
        (with_reducible refine (c2 _ h1).mono ?_); rintro e w2 ⟨rfl, h2, g2⟩
        go_wp2_with fail
        (with_reducible refine (c3 _ h2.env).mono ?_); rintro e w3 ⟨rfl, rfl⟩
        go_wp2_with fail
        (with_reducible refine (insist_yes _).mono ?_); rintro e w4 ⟨rfl, rfl⟩
        go_wp2_with fail
        (with_reducible refine (c4 _ h2.env).mono ?_); rintro e w5 ⟨rfl, b5⟩
        have h5 := h2.below b5
        have g5 := grown_of_below b5 (some b)
        go_wp2_with fail
        (with_reducible refine (meant_yes _ _).mono ?_); rintro e w6 ⟨rfl, rfl⟩
        have gA := ((g1.trans g2).trans g5)
        have bA := bx.on gA hne
        have d0 := bA.c0
        have d1 := bA.c1
        have f0 := bA.free 0
        have f1 := bA.free 1
        replace bA := Lib.hid bA
        clear bx
        go_wp2_with fail
        exact pair_end rfl rfl (bA.out.set _ _) (ansP_ok hr.out hns h5 (((g0.trans g1).trans g2).trans g5) hb)
end Go.Proofs.YtcoeijjmahneeaaGreatDoor
