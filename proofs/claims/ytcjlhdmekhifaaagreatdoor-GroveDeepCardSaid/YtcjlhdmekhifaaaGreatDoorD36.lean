/-
  What the reader's words of end-tags and instructions come to.
-/
import Derived.Test.YtcjlhdmekhifaaaGreatDoorD35
namespace Go.Proofs.YtcjlhdmekhifaaaGreatDoor
open Go.RowKit

theorem name_small {s v t : ByteArray} (h : T.nameAt s.data.toList = some (v.data.toList, t.data.toList)) (hs : s.size ≤ 1000000) : v.size ≤ 1000000 := by
  unfold T.nameAt at h
  split at h
  · cases h
  · have hh := congrArg Prod.fst (Option.some.inj h)
    dsimp only at hh
    rw [← list_len v, ← hh, List.length_take, list_len]; omega
theorem empty_is {s : ByteArray} (h : s.size = 0) : s.toList.isEmpty = true := by
  have : s.data.toList = [] := List.eq_nil_of_length_eq_zero (by rw [list_len]; exact h)
  rw [ByteArray.toList_eq, this]; rfl

/-- EqualFold with the declaration's name. -/
theorem isXml_any (v : ByteArray) (w : World) (hv : v.size ≤ 1000000) (hE : Env w) (c : Bool) (hc : decide (v.data.toList.map T.lower = [120, 109, 108]) = c) :
    Calls Tryz.prog 69 #[.string v, .string ⟨#[120, 109, 108]⟩] w fun e w' => e = .returned (.bool c) ∧ Below w.heap.size w w' := by
  have h := fold_any v ⟨#[120, 109, 108]⟩ w hv (tame_of (by decide)) hE
  have e : Lib.equalFold v.data.toList (⟨#[120, 109, 108]⟩ : ByteArray).data.toList = c := (T.fold_xml _).trans hc
  rw [e] at h
  exact h
/-- .. with the encoding. -/
theorem isUtf_any (v : ByteArray) (w : World) (hv : v.size ≤ 1000000) (hE : Env w) (c : Bool) (hc : decide (v.data.toList.map T.lower = [117, 116, 102, 45, 56]) = c) :
    Calls Tryz.prog 69 #[.string v, .string ⟨#[85, 84, 70, 45, 56]⟩] w fun e w' => e = .returned (.bool c) ∧ Below w.heap.size w w' := by
  have h := fold_any v ⟨#[85, 84, 70, 45, 56]⟩ w hv (tame_of (by decide)) hE
  have e : Lib.equalFold v.data.toList (⟨#[85, 84, 70, 45, 56]⟩ : ByteArray).data.toList = c := (T.fold_utf _).trans hc
  rw [e] at h
  exact h

set_option maxRecDepth 100000 in
set_option maxHeartbeats 1600000 in
theorem end_any (b : Nat) (s : ByteArray) (w : World) (h : At b s w) :
    Calls Tryz.prog 73 #[.pointer (some ⟨b, 0, none⟩)] w (Ans b w (T.shut s.data.toList)) := by
  have g0 := World.grownBy_alloc w (.cells #[.int .i64 0, .string ⟨#[]⟩, .slice none 0 0, .bool false, .string ⟨#[]⟩] 41) (some b)
  have hA := h.below ((Below.refl w.heap.size w).alloc (Nat.le_refl _) (.cells #[.int .i64 0, .string ⟨#[]⟩, .slice none 0 0, .bool false, .string ⟨#[]⟩] 41))
  have bx := Box5.new w
  have hb := h.lt
  have hsm := h.small
  have hne : some w.heap.size ≠ some b := by simp; omega
  clear h
  cases hn : T.nameAt s.data.toList with
  | none =>
    have hr := Lib.hid (T.shut_none hn)
    have c1 := fun w h => name_no b s w h hn
    clear hn
    go_enter Tryz.func73, Tryz.ntmps73
    go_wp2_with fail
    (with_reducible refine (c1 _ hA).mono ?_); rintro e w1 ⟨rfl, g1⟩
    exact ⟨rfl, ans_no hr.out (g0.trans g1)⟩
  | some x =>
    obtain ⟨ln, lr⟩ := x
    obtain ⟨n, rfl⟩ := bytes_of ln
    obtain ⟨s1, rfl⟩ := bytes_of lr
    obtain ⟨s2, hs2⟩ := bytes_of (T.skip s1.data.toList)
    have c1 := fun w h => name_ok b s n s1 w h hn
    have c2 := fun w h => space_any b s1 s2 w h hs2
    cases hb2 : T.begins [62] s2.data.toList with
    | false =>
      have hr := Lib.hid (T.shut_bad hn (by rw [← hs2]; exact hb2))
      have c3 := fun w h => takes_no b s2 ⟨#[62]⟩ w h hb2
      clear hn hb2 hs2
      go_enter Tryz.func73, Tryz.ntmps73
      go_wp2_with fail
      (with_reducible refine (c1 _ hA).mono ?_); rintro e w1 ⟨rfl, h1, g1⟩
      go_wp2_with fail
      (with_reducible refine (c2 _ h1).mono ?_); rintro e w2 ⟨rfl, h2, g2⟩
      go_wp2_with fail
      (with_reducible refine (c3 _ h2).mono ?_); rintro e w3 ⟨rfl, h3, g3⟩
      go_wp2_with fail
      (with_reducible refine (insist_no _).mono ?_); rintro e w4 ⟨rfl, rfl⟩
      exact ⟨rfl, ans_no hr.out (((g0.trans g1).trans g2).trans g3)⟩
    | true =>
      obtain ⟨l3, h3⟩ := T.begins_one hb2
      obtain ⟨t, rfl⟩ := bytes_of l3
      have hr := Lib.hid (T.shut_ok hn (by rw [← hs2]; exact h3))
      have c3 := fun w h => takes_yes b s2 t ⟨#[62]⟩ w h (by rw [h3]; rfl)
      clear hn hb2 hs2 h3
      go_enter Tryz.func73, Tryz.ntmps73
      go_wp2_with fail
      (with_reducible refine (c1 _ hA).mono ?_); rintro e w1 ⟨rfl, h1, g1⟩
      go_wp2_with fail
      (with_reducible refine (c2 _ h1).mono ?_); rintro e w2 ⟨rfl, h2, g2⟩
      go_wp2_with fail
      (with_reducible refine (c3 _ h2).mono ?_); rintro e w3 ⟨rfl, h3, g3⟩
      go_wp2_with fail
      (with_reducible refine (insist_yes _).mono ?_); rintro e w4 ⟨rfl, rfl⟩
      have gA := ((g1.trans g2).trans g3)
      have bA := bx.on gA hne
      have d0 := bA.c0
      have d1 := bA.c1
      have d2 := bA.c2
      have d3 := bA.c3
      have d4 := bA.c4
      have f0 := bA.free 0
      have f1 := bA.free 1
      have f2 := bA.free 2
      have f3 := bA.free 3
      have f4 := bA.free 4
      replace bA := Lib.hid bA
      clear bx
      go_wp2_with fail
      exact tok_end rfl rfl (bA.out.set _ _ _ _ _) (ans_plain hr.out rfl h3 (((g0.trans g1).trans g2).trans g3) hb rfl)

set_option maxRecDepth 100000 in
set_option maxHeartbeats 1600000 in
theorem instruction_any (b : Nat) (s : ByteArray) (w : World) (h : At b s w) :
    Calls Tryz.prog 72 #[.pointer (some ⟨b, 0, none⟩)] w (Ans b w (T.pi s.data.toList)) := by
  have g0 := World.grownBy_alloc w (.cells #[.int .i64 0, .string ⟨#[]⟩, .slice none 0 0, .bool false, .string ⟨#[]⟩] 41) (some b)
  have hA := h.below ((Below.refl w.heap.size w).alloc (Nat.le_refl _) (.cells #[.int .i64 0, .string ⟨#[]⟩, .slice none 0 0, .bool false, .string ⟨#[]⟩] 41))
  have bx := Box5.new w
  have hb := h.lt
  have hsm := h.small
  have hne : some w.heap.size ≠ some b := by simp; omega
  clear h
  cases hn : T.nameAt s.data.toList with
  | none =>
    have hr := Lib.hid (T.pi_none hn)
    have c1 := fun w h => name_no b s w h hn
    clear hn
    go_enter Tryz.func72, Tryz.ntmps72
    go_wp2_with fail
    (with_reducible refine (c1 _ hA).mono ?_); rintro e w1 ⟨rfl, g1⟩
    exact ⟨rfl, ans_no hr.out (g0.trans g1)⟩
  | some x =>
    obtain ⟨ln, lr⟩ := x
    obtain ⟨n, rfl⟩ := bytes_of ln
    obtain ⟨s1, rfl⟩ := bytes_of lr
    have hns := name_small hn hsm
    have c1 := fun w h => name_ok b s n s1 w h hn
    by_cases hx : n.data.toList.map T.lower = [120, 109, 108]
    · have hr := Lib.hid (T.pi_xml hn hx)
      have c2 := fun w hE => isXml_any n w hns hE true (decide_eq_true hx)
      clear hn hx
      go_enter Tryz.func72, Tryz.ntmps72
      go_wp2_with fail
      (with_reducible refine (c1 _ hA).mono ?_); rintro e w1 ⟨rfl, h1, g1⟩
      go_wp2_with fail
      (with_reducible refine (c2 _ h1.env).mono ?_); rintro e w2 ⟨rfl, b2⟩
      have h2 := h1.below b2
      have g2 := grown_of_below b2 (some b)
      go_wp2_with fail
      (with_reducible refine (insist_no _).mono ?_); rintro e w3 ⟨rfl, rfl⟩
      exact ⟨rfl, ans_no hr.out ((g0.trans g1).trans g2)⟩
    have c2 := fun w hE => isXml_any n w hns hE false (decide_eq_false hx)
    cases hc : T.cutAt [63, 62] s1.data.toList with
    | none =>
      have hr := Lib.hid (T.pi_open hn hx hc)
      have c3 := fun w h => upTo_no b s1 ⟨#[63, 62]⟩ w h (by simp) hc
      clear hn hx hc
      go_enter Tryz.func72, Tryz.ntmps72
      go_wp2_with fail
      (with_reducible refine (c1 _ hA).mono ?_); rintro e w1 ⟨rfl, h1, g1⟩
      go_wp2_with fail
      (with_reducible refine (c2 _ h1.env).mono ?_); rintro e w2 ⟨rfl, b2⟩
      have h2 := h1.below b2
      have g2 := grown_of_below b2 (some b)
      go_wp2_with fail
      (with_reducible refine (insist_yes _).mono ?_); rintro e w3 ⟨rfl, rfl⟩
      go_wp2_with fail
      (with_reducible refine (c3 _ h2).mono ?_); rintro e w4 ⟨rfl, g4⟩
      exact ⟨rfl, ans_no hr.out (((g0.trans g1).trans g2).trans g4)⟩
    | some x =>
      obtain ⟨la, lr⟩ := x
      obtain ⟨a, rfl⟩ := bytes_of la
      obtain ⟨t, rfl⟩ := bytes_of lr
      obtain ⟨d, hd⟩ := bytes_of (T.skip a.data.toList)
      have c3 := fun w h => upTo_ok b s1 a t ⟨#[63, 62]⟩ w h (by simp) hc
      have c4 := fun w => trimLeft_any a d w hd
      by_cases ha : a.size = 0
      · have he := empty_is ha
        have hnil : a.data.toList = [] := List.eq_nil_of_length_eq_zero (by rw [list_len]; exact ha)
        have hr := T.pi_ok hn hx hc (by rw [T.spaced_of, hnil]; rfl)
        rw [← hd] at hr
        replace hr := Lib.hid hr
        clear hn hx hc hd hnil
        go_enter Tryz.func72, Tryz.ntmps72
        go_wp2_with fail
        (with_reducible refine (c1 _ hA).mono ?_); rintro e w1 ⟨rfl, h1, g1⟩
        go_wp2_with fail
        (with_reducible refine (c2 _ h1.env).mono ?_); rintro e w2 ⟨rfl, b2⟩
        have h2 := h1.below b2
        have g2 := grown_of_below b2 (some b)
        go_wp2_with fail
        (with_reducible refine (insist_yes _).mono ?_); rintro e w3 ⟨rfl, rfl⟩
        go_wp2_with fail
        (with_reducible refine (c3 _ h2).mono ?_); rintro e w4 ⟨rfl, h4, g4⟩
        go_wp2_with fail
        (with_reducible refine (c4 _).mono ?_); rintro e w5 ⟨rfl, b5⟩
        have h5 := h4.below b5
        have g5 := grown_of_below b5 (some b)
        go_wp2_with fail
        (with_reducible refine (insist_yes _).mono ?_); rintro e w6 ⟨rfl, rfl⟩
        have gA := (((g1.trans g2).trans g4).trans g5)
        have bA := bx.on gA hne
        have d0 := bA.c0
        have d1 := bA.c1
        have d2 := bA.c2
        have d3 := bA.c3
        have d4 := bA.c4
        have f0 := bA.free 0
        have f1 := bA.free 1
        have f2 := bA.free 2
        have f3 := bA.free 3
        have f4 := bA.free 4
        replace bA := Lib.hid bA
        clear bx
        go_wp2_with fail
        exact tok_end rfl rfl (bA.out.set _ _ _ _ _) (ans_plain hr.out rfl h5 ((((g0.trans g1).trans g2).trans g4).trans g5) hb rfl)
      have he := ne_empty (s := a) (by omega)
      by_cases hlt : d.size < a.size
      · have hi : (d.size : Int) < (a.size : Int) := by omega
        have hr := T.pi_ok hn hx hc (by rw [T.spaced_of, ← hd, list_len, list_len, decide_eq_true hlt]; simp)
        rw [← hd] at hr
        replace hr := Lib.hid hr
        clear hn hx hc hd
        go_enter Tryz.func72, Tryz.ntmps72
        go_wp2_with fail
        (with_reducible refine (c1 _ hA).mono ?_); rintro e w1 ⟨rfl, h1, g1⟩
        go_wp2_with fail
        (with_reducible refine (c2 _ h1.env).mono ?_); rintro e w2 ⟨rfl, b2⟩
        have h2 := h1.below b2
        have g2 := grown_of_below b2 (some b)
        go_wp2_with fail
        (with_reducible refine (insist_yes _).mono ?_); rintro e w3 ⟨rfl, rfl⟩
        go_wp2_with fail
        (with_reducible refine (c3 _ h2).mono ?_); rintro e w4 ⟨rfl, h4, g4⟩
        go_wp2_with fail
        (with_reducible refine (c4 _).mono ?_); rintro e w5 ⟨rfl, b5⟩
        have h5 := h4.below b5
        have g5 := grown_of_below b5 (some b)
        go_wp2_with fail
        (with_reducible refine (insist_yes _).mono ?_); rintro e w6 ⟨rfl, rfl⟩
        have gA := (((g1.trans g2).trans g4).trans g5)
        have bA := bx.on gA hne
        have d0 := bA.c0
        have d1 := bA.c1
        have d2 := bA.c2
        have d3 := bA.c3
        have d4 := bA.c4
        have f0 := bA.free 0
        have f1 := bA.free 1
        have f2 := bA.free 2
        have f3 := bA.free 3
        have f4 := bA.free 4
        replace bA := Lib.hid bA
        clear bx
        go_wp2_with fail
        exact tok_end rfl rfl (bA.out.set _ _ _ _ _) (ans_plain hr.out rfl h5 ((((g0.trans g1).trans g2).trans g4).trans g5) hb rfl)
      · have hi : ¬ (d.size : Int) < (a.size : Int) := by omega
        have hr := Lib.hid (T.pi_tight hn hx hc (by
          have hnn : ¬ a.data.toList = [] := by intro e; rw [← list_len a, e] at ha; exact ha rfl
          rw [T.spaced_of, ← hd, list_len, list_len, decide_eq_false hlt, decide_eq_false hnn]; rfl))
        clear hn hx hc hd
        go_enter Tryz.func72, Tryz.ntmps72
        go_wp2_with fail
        (with_reducible refine (c1 _ hA).mono ?_); rintro e w1 ⟨rfl, h1, g1⟩
        go_wp2_with fail
        (with_reducible refine (c2 _ h1.env).mono ?_); rintro e w2 ⟨rfl, b2⟩
        have h2 := h1.below b2
        have g2 := grown_of_below b2 (some b)
        go_wp2_with fail
        (with_reducible refine (insist_yes _).mono ?_); rintro e w3 ⟨rfl, rfl⟩
        go_wp2_with fail
        (with_reducible refine (c3 _ h2).mono ?_); rintro e w4 ⟨rfl, h4, g4⟩
        go_wp2_with fail
        (with_reducible refine (c4 _).mono ?_); rintro e w5 ⟨rfl, b5⟩
        have h5 := h4.below b5
        have g5 := grown_of_below b5 (some b)
        go_wp2_with fail
        (with_reducible refine (insist_no _).mono ?_); rintro e w6 ⟨rfl, rfl⟩
        exact ⟨rfl, ans_no hr.out ((((g0.trans g1).trans g2).trans g4).trans g5)⟩
end Go.Proofs.YtcjlhdmekhifaaaGreatDoor
