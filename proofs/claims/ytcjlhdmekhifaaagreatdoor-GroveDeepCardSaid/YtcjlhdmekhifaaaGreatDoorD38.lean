/-
  What the reader's word of the declaration comes to.
-/
import Derived.Test.YtcjlhdmekhifaaaGreatDoorD37
namespace Go.Proofs.YtcjlhdmekhifaaaGreatDoor
open Go.RowKit

theorem space_is (b : Nat) (s t : ByteArray) (w : World) (h : At b s w) (ht : t.data.toList = T.skip s.data.toList) (z : Bool) (hz : decide (t.size < s.size) = z) :
    Calls Tryz.prog 66 #[.pointer (some ⟨b, 0, none⟩)] w fun e w' => e = .returned (.bool z) ∧ At b t w' ∧ w.grownBy w' (some b) := by
  subst hz; exact space_any b s t w h ht
theorem app_small {p : List UInt8} {s t : ByteArray} (h : p ++ t.data.toList = s.data.toList) (hs : s.size ≤ 1000000) : t.size ≤ 1000000 := by
  have := congrArg List.length h
  rw [List.length_append, list_len, list_len] at this
  omega
theorem given_rest {s v t : ByteArray} (h : T.given s.data.toList = some (v.data.toList, t.data.toList)) (hs : s.size ≤ 1000000) : t.size ≤ 1000000 := by
  obtain ⟨t1, t2, q, h1, h2, _, h4⟩ := T.given_some h
  have e1 := T.skip_le s.data.toList
  have e2 := T.skip_le t1
  have e3 := congrArg List.length (T.cutAt_eq h4)
  rw [h1] at e1
  rw [h2] at e2
  simp only [List.length_append, List.length_cons, list_len] at e1 e2 e3
  omega

set_option maxRecDepth 100000 in
set_option maxHeartbeats 12800000 in
theorem declaration_any (b : Nat) (s : ByteArray) (w : World) (h : At b s w) (hd : T.declares s.data.toList = true) :
    Calls Tryz.prog 36 #[.pointer (some ⟨b, 0, none⟩)] w (Ans b w (T.decl (s.data.toList.drop 5))) := by
  have g0 := World.grownBy_alloc w (.cells #[.int .i64 0, .string ⟨#[]⟩, .slice none 0 0, .bool false, .string ⟨#[]⟩] 41) (some b)
  have hA := h.below ((Below.refl w.heap.size w).alloc (Nat.le_refl _) (.cells #[.int .i64 0, .string ⟨#[]⟩, .slice none 0 0, .bool false, .string ⟨#[]⟩] 41))
  have bx := Box5.new w
  have hb := h.lt
  have hsm := h.small
  have hne : some w.heap.size ≠ some b := by simp; omega
  clear h
  obtain ⟨l1, hl1⟩ := T.begins_iff.1 (Bool.and_eq_true_iff.1 hd).1
  obtain ⟨s1, rfl⟩ := bytes_of l1
  have hlt := T.declares_skip hd hl1.symm
  have hm1 := app_small hl1 hsm
  obtain ⟨s2, hs2⟩ := bytes_of (T.skip s1.data.toList)
  have hm2 := Nat.le_trans (skip_size hs2) hm1
  have hd5 : s.data.toList.drop 5 = s1.data.toList := by rw [← hl1]; rfl
  rw [hd5]
  have c1 := fun w h => takes_yes b s s1 ⟨#[60, 63, 120, 109, 108]⟩ w h hl1
  have c2 := fun w h => space_is b s1 s2 w h hs2 true (decide_eq_true (by rw [← list_len s2, ← list_len s1, hs2]; exact hlt))
  clear hd hl1 hd5
  cases hv : T.begins [118, 101, 114, 115, 105, 111, 110] s2.data.toList with
  | false =>
    have hr := Lib.hid (T.decl_nov (by rw [← hs2]; exact hv))
    have c3 := fun w h => takes_no b s2 ⟨#[118, 101, 114, 115, 105, 111, 110]⟩ w h hv
    clear hv hs2
    go_enter Tryz.func36, Tryz.ntmps36
    go_wp2_with fail
    (with_reducible refine (c1 _ hA).mono ?_); rintro e w1 ⟨rfl, h1, g1⟩
    go_wp2_with fail
    (with_reducible refine (c2 _ h1).mono ?_); rintro e w2 ⟨rfl, h2, g2⟩
    go_wp2_with fail
    (with_reducible refine (c3 _ h2).mono ?_); rintro e w3 ⟨rfl, h3, g3⟩
    go_wp2_with fail
    (with_reducible refine (insist_no _).mono ?_); rintro e w4 ⟨rfl, rfl⟩
    exact ⟨rfl, ans_no hr.out (((g0.trans g1).trans g2).trans g3)⟩
  | true =>
    obtain ⟨l3, h3⟩ := T.begins_iff.1 hv
    obtain ⟨s3, rfl⟩ := bytes_of l3
    have hm3 := app_small h3 hm2
    have hsk : T.skip s1.data.toList = [118, 101, 114, 115, 105, 111, 110] ++ s3.data.toList := by rw [← hs2]; exact h3.symm
    have c3 := fun w h => takes_yes b s2 s3 ⟨#[118, 101, 114, 115, 105, 111, 110]⟩ w h h3
    clear hv hs2 h3
    cases hg : T.given s3.data.toList with
    | none =>
      have hr := Lib.hid (T.decl_nogiven hlt hsk hg)
      have c4 := fun w h => given_no b s3 w h hg
      clear hg hsk hlt
      go_enter Tryz.func36, Tryz.ntmps36
      go_wp2_with fail
      (with_reducible refine (c1 _ hA).mono ?_); rintro e w1 ⟨rfl, h1, g1⟩
      go_wp2_with fail
      (with_reducible refine (c2 _ h1).mono ?_); rintro e w2 ⟨rfl, h2, g2⟩
      go_wp2_with fail
      (with_reducible refine (c3 _ h2).mono ?_); rintro e w3 ⟨rfl, h3, g3⟩
      go_wp2_with fail
      (with_reducible refine (insist_yes _).mono ?_); rintro e w4 ⟨rfl, rfl⟩
      go_wp2_with fail
      (with_reducible refine (c4 _ h3).mono ?_); rintro e w5 ⟨rfl, g5⟩
      exact ⟨rfl, ans_no hr.out ((((g0.trans g1).trans g2).trans g3).trans g5)⟩
    | some x =>
      obtain ⟨lv, l4⟩ := x
      obtain ⟨v, rfl⟩ := bytes_of lv
      obtain ⟨s4, rfl⟩ := bytes_of l4
      have hmv := given_small hg hm3
      have hm4 := given_rest hg hm3
      have hD := T.decl_word hlt hsk hg
      have c4 := fun w h => given_ok b s3 v s4 w h hg
      clear hg hsk hlt
      cases hver : T.version v.data.toList with
      | false =>
        rw [hver, if_neg (by decide)] at hD
        have hr := Lib.hid hD
        have c5 := fun w => isVersion_any v w hmv false hver
        clear hver hD
        go_enter Tryz.func36, Tryz.ntmps36
        go_wp2_with fail
        (with_reducible refine (c1 _ hA).mono ?_); rintro e w1 ⟨rfl, h1, g1⟩
        go_wp2_with fail
        (with_reducible refine (c2 _ h1).mono ?_); rintro e w2 ⟨rfl, h2, g2⟩
        go_wp2_with fail
        (with_reducible refine (c3 _ h2).mono ?_); rintro e w3 ⟨rfl, h3, g3⟩
        go_wp2_with fail
        (with_reducible refine (insist_yes _).mono ?_); rintro e w4 ⟨rfl, rfl⟩
        go_wp2_with fail
        (with_reducible refine (c4 _ h3).mono ?_); rintro e w5 ⟨rfl, h5, g5⟩
        go_wp2_with fail
        (with_reducible refine (c5 _).mono ?_); rintro e w6 ⟨rfl, b6⟩
        have h6 := h5.below b6
        have g6 := grown_of_below b6 (some b)
        go_wp2_with fail
        (with_reducible refine (insist_no _).mono ?_); rintro e w7 ⟨rfl, rfl⟩
        exact ⟨rfl, ans_no hr.out (((((g0.trans g1).trans g2).trans g3).trans g5).trans g6)⟩
      | true =>
        rw [hver, if_pos rfl] at hD
        have c5 := fun w => isVersion_any v w hmv true hver
        clear hver
        obtain ⟨s5, hs_s5⟩ := bytes_of (T.skip s4.data.toList)
        have hm_s5 := Nat.le_trans (skip_size hs_s5) hm4
        have hlen : (T.skip s4.data.toList).length < s4.data.toList.length ↔ s5.size < s4.size := by rw [← hs_s5, list_len, list_len]
        by_cases hz : s5.size < s4.size
        · have c6 := fun w h => space_is b s4 s5 w h hs_s5 true (decide_eq_true hz)
          cases hen : T.begins [101, 110, 99, 111, 100, 105, 110, 103] s5.data.toList with
          | false =>
            have hE : T.decl s1.data.toList = T.stdEnd s4.data.toList := by rw [hD, T.enc_no (.inr (by rw [← hs_s5]; exact hen))]
            have c7 := fun w h => takes_no b s5 ⟨#[101, 110, 99, 111, 100, 105, 110, 103]⟩ w h hen
            clear hen hD
            cases hb3 : T.begins [115, 116, 97, 110, 100, 97, 108, 111, 110, 101] s5.data.toList with
            | false =>
              have hF := (hE).trans (T.std_no (.inr (by rw [← hs_s5]; exact hb3)))
              have k1 := fun w h => takes_no b s5 ⟨#[115, 116, 97, 110, 100, 97, 108, 111, 110, 101]⟩ w h hb3
              cases hb2 : T.begins [63, 62] s5.data.toList with
              | false =>
                have hr := Lib.hid ((hF).trans (T.end_no (by rw [← hs_s5]; exact hb2)))
                have d1 := fun w h => takes_no b s5 ⟨#[63, 62]⟩ w h hb2
                clear hb2 hb3 hF hE hs_s5 hlen hz
                go_enter Tryz.func36, Tryz.ntmps36
                go_wp2_with fail
                (with_reducible refine (c1 _ hA).mono ?_); rintro e w1 ⟨rfl, h1, g1⟩
                go_wp2_with fail
                (with_reducible refine (c2 _ h1).mono ?_); rintro e w2 ⟨rfl, h2, g2⟩
                go_wp2_with fail
                (with_reducible refine (c3 _ h2).mono ?_); rintro e w3 ⟨rfl, h3, g3⟩
                go_wp2_with fail
                (with_reducible refine (insist_yes _).mono ?_); rintro e w4 ⟨rfl, rfl⟩
                go_wp2_with fail
                (with_reducible refine (c4 _ h3).mono ?_); rintro e w5 ⟨rfl, h5, g5⟩
                go_wp2_with fail
                (with_reducible refine (c5 _).mono ?_); rintro e w6 ⟨rfl, b6⟩
                have h6 := h5.below b6
                have g6 := grown_of_below b6 (some b)
                go_wp2_with fail
                (with_reducible refine (insist_yes _).mono ?_); rintro e w7 ⟨rfl, rfl⟩
                go_wp2_with fail
                (with_reducible refine (c6 _ h6).mono ?_); rintro e w8 ⟨rfl, h8, g8⟩
                go_wp2_with fail
                (with_reducible refine (c7 _ h8).mono ?_); rintro e w9 ⟨rfl, h9, g9⟩
                go_wp2_with fail
                (with_reducible refine (k1 _ h9).mono ?_); rintro e w10 ⟨rfl, h10, g10⟩
                go_wp2_with fail
                (with_reducible refine (d1 _ h10).mono ?_); rintro e w11 ⟨rfl, h11, g11⟩
                go_wp2_with fail
                (with_reducible refine (insist_no _).mono ?_); rintro e w12 ⟨rfl, rfl⟩
                exact ⟨rfl, ans_no hr.out (((((((((g0.trans g1).trans g2).trans g3).trans g5).trans g6).trans g8).trans g9).trans g10).trans g11)⟩
              | true =>
                obtain ⟨lt, ht⟩ := T.begins_iff.1 hb2
                obtain ⟨t, rfl⟩ := bytes_of lt
                have hr := Lib.hid ((hF).trans (T.end_ok (by rw [← hs_s5]; exact ht.symm)))
                have d1 := fun w h => takes_yes b s5 t ⟨#[63, 62]⟩ w h ht
                clear hb2 ht hb3 hF hE hs_s5 hlen hz
                go_enter Tryz.func36, Tryz.ntmps36
                go_wp2_with fail
                (with_reducible refine (c1 _ hA).mono ?_); rintro e w1 ⟨rfl, h1, g1⟩
                go_wp2_with fail
                (with_reducible refine (c2 _ h1).mono ?_); rintro e w2 ⟨rfl, h2, g2⟩
                go_wp2_with fail
                (with_reducible refine (c3 _ h2).mono ?_); rintro e w3 ⟨rfl, h3, g3⟩
                go_wp2_with fail
                (with_reducible refine (insist_yes _).mono ?_); rintro e w4 ⟨rfl, rfl⟩
                go_wp2_with fail
                (with_reducible refine (c4 _ h3).mono ?_); rintro e w5 ⟨rfl, h5, g5⟩
                go_wp2_with fail
                (with_reducible refine (c5 _).mono ?_); rintro e w6 ⟨rfl, b6⟩
                have h6 := h5.below b6
                have g6 := grown_of_below b6 (some b)
                go_wp2_with fail
                (with_reducible refine (insist_yes _).mono ?_); rintro e w7 ⟨rfl, rfl⟩
                go_wp2_with fail
                (with_reducible refine (c6 _ h6).mono ?_); rintro e w8 ⟨rfl, h8, g8⟩
                go_wp2_with fail
                (with_reducible refine (c7 _ h8).mono ?_); rintro e w9 ⟨rfl, h9, g9⟩
                go_wp2_with fail
                (with_reducible refine (k1 _ h9).mono ?_); rintro e w10 ⟨rfl, h10, g10⟩
                go_wp2_with fail
                (with_reducible refine (d1 _ h10).mono ?_); rintro e w11 ⟨rfl, h11, g11⟩
                go_wp2_with fail
                (with_reducible refine (insist_yes _).mono ?_); rintro e w12 ⟨rfl, rfl⟩
                have gA := ((((((((g1.trans g2).trans g3).trans g5).trans g6).trans g8).trans g9).trans g10).trans g11)
                have bA := bx.on gA hne
                have d0 := bA.c0
                have d1 := bA.c1
                have d2 := bA.c2
                have d3 := bA.c3
                have d4 := bA.c4
                have f0 := bA.free 0
                have f1 := bA.free 1
                have f2 := bA.free 2
                have f3 := bA.free 3
                have f4 := bA.free 4
                replace bA := Lib.hid bA
                clear bx
                go_wp2_with fail
                exact tok_end rfl rfl (bA.out.set _ _ _ _ _) (ans_plain hr.out rfl h11 (((((((((g0.trans g1).trans g2).trans g3).trans g5).trans g6).trans g8).trans g9).trans g10).trans g11) hb rfl)
            | true =>
              obtain ⟨lu, hu⟩ := T.begins_iff.1 hb3
              obtain ⟨u, rfl⟩ := bytes_of lu
              have hmu := app_small hu hm_s5
              have k1 := fun w h => takes_yes b s5 u ⟨#[115, 116, 97, 110, 100, 97, 108, 111, 110, 101]⟩ w h hu
              cases hgu : T.given u.data.toList with
              | none =>
                have hr := Lib.hid ((hE).trans (T.std_nogiven (hlen.2 hz) (by rw [← hs_s5]; exact hu.symm) hgu))
                have k2 := fun w h => given_no b u w h hgu
                clear hb3 hu hgu hE hs_s5 hlen hz
                go_enter Tryz.func36, Tryz.ntmps36
                go_wp2_with fail
                (with_reducible refine (c1 _ hA).mono ?_); rintro e w1 ⟨rfl, h1, g1⟩
                go_wp2_with fail
                (with_reducible refine (c2 _ h1).mono ?_); rintro e w2 ⟨rfl, h2, g2⟩
                go_wp2_with fail
                (with_reducible refine (c3 _ h2).mono ?_); rintro e w3 ⟨rfl, h3, g3⟩
                go_wp2_with fail
                (with_reducible refine (insist_yes _).mono ?_); rintro e w4 ⟨rfl, rfl⟩
                go_wp2_with fail
                (with_reducible refine (c4 _ h3).mono ?_); rintro e w5 ⟨rfl, h5, g5⟩
                go_wp2_with fail
                (with_reducible refine (c5 _).mono ?_); rintro e w6 ⟨rfl, b6⟩
                have h6 := h5.below b6
                have g6 := grown_of_below b6 (some b)
                go_wp2_with fail
                (with_reducible refine (insist_yes _).mono ?_); rintro e w7 ⟨rfl, rfl⟩
                go_wp2_with fail
                (with_reducible refine (c6 _ h6).mono ?_); rintro e w8 ⟨rfl, h8, g8⟩
                go_wp2_with fail
                (with_reducible refine (c7 _ h8).mono ?_); rintro e w9 ⟨rfl, h9, g9⟩
                go_wp2_with fail
                (with_reducible refine (k1 _ h9).mono ?_); rintro e w10 ⟨rfl, h10, g10⟩
                go_wp2_with fail
                (with_reducible refine (k2 _ h10).mono ?_); rintro e w11 ⟨rfl, g11⟩
                exact ⟨rfl, ans_no hr.out (((((((((g0.trans g1).trans g2).trans g3).trans g5).trans g6).trans g8).trans g9).trans g10).trans g11)⟩
              | some x =>
                obtain ⟨la, lc⟩ := x
                obtain ⟨a, rfl⟩ := bytes_of la
                obtain ⟨c, rfl⟩ := bytes_of lc
                have hm_c := given_rest hgu hmu
                obtain ⟨z, hs_z⟩ := bytes_of (T.skip c.data.toList)
                have hm_z := Nat.le_trans (skip_size hs_z) hm_c
                have k2 := fun w h => given_ok b u a c w h hgu
                have k3 := fun w h => space_any b c z w h hs_z
                by_cases hyyes : a.data.toList = [121, 101, 115]
                · have hF := (hE).trans (T.std_ok (hlen.2 hz) (by rw [← hs_s5]; exact hu.symm) hgu (.inl hyyes))
                  have e1 := str_is hyyes
                  cases hb2 : T.begins [63, 62] z.data.toList with
                  | false =>
                    have hr := Lib.hid ((hF).trans (T.end_no (by rw [← hs_z]; exact hb2)))
                    have d1 := fun w h => takes_no b z ⟨#[63, 62]⟩ w h hb2
                    clear hb2 hyyes hF hb3 hu hgu hs_z hE hs_s5 hlen hz
                    go_enter Tryz.func36, Tryz.ntmps36
                    go_wp2_with fail
                    (with_reducible refine (c1 _ hA).mono ?_); rintro e w1 ⟨rfl, h1, g1⟩
                    go_wp2_with fail
                    (with_reducible refine (c2 _ h1).mono ?_); rintro e w2 ⟨rfl, h2, g2⟩
                    go_wp2_with fail
                    (with_reducible refine (c3 _ h2).mono ?_); rintro e w3 ⟨rfl, h3, g3⟩
                    go_wp2_with fail
                    (with_reducible refine (insist_yes _).mono ?_); rintro e w4 ⟨rfl, rfl⟩
                    go_wp2_with fail
                    (with_reducible refine (c4 _ h3).mono ?_); rintro e w5 ⟨rfl, h5, g5⟩
                    go_wp2_with fail
                    (with_reducible refine (c5 _).mono ?_); rintro e w6 ⟨rfl, b6⟩
                    have h6 := h5.below b6
                    have g6 := grown_of_below b6 (some b)
                    go_wp2_with fail
                    (with_reducible refine (insist_yes _).mono ?_); rintro e w7 ⟨rfl, rfl⟩
                    go_wp2_with fail
                    (with_reducible refine (c6 _ h6).mono ?_); rintro e w8 ⟨rfl, h8, g8⟩
                    go_wp2_with fail
                    (with_reducible refine (c7 _ h8).mono ?_); rintro e w9 ⟨rfl, h9, g9⟩
                    go_wp2_with fail
                    (with_reducible refine (k1 _ h9).mono ?_); rintro e w10 ⟨rfl, h10, g10⟩
                    go_wp2_with fail
                    (with_reducible refine (k2 _ h10).mono ?_); rintro e w11 ⟨rfl, h11, g11⟩
                    go_wp2_with fail
                    (with_reducible refine (insist_yes _).mono ?_); rintro e w12 ⟨rfl, rfl⟩
                    go_wp2_with fail
                    (with_reducible refine (k3 _ h11).mono ?_); rintro e w13 ⟨rfl, h13, g13⟩
                    go_wp2_with fail
                    (with_reducible refine (d1 _ h13).mono ?_); rintro e w14 ⟨rfl, h14, g14⟩
                    go_wp2_with fail
                    (with_reducible refine (insist_no _).mono ?_); rintro e w15 ⟨rfl, rfl⟩
                    exact ⟨rfl, ans_no hr.out (((((((((((g0.trans g1).trans g2).trans g3).trans g5).trans g6).trans g8).trans g9).trans g10).trans g11).trans g13).trans g14)⟩
                  | true =>
                    obtain ⟨lt, ht⟩ := T.begins_iff.1 hb2
                    obtain ⟨t, rfl⟩ := bytes_of lt
                    have hr := Lib.hid ((hF).trans (T.end_ok (by rw [← hs_z]; exact ht.symm)))
                    have d1 := fun w h => takes_yes b z t ⟨#[63, 62]⟩ w h ht
                    clear hb2 ht hyyes hF hb3 hu hgu hs_z hE hs_s5 hlen hz
                    go_enter Tryz.func36, Tryz.ntmps36
                    go_wp2_with fail
                    (with_reducible refine (c1 _ hA).mono ?_); rintro e w1 ⟨rfl, h1, g1⟩
                    go_wp2_with fail
                    (with_reducible refine (c2 _ h1).mono ?_); rintro e w2 ⟨rfl, h2, g2⟩
                    go_wp2_with fail
                    (with_reducible refine (c3 _ h2).mono ?_); rintro e w3 ⟨rfl, h3, g3⟩
                    go_wp2_with fail
                    (with_reducible refine (insist_yes _).mono ?_); rintro e w4 ⟨rfl, rfl⟩
                    go_wp2_with fail
                    (with_reducible refine (c4 _ h3).mono ?_); rintro e w5 ⟨rfl, h5, g5⟩
                    go_wp2_with fail
                    (with_reducible refine (c5 _).mono ?_); rintro e w6 ⟨rfl, b6⟩
                    have h6 := h5.below b6
                    have g6 := grown_of_below b6 (some b)
                    go_wp2_with fail
                    (with_reducible refine (insist_yes _).mono ?_); rintro e w7 ⟨rfl, rfl⟩
                    go_wp2_with fail
                    (with_reducible refine (c6 _ h6).mono ?_); rintro e w8 ⟨rfl, h8, g8⟩
                    go_wp2_with fail
                    (with_reducible refine (c7 _ h8).mono ?_); rintro e w9 ⟨rfl, h9, g9⟩
                    go_wp2_with fail
                    (with_reducible refine (k1 _ h9).mono ?_); rintro e w10 ⟨rfl, h10, g10⟩
                    go_wp2_with fail
                    (with_reducible refine (k2 _ h10).mono ?_); rintro e w11 ⟨rfl, h11, g11⟩
                    go_wp2_with fail
                    (with_reducible refine (insist_yes _).mono ?_); rintro e w12 ⟨rfl, rfl⟩
                    go_wp2_with fail
                    (with_reducible refine (k3 _ h11).mono ?_); rintro e w13 ⟨rfl, h13, g13⟩
                    go_wp2_with fail
                    (with_reducible refine (d1 _ h13).mono ?_); rintro e w14 ⟨rfl, h14, g14⟩
                    go_wp2_with fail
                    (with_reducible refine (insist_yes _).mono ?_); rintro e w15 ⟨rfl, rfl⟩
                    have gA := ((((((((((g1.trans g2).trans g3).trans g5).trans g6).trans g8).trans g9).trans g10).trans g11).trans g13).trans g14)
                    have bA := bx.on gA hne
                    have d0 := bA.c0
                    have d1 := bA.c1
                    have d2 := bA.c2
                    have d3 := bA.c3
                    have d4 := bA.c4
                    have f0 := bA.free 0
                    have f1 := bA.free 1
                    have f2 := bA.free 2
                    have f3 := bA.free 3
                    have f4 := bA.free 4
                    replace bA := Lib.hid bA
                    clear bx
                    go_wp2_with fail
                    exact tok_end rfl rfl (bA.out.set _ _ _ _ _) (ans_plain hr.out rfl h14 (((((((((((g0.trans g1).trans g2).trans g3).trans g5).trans g6).trans g8).trans g9).trans g10).trans g11).trans g13).trans g14) hb rfl)
                have e1 := str_ne hyyes
                by_cases hyno : a.data.toList = [110, 111]
                · have hF := (hE).trans (T.std_ok (hlen.2 hz) (by rw [← hs_s5]; exact hu.symm) hgu (.inr hyno))
                  have e2 := str_is hyno
                  cases hb2 : T.begins [63, 62] z.data.toList with
                  | false =>
                    have hr := Lib.hid ((hF).trans (T.end_no (by rw [← hs_z]; exact hb2)))
                    have d1 := fun w h => takes_no b z ⟨#[63, 62]⟩ w h hb2
                    clear hb2 hyno hF hb3 hu hgu hs_z hE hs_s5 hlen hz
                    go_enter Tryz.func36, Tryz.ntmps36
                    go_wp2_with fail
                    (with_reducible refine (c1 _ hA).mono ?_); rintro e w1 ⟨rfl, h1, g1⟩
                    go_wp2_with fail
                    (with_reducible refine (c2 _ h1).mono ?_); rintro e w2 ⟨rfl, h2, g2⟩
                    go_wp2_with fail
                    (with_reducible refine (c3 _ h2).mono ?_); rintro e w3 ⟨rfl, h3, g3⟩
                    go_wp2_with fail
                    (with_reducible refine (insist_yes _).mono ?_); rintro e w4 ⟨rfl, rfl⟩
                    go_wp2_with fail
                    (with_reducible refine (c4 _ h3).mono ?_); rintro e w5 ⟨rfl, h5, g5⟩
                    go_wp2_with fail
                    (with_reducible refine (c5 _).mono ?_); rintro e w6 ⟨rfl, b6⟩
                    have h6 := h5.below b6
                    have g6 := grown_of_below b6 (some b)
                    go_wp2_with fail
                    (with_reducible refine (insist_yes _).mono ?_); rintro e w7 ⟨rfl, rfl⟩
                    go_wp2_with fail
                    (with_reducible refine (c6 _ h6).mono ?_); rintro e w8 ⟨rfl, h8, g8⟩
                    go_wp2_with fail
                    (with_reducible refine (c7 _ h8).mono ?_); rintro e w9 ⟨rfl, h9, g9⟩
                    go_wp2_with fail
                    (with_reducible refine (k1 _ h9).mono ?_); rintro e w10 ⟨rfl, h10, g10⟩
                    go_wp2_with fail
                    (with_reducible refine (k2 _ h10).mono ?_); rintro e w11 ⟨rfl, h11, g11⟩
                    go_wp2_with fail
                    (with_reducible refine (insist_yes _).mono ?_); rintro e w12 ⟨rfl, rfl⟩
                    go_wp2_with fail
                    (with_reducible refine (k3 _ h11).mono ?_); rintro e w13 ⟨rfl, h13, g13⟩
                    go_wp2_with fail
                    (with_reducible refine (d1 _ h13).mono ?_); rintro e w14 ⟨rfl, h14, g14⟩
                    go_wp2_with fail
                    (with_reducible refine (insist_no _).mono ?_); rintro e w15 ⟨rfl, rfl⟩
                    exact ⟨rfl, ans_no hr.out (((((((((((g0.trans g1).trans g2).trans g3).trans g5).trans g6).trans g8).trans g9).trans g10).trans g11).trans g13).trans g14)⟩
                  | true =>
                    obtain ⟨lt, ht⟩ := T.begins_iff.1 hb2
                    obtain ⟨t, rfl⟩ := bytes_of lt
                    have hr := Lib.hid ((hF).trans (T.end_ok (by rw [← hs_z]; exact ht.symm)))
                    have d1 := fun w h => takes_yes b z t ⟨#[63, 62]⟩ w h ht
                    clear hb2 ht hyno hF hb3 hu hgu hs_z hE hs_s5 hlen hz
                    go_enter Tryz.func36, Tryz.ntmps36
                    go_wp2_with fail
                    (with_reducible refine (c1 _ hA).mono ?_); rintro e w1 ⟨rfl, h1, g1⟩
                    go_wp2_with fail
                    (with_reducible refine (c2 _ h1).mono ?_); rintro e w2 ⟨rfl, h2, g2⟩
                    go_wp2_with fail
                    (with_reducible refine (c3 _ h2).mono ?_); rintro e w3 ⟨rfl, h3, g3⟩
                    go_wp2_with fail
                    (with_reducible refine (insist_yes _).mono ?_); rintro e w4 ⟨rfl, rfl⟩
                    go_wp2_with fail
                    (with_reducible refine (c4 _ h3).mono ?_); rintro e w5 ⟨rfl, h5, g5⟩
                    go_wp2_with fail
                    (with_reducible refine (c5 _).mono ?_); rintro e w6 ⟨rfl, b6⟩
                    have h6 := h5.below b6
                    have g6 := grown_of_below b6 (some b)
                    go_wp2_with fail
                    (with_reducible refine (insist_yes _).mono ?_); rintro e w7 ⟨rfl, rfl⟩
                    go_wp2_with fail
                    (with_reducible refine (c6 _ h6).mono ?_); rintro e w8 ⟨rfl, h8, g8⟩
                    go_wp2_with fail
                    (with_reducible refine (c7 _ h8).mono ?_); rintro e w9 ⟨rfl, h9, g9⟩
                    go_wp2_with fail
                    (with_reducible refine (k1 _ h9).mono ?_); rintro e w10 ⟨rfl, h10, g10⟩
                    go_wp2_with fail
                    (with_reducible refine (k2 _ h10).mono ?_); rintro e w11 ⟨rfl, h11, g11⟩
                    go_wp2_with fail
                    (with_reducible refine (insist_yes _).mono ?_); rintro e w12 ⟨rfl, rfl⟩
                    go_wp2_with fail
                    (with_reducible refine (k3 _ h11).mono ?_); rintro e w13 ⟨rfl, h13, g13⟩
                    go_wp2_with fail
                    (with_reducible refine (d1 _ h13).mono ?_); rintro e w14 ⟨rfl, h14, g14⟩
                    go_wp2_with fail
                    (with_reducible refine (insist_yes _).mono ?_); rintro e w15 ⟨rfl, rfl⟩
                    have gA := ((((((((((g1.trans g2).trans g3).trans g5).trans g6).trans g8).trans g9).trans g10).trans g11).trans g13).trans g14)
                    have bA := bx.on gA hne
                    have d0 := bA.c0
                    have d1 := bA.c1
                    have d2 := bA.c2
                    have d3 := bA.c3
                    have d4 := bA.c4
                    have f0 := bA.free 0
                    have f1 := bA.free 1
                    have f2 := bA.free 2
                    have f3 := bA.free 3
                    have f4 := bA.free 4
                    replace bA := Lib.hid bA
                    clear bx
                    go_wp2_with fail
                    exact tok_end rfl rfl (bA.out.set _ _ _ _ _) (ans_plain hr.out rfl h14 (((((((((((g0.trans g1).trans g2).trans g3).trans g5).trans g6).trans g8).trans g9).trans g10).trans g11).trans g13).trans g14) hb rfl)
                have hr := Lib.hid ((hE).trans (T.std_bad (hlen.2 hz) (by rw [← hs_s5]; exact hu.symm) hgu hyyes hyno))
                have e2 := str_ne hyno
                clear hyyes hyno hb3 hu hgu hs_z hE hs_s5 hlen hz
                go_enter Tryz.func36, Tryz.ntmps36
                go_wp2_with fail
                (with_reducible refine (c1 _ hA).mono ?_); rintro e w1 ⟨rfl, h1, g1⟩
                go_wp2_with fail
                (with_reducible refine (c2 _ h1).mono ?_); rintro e w2 ⟨rfl, h2, g2⟩
                go_wp2_with fail
                (with_reducible refine (c3 _ h2).mono ?_); rintro e w3 ⟨rfl, h3, g3⟩
                go_wp2_with fail
                (with_reducible refine (insist_yes _).mono ?_); rintro e w4 ⟨rfl, rfl⟩
                go_wp2_with fail
                (with_reducible refine (c4 _ h3).mono ?_); rintro e w5 ⟨rfl, h5, g5⟩
                go_wp2_with fail
                (with_reducible refine (c5 _).mono ?_); rintro e w6 ⟨rfl, b6⟩
                have h6 := h5.below b6
                have g6 := grown_of_below b6 (some b)
                go_wp2_with fail
                (with_reducible refine (insist_yes _).mono ?_); rintro e w7 ⟨rfl, rfl⟩
                go_wp2_with fail
                (with_reducible refine (c6 _ h6).mono ?_); rintro e w8 ⟨rfl, h8, g8⟩
                go_wp2_with fail
                (with_reducible refine (c7 _ h8).mono ?_); rintro e w9 ⟨rfl, h9, g9⟩
                go_wp2_with fail
                (with_reducible refine (k1 _ h9).mono ?_); rintro e w10 ⟨rfl, h10, g10⟩
                go_wp2_with fail
                (with_reducible refine (k2 _ h10).mono ?_); rintro e w11 ⟨rfl, h11, g11⟩
                go_wp2_with fail
                (with_reducible refine (insist_no _).mono ?_); rintro e w12 ⟨rfl, rfl⟩
                exact ⟨rfl, ans_no hr.out (((((((((g0.trans g1).trans g2).trans g3).trans g5).trans g6).trans g8).trans g9).trans g10).trans g11)⟩
          | true =>
            obtain ⟨l6, h6⟩ := T.begins_iff.1 hen
            obtain ⟨s6, rfl⟩ := bytes_of l6
            have hm6 := app_small h6 hm_s5
            have c7 := fun w h => takes_yes b s5 s6 ⟨#[101, 110, 99, 111, 100, 105, 110, 103]⟩ w h h6
            have hsk : T.skip s4.data.toList = [101, 110, 99, 111, 100, 105, 110, 103] ++ s6.data.toList := by rw [← hs_s5]; exact h6.symm
            clear hen h6
            cases hg : T.given s6.data.toList with
            | none =>
              have hr := Lib.hid (hD.trans (T.enc_nogiven (hlen.2 hz) hsk hg))
              have c8 := fun w h => given_no b s6 w h hg
              clear hg hD hsk hs_s5 hlen hz
              go_enter Tryz.func36, Tryz.ntmps36
              go_wp2_with fail
              (with_reducible refine (c1 _ hA).mono ?_); rintro e w1 ⟨rfl, h1, g1⟩
              go_wp2_with fail
              (with_reducible refine (c2 _ h1).mono ?_); rintro e w2 ⟨rfl, h2, g2⟩
              go_wp2_with fail
              (with_reducible refine (c3 _ h2).mono ?_); rintro e w3 ⟨rfl, h3, g3⟩
              go_wp2_with fail
              (with_reducible refine (insist_yes _).mono ?_); rintro e w4 ⟨rfl, rfl⟩
              go_wp2_with fail
              (with_reducible refine (c4 _ h3).mono ?_); rintro e w5 ⟨rfl, h5, g5⟩
              go_wp2_with fail
              (with_reducible refine (c5 _).mono ?_); rintro e w6 ⟨rfl, b6⟩
              have h6 := h5.below b6
              have g6 := grown_of_below b6 (some b)
              go_wp2_with fail
              (with_reducible refine (insist_yes _).mono ?_); rintro e w7 ⟨rfl, rfl⟩
              go_wp2_with fail
              (with_reducible refine (c6 _ h6).mono ?_); rintro e w8 ⟨rfl, h8, g8⟩
              go_wp2_with fail
              (with_reducible refine (c7 _ h8).mono ?_); rintro e w9 ⟨rfl, h9, g9⟩
              go_wp2_with fail
              (with_reducible refine (c8 _ h9).mono ?_); rintro e w10 ⟨rfl, g10⟩
              exact ⟨rfl, ans_no hr.out ((((((((g0.trans g1).trans g2).trans g3).trans g5).trans g6).trans g8).trans g9).trans g10)⟩
            | some x =>
              obtain ⟨lv2, l7⟩ := x
              obtain ⟨v2, rfl⟩ := bytes_of lv2
              obtain ⟨s7, rfl⟩ := bytes_of l7
              have hmv2 := given_small hg hm6
              have hm7 := given_rest hg hm6
              have c8 := fun w h => given_ok b s6 v2 s7 w h hg
              by_cases hf : v2.data.toList.map T.lower = [117, 116, 102, 45, 56]
              · have c9 := fun w hE => isUtf_any v2 w hmv2 hE true (decide_eq_true hf)
                have hE : T.decl s1.data.toList = T.stdEnd s7.data.toList := by rw [hD, T.enc_ok (hlen.2 hz) hsk hg hf]
                clear hg hD hsk hf
                obtain ⟨s8, hs_s8⟩ := bytes_of (T.skip s7.data.toList)
                have hm_s8 := Nat.le_trans (skip_size hs_s8) hm7
                have hlen2 : (T.skip s7.data.toList).length < s7.data.toList.length ↔ s8.size < s7.size := by rw [← hs_s8, list_len, list_len]
                by_cases hz2 : s8.size < s7.size
                · have c10 := fun w h => space_is b s7 s8 w h hs_s8 true (decide_eq_true hz2)
                  cases hb3 : T.begins [115, 116, 97, 110, 100, 97, 108, 111, 110, 101] s8.data.toList with
                  | false =>
                    have hF := (hE).trans (T.std_no (.inr (by rw [← hs_s8]; exact hb3)))
                    have k1 := fun w h => takes_no b s8 ⟨#[115, 116, 97, 110, 100, 97, 108, 111, 110, 101]⟩ w h hb3
                    cases hb2 : T.begins [63, 62] s8.data.toList with
                    | false =>
                      have hr := Lib.hid ((hF).trans (T.end_no (by rw [← hs_s8]; exact hb2)))
                      have d1 := fun w h => takes_no b s8 ⟨#[63, 62]⟩ w h hb2
                      clear hb2 hb3 hF hE hs_s8 hlen2 hz2 hs_s5 hlen hz
                      go_enter Tryz.func36, Tryz.ntmps36
                      go_wp2_with fail
                      (with_reducible refine (c1 _ hA).mono ?_); rintro e w1 ⟨rfl, h1, g1⟩
                      go_wp2_with fail
                      (with_reducible refine (c2 _ h1).mono ?_); rintro e w2 ⟨rfl, h2, g2⟩
                      go_wp2_with fail
                      (with_reducible refine (c3 _ h2).mono ?_); rintro e w3 ⟨rfl, h3, g3⟩
                      go_wp2_with fail
                      (with_reducible refine (insist_yes _).mono ?_); rintro e w4 ⟨rfl, rfl⟩
                      go_wp2_with fail
                      (with_reducible refine (c4 _ h3).mono ?_); rintro e w5 ⟨rfl, h5, g5⟩
                      go_wp2_with fail
                      (with_reducible refine (c5 _).mono ?_); rintro e w6 ⟨rfl, b6⟩
                      have h6 := h5.below b6
                      have g6 := grown_of_below b6 (some b)
                      go_wp2_with fail
                      (with_reducible refine (insist_yes _).mono ?_); rintro e w7 ⟨rfl, rfl⟩
                      go_wp2_with fail
                      (with_reducible refine (c6 _ h6).mono ?_); rintro e w8 ⟨rfl, h8, g8⟩
                      go_wp2_with fail
                      (with_reducible refine (c7 _ h8).mono ?_); rintro e w9 ⟨rfl, h9, g9⟩
                      go_wp2_with fail
                      (with_reducible refine (c8 _ h9).mono ?_); rintro e w10 ⟨rfl, h10, g10⟩
                      go_wp2_with fail
                      (with_reducible refine (c9 _ h10.env).mono ?_); rintro e w11 ⟨rfl, b11⟩
                      have h11 := h10.below b11
                      have g11 := grown_of_below b11 (some b)
                      go_wp2_with fail
                      (with_reducible refine (insist_yes _).mono ?_); rintro e w12 ⟨rfl, rfl⟩
                      go_wp2_with fail
                      (with_reducible refine (c10 _ h11).mono ?_); rintro e w13 ⟨rfl, h13, g13⟩
                      go_wp2_with fail
                      (with_reducible refine (k1 _ h13).mono ?_); rintro e w14 ⟨rfl, h14, g14⟩
                      go_wp2_with fail
                      (with_reducible refine (d1 _ h14).mono ?_); rintro e w15 ⟨rfl, h15, g15⟩
                      go_wp2_with fail
                      (with_reducible refine (insist_no _).mono ?_); rintro e w16 ⟨rfl, rfl⟩
                      exact ⟨rfl, ans_no hr.out ((((((((((((g0.trans g1).trans g2).trans g3).trans g5).trans g6).trans g8).trans g9).trans g10).trans g11).trans g13).trans g14).trans g15)⟩
                    | true =>
                      obtain ⟨lt, ht⟩ := T.begins_iff.1 hb2
                      obtain ⟨t, rfl⟩ := bytes_of lt
                      have hr := Lib.hid ((hF).trans (T.end_ok (by rw [← hs_s8]; exact ht.symm)))
                      have d1 := fun w h => takes_yes b s8 t ⟨#[63, 62]⟩ w h ht
                      clear hb2 ht hb3 hF hE hs_s8 hlen2 hz2 hs_s5 hlen hz
                      go_enter Tryz.func36, Tryz.ntmps36
                      go_wp2_with fail
                      (with_reducible refine (c1 _ hA).mono ?_); rintro e w1 ⟨rfl, h1, g1⟩
                      go_wp2_with fail
                      (with_reducible refine (c2 _ h1).mono ?_); rintro e w2 ⟨rfl, h2, g2⟩
                      go_wp2_with fail
                      (with_reducible refine (c3 _ h2).mono ?_); rintro e w3 ⟨rfl, h3, g3⟩
                      go_wp2_with fail
                      (with_reducible refine (insist_yes _).mono ?_); rintro e w4 ⟨rfl, rfl⟩
                      go_wp2_with fail
                      (with_reducible refine (c4 _ h3).mono ?_); rintro e w5 ⟨rfl, h5, g5⟩
                      go_wp2_with fail
                      (with_reducible refine (c5 _).mono ?_); rintro e w6 ⟨rfl, b6⟩
                      have h6 := h5.below b6
                      have g6 := grown_of_below b6 (some b)
                      go_wp2_with fail
                      (with_reducible refine (insist_yes _).mono ?_); rintro e w7 ⟨rfl, rfl⟩
                      go_wp2_with fail
                      (with_reducible refine (c6 _ h6).mono ?_); rintro e w8 ⟨rfl, h8, g8⟩
                      go_wp2_with fail
                      (with_reducible refine (c7 _ h8).mono ?_); rintro e w9 ⟨rfl, h9, g9⟩
                      go_wp2_with fail
                      (with_reducible refine (c8 _ h9).mono ?_); rintro e w10 ⟨rfl, h10, g10⟩
                      go_wp2_with fail
                      (with_reducible refine (c9 _ h10.env).mono ?_); rintro e w11 ⟨rfl, b11⟩
                      have h11 := h10.below b11
                      have g11 := grown_of_below b11 (some b)
                      go_wp2_with fail
                      (with_reducible refine (insist_yes _).mono ?_); rintro e w12 ⟨rfl, rfl⟩
                      go_wp2_with fail
                      (with_reducible refine (c10 _ h11).mono ?_); rintro e w13 ⟨rfl, h13, g13⟩
                      go_wp2_with fail
                      (with_reducible refine (k1 _ h13).mono ?_); rintro e w14 ⟨rfl, h14, g14⟩
                      go_wp2_with fail
                      (with_reducible refine (d1 _ h14).mono ?_); rintro e w15 ⟨rfl, h15, g15⟩
                      go_wp2_with fail
                      (with_reducible refine (insist_yes _).mono ?_); rintro e w16 ⟨rfl, rfl⟩
                      have gA := (((((((((((g1.trans g2).trans g3).trans g5).trans g6).trans g8).trans g9).trans g10).trans g11).trans g13).trans g14).trans g15)
                      have bA := bx.on gA hne
                      have d0 := bA.c0
                      have d1 := bA.c1
                      have d2 := bA.c2
                      have d3 := bA.c3
                      have d4 := bA.c4
                      have f0 := bA.free 0
                      have f1 := bA.free 1
                      have f2 := bA.free 2
                      have f3 := bA.free 3
                      have f4 := bA.free 4
                      replace bA := Lib.hid bA
                      clear bx
                      go_wp2_with fail
                      exact tok_end rfl rfl (bA.out.set _ _ _ _ _) (ans_plain hr.out rfl h15 ((((((((((((g0.trans g1).trans g2).trans g3).trans g5).trans g6).trans g8).trans g9).trans g10).trans g11).trans g13).trans g14).trans g15) hb rfl)
                  | true =>
                    obtain ⟨lu, hu⟩ := T.begins_iff.1 hb3
                    obtain ⟨u, rfl⟩ := bytes_of lu
                    have hmu := app_small hu hm_s8
                    have k1 := fun w h => takes_yes b s8 u ⟨#[115, 116, 97, 110, 100, 97, 108, 111, 110, 101]⟩ w h hu
                    cases hgu : T.given u.data.toList with
                    | none =>
                      have hr := Lib.hid ((hE).trans (T.std_nogiven (hlen2.2 hz2) (by rw [← hs_s8]; exact hu.symm) hgu))
                      have k2 := fun w h => given_no b u w h hgu
                      clear hb3 hu hgu hE hs_s8 hlen2 hz2 hs_s5 hlen hz
                      go_enter Tryz.func36, Tryz.ntmps36
                      go_wp2_with fail
                      (with_reducible refine (c1 _ hA).mono ?_); rintro e w1 ⟨rfl, h1, g1⟩
                      go_wp2_with fail
                      (with_reducible refine (c2 _ h1).mono ?_); rintro e w2 ⟨rfl, h2, g2⟩
                      go_wp2_with fail
                      (with_reducible refine (c3 _ h2).mono ?_); rintro e w3 ⟨rfl, h3, g3⟩
                      go_wp2_with fail
                      (with_reducible refine (insist_yes _).mono ?_); rintro e w4 ⟨rfl, rfl⟩
                      go_wp2_with fail
                      (with_reducible refine (c4 _ h3).mono ?_); rintro e w5 ⟨rfl, h5, g5⟩
                      go_wp2_with fail
                      (with_reducible refine (c5 _).mono ?_); rintro e w6 ⟨rfl, b6⟩
                      have h6 := h5.below b6
                      have g6 := grown_of_below b6 (some b)
                      go_wp2_with fail
                      (with_reducible refine (insist_yes _).mono ?_); rintro e w7 ⟨rfl, rfl⟩
                      go_wp2_with fail
                      (with_reducible refine (c6 _ h6).mono ?_); rintro e w8 ⟨rfl, h8, g8⟩
                      go_wp2_with fail
                      (with_reducible refine (c7 _ h8).mono ?_); rintro e w9 ⟨rfl, h9, g9⟩
                      go_wp2_with fail
                      (with_reducible refine (c8 _ h9).mono ?_); rintro e w10 ⟨rfl, h10, g10⟩
                      go_wp2_with fail
                      (with_reducible refine (c9 _ h10.env).mono ?_); rintro e w11 ⟨rfl, b11⟩
                      have h11 := h10.below b11
                      have g11 := grown_of_below b11 (some b)
                      go_wp2_with fail
                      (with_reducible refine (insist_yes _).mono ?_); rintro e w12 ⟨rfl, rfl⟩
                      go_wp2_with fail
                      (with_reducible refine (c10 _ h11).mono ?_); rintro e w13 ⟨rfl, h13, g13⟩
                      go_wp2_with fail
                      (with_reducible refine (k1 _ h13).mono ?_); rintro e w14 ⟨rfl, h14, g14⟩
                      go_wp2_with fail
                      (with_reducible refine (k2 _ h14).mono ?_); rintro e w15 ⟨rfl, g15⟩
                      exact ⟨rfl, ans_no hr.out ((((((((((((g0.trans g1).trans g2).trans g3).trans g5).trans g6).trans g8).trans g9).trans g10).trans g11).trans g13).trans g14).trans g15)⟩
                    | some x =>
                      obtain ⟨la, lc⟩ := x
                      obtain ⟨a, rfl⟩ := bytes_of la
                      obtain ⟨c, rfl⟩ := bytes_of lc
                      have hm_c := given_rest hgu hmu
                      obtain ⟨z, hs_z⟩ := bytes_of (T.skip c.data.toList)
                      have hm_z := Nat.le_trans (skip_size hs_z) hm_c
                      have k2 := fun w h => given_ok b u a c w h hgu
                      have k3 := fun w h => space_any b c z w h hs_z
                      by_cases hyyes : a.data.toList = [121, 101, 115]
                      · have hF := (hE).trans (T.std_ok (hlen2.2 hz2) (by rw [← hs_s8]; exact hu.symm) hgu (.inl hyyes))
                        have e1 := str_is hyyes
                        cases hb2 : T.begins [63, 62] z.data.toList with
                        | false =>
                          have hr := Lib.hid ((hF).trans (T.end_no (by rw [← hs_z]; exact hb2)))
                          have d1 := fun w h => takes_no b z ⟨#[63, 62]⟩ w h hb2
                          clear hb2 hyyes hF hb3 hu hgu hs_z hE hs_s8 hlen2 hz2 hs_s5 hlen hz
                          go_enter Tryz.func36, Tryz.ntmps36
                          go_wp2_with fail
                          (with_reducible refine (c1 _ hA).mono ?_); rintro e w1 ⟨rfl, h1, g1⟩
                          go_wp2_with fail
                          (with_reducible refine (c2 _ h1).mono ?_); rintro e w2 ⟨rfl, h2, g2⟩
                          go_wp2_with fail
                          (with_reducible refine (c3 _ h2).mono ?_); rintro e w3 ⟨rfl, h3, g3⟩
                          go_wp2_with fail
                          (with_reducible refine (insist_yes _).mono ?_); rintro e w4 ⟨rfl, rfl⟩
                          go_wp2_with fail
                          (with_reducible refine (c4 _ h3).mono ?_); rintro e w5 ⟨rfl, h5, g5⟩
                          go_wp2_with fail
                          (with_reducible refine (c5 _).mono ?_); rintro e w6 ⟨rfl, b6⟩
                          have h6 := h5.below b6
                          have g6 := grown_of_below b6 (some b)
                          go_wp2_with fail
                          (with_reducible refine (insist_yes _).mono ?_); rintro e w7 ⟨rfl, rfl⟩
                          go_wp2_with fail
                          (with_reducible refine (c6 _ h6).mono ?_); rintro e w8 ⟨rfl, h8, g8⟩
                          go_wp2_with fail
                          (with_reducible refine (c7 _ h8).mono ?_); rintro e w9 ⟨rfl, h9, g9⟩
                          go_wp2_with fail
                          (with_reducible refine (c8 _ h9).mono ?_); rintro e w10 ⟨rfl, h10, g10⟩
                          go_wp2_with fail
                          (with_reducible refine (c9 _ h10.env).mono ?_); rintro e w11 ⟨rfl, b11⟩
                          have h11 := h10.below b11
                          have g11 := grown_of_below b11 (some b)
                          go_wp2_with fail
                          (with_reducible refine (insist_yes _).mono ?_); rintro e w12 ⟨rfl, rfl⟩
                          go_wp2_with fail
                          (with_reducible refine (c10 _ h11).mono ?_); rintro e w13 ⟨rfl, h13, g13⟩
                          go_wp2_with fail
                          (with_reducible refine (k1 _ h13).mono ?_); rintro e w14 ⟨rfl, h14, g14⟩
                          go_wp2_with fail
                          (with_reducible refine (k2 _ h14).mono ?_); rintro e w15 ⟨rfl, h15, g15⟩
                          go_wp2_with fail
                          (with_reducible refine (insist_yes _).mono ?_); rintro e w16 ⟨rfl, rfl⟩
                          go_wp2_with fail
                          (with_reducible refine (k3 _ h15).mono ?_); rintro e w17 ⟨rfl, h17, g17⟩
                          go_wp2_with fail
                          (with_reducible refine (d1 _ h17).mono ?_); rintro e w18 ⟨rfl, h18, g18⟩
                          go_wp2_with fail
                          (with_reducible refine (insist_no _).mono ?_); rintro e w19 ⟨rfl, rfl⟩
                          exact ⟨rfl, ans_no hr.out ((((((((((((((g0.trans g1).trans g2).trans g3).trans g5).trans g6).trans g8).trans g9).trans g10).trans g11).trans g13).trans g14).trans g15).trans g17).trans g18)⟩
                        | true =>
                          obtain ⟨lt, ht⟩ := T.begins_iff.1 hb2
                          obtain ⟨t, rfl⟩ := bytes_of lt
                          have hr := Lib.hid ((hF).trans (T.end_ok (by rw [← hs_z]; exact ht.symm)))
                          have d1 := fun w h => takes_yes b z t ⟨#[63, 62]⟩ w h ht
                          clear hb2 ht hyyes hF hb3 hu hgu hs_z hE hs_s8 hlen2 hz2 hs_s5 hlen hz
                          go_enter Tryz.func36, Tryz.ntmps36
                          go_wp2_with fail
                          (with_reducible refine (c1 _ hA).mono ?_); rintro e w1 ⟨rfl, h1, g1⟩
                          go_wp2_with fail
                          (with_reducible refine (c2 _ h1).mono ?_); rintro e w2 ⟨rfl, h2, g2⟩
                          go_wp2_with fail
                          (with_reducible refine (c3 _ h2).mono ?_); rintro e w3 ⟨rfl, h3, g3⟩
                          go_wp2_with fail
                          (with_reducible refine (insist_yes _).mono ?_); rintro e w4 ⟨rfl, rfl⟩
                          go_wp2_with fail
                          (with_reducible refine (c4 _ h3).mono ?_); rintro e w5 ⟨rfl, h5, g5⟩
                          go_wp2_with fail
                          (with_reducible refine (c5 _).mono ?_); rintro e w6 ⟨rfl, b6⟩
                          have h6 := h5.below b6
                          have g6 := grown_of_below b6 (some b)
                          go_wp2_with fail
                          (with_reducible refine (insist_yes _).mono ?_); rintro e w7 ⟨rfl, rfl⟩
                          go_wp2_with fail
                          (with_reducible refine (c6 _ h6).mono ?_); rintro e w8 ⟨rfl, h8, g8⟩
                          go_wp2_with fail
                          (with_reducible refine (c7 _ h8).mono ?_); rintro e w9 ⟨rfl, h9, g9⟩
                          go_wp2_with fail
                          (with_reducible refine (c8 _ h9).mono ?_); rintro e w10 ⟨rfl, h10, g10⟩
                          go_wp2_with fail
                          (with_reducible refine (c9 _ h10.env).mono ?_); rintro e w11 ⟨rfl, b11⟩
                          have h11 := h10.below b11
                          have g11 := grown_of_below b11 (some b)
                          go_wp2_with fail
                          (with_reducible refine (insist_yes _).mono ?_); rintro e w12 ⟨rfl, rfl⟩
                          go_wp2_with fail
                          (with_reducible refine (c10 _ h11).mono ?_); rintro e w13 ⟨rfl, h13, g13⟩
                          go_wp2_with fail
                          (with_reducible refine (k1 _ h13).mono ?_); rintro e w14 ⟨rfl, h14, g14⟩
                          go_wp2_with fail
                          (with_reducible refine (k2 _ h14).mono ?_); rintro e w15 ⟨rfl, h15, g15⟩
                          go_wp2_with fail
                          (with_reducible refine (insist_yes _).mono ?_); rintro e w16 ⟨rfl, rfl⟩
                          go_wp2_with fail
                          (with_reducible refine (k3 _ h15).mono ?_); rintro e w17 ⟨rfl, h17, g17⟩
                          go_wp2_with fail
                          (with_reducible refine (d1 _ h17).mono ?_); rintro e w18 ⟨rfl, h18, g18⟩
                          go_wp2_with fail
                          (with_reducible refine (insist_yes _).mono ?_); rintro e w19 ⟨rfl, rfl⟩
                          have gA := (((((((((((((g1.trans g2).trans g3).trans g5).trans g6).trans g8).trans g9).trans g10).trans g11).trans g13).trans g14).trans g15).trans g17).trans g18)
                          have bA := bx.on gA hne
                          have d0 := bA.c0
                          have d1 := bA.c1
                          have d2 := bA.c2
                          have d3 := bA.c3
                          have d4 := bA.c4
                          have f0 := bA.free 0
                          have f1 := bA.free 1
                          have f2 := bA.free 2
                          have f3 := bA.free 3
                          have f4 := bA.free 4
                          replace bA := Lib.hid bA
                          clear bx
                          go_wp2_with fail
                          exact tok_end rfl rfl (bA.out.set _ _ _ _ _) (ans_plain hr.out rfl h18 ((((((((((((((g0.trans g1).trans g2).trans g3).trans g5).trans g6).trans g8).trans g9).trans g10).trans g11).trans g13).trans g14).trans g15).trans g17).trans g18) hb rfl)
                      have e1 := str_ne hyyes
                      by_cases hyno : a.data.toList = [110, 111]
                      · have hF := (hE).trans (T.std_ok (hlen2.2 hz2) (by rw [← hs_s8]; exact hu.symm) hgu (.inr hyno))
                        have e2 := str_is hyno
                        cases hb2 : T.begins [63, 62] z.data.toList with
                        | false =>
                          have hr := Lib.hid ((hF).trans (T.end_no (by rw [← hs_z]; exact hb2)))
                          have d1 := fun w h => takes_no b z ⟨#[63, 62]⟩ w h hb2
                          clear hb2 hyno hF hb3 hu hgu hs_z hE hs_s8 hlen2 hz2 hs_s5 hlen hz
                          go_enter Tryz.func36, Tryz.ntmps36
                          go_wp2_with fail
                          (with_reducible refine (c1 _ hA).mono ?_); rintro e w1 ⟨rfl, h1, g1⟩
                          go_wp2_with fail
                          (with_reducible refine (c2 _ h1).mono ?_); rintro e w2 ⟨rfl, h2, g2⟩
                          go_wp2_with fail
                          (with_reducible refine (c3 _ h2).mono ?_); rintro e w3 ⟨rfl, h3, g3⟩
                          go_wp2_with fail
                          (with_reducible refine (insist_yes _).mono ?_); rintro e w4 ⟨rfl, rfl⟩
                          go_wp2_with fail
                          (with_reducible refine (c4 _ h3).mono ?_); rintro e w5 ⟨rfl, h5, g5⟩
                          go_wp2_with fail
                          (with_reducible refine (c5 _).mono ?_); rintro e w6 ⟨rfl, b6⟩
                          have h6 := h5.below b6
                          have g6 := grown_of_below b6 (some b)
                          go_wp2_with fail
                          (with_reducible refine (insist_yes _).mono ?_); rintro e w7 ⟨rfl, rfl⟩
                          go_wp2_with fail
                          (with_reducible refine (c6 _ h6).mono ?_); rintro e w8 ⟨rfl, h8, g8⟩
                          go_wp2_with fail
                          (with_reducible refine (c7 _ h8).mono ?_); rintro e w9 ⟨rfl, h9, g9⟩
                          go_wp2_with fail
                          (with_reducible refine (c8 _ h9).mono ?_); rintro e w10 ⟨rfl, h10, g10⟩
                          go_wp2_with fail
                          (with_reducible refine (c9 _ h10.env).mono ?_); rintro e w11 ⟨rfl, b11⟩
                          have h11 := h10.below b11
                          have g11 := grown_of_below b11 (some b)
                          go_wp2_with fail
                          (with_reducible refine (insist_yes _).mono ?_); rintro e w12 ⟨rfl, rfl⟩
                          go_wp2_with fail
                          (with_reducible refine (c10 _ h11).mono ?_); rintro e w13 ⟨rfl, h13, g13⟩
                          go_wp2_with fail
                          (with_reducible refine (k1 _ h13).mono ?_); rintro e w14 ⟨rfl, h14, g14⟩
                          go_wp2_with fail
                          (with_reducible refine (k2 _ h14).mono ?_); rintro e w15 ⟨rfl, h15, g15⟩
                          go_wp2_with fail
                          (with_reducible refine (insist_yes _).mono ?_); rintro e w16 ⟨rfl, rfl⟩
                          go_wp2_with fail
                          (with_reducible refine (k3 _ h15).mono ?_); rintro e w17 ⟨rfl, h17, g17⟩
                          go_wp2_with fail
                          (with_reducible refine (d1 _ h17).mono ?_); rintro e w18 ⟨rfl, h18, g18⟩
                          go_wp2_with fail
                          (with_reducible refine (insist_no _).mono ?_); rintro e w19 ⟨rfl, rfl⟩
                          exact ⟨rfl, ans_no hr.out ((((((((((((((g0.trans g1).trans g2).trans g3).trans g5).trans g6).trans g8).trans g9).trans g10).trans g11).trans g13).trans g14).trans g15).trans g17).trans g18)⟩
                        | true =>
                          obtain ⟨lt, ht⟩ := T.begins_iff.1 hb2
                          obtain ⟨t, rfl⟩ := bytes_of lt
                          have hr := Lib.hid ((hF).trans (T.end_ok (by rw [← hs_z]; exact ht.symm)))
                          have d1 := fun w h => takes_yes b z t ⟨#[63, 62]⟩ w h ht
                          clear hb2 ht hyno hF hb3 hu hgu hs_z hE hs_s8 hlen2 hz2 hs_s5 hlen hz
                          go_enter Tryz.func36, Tryz.ntmps36
                          go_wp2_with fail
                          (with_reducible refine (c1 _ hA).mono ?_); rintro e w1 ⟨rfl, h1, g1⟩
                          go_wp2_with fail
                          (with_reducible refine (c2 _ h1).mono ?_); rintro e w2 ⟨rfl, h2, g2⟩
                          go_wp2_with fail
                          (with_reducible refine (c3 _ h2).mono ?_); rintro e w3 ⟨rfl, h3, g3⟩
                          go_wp2_with fail
                          (with_reducible refine (insist_yes _).mono ?_); rintro e w4 ⟨rfl, rfl⟩
                          go_wp2_with fail
                          (with_reducible refine (c4 _ h3).mono ?_); rintro e w5 ⟨rfl, h5, g5⟩
                          go_wp2_with fail
                          (with_reducible refine (c5 _).mono ?_); rintro e w6 ⟨rfl, b6⟩
                          have h6 := h5.below b6
                          have g6 := grown_of_below b6 (some b)
                          go_wp2_with fail
                          (with_reducible refine (insist_yes _).mono ?_); rintro e w7 ⟨rfl, rfl⟩
                          go_wp2_with fail
                          (with_reducible refine (c6 _ h6).mono ?_); rintro e w8 ⟨rfl, h8, g8⟩
                          go_wp2_with fail
                          (with_reducible refine (c7 _ h8).mono ?_); rintro e w9 ⟨rfl, h9, g9⟩
                          go_wp2_with fail
                          (with_reducible refine (c8 _ h9).mono ?_); rintro e w10 ⟨rfl, h10, g10⟩
                          go_wp2_with fail
                          (with_reducible refine (c9 _ h10.env).mono ?_); rintro e w11 ⟨rfl, b11⟩
                          have h11 := h10.below b11
                          have g11 := grown_of_below b11 (some b)
                          go_wp2_with fail
                          (with_reducible refine (insist_yes _).mono ?_); rintro e w12 ⟨rfl, rfl⟩
                          go_wp2_with fail
                          (with_reducible refine (c10 _ h11).mono ?_); rintro e w13 ⟨rfl, h13, g13⟩
                          go_wp2_with fail
                          (with_reducible refine (k1 _ h13).mono ?_); rintro e w14 ⟨rfl, h14, g14⟩
                          go_wp2_with fail
                          (with_reducible refine (k2 _ h14).mono ?_); rintro e w15 ⟨rfl, h15, g15⟩
                          go_wp2_with fail
                          (with_reducible refine (insist_yes _).mono ?_); rintro e w16 ⟨rfl, rfl⟩
                          go_wp2_with fail
                          (with_reducible refine (k3 _ h15).mono ?_); rintro e w17 ⟨rfl, h17, g17⟩
                          go_wp2_with fail
                          (with_reducible refine (d1 _ h17).mono ?_); rintro e w18 ⟨rfl, h18, g18⟩
                          go_wp2_with fail
                          (with_reducible refine (insist_yes _).mono ?_); rintro e w19 ⟨rfl, rfl⟩
                          have gA := (((((((((((((g1.trans g2).trans g3).trans g5).trans g6).trans g8).trans g9).trans g10).trans g11).trans g13).trans g14).trans g15).trans g17).trans g18)
                          have bA := bx.on gA hne
                          have d0 := bA.c0
                          have d1 := bA.c1
                          have d2 := bA.c2
                          have d3 := bA.c3
                          have d4 := bA.c4
                          have f0 := bA.free 0
                          have f1 := bA.free 1
                          have f2 := bA.free 2
                          have f3 := bA.free 3
                          have f4 := bA.free 4
                          replace bA := Lib.hid bA
                          clear bx
                          go_wp2_with fail
                          exact tok_end rfl rfl (bA.out.set _ _ _ _ _) (ans_plain hr.out rfl h18 ((((((((((((((g0.trans g1).trans g2).trans g3).trans g5).trans g6).trans g8).trans g9).trans g10).trans g11).trans g13).trans g14).trans g15).trans g17).trans g18) hb rfl)
                      have hr := Lib.hid ((hE).trans (T.std_bad (hlen2.2 hz2) (by rw [← hs_s8]; exact hu.symm) hgu hyyes hyno))
                      have e2 := str_ne hyno
                      clear hyyes hyno hb3 hu hgu hs_z hE hs_s8 hlen2 hz2 hs_s5 hlen hz
                      go_enter Tryz.func36, Tryz.ntmps36
                      go_wp2_with fail
                      (with_reducible refine (c1 _ hA).mono ?_); rintro e w1 ⟨rfl, h1, g1⟩
                      go_wp2_with fail
                      (with_reducible refine (c2 _ h1).mono ?_); rintro e w2 ⟨rfl, h2, g2⟩
                      go_wp2_with fail
                      (with_reducible refine (c3 _ h2).mono ?_); rintro e w3 ⟨rfl, h3, g3⟩
                      go_wp2_with fail
                      (with_reducible refine (insist_yes _).mono ?_); rintro e w4 ⟨rfl, rfl⟩
                      go_wp2_with fail
                      (with_reducible refine (c4 _ h3).mono ?_); rintro e w5 ⟨rfl, h5, g5⟩
                      go_wp2_with fail
                      (with_reducible refine (c5 _).mono ?_); rintro e w6 ⟨rfl, b6⟩
                      have h6 := h5.below b6
                      have g6 := grown_of_below b6 (some b)
                      go_wp2_with fail
                      (with_reducible refine (insist_yes _).mono ?_); rintro e w7 ⟨rfl, rfl⟩
                      go_wp2_with fail
                      (with_reducible refine (c6 _ h6).mono ?_); rintro e w8 ⟨rfl, h8, g8⟩
                      go_wp2_with fail
                      (with_reducible refine (c7 _ h8).mono ?_); rintro e w9 ⟨rfl, h9, g9⟩
                      go_wp2_with fail
                      (with_reducible refine (c8 _ h9).mono ?_); rintro e w10 ⟨rfl, h10, g10⟩
                      go_wp2_with fail
                      (with_reducible refine (c9 _ h10.env).mono ?_); rintro e w11 ⟨rfl, b11⟩
                      have h11 := h10.below b11
                      have g11 := grown_of_below b11 (some b)
                      go_wp2_with fail
                      (with_reducible refine (insist_yes _).mono ?_); rintro e w12 ⟨rfl, rfl⟩
                      go_wp2_with fail
                      (with_reducible refine (c10 _ h11).mono ?_); rintro e w13 ⟨rfl, h13, g13⟩
                      go_wp2_with fail
                      (with_reducible refine (k1 _ h13).mono ?_); rintro e w14 ⟨rfl, h14, g14⟩
                      go_wp2_with fail
                      (with_reducible refine (k2 _ h14).mono ?_); rintro e w15 ⟨rfl, h15, g15⟩
                      go_wp2_with fail
                      (with_reducible refine (insist_no _).mono ?_); rintro e w16 ⟨rfl, rfl⟩
                      exact ⟨rfl, ans_no hr.out ((((((((((((g0.trans g1).trans g2).trans g3).trans g5).trans g6).trans g8).trans g9).trans g10).trans g11).trans g13).trans g14).trans g15)⟩
                · have c10 := fun w h => space_is b s7 s8 w h hs_s8 false (decide_eq_false hz2)
                  have hF := hE.trans (T.std_no (.inl (fun e => hz2 (hlen2.1 e))))
                  cases hb2 : T.begins [63, 62] s8.data.toList with
                  | false =>
                    have hr := Lib.hid ((hF).trans (T.end_no (by rw [← hs_s8]; exact hb2)))
                    have d1 := fun w h => takes_no b s8 ⟨#[63, 62]⟩ w h hb2
                    clear hb2 hF hE hs_s8 hlen2 hz2 hs_s5 hlen hz
                    go_enter Tryz.func36, Tryz.ntmps36
                    go_wp2_with fail
                    (with_reducible refine (c1 _ hA).mono ?_); rintro e w1 ⟨rfl, h1, g1⟩
                    go_wp2_with fail
                    (with_reducible refine (c2 _ h1).mono ?_); rintro e w2 ⟨rfl, h2, g2⟩
                    go_wp2_with fail
                    (with_reducible refine (c3 _ h2).mono ?_); rintro e w3 ⟨rfl, h3, g3⟩
                    go_wp2_with fail
                    (with_reducible refine (insist_yes _).mono ?_); rintro e w4 ⟨rfl, rfl⟩
                    go_wp2_with fail
                    (with_reducible refine (c4 _ h3).mono ?_); rintro e w5 ⟨rfl, h5, g5⟩
                    go_wp2_with fail
                    (with_reducible refine (c5 _).mono ?_); rintro e w6 ⟨rfl, b6⟩
                    have h6 := h5.below b6
                    have g6 := grown_of_below b6 (some b)
                    go_wp2_with fail
                    (with_reducible refine (insist_yes _).mono ?_); rintro e w7 ⟨rfl, rfl⟩
                    go_wp2_with fail
                    (with_reducible refine (c6 _ h6).mono ?_); rintro e w8 ⟨rfl, h8, g8⟩
                    go_wp2_with fail
                    (with_reducible refine (c7 _ h8).mono ?_); rintro e w9 ⟨rfl, h9, g9⟩
                    go_wp2_with fail
                    (with_reducible refine (c8 _ h9).mono ?_); rintro e w10 ⟨rfl, h10, g10⟩
                    go_wp2_with fail
                    (with_reducible refine (c9 _ h10.env).mono ?_); rintro e w11 ⟨rfl, b11⟩
                    have h11 := h10.below b11
                    have g11 := grown_of_below b11 (some b)
                    go_wp2_with fail
                    (with_reducible refine (insist_yes _).mono ?_); rintro e w12 ⟨rfl, rfl⟩
                    go_wp2_with fail
                    (with_reducible refine (c10 _ h11).mono ?_); rintro e w13 ⟨rfl, h13, g13⟩
                    go_wp2_with fail
                    (with_reducible refine (d1 _ h13).mono ?_); rintro e w14 ⟨rfl, h14, g14⟩
                    go_wp2_with fail
                    (with_reducible refine (insist_no _).mono ?_); rintro e w15 ⟨rfl, rfl⟩
                    exact ⟨rfl, ans_no hr.out (((((((((((g0.trans g1).trans g2).trans g3).trans g5).trans g6).trans g8).trans g9).trans g10).trans g11).trans g13).trans g14)⟩
                  | true =>
                    obtain ⟨lt, ht⟩ := T.begins_iff.1 hb2
                    obtain ⟨t, rfl⟩ := bytes_of lt
                    have hr := Lib.hid ((hF).trans (T.end_ok (by rw [← hs_s8]; exact ht.symm)))
                    have d1 := fun w h => takes_yes b s8 t ⟨#[63, 62]⟩ w h ht
                    clear hb2 ht hF hE hs_s8 hlen2 hz2 hs_s5 hlen hz
                    go_enter Tryz.func36, Tryz.ntmps36
                    go_wp2_with fail
                    (with_reducible refine (c1 _ hA).mono ?_); rintro e w1 ⟨rfl, h1, g1⟩
                    go_wp2_with fail
                    (with_reducible refine (c2 _ h1).mono ?_); rintro e w2 ⟨rfl, h2, g2⟩
                    go_wp2_with fail
                    (with_reducible refine (c3 _ h2).mono ?_); rintro e w3 ⟨rfl, h3, g3⟩
                    go_wp2_with fail
                    (with_reducible refine (insist_yes _).mono ?_); rintro e w4 ⟨rfl, rfl⟩
                    go_wp2_with fail
                    (with_reducible refine (c4 _ h3).mono ?_); rintro e w5 ⟨rfl, h5, g5⟩
                    go_wp2_with fail
                    (with_reducible refine (c5 _).mono ?_); rintro e w6 ⟨rfl, b6⟩
                    have h6 := h5.below b6
                    have g6 := grown_of_below b6 (some b)
                    go_wp2_with fail
                    (with_reducible refine (insist_yes _).mono ?_); rintro e w7 ⟨rfl, rfl⟩
                    go_wp2_with fail
                    (with_reducible refine (c6 _ h6).mono ?_); rintro e w8 ⟨rfl, h8, g8⟩
                    go_wp2_with fail
                    (with_reducible refine (c7 _ h8).mono ?_); rintro e w9 ⟨rfl, h9, g9⟩
                    go_wp2_with fail
                    (with_reducible refine (c8 _ h9).mono ?_); rintro e w10 ⟨rfl, h10, g10⟩
                    go_wp2_with fail
                    (with_reducible refine (c9 _ h10.env).mono ?_); rintro e w11 ⟨rfl, b11⟩
                    have h11 := h10.below b11
                    have g11 := grown_of_below b11 (some b)
                    go_wp2_with fail
                    (with_reducible refine (insist_yes _).mono ?_); rintro e w12 ⟨rfl, rfl⟩
                    go_wp2_with fail
                    (with_reducible refine (c10 _ h11).mono ?_); rintro e w13 ⟨rfl, h13, g13⟩
                    go_wp2_with fail
                    (with_reducible refine (d1 _ h13).mono ?_); rintro e w14 ⟨rfl, h14, g14⟩
                    go_wp2_with fail
                    (with_reducible refine (insist_yes _).mono ?_); rintro e w15 ⟨rfl, rfl⟩
                    have gA := ((((((((((g1.trans g2).trans g3).trans g5).trans g6).trans g8).trans g9).trans g10).trans g11).trans g13).trans g14)
                    have bA := bx.on gA hne
                    have d0 := bA.c0
                    have d1 := bA.c1
                    have d2 := bA.c2
                    have d3 := bA.c3
                    have d4 := bA.c4
                    have f0 := bA.free 0
                    have f1 := bA.free 1
                    have f2 := bA.free 2
                    have f3 := bA.free 3
                    have f4 := bA.free 4
                    replace bA := Lib.hid bA
                    clear bx
                    go_wp2_with fail
                    exact tok_end rfl rfl (bA.out.set _ _ _ _ _) (ans_plain hr.out rfl h14 (((((((((((g0.trans g1).trans g2).trans g3).trans g5).trans g6).trans g8).trans g9).trans g10).trans g11).trans g13).trans g14) hb rfl)
              · have c9 := fun w hE => isUtf_any v2 w hmv2 hE false (decide_eq_false hf)
                have hr := Lib.hid (show T.decl s1.data.toList = .error 70 by rw [hD, T.enc_bad (hlen.2 hz) hsk hg hf])
                clear hg hD hsk hf hs_s5 hlen hz
                go_enter Tryz.func36, Tryz.ntmps36
                go_wp2_with fail
                (with_reducible refine (c1 _ hA).mono ?_); rintro e w1 ⟨rfl, h1, g1⟩
                go_wp2_with fail
                (with_reducible refine (c2 _ h1).mono ?_); rintro e w2 ⟨rfl, h2, g2⟩
                go_wp2_with fail
                (with_reducible refine (c3 _ h2).mono ?_); rintro e w3 ⟨rfl, h3, g3⟩
                go_wp2_with fail
                (with_reducible refine (insist_yes _).mono ?_); rintro e w4 ⟨rfl, rfl⟩
                go_wp2_with fail
                (with_reducible refine (c4 _ h3).mono ?_); rintro e w5 ⟨rfl, h5, g5⟩
                go_wp2_with fail
                (with_reducible refine (c5 _).mono ?_); rintro e w6 ⟨rfl, b6⟩
                have h6 := h5.below b6
                have g6 := grown_of_below b6 (some b)
                go_wp2_with fail
                (with_reducible refine (insist_yes _).mono ?_); rintro e w7 ⟨rfl, rfl⟩
                go_wp2_with fail
                (with_reducible refine (c6 _ h6).mono ?_); rintro e w8 ⟨rfl, h8, g8⟩
                go_wp2_with fail
                (with_reducible refine (c7 _ h8).mono ?_); rintro e w9 ⟨rfl, h9, g9⟩
                go_wp2_with fail
                (with_reducible refine (c8 _ h9).mono ?_); rintro e w10 ⟨rfl, h10, g10⟩
                go_wp2_with fail
                (with_reducible refine (c9 _ h10.env).mono ?_); rintro e w11 ⟨rfl, b11⟩
                have h11 := h10.below b11
                have g11 := grown_of_below b11 (some b)
                go_wp2_with fail
                (with_reducible refine (insist_no _).mono ?_); rintro e w12 ⟨rfl, rfl⟩
                exact ⟨rfl, ans_no hr.out (((((((((g0.trans g1).trans g2).trans g3).trans g5).trans g6).trans g8).trans g9).trans g10).trans g11)⟩
        · have c6 := fun w h => space_is b s4 s5 w h hs_s5 false (decide_eq_false hz)
          have hF : T.decl s1.data.toList = T.declEnd s4.data.toList := by
            rw [hD, T.enc_no (.inl (fun e => hz (hlen.1 e)))]
            exact T.std_no (.inl (fun e => hz (hlen.1 e)))
          clear hD
          cases hb2 : T.begins [63, 62] s5.data.toList with
          | false =>
            have hr := Lib.hid ((hF).trans (T.end_no (by rw [← hs_s5]; exact hb2)))
            have d1 := fun w h => takes_no b s5 ⟨#[63, 62]⟩ w h hb2
            clear hb2 hF hs_s5 hlen hz
            go_enter Tryz.func36, Tryz.ntmps36
            go_wp2_with fail
            (with_reducible refine (c1 _ hA).mono ?_); rintro e w1 ⟨rfl, h1, g1⟩
            go_wp2_with fail
            (with_reducible refine (c2 _ h1).mono ?_); rintro e w2 ⟨rfl, h2, g2⟩
            go_wp2_with fail
            (with_reducible refine (c3 _ h2).mono ?_); rintro e w3 ⟨rfl, h3, g3⟩
            go_wp2_with fail
            (with_reducible refine (insist_yes _).mono ?_); rintro e w4 ⟨rfl, rfl⟩
            go_wp2_with fail
            (with_reducible refine (c4 _ h3).mono ?_); rintro e w5 ⟨rfl, h5, g5⟩
            go_wp2_with fail
            (with_reducible refine (c5 _).mono ?_); rintro e w6 ⟨rfl, b6⟩
            have h6 := h5.below b6
            have g6 := grown_of_below b6 (some b)
            go_wp2_with fail
            (with_reducible refine (insist_yes _).mono ?_); rintro e w7 ⟨rfl, rfl⟩
            go_wp2_with fail
            (with_reducible refine (c6 _ h6).mono ?_); rintro e w8 ⟨rfl, h8, g8⟩
            go_wp2_with fail
            (with_reducible refine (d1 _ h8).mono ?_); rintro e w9 ⟨rfl, h9, g9⟩
            go_wp2_with fail
            (with_reducible refine (insist_no _).mono ?_); rintro e w10 ⟨rfl, rfl⟩
            exact ⟨rfl, ans_no hr.out (((((((g0.trans g1).trans g2).trans g3).trans g5).trans g6).trans g8).trans g9)⟩
          | true =>
            obtain ⟨lt, ht⟩ := T.begins_iff.1 hb2
            obtain ⟨t, rfl⟩ := bytes_of lt
            have hr := Lib.hid ((hF).trans (T.end_ok (by rw [← hs_s5]; exact ht.symm)))
            have d1 := fun w h => takes_yes b s5 t ⟨#[63, 62]⟩ w h ht
            clear hb2 ht hF hs_s5 hlen hz
            go_enter Tryz.func36, Tryz.ntmps36
            go_wp2_with fail
            (with_reducible refine (c1 _ hA).mono ?_); rintro e w1 ⟨rfl, h1, g1⟩
            go_wp2_with fail
            (with_reducible refine (c2 _ h1).mono ?_); rintro e w2 ⟨rfl, h2, g2⟩
            go_wp2_with fail
            (with_reducible refine (c3 _ h2).mono ?_); rintro e w3 ⟨rfl, h3, g3⟩
            go_wp2_with fail
            (with_reducible refine (insist_yes _).mono ?_); rintro e w4 ⟨rfl, rfl⟩
            go_wp2_with fail
            (with_reducible refine (c4 _ h3).mono ?_); rintro e w5 ⟨rfl, h5, g5⟩
            go_wp2_with fail
            (with_reducible refine (c5 _).mono ?_); rintro e w6 ⟨rfl, b6⟩
            have h6 := h5.below b6
            have g6 := grown_of_below b6 (some b)
            go_wp2_with fail
            (with_reducible refine (insist_yes _).mono ?_); rintro e w7 ⟨rfl, rfl⟩
            go_wp2_with fail
            (with_reducible refine (c6 _ h6).mono ?_); rintro e w8 ⟨rfl, h8, g8⟩
            go_wp2_with fail
            (with_reducible refine (d1 _ h8).mono ?_); rintro e w9 ⟨rfl, h9, g9⟩
            go_wp2_with fail
            (with_reducible refine (insist_yes _).mono ?_); rintro e w10 ⟨rfl, rfl⟩
            have gA := ((((((g1.trans g2).trans g3).trans g5).trans g6).trans g8).trans g9)
            have bA := bx.on gA hne
            have d0 := bA.c0
            have d1 := bA.c1
            have d2 := bA.c2
            have d3 := bA.c3
            have d4 := bA.c4
            have f0 := bA.free 0
            have f1 := bA.free 1
            have f2 := bA.free 2
            have f3 := bA.free 3
            have f4 := bA.free 4
            replace bA := Lib.hid bA
            clear bx
            go_wp2_with fail
            exact tok_end rfl rfl (bA.out.set _ _ _ _ _) (ans_plain hr.out rfl h9 (((((((g0.trans g1).trans g2).trans g3).trans g5).trans g6).trans g8).trans g9) hb rfl)
end Go.Proofs.YtcjlhdmekhifaaaGreatDoor
