/-
  What the document's own words of tokens come to: next.
  What the document's own words of tokens come to: Tokens.
-/
import Derived.Test.YtcjlhdmekhifaaaGreatDoorD44
import Derived.Test.YtcjlhdmekhifaaaGreatDoorD43
import Derived.Test.YtcjlhdmekhifaaaGreatDoorD10
import Derived.Test.YtcjlhdmekhifaaaGreatDoorD33
namespace Go.Proofs.YtcjlhdmekhifaaaGreatDoor
open Go.RowKit

namespace T
theorem comment_bare {l r : List UInt8} {t : Tok} (h : comment l = .ok (t, r)) : t.attrs = [] := by
  unfold comment at h
  split at h
  · cases h; rfl
  · cases h
theorem cdata_bare {l r : List UInt8} {t : Tok} (h : cdata l = .ok (t, r)) : t.attrs = [] := by
  unfold cdata at h
  split at h
  · cases h; rfl
  · cases h
theorem pi_bare {l r : List UInt8} {t : Tok} (h : pi l = .ok (t, r)) : t.attrs = [] := by
  unfold pi at h
  split at h
  · cases h
  · split at h
    · cases h
    · split at h
      · cases h
      · split at h
        · cases h; rfl
        · cases h
theorem shut_bare {l r : List UInt8} {t : Tok} (h : shut l = .ok (t, r)) : t.attrs = [] := by
  unfold shut at h
  split at h
  · cases h
  · split at h
    · cases h; rfl
    · cases h
theorem text_bare {l r : List UInt8} {t : Tok} (h : text l = .ok (t, r)) : t.attrs = [] := by
  unfold text at h
  split at h
  · cases h
  · split at h
    · cases h
    · cases h; rfl
theorem decl_bare {l r : List UInt8} {t : Tok} (h : decl l = .ok (t, r)) : t.attrs = [] := by
  rw [(decl_append h []).2.2]
theorem declares_of {l : List UInt8} (h : begins [60, 63, 120, 109, 108] l = false) : declares l = false := by unfold declares; rw [h]; rfl
end T
theorem declares_short {s : ByteArray} (h : s.size ≤ 5) : T.declares s.data.toList = false := by
  unfold T.declares
  rw [List.drop_of_length_le (by rw [list_len]; exact h)]
  simp
theorem declares_long {s : ByteArray} (h : 5 < s.size) (hb : T.begins [60, 63, 120, 109, 108] s.data.toList = true) : T.declares s.data.toList = G.space ((s[5]).toNat : Int) := by
  unfold T.declares
  rw [hb, drop_cons s 5 h]
  rfl

theorem bare_told {g : T.Got} {w w' : World} {x : Ending} (hb : ∀ t r, g = .ok (t, r) → t.attrs = []) (h : x = .returned (partVal g (.slice none 0 0)) ∧ Below w.heap.size w w') : PartTold g w x w' :=
  ⟨_, h.1, fun t r hg => (by rw [hb t r hg]; exact pairs_nil _ _), h.2⟩
theorem refine_told {f : FuncId} {args : Array Value} {g : T.Got} {w : World} (hb : ∀ t r, g = .ok (t, r) → t.attrs = []) (h : Calls Tryz.prog f args w fun x w' => x = .returned (partVal g (.slice none 0 0)) ∧ Below w.heap.size w w') : Calls Tryz.prog f args w (PartTold g w) := h.mono fun _ _ hh => bare_told hb hh
theorem told_agg {g : T.Got} {v : Value} {B : Nat} {w' : World} (hv : ∀ t r, g = .ok (t, r) → OwnsPairs B v (t.attrs.map mpair) w') :
    ∃ (k : Int) (n : ByteArray) (ao : Option Addr) (m cap : Nat) (al : Bool) (d r : ByteArray) (e : Int), partVal g v = partAgg k n (.slice ao m cap) al d r e ∧ partAgg k n (.slice ao m cap) al d r e = partVal g (.slice ao m cap) ∧ (∀ t r, g = .ok (t, r) → OwnsPairs B (.slice ao m cap) (t.attrs.map mpair) w') := by
  cases g with
  | error e => exact ⟨_, _, none, 0, 0, _, _, _, _, rfl, rfl, fun t r h => by cases h⟩
  | ok x =>
    obtain ⟨t, r⟩ := x
    have ho := hv t r rfl
    obtain ⟨ao, cap, rfl, _⟩ := pairs_of_owns ho
    exact ⟨_, _, ao, _, cap, _, _, _, _, rfl, rfl, hv⟩
theorem owns_base {B B' : Nat} {v : Value} {l : List Pair} {w : World} (h : OwnsPairs B v l w) (hB : B' ≤ B) : OwnsPairs B' v l w := by
  obtain ⟨hl, h0 | ⟨g, cap, cur, rfl, hb, r⟩⟩ := h
  · exact ⟨hl, .inl h0⟩
  · exact ⟨hl, .inr ⟨g, cap, cur, rfl, Nat.le_trans hB hb, r⟩⟩
theorem told_next {G g : T.Got} {w wc w' : World} {b : Nat} {cs : Array Value} {k : Int} {n d r : ByteArray} {ao : Option Addr} {m cap : Nat} {al : Bool} {e : Int} (hG : G = g) (hE : partAgg k n (.slice ao m cap) al d r e = partVal g (.slice ao m cap)) (hv : ∀ t r, g = .ok (t, r) → OwnsPairs wc.heap.size (.slice ao m cap) (t.attrs.map mpair) w') (hB : w.heap.size ≤ wc.heap.size)
    (hc : Cells w' b 53 cs) (hb : w.heap.size ≤ b) (cF : Below w.heap.size w w') (x0 x1 x2 x3 x4 x5 x6 : Value) : PartTold G w (.returned (partAgg k n (.slice ao m cap) al d r e)) (((((((w'.setCell ⟨b, 0, none⟩ x0).setCell ⟨b, 1, none⟩ x1).setCell ⟨b, 2, none⟩ x2).setCell ⟨b, 3, none⟩ x3).setCell ⟨b, 4, none⟩ x4).setCell ⟨b, 5, none⟩ x5).setCell ⟨b, 6, none⟩ x6) := by
  subst hG
  exact ⟨_, by rw [hE], fun t r hg => part_rows hc (owns_base (hv t r hg) hB) (by decide) _ _ _ _ _ _ _, part_below cF hb _ _ _ _ _ _ _⟩

set_option maxRecDepth 100000 in
set_option maxHeartbeats 12800000 in
theorem refNext_any (s : ByteArray) (first : Bool) (w : World) (hs : s.size ≤ 1000000) : Calls Tryz.prog 25 #[.string s, .bool first] w (PartTold (T.next first s.data.toList) w) := by
  have hN : T.next first s.data.toList = if first && T.declares s.data.toList then T.decl (s.data.toList.drop 5)
    else if T.begins [60, 33, 45, 45] s.data.toList then T.comment (s.data.toList.drop 4)
    else if T.begins [60, 33, 91, 67, 68, 65, 84, 65, 91] s.data.toList then T.cdata (s.data.toList.drop 9)
    else if T.begins [60, 33, 68, 79, 67, 84, 89, 80, 69] s.data.toList then .error 72
    else if T.begins [60, 33] s.data.toList then .error 70
    else if T.begins [60, 63] s.data.toList then T.pi (s.data.toList.drop 2)
    else if T.begins [60, 47] s.data.toList then T.shut (s.data.toList.drop 2)
    else if T.begins [60] s.data.toList then T.opened (s.data.toList.drop 1)
    else T.text s.data.toList := rfl
  have hbig : ∀ p : List UInt8, T.begins p s.data.toList = true → p.length ≤ s.size := fun p h => by
    rw [T.begins_take] at h
    have := (of_decide_eq_true h).1
    rwa [list_len] at this
  replace hbig := Lib.hid hbig
  go_enter Tryz.func25, Tryz.ntmps25
  have b0 := (Below.refl w.heap.size w).alloc (Nat.le_refl _) (.cells (partCells 0 ⟨#[]⟩ (.slice none 0 0) false ⟨#[]⟩ ⟨#[]⟩ 0) 53)
  have k0 := Cells.new w 53 (partCells 0 ⟨#[]⟩ (.slice none 0 0) false ⟨#[]⟩ ⟨#[]⟩ 0)
  obtain ⟨D, hD⟩ : ∃ D, D = (first && T.declares s.data.toList) := ⟨_, rfl⟩
  rw [← hD] at hN
  replace hN := Lib.hid hN
  cases first with
  | false =>
    obtain rfl : D = false := by rw [hD]; rfl
    replace hN := Lib.hid (hN.out.trans (if_neg (by decide)))
    clear hD
    go_wp2_with fail
    (with_reducible refine (refBegins_any s ⟨#[60, 33, 45, 45]⟩ _ (by unfold maxLen; omega) (by decide)).mono ?_); rintro e w2 ⟨rfl, rfl⟩
    simp only []
    cases hb : T.begins [60, 33, 45, 45] s.data.toList with
    | true =>
      replace hN := Lib.hid (hN.out.trans (if_pos hb))
      have hsz := hbig.out _ hb
      simp only [List.length_cons, List.length_nil, Nat.reduceAdd] at hsz
      have hszi : (4 : Int) ≤ (s.size : Int) := by omega
      have hdl := Lib.hid (show (s.extract 4 s.size).data.toList = s.data.toList.drop 4 from drop_list s 4)
      have hdz : (s.extract 4 s.size).size ≤ 1000000 := by simp; omega
      have hG := Lib.hid (show T.next false s.data.toList = T.comment (s.extract 4 s.size).data.toList by rw [hdl.out]; exact hN.out)
      clear hb
      go_wp2_with fail
      (with_reducible refine (Calls.mono (refine_told (fun t r => T.comment_bare) (refComment_any (s.extract 4 s.size) _ hdz)) ?_))
      rintro e wF ⟨v, rfl, hv, bF⟩
      obtain ⟨k, n, ao, m, cap, al, d, r, ee, hE1, hE2, hv2⟩ := told_agg hv
      rw [hE1]
      have kF := k0.on bF
      have cF := b0.trans (bF.mono b0.size)
      replace hE2 := Lib.hid hE2
      replace hv2 := Lib.hid hv2
      obtain ⟨q0, q1, q2, q3, q4, q5, q6⟩ := part_open kF
      obtain ⟨f0, f1, f2, f3, f4, f5, f6⟩ := part_free kF
      replace kF := Lib.hid kF
      have hBB := Lib.hid b0.size
      clear hv hE1 hN
      unfold partAgg partCells
      go_wp2_with fail
      exact part_end (rb := w.heap.size) rfl rfl (part_set kF.out) (told_next hG.out hE2.out hv2.out hBB.out kF.out (Nat.le_refl _) cF _ _ _ _ _ _ _)
    | false =>
      replace hN := Lib.hid (hN.out.trans (if_neg (by rw [hb]; decide)))
      clear hb
      go_wp2_with fail
      (with_reducible refine (refBegins_any s ⟨#[60, 33, 91, 67, 68, 65, 84, 65, 91]⟩ _ (by unfold maxLen; omega) (by decide)).mono ?_); rintro e w2 ⟨rfl, rfl⟩
      simp only []
      cases hb : T.begins [60, 33, 91, 67, 68, 65, 84, 65, 91] s.data.toList with
      | true =>
        replace hN := Lib.hid (hN.out.trans (if_pos hb))
        have hsz := hbig.out _ hb
        simp only [List.length_cons, List.length_nil, Nat.reduceAdd] at hsz
        have hszi : (9 : Int) ≤ (s.size : Int) := by omega
        have hdl := Lib.hid (show (s.extract 9 s.size).data.toList = s.data.toList.drop 9 from drop_list s 9)
        have hdz : (s.extract 9 s.size).size ≤ 1000000 := by simp; omega
        have hG := Lib.hid (show T.next false s.data.toList = T.cdata (s.extract 9 s.size).data.toList by rw [hdl.out]; exact hN.out)
        clear hb
        go_wp2_with fail
        (with_reducible refine (Calls.mono (refine_told (fun t r => T.cdata_bare) (refCdata_any (s.extract 9 s.size) _ hdz)) ?_))
        rintro e wF ⟨v, rfl, hv, bF⟩
        obtain ⟨k, n, ao, m, cap, al, d, r, ee, hE1, hE2, hv2⟩ := told_agg hv
        rw [hE1]
        have kF := k0.on bF
        have cF := b0.trans (bF.mono b0.size)
        replace hE2 := Lib.hid hE2
        replace hv2 := Lib.hid hv2
        obtain ⟨q0, q1, q2, q3, q4, q5, q6⟩ := part_open kF
        obtain ⟨f0, f1, f2, f3, f4, f5, f6⟩ := part_free kF
        replace kF := Lib.hid kF
        have hBB := Lib.hid b0.size
        clear hv hE1 hN
        unfold partAgg partCells
        go_wp2_with fail
        exact part_end (rb := w.heap.size) rfl rfl (part_set kF.out) (told_next hG.out hE2.out hv2.out hBB.out kF.out (Nat.le_refl _) cF _ _ _ _ _ _ _)
      | false =>
        replace hN := Lib.hid (hN.out.trans (if_neg (by rw [hb]; decide)))
        clear hb
        go_wp2_with fail
        (with_reducible refine (refBegins_any s ⟨#[60, 33, 68, 79, 67, 84, 89, 80, 69]⟩ _ (by unfold maxLen; omega) (by decide)).mono ?_); rintro e w2 ⟨rfl, rfl⟩
        simp only []
        cases hb : T.begins [60, 33, 68, 79, 67, 84, 89, 80, 69] s.data.toList with
        | true =>
          replace hN := Lib.hid (hN.out.trans (if_pos hb))
          have hg := hN
          clear hN hb
          go_wp2_with fail
          (with_reducible refine (refFailed_any 72 _).mono ?_); rintro e wF ⟨rfl, bF⟩
          have kF := k0.on bF
          have cF := b0.trans (bF.mono b0.size)
          obtain ⟨q0, q1, q2, q3, q4, q5, q6⟩ := part_open kF
          obtain ⟨f0, f1, f2, f3, f4, f5, f6⟩ := part_free kF
          replace kF := Lib.hid kF
          unfold partAgg partCells
          go_wp2_with fail
          exact part_end (rb := w.heap.size) rfl rfl (part_set kF.out) (told_err hg.out (part_below cF (Nat.le_refl _) _ _ _ _ _ _ _))
        | false =>
          replace hN := Lib.hid (hN.out.trans (if_neg (by rw [hb]; decide)))
          clear hb
          go_wp2_with fail
          (with_reducible refine (refBegins_any s ⟨#[60, 33]⟩ _ (by unfold maxLen; omega) (by decide)).mono ?_); rintro e w2 ⟨rfl, rfl⟩
          simp only []
          cases hb : T.begins [60, 33] s.data.toList with
          | true =>
            replace hN := Lib.hid (hN.out.trans (if_pos hb))
            have hg := hN
            clear hN hb
            go_wp2_with fail
            (with_reducible refine (refFailed_any 70 _).mono ?_); rintro e wF ⟨rfl, bF⟩
            have kF := k0.on bF
            have cF := b0.trans (bF.mono b0.size)
            obtain ⟨q0, q1, q2, q3, q4, q5, q6⟩ := part_open kF
            obtain ⟨f0, f1, f2, f3, f4, f5, f6⟩ := part_free kF
            replace kF := Lib.hid kF
            unfold partAgg partCells
            go_wp2_with fail
            exact part_end (rb := w.heap.size) rfl rfl (part_set kF.out) (told_err hg.out (part_below cF (Nat.le_refl _) _ _ _ _ _ _ _))
          | false =>
            replace hN := Lib.hid (hN.out.trans (if_neg (by rw [hb]; decide)))
            clear hb
            go_wp2_with fail
            (with_reducible refine (refBegins_any s ⟨#[60, 63]⟩ _ (by unfold maxLen; omega) (by decide)).mono ?_); rintro e w2 ⟨rfl, rfl⟩
            simp only []
            cases hb : T.begins [60, 63] s.data.toList with
            | true =>
              replace hN := Lib.hid (hN.out.trans (if_pos hb))
              have hsz := hbig.out _ hb
              simp only [List.length_cons, List.length_nil, Nat.reduceAdd] at hsz
              have hszi : (2 : Int) ≤ (s.size : Int) := by omega
              have hdl := Lib.hid (show (s.extract 2 s.size).data.toList = s.data.toList.drop 2 from drop_list s 2)
              have hdz : (s.extract 2 s.size).size ≤ 1000000 := by simp; omega
              have hG := Lib.hid (show T.next false s.data.toList = T.pi (s.extract 2 s.size).data.toList by rw [hdl.out]; exact hN.out)
              clear hb
              go_wp2_with fail
              (with_reducible refine (Calls.mono (refine_told (fun t r => T.pi_bare) (refPi_any (s.extract 2 s.size) _ hdz)) ?_))
              rintro e wF ⟨v, rfl, hv, bF⟩
              obtain ⟨k, n, ao, m, cap, al, d, r, ee, hE1, hE2, hv2⟩ := told_agg hv
              rw [hE1]
              have kF := k0.on bF
              have cF := b0.trans (bF.mono b0.size)
              replace hE2 := Lib.hid hE2
              replace hv2 := Lib.hid hv2
              obtain ⟨q0, q1, q2, q3, q4, q5, q6⟩ := part_open kF
              obtain ⟨f0, f1, f2, f3, f4, f5, f6⟩ := part_free kF
              replace kF := Lib.hid kF
              have hBB := Lib.hid b0.size
              clear hv hE1 hN
              unfold partAgg partCells
              go_wp2_with fail
              exact part_end (rb := w.heap.size) rfl rfl (part_set kF.out) (told_next hG.out hE2.out hv2.out hBB.out kF.out (Nat.le_refl _) cF _ _ _ _ _ _ _)
            | false =>
              replace hN := Lib.hid (hN.out.trans (if_neg (by rw [hb]; decide)))
              clear hb
              go_wp2_with fail
              (with_reducible refine (refBegins_any s ⟨#[60, 47]⟩ _ (by unfold maxLen; omega) (by decide)).mono ?_); rintro e w2 ⟨rfl, rfl⟩
              simp only []
              cases hb : T.begins [60, 47] s.data.toList with
              | true =>
                replace hN := Lib.hid (hN.out.trans (if_pos hb))
                have hsz := hbig.out _ hb
                simp only [List.length_cons, List.length_nil, Nat.reduceAdd] at hsz
                have hszi : (2 : Int) ≤ (s.size : Int) := by omega
                have hdl := Lib.hid (show (s.extract 2 s.size).data.toList = s.data.toList.drop 2 from drop_list s 2)
                have hdz : (s.extract 2 s.size).size ≤ 1000000 := by simp; omega
                have hG := Lib.hid (show T.next false s.data.toList = T.shut (s.extract 2 s.size).data.toList by rw [hdl.out]; exact hN.out)
                clear hb
                go_wp2_with fail
                (with_reducible refine (Calls.mono (refine_told (fun t r => T.shut_bare) (refShut_any (s.extract 2 s.size) _ hdz)) ?_))
                rintro e wF ⟨v, rfl, hv, bF⟩
                obtain ⟨k, n, ao, m, cap, al, d, r, ee, hE1, hE2, hv2⟩ := told_agg hv
                rw [hE1]
                have kF := k0.on bF
                have cF := b0.trans (bF.mono b0.size)
                replace hE2 := Lib.hid hE2
                replace hv2 := Lib.hid hv2
                obtain ⟨q0, q1, q2, q3, q4, q5, q6⟩ := part_open kF
                obtain ⟨f0, f1, f2, f3, f4, f5, f6⟩ := part_free kF
                replace kF := Lib.hid kF
                have hBB := Lib.hid b0.size
                clear hv hE1 hN
                unfold partAgg partCells
                go_wp2_with fail
                exact part_end (rb := w.heap.size) rfl rfl (part_set kF.out) (told_next hG.out hE2.out hv2.out hBB.out kF.out (Nat.le_refl _) cF _ _ _ _ _ _ _)
              | false =>
                replace hN := Lib.hid (hN.out.trans (if_neg (by rw [hb]; decide)))
                clear hb
                go_wp2_with fail
                (with_reducible refine (refBegins_any s ⟨#[60]⟩ _ (by unfold maxLen; omega) (by decide)).mono ?_); rintro e w2 ⟨rfl, rfl⟩
                simp only []
                cases hb : T.begins [60] s.data.toList with
                | true =>
                  replace hN := Lib.hid (hN.out.trans (if_pos hb))
                  have hsz := hbig.out _ hb
                  simp only [List.length_cons, List.length_nil, Nat.reduceAdd] at hsz
                  have hszi : (1 : Int) ≤ (s.size : Int) := by omega
                  have hdl := Lib.hid (show (s.extract 1 s.size).data.toList = s.data.toList.drop 1 from drop_list s 1)
                  have hdz : (s.extract 1 s.size).size ≤ 1000000 := by simp; omega
                  have hG := Lib.hid (show T.next false s.data.toList = T.opened (s.extract 1 s.size).data.toList by rw [hdl.out]; exact hN.out)
                  clear hb
                  go_wp2_with fail
                  (with_reducible refine (refOpen_any (s.extract 1 s.size) _ hdz).mono ?_)
                  rintro e wF ⟨v, rfl, hv, bF⟩
                  obtain ⟨k, n, ao, m, cap, al, d, r, ee, hE1, hE2, hv2⟩ := told_agg hv
                  rw [hE1]
                  have kF := k0.on bF
                  have cF := b0.trans (bF.mono b0.size)
                  replace hE2 := Lib.hid hE2
                  replace hv2 := Lib.hid hv2
                  obtain ⟨q0, q1, q2, q3, q4, q5, q6⟩ := part_open kF
                  obtain ⟨f0, f1, f2, f3, f4, f5, f6⟩ := part_free kF
                  replace kF := Lib.hid kF
                  have hBB := Lib.hid b0.size
                  clear hv hE1 hN
                  unfold partAgg partCells
                  go_wp2_with fail
                  exact part_end (rb := w.heap.size) rfl rfl (part_set kF.out) (told_next hG.out hE2.out hv2.out hBB.out kF.out (Nat.le_refl _) cF _ _ _ _ _ _ _)
                | false =>
                  replace hN := Lib.hid (hN.out.trans (if_neg (by rw [hb]; decide)))
                  clear hb
                  have hG := hN
                  go_wp2_with fail
                  (with_reducible refine (Calls.mono (refine_told (fun t r => T.text_bare) (refText_any s _ hs)) ?_))
                  rintro e wF ⟨v, rfl, hv, bF⟩
                  obtain ⟨k, n, ao, m, cap, al, d, r, ee, hE1, hE2, hv2⟩ := told_agg hv
                  rw [hE1]
                  have kF := k0.on bF
                  have cF := b0.trans (bF.mono b0.size)
                  replace hE2 := Lib.hid hE2
                  replace hv2 := Lib.hid hv2
                  obtain ⟨q0, q1, q2, q3, q4, q5, q6⟩ := part_open kF
                  obtain ⟨f0, f1, f2, f3, f4, f5, f6⟩ := part_free kF
                  replace kF := Lib.hid kF
                  have hBB := Lib.hid b0.size
                  clear hv hE1 hN
                  unfold partAgg partCells
                  go_wp2_with fail
                  exact part_end (rb := w.heap.size) rfl rfl (part_set kF.out) (told_next hG.out hE2.out hv2.out hBB.out kF.out (Nat.le_refl _) cF _ _ _ _ _ _ _)
  | true =>
    rw [Bool.true_and] at hD
    go_wp2_with fail
    (with_reducible refine (refBegins_any s ⟨#[60, 63, 120, 109, 108]⟩ _ (by unfold maxLen; omega) (by decide)).mono ?_); rintro e w2 ⟨rfl, rfl⟩
    simp only []
    cases hx : T.begins [60, 63, 120, 109, 108] s.data.toList with
    | false =>
      obtain rfl : D = false := by rw [hD, T.declares_of hx]
      replace hN := Lib.hid (hN.out.trans (if_neg (by decide)))
      clear hD hx
      go_wp2_with fail
      (with_reducible refine (refBegins_any s ⟨#[60, 33, 45, 45]⟩ _ (by unfold maxLen; omega) (by decide)).mono ?_); rintro e w2 ⟨rfl, rfl⟩
      simp only []
      cases hb : T.begins [60, 33, 45, 45] s.data.toList with
      | true =>
        replace hN := Lib.hid (hN.out.trans (if_pos hb))
        have hsz := hbig.out _ hb
        simp only [List.length_cons, List.length_nil, Nat.reduceAdd] at hsz
        have hszi : (4 : Int) ≤ (s.size : Int) := by omega
        have hdl := Lib.hid (show (s.extract 4 s.size).data.toList = s.data.toList.drop 4 from drop_list s 4)
        have hdz : (s.extract 4 s.size).size ≤ 1000000 := by simp; omega
        have hG := Lib.hid (show T.next true s.data.toList = T.comment (s.extract 4 s.size).data.toList by rw [hdl.out]; exact hN.out)
        clear hb
        go_wp2_with fail
        (with_reducible refine (Calls.mono (refine_told (fun t r => T.comment_bare) (refComment_any (s.extract 4 s.size) _ hdz)) ?_))
        rintro e wF ⟨v, rfl, hv, bF⟩
        obtain ⟨k, n, ao, m, cap, al, d, r, ee, hE1, hE2, hv2⟩ := told_agg hv
        rw [hE1]
        have kF := k0.on bF
        have cF := b0.trans (bF.mono b0.size)
        replace hE2 := Lib.hid hE2
        replace hv2 := Lib.hid hv2
        obtain ⟨q0, q1, q2, q3, q4, q5, q6⟩ := part_open kF
        obtain ⟨f0, f1, f2, f3, f4, f5, f6⟩ := part_free kF
        replace kF := Lib.hid kF
        have hBB := Lib.hid b0.size
        clear hv hE1 hN
        unfold partAgg partCells
        go_wp2_with fail
        exact part_end (rb := w.heap.size) rfl rfl (part_set kF.out) (told_next hG.out hE2.out hv2.out hBB.out kF.out (Nat.le_refl _) cF _ _ _ _ _ _ _)
      | false =>
        replace hN := Lib.hid (hN.out.trans (if_neg (by rw [hb]; decide)))
        clear hb
        go_wp2_with fail
        (with_reducible refine (refBegins_any s ⟨#[60, 33, 91, 67, 68, 65, 84, 65, 91]⟩ _ (by unfold maxLen; omega) (by decide)).mono ?_); rintro e w2 ⟨rfl, rfl⟩
        simp only []
        cases hb : T.begins [60, 33, 91, 67, 68, 65, 84, 65, 91] s.data.toList with
        | true =>
          replace hN := Lib.hid (hN.out.trans (if_pos hb))
          have hsz := hbig.out _ hb
          simp only [List.length_cons, List.length_nil, Nat.reduceAdd] at hsz
          have hszi : (9 : Int) ≤ (s.size : Int) := by omega
          have hdl := Lib.hid (show (s.extract 9 s.size).data.toList = s.data.toList.drop 9 from drop_list s 9)
          have hdz : (s.extract 9 s.size).size ≤ 1000000 := by simp; omega
          have hG := Lib.hid (show T.next true s.data.toList = T.cdata (s.extract 9 s.size).data.toList by rw [hdl.out]; exact hN.out)
          clear hb
          go_wp2_with fail
          (with_reducible refine (Calls.mono (refine_told (fun t r => T.cdata_bare) (refCdata_any (s.extract 9 s.size) _ hdz)) ?_))
          rintro e wF ⟨v, rfl, hv, bF⟩
          obtain ⟨k, n, ao, m, cap, al, d, r, ee, hE1, hE2, hv2⟩ := told_agg hv
          rw [hE1]
          have kF := k0.on bF
          have cF := b0.trans (bF.mono b0.size)
          replace hE2 := Lib.hid hE2
          replace hv2 := Lib.hid hv2
          obtain ⟨q0, q1, q2, q3, q4, q5, q6⟩ := part_open kF
          obtain ⟨f0, f1, f2, f3, f4, f5, f6⟩ := part_free kF
          replace kF := Lib.hid kF
          have hBB := Lib.hid b0.size
          clear hv hE1 hN
          unfold partAgg partCells
          go_wp2_with fail
          exact part_end (rb := w.heap.size) rfl rfl (part_set kF.out) (told_next hG.out hE2.out hv2.out hBB.out kF.out (Nat.le_refl _) cF _ _ _ _ _ _ _)
        | false =>
          replace hN := Lib.hid (hN.out.trans (if_neg (by rw [hb]; decide)))
          clear hb
          go_wp2_with fail
          (with_reducible refine (refBegins_any s ⟨#[60, 33, 68, 79, 67, 84, 89, 80, 69]⟩ _ (by unfold maxLen; omega) (by decide)).mono ?_); rintro e w2 ⟨rfl, rfl⟩
          simp only []
          cases hb : T.begins [60, 33, 68, 79, 67, 84, 89, 80, 69] s.data.toList with
          | true =>
            replace hN := Lib.hid (hN.out.trans (if_pos hb))
            have hg := hN
            clear hN hb
            go_wp2_with fail
            (with_reducible refine (refFailed_any 72 _).mono ?_); rintro e wF ⟨rfl, bF⟩
            have kF := k0.on bF
            have cF := b0.trans (bF.mono b0.size)
            obtain ⟨q0, q1, q2, q3, q4, q5, q6⟩ := part_open kF
            obtain ⟨f0, f1, f2, f3, f4, f5, f6⟩ := part_free kF
            replace kF := Lib.hid kF
            unfold partAgg partCells
            go_wp2_with fail
            exact part_end (rb := w.heap.size) rfl rfl (part_set kF.out) (told_err hg.out (part_below cF (Nat.le_refl _) _ _ _ _ _ _ _))
          | false =>
            replace hN := Lib.hid (hN.out.trans (if_neg (by rw [hb]; decide)))
            clear hb
            go_wp2_with fail
            (with_reducible refine (refBegins_any s ⟨#[60, 33]⟩ _ (by unfold maxLen; omega) (by decide)).mono ?_); rintro e w2 ⟨rfl, rfl⟩
            simp only []
            cases hb : T.begins [60, 33] s.data.toList with
            | true =>
              replace hN := Lib.hid (hN.out.trans (if_pos hb))
              have hg := hN
              clear hN hb
              go_wp2_with fail
              (with_reducible refine (refFailed_any 70 _).mono ?_); rintro e wF ⟨rfl, bF⟩
              have kF := k0.on bF
              have cF := b0.trans (bF.mono b0.size)
              obtain ⟨q0, q1, q2, q3, q4, q5, q6⟩ := part_open kF
              obtain ⟨f0, f1, f2, f3, f4, f5, f6⟩ := part_free kF
              replace kF := Lib.hid kF
              unfold partAgg partCells
              go_wp2_with fail
              exact part_end (rb := w.heap.size) rfl rfl (part_set kF.out) (told_err hg.out (part_below cF (Nat.le_refl _) _ _ _ _ _ _ _))
            | false =>
              replace hN := Lib.hid (hN.out.trans (if_neg (by rw [hb]; decide)))
              clear hb
              go_wp2_with fail
              (with_reducible refine (refBegins_any s ⟨#[60, 63]⟩ _ (by unfold maxLen; omega) (by decide)).mono ?_); rintro e w2 ⟨rfl, rfl⟩
              simp only []
              cases hb : T.begins [60, 63] s.data.toList with
              | true =>
                replace hN := Lib.hid (hN.out.trans (if_pos hb))
                have hsz := hbig.out _ hb
                simp only [List.length_cons, List.length_nil, Nat.reduceAdd] at hsz
                have hszi : (2 : Int) ≤ (s.size : Int) := by omega
                have hdl := Lib.hid (show (s.extract 2 s.size).data.toList = s.data.toList.drop 2 from drop_list s 2)
                have hdz : (s.extract 2 s.size).size ≤ 1000000 := by simp; omega
                have hG := Lib.hid (show T.next true s.data.toList = T.pi (s.extract 2 s.size).data.toList by rw [hdl.out]; exact hN.out)
                clear hb
                go_wp2_with fail
                (with_reducible refine (Calls.mono (refine_told (fun t r => T.pi_bare) (refPi_any (s.extract 2 s.size) _ hdz)) ?_))
                rintro e wF ⟨v, rfl, hv, bF⟩
                obtain ⟨k, n, ao, m, cap, al, d, r, ee, hE1, hE2, hv2⟩ := told_agg hv
                rw [hE1]
                have kF := k0.on bF
                have cF := b0.trans (bF.mono b0.size)
                replace hE2 := Lib.hid hE2
                replace hv2 := Lib.hid hv2
                obtain ⟨q0, q1, q2, q3, q4, q5, q6⟩ := part_open kF
                obtain ⟨f0, f1, f2, f3, f4, f5, f6⟩ := part_free kF
                replace kF := Lib.hid kF
                have hBB := Lib.hid b0.size
                clear hv hE1 hN
                unfold partAgg partCells
                go_wp2_with fail
                exact part_end (rb := w.heap.size) rfl rfl (part_set kF.out) (told_next hG.out hE2.out hv2.out hBB.out kF.out (Nat.le_refl _) cF _ _ _ _ _ _ _)
              | false =>
                replace hN := Lib.hid (hN.out.trans (if_neg (by rw [hb]; decide)))
                clear hb
                go_wp2_with fail
                (with_reducible refine (refBegins_any s ⟨#[60, 47]⟩ _ (by unfold maxLen; omega) (by decide)).mono ?_); rintro e w2 ⟨rfl, rfl⟩
                simp only []
                cases hb : T.begins [60, 47] s.data.toList with
                | true =>
                  replace hN := Lib.hid (hN.out.trans (if_pos hb))
                  have hsz := hbig.out _ hb
                  simp only [List.length_cons, List.length_nil, Nat.reduceAdd] at hsz
                  have hszi : (2 : Int) ≤ (s.size : Int) := by omega
                  have hdl := Lib.hid (show (s.extract 2 s.size).data.toList = s.data.toList.drop 2 from drop_list s 2)
                  have hdz : (s.extract 2 s.size).size ≤ 1000000 := by simp; omega
                  have hG := Lib.hid (show T.next true s.data.toList = T.shut (s.extract 2 s.size).data.toList by rw [hdl.out]; exact hN.out)
                  clear hb
                  go_wp2_with fail
                  (with_reducible refine (Calls.mono (refine_told (fun t r => T.shut_bare) (refShut_any (s.extract 2 s.size) _ hdz)) ?_))
                  rintro e wF ⟨v, rfl, hv, bF⟩
                  obtain ⟨k, n, ao, m, cap, al, d, r, ee, hE1, hE2, hv2⟩ := told_agg hv
                  rw [hE1]
                  have kF := k0.on bF
                  have cF := b0.trans (bF.mono b0.size)
                  replace hE2 := Lib.hid hE2
                  replace hv2 := Lib.hid hv2
                  obtain ⟨q0, q1, q2, q3, q4, q5, q6⟩ := part_open kF
                  obtain ⟨f0, f1, f2, f3, f4, f5, f6⟩ := part_free kF
                  replace kF := Lib.hid kF
                  have hBB := Lib.hid b0.size
                  clear hv hE1 hN
                  unfold partAgg partCells
                  go_wp2_with fail
                  exact part_end (rb := w.heap.size) rfl rfl (part_set kF.out) (told_next hG.out hE2.out hv2.out hBB.out kF.out (Nat.le_refl _) cF _ _ _ _ _ _ _)
                | false =>
                  replace hN := Lib.hid (hN.out.trans (if_neg (by rw [hb]; decide)))
                  clear hb
                  go_wp2_with fail
                  (with_reducible refine (refBegins_any s ⟨#[60]⟩ _ (by unfold maxLen; omega) (by decide)).mono ?_); rintro e w2 ⟨rfl, rfl⟩
                  simp only []
                  cases hb : T.begins [60] s.data.toList with
                  | true =>
                    replace hN := Lib.hid (hN.out.trans (if_pos hb))
                    have hsz := hbig.out _ hb
                    simp only [List.length_cons, List.length_nil, Nat.reduceAdd] at hsz
                    have hszi : (1 : Int) ≤ (s.size : Int) := by omega
                    have hdl := Lib.hid (show (s.extract 1 s.size).data.toList = s.data.toList.drop 1 from drop_list s 1)
                    have hdz : (s.extract 1 s.size).size ≤ 1000000 := by simp; omega
                    have hG := Lib.hid (show T.next true s.data.toList = T.opened (s.extract 1 s.size).data.toList by rw [hdl.out]; exact hN.out)
                    clear hb
                    go_wp2_with fail
                    (with_reducible refine (refOpen_any (s.extract 1 s.size) _ hdz).mono ?_)
                    rintro e wF ⟨v, rfl, hv, bF⟩
                    obtain ⟨k, n, ao, m, cap, al, d, r, ee, hE1, hE2, hv2⟩ := told_agg hv
                    rw [hE1]
                    have kF := k0.on bF
                    have cF := b0.trans (bF.mono b0.size)
                    replace hE2 := Lib.hid hE2
                    replace hv2 := Lib.hid hv2
                    obtain ⟨q0, q1, q2, q3, q4, q5, q6⟩ := part_open kF
                    obtain ⟨f0, f1, f2, f3, f4, f5, f6⟩ := part_free kF
                    replace kF := Lib.hid kF
                    have hBB := Lib.hid b0.size
                    clear hv hE1 hN
                    unfold partAgg partCells
                    go_wp2_with fail
                    exact part_end (rb := w.heap.size) rfl rfl (part_set kF.out) (told_next hG.out hE2.out hv2.out hBB.out kF.out (Nat.le_refl _) cF _ _ _ _ _ _ _)
                  | false =>
                    replace hN := Lib.hid (hN.out.trans (if_neg (by rw [hb]; decide)))
                    clear hb
                    have hG := hN
                    go_wp2_with fail
                    (with_reducible refine (Calls.mono (refine_told (fun t r => T.text_bare) (refText_any s _ hs)) ?_))
                    rintro e wF ⟨v, rfl, hv, bF⟩
                    obtain ⟨k, n, ao, m, cap, al, d, r, ee, hE1, hE2, hv2⟩ := told_agg hv
                    rw [hE1]
                    have kF := k0.on bF
                    have cF := b0.trans (bF.mono b0.size)
                    replace hE2 := Lib.hid hE2
                    replace hv2 := Lib.hid hv2
                    obtain ⟨q0, q1, q2, q3, q4, q5, q6⟩ := part_open kF
                    obtain ⟨f0, f1, f2, f3, f4, f5, f6⟩ := part_free kF
                    replace kF := Lib.hid kF
                    have hBB := Lib.hid b0.size
                    clear hv hE1 hN
                    unfold partAgg partCells
                    go_wp2_with fail
                    exact part_end (rb := w.heap.size) rfl rfl (part_set kF.out) (told_next hG.out hE2.out hv2.out hBB.out kF.out (Nat.le_refl _) cF _ _ _ _ _ _ _)
    | true =>
      by_cases h5 : 5 < s.size
      · have h5i : (5 : Int) < (s.size : Int) := by omega
        rw [declares_long h5 hx] at hD
        have hb8 := (s[5]).toNat_lt
        go_wp2_with fail
        (with_reducible refine (refSpace_any ((s[5]).toNat : Int) _).mono ?_); rintro e w2 ⟨rfl, rfl⟩
        rw [← hD]
        clear hD hx
        cases D with
        | false =>
          replace hN := Lib.hid (hN.out.trans (if_neg (by decide)))
          go_wp2_with fail
          (with_reducible refine (refBegins_any s ⟨#[60, 33, 45, 45]⟩ _ (by unfold maxLen; omega) (by decide)).mono ?_); rintro e w2 ⟨rfl, rfl⟩
          simp only []
          cases hb : T.begins [60, 33, 45, 45] s.data.toList with
          | true =>
            replace hN := Lib.hid (hN.out.trans (if_pos hb))
            have hsz := hbig.out _ hb
            simp only [List.length_cons, List.length_nil, Nat.reduceAdd] at hsz
            have hszi : (4 : Int) ≤ (s.size : Int) := by omega
            have hdl := Lib.hid (show (s.extract 4 s.size).data.toList = s.data.toList.drop 4 from drop_list s 4)
            have hdz : (s.extract 4 s.size).size ≤ 1000000 := by simp; omega
            have hG := Lib.hid (show T.next true s.data.toList = T.comment (s.extract 4 s.size).data.toList by rw [hdl.out]; exact hN.out)
            clear hb
            go_wp2_with fail
            (with_reducible refine (Calls.mono (refine_told (fun t r => T.comment_bare) (refComment_any (s.extract 4 s.size) _ hdz)) ?_))
            rintro e wF ⟨v, rfl, hv, bF⟩
            obtain ⟨k, n, ao, m, cap, al, d, r, ee, hE1, hE2, hv2⟩ := told_agg hv
            rw [hE1]
            have kF := k0.on bF
            have cF := b0.trans (bF.mono b0.size)
            replace hE2 := Lib.hid hE2
            replace hv2 := Lib.hid hv2
            obtain ⟨q0, q1, q2, q3, q4, q5, q6⟩ := part_open kF
            obtain ⟨f0, f1, f2, f3, f4, f5, f6⟩ := part_free kF
            replace kF := Lib.hid kF
            have hBB := Lib.hid b0.size
            clear hv hE1 hN
            unfold partAgg partCells
            go_wp2_with fail
            exact part_end (rb := w.heap.size) rfl rfl (part_set kF.out) (told_next hG.out hE2.out hv2.out hBB.out kF.out (Nat.le_refl _) cF _ _ _ _ _ _ _)
          | false =>
            replace hN := Lib.hid (hN.out.trans (if_neg (by rw [hb]; decide)))
            clear hb
            go_wp2_with fail
            (with_reducible refine (refBegins_any s ⟨#[60, 33, 91, 67, 68, 65, 84, 65, 91]⟩ _ (by unfold maxLen; omega) (by decide)).mono ?_); rintro e w2 ⟨rfl, rfl⟩
            simp only []
            cases hb : T.begins [60, 33, 91, 67, 68, 65, 84, 65, 91] s.data.toList with
            | true =>
              replace hN := Lib.hid (hN.out.trans (if_pos hb))
              have hsz := hbig.out _ hb
              simp only [List.length_cons, List.length_nil, Nat.reduceAdd] at hsz
              have hszi : (9 : Int) ≤ (s.size : Int) := by omega
              have hdl := Lib.hid (show (s.extract 9 s.size).data.toList = s.data.toList.drop 9 from drop_list s 9)
              have hdz : (s.extract 9 s.size).size ≤ 1000000 := by simp; omega
              have hG := Lib.hid (show T.next true s.data.toList = T.cdata (s.extract 9 s.size).data.toList by rw [hdl.out]; exact hN.out)
              clear hb
              go_wp2_with fail
              (with_reducible refine (Calls.mono (refine_told (fun t r => T.cdata_bare) (refCdata_any (s.extract 9 s.size) _ hdz)) ?_))
              rintro e wF ⟨v, rfl, hv, bF⟩
              obtain ⟨k, n, ao, m, cap, al, d, r, ee, hE1, hE2, hv2⟩ := told_agg hv
              rw [hE1]
              have kF := k0.on bF
              have cF := b0.trans (bF.mono b0.size)
              replace hE2 := Lib.hid hE2
              replace hv2 := Lib.hid hv2
              obtain ⟨q0, q1, q2, q3, q4, q5, q6⟩ := part_open kF
              obtain ⟨f0, f1, f2, f3, f4, f5, f6⟩ := part_free kF
              replace kF := Lib.hid kF
              have hBB := Lib.hid b0.size
              clear hv hE1 hN
              unfold partAgg partCells
              go_wp2_with fail
              exact part_end (rb := w.heap.size) rfl rfl (part_set kF.out) (told_next hG.out hE2.out hv2.out hBB.out kF.out (Nat.le_refl _) cF _ _ _ _ _ _ _)
            | false =>
              replace hN := Lib.hid (hN.out.trans (if_neg (by rw [hb]; decide)))
              clear hb
              go_wp2_with fail
              (with_reducible refine (refBegins_any s ⟨#[60, 33, 68, 79, 67, 84, 89, 80, 69]⟩ _ (by unfold maxLen; omega) (by decide)).mono ?_); rintro e w2 ⟨rfl, rfl⟩
              simp only []
              cases hb : T.begins [60, 33, 68, 79, 67, 84, 89, 80, 69] s.data.toList with
              | true =>
                replace hN := Lib.hid (hN.out.trans (if_pos hb))
                have hg := hN
                clear hN hb
                go_wp2_with fail
                (with_reducible refine (refFailed_any 72 _).mono ?_); rintro e wF ⟨rfl, bF⟩
                have kF := k0.on bF
                have cF := b0.trans (bF.mono b0.size)
                obtain ⟨q0, q1, q2, q3, q4, q5, q6⟩ := part_open kF
                obtain ⟨f0, f1, f2, f3, f4, f5, f6⟩ := part_free kF
                replace kF := Lib.hid kF
                unfold partAgg partCells
                go_wp2_with fail
                exact part_end (rb := w.heap.size) rfl rfl (part_set kF.out) (told_err hg.out (part_below cF (Nat.le_refl _) _ _ _ _ _ _ _))
              | false =>
                replace hN := Lib.hid (hN.out.trans (if_neg (by rw [hb]; decide)))
                clear hb
                go_wp2_with fail
                (with_reducible refine (refBegins_any s ⟨#[60, 33]⟩ _ (by unfold maxLen; omega) (by decide)).mono ?_); rintro e w2 ⟨rfl, rfl⟩
                simp only []
                cases hb : T.begins [60, 33] s.data.toList with
                | true =>
                  replace hN := Lib.hid (hN.out.trans (if_pos hb))
                  have hg := hN
                  clear hN hb
                  go_wp2_with fail
                  (with_reducible refine (refFailed_any 70 _).mono ?_); rintro e wF ⟨rfl, bF⟩
                  have kF := k0.on bF
                  have cF := b0.trans (bF.mono b0.size)
                  obtain ⟨q0, q1, q2, q3, q4, q5, q6⟩ := part_open kF
                  obtain ⟨f0, f1, f2, f3, f4, f5, f6⟩ := part_free kF
                  replace kF := Lib.hid kF
                  unfold partAgg partCells
                  go_wp2_with fail
                  exact part_end (rb := w.heap.size) rfl rfl (part_set kF.out) (told_err hg.out (part_below cF (Nat.le_refl _) _ _ _ _ _ _ _))
                | false =>
                  replace hN := Lib.hid (hN.out.trans (if_neg (by rw [hb]; decide)))
                  clear hb
                  go_wp2_with fail
                  (with_reducible refine (refBegins_any s ⟨#[60, 63]⟩ _ (by unfold maxLen; omega) (by decide)).mono ?_); rintro e w2 ⟨rfl, rfl⟩
                  simp only []
                  cases hb : T.begins [60, 63] s.data.toList with
                  | true =>
                    replace hN := Lib.hid (hN.out.trans (if_pos hb))
                    have hsz := hbig.out _ hb
                    simp only [List.length_cons, List.length_nil, Nat.reduceAdd] at hsz
                    have hszi : (2 : Int) ≤ (s.size : Int) := by omega
                    have hdl := Lib.hid (show (s.extract 2 s.size).data.toList = s.data.toList.drop 2 from drop_list s 2)
                    have hdz : (s.extract 2 s.size).size ≤ 1000000 := by simp; omega
                    have hG := Lib.hid (show T.next true s.data.toList = T.pi (s.extract 2 s.size).data.toList by rw [hdl.out]; exact hN.out)
                    clear hb
                    go_wp2_with fail
                    (with_reducible refine (Calls.mono (refine_told (fun t r => T.pi_bare) (refPi_any (s.extract 2 s.size) _ hdz)) ?_))
                    rintro e wF ⟨v, rfl, hv, bF⟩
                    obtain ⟨k, n, ao, m, cap, al, d, r, ee, hE1, hE2, hv2⟩ := told_agg hv
                    rw [hE1]
                    have kF := k0.on bF
                    have cF := b0.trans (bF.mono b0.size)
                    replace hE2 := Lib.hid hE2
                    replace hv2 := Lib.hid hv2
                    obtain ⟨q0, q1, q2, q3, q4, q5, q6⟩ := part_open kF
                    obtain ⟨f0, f1, f2, f3, f4, f5, f6⟩ := part_free kF
                    replace kF := Lib.hid kF
                    have hBB := Lib.hid b0.size
                    clear hv hE1 hN
                    unfold partAgg partCells
                    go_wp2_with fail
                    exact part_end (rb := w.heap.size) rfl rfl (part_set kF.out) (told_next hG.out hE2.out hv2.out hBB.out kF.out (Nat.le_refl _) cF _ _ _ _ _ _ _)
                  | false =>
                    replace hN := Lib.hid (hN.out.trans (if_neg (by rw [hb]; decide)))
                    clear hb
                    go_wp2_with fail
                    (with_reducible refine (refBegins_any s ⟨#[60, 47]⟩ _ (by unfold maxLen; omega) (by decide)).mono ?_); rintro e w2 ⟨rfl, rfl⟩
                    simp only []
                    cases hb : T.begins [60, 47] s.data.toList with
                    | true =>
                      replace hN := Lib.hid (hN.out.trans (if_pos hb))
                      have hsz := hbig.out _ hb
                      simp only [List.length_cons, List.length_nil, Nat.reduceAdd] at hsz
                      have hszi : (2 : Int) ≤ (s.size : Int) := by omega
                      have hdl := Lib.hid (show (s.extract 2 s.size).data.toList = s.data.toList.drop 2 from drop_list s 2)
                      have hdz : (s.extract 2 s.size).size ≤ 1000000 := by simp; omega
                      have hG := Lib.hid (show T.next true s.data.toList = T.shut (s.extract 2 s.size).data.toList by rw [hdl.out]; exact hN.out)
                      clear hb
                      go_wp2_with fail
                      (with_reducible refine (Calls.mono (refine_told (fun t r => T.shut_bare) (refShut_any (s.extract 2 s.size) _ hdz)) ?_))
                      rintro e wF ⟨v, rfl, hv, bF⟩
                      obtain ⟨k, n, ao, m, cap, al, d, r, ee, hE1, hE2, hv2⟩ := told_agg hv
                      rw [hE1]
                      have kF := k0.on bF
                      have cF := b0.trans (bF.mono b0.size)
                      replace hE2 := Lib.hid hE2
                      replace hv2 := Lib.hid hv2
                      obtain ⟨q0, q1, q2, q3, q4, q5, q6⟩ := part_open kF
                      obtain ⟨f0, f1, f2, f3, f4, f5, f6⟩ := part_free kF
                      replace kF := Lib.hid kF
                      have hBB := Lib.hid b0.size
                      clear hv hE1 hN
                      unfold partAgg partCells
                      go_wp2_with fail
                      exact part_end (rb := w.heap.size) rfl rfl (part_set kF.out) (told_next hG.out hE2.out hv2.out hBB.out kF.out (Nat.le_refl _) cF _ _ _ _ _ _ _)
                    | false =>
                      replace hN := Lib.hid (hN.out.trans (if_neg (by rw [hb]; decide)))
                      clear hb
                      go_wp2_with fail
                      (with_reducible refine (refBegins_any s ⟨#[60]⟩ _ (by unfold maxLen; omega) (by decide)).mono ?_); rintro e w2 ⟨rfl, rfl⟩
                      simp only []
                      cases hb : T.begins [60] s.data.toList with
                      | true =>
                        replace hN := Lib.hid (hN.out.trans (if_pos hb))
                        have hsz := hbig.out _ hb
                        simp only [List.length_cons, List.length_nil, Nat.reduceAdd] at hsz
                        have hszi : (1 : Int) ≤ (s.size : Int) := by omega
                        have hdl := Lib.hid (show (s.extract 1 s.size).data.toList = s.data.toList.drop 1 from drop_list s 1)
                        have hdz : (s.extract 1 s.size).size ≤ 1000000 := by simp; omega
                        have hG := Lib.hid (show T.next true s.data.toList = T.opened (s.extract 1 s.size).data.toList by rw [hdl.out]; exact hN.out)
                        clear hb
                        go_wp2_with fail
                        (with_reducible refine (refOpen_any (s.extract 1 s.size) _ hdz).mono ?_)
                        rintro e wF ⟨v, rfl, hv, bF⟩
                        obtain ⟨k, n, ao, m, cap, al, d, r, ee, hE1, hE2, hv2⟩ := told_agg hv
                        rw [hE1]
                        have kF := k0.on bF
                        have cF := b0.trans (bF.mono b0.size)
                        replace hE2 := Lib.hid hE2
                        replace hv2 := Lib.hid hv2
                        obtain ⟨q0, q1, q2, q3, q4, q5, q6⟩ := part_open kF
                        obtain ⟨f0, f1, f2, f3, f4, f5, f6⟩ := part_free kF
                        replace kF := Lib.hid kF
                        have hBB := Lib.hid b0.size
                        clear hv hE1 hN
                        unfold partAgg partCells
                        go_wp2_with fail
                        exact part_end (rb := w.heap.size) rfl rfl (part_set kF.out) (told_next hG.out hE2.out hv2.out hBB.out kF.out (Nat.le_refl _) cF _ _ _ _ _ _ _)
                      | false =>
                        replace hN := Lib.hid (hN.out.trans (if_neg (by rw [hb]; decide)))
                        clear hb
                        have hG := hN
                        go_wp2_with fail
                        (with_reducible refine (Calls.mono (refine_told (fun t r => T.text_bare) (refText_any s _ hs)) ?_))
                        rintro e wF ⟨v, rfl, hv, bF⟩
                        obtain ⟨k, n, ao, m, cap, al, d, r, ee, hE1, hE2, hv2⟩ := told_agg hv
                        rw [hE1]
                        have kF := k0.on bF
                        have cF := b0.trans (bF.mono b0.size)
                        replace hE2 := Lib.hid hE2
                        replace hv2 := Lib.hid hv2
                        obtain ⟨q0, q1, q2, q3, q4, q5, q6⟩ := part_open kF
                        obtain ⟨f0, f1, f2, f3, f4, f5, f6⟩ := part_free kF
                        replace kF := Lib.hid kF
                        have hBB := Lib.hid b0.size
                        clear hv hE1 hN
                        unfold partAgg partCells
                        go_wp2_with fail
                        exact part_end (rb := w.heap.size) rfl rfl (part_set kF.out) (told_next hG.out hE2.out hv2.out hBB.out kF.out (Nat.le_refl _) cF _ _ _ _ _ _ _)
        | true =>
          replace hN := Lib.hid (hN.out.trans (if_pos rfl))
          have hszi : (5 : Int) ≤ (s.size : Int) := by omega
          have hdl := Lib.hid (show (s.extract 5 s.size).data.toList = s.data.toList.drop 5 from drop_list s 5)
          have hdz : (s.extract 5 s.size).size ≤ 1000000 := by simp; omega
          have hG := Lib.hid (show T.next true s.data.toList = T.decl (s.extract 5 s.size).data.toList by rw [hdl.out]; exact hN.out)
          go_wp2_with fail
          (with_reducible refine (Calls.mono (refine_told (fun t r => T.decl_bare) (refDecl_any (s.extract 5 s.size) _ hdz)) ?_))
          rintro e wF ⟨v, rfl, hv, bF⟩
          obtain ⟨k, n, ao, m, cap, al, d, r, ee, hE1, hE2, hv2⟩ := told_agg hv
          rw [hE1]
          have kF := k0.on bF
          have cF := b0.trans (bF.mono b0.size)
          replace hE2 := Lib.hid hE2
          replace hv2 := Lib.hid hv2
          obtain ⟨q0, q1, q2, q3, q4, q5, q6⟩ := part_open kF
          obtain ⟨f0, f1, f2, f3, f4, f5, f6⟩ := part_free kF
          replace kF := Lib.hid kF
          have hBB := Lib.hid b0.size
          clear hv hE1 hN
          unfold partAgg partCells
          go_wp2_with fail
          exact part_end (rb := w.heap.size) rfl rfl (part_set kF.out) (told_next hG.out hE2.out hv2.out hBB.out kF.out (Nat.le_refl _) cF _ _ _ _ _ _ _)
      · have h5i : ¬ (5 : Int) < (s.size : Int) := by omega
        obtain rfl : D = false := by rw [hD, declares_short (by omega)]
        replace hN := Lib.hid (hN.out.trans (if_neg (by decide)))
        clear hD hx
        go_wp2_with fail
        (with_reducible refine (refBegins_any s ⟨#[60, 33, 45, 45]⟩ _ (by unfold maxLen; omega) (by decide)).mono ?_); rintro e w2 ⟨rfl, rfl⟩
        simp only []
        cases hb : T.begins [60, 33, 45, 45] s.data.toList with
        | true =>
          replace hN := Lib.hid (hN.out.trans (if_pos hb))
          have hsz := hbig.out _ hb
          simp only [List.length_cons, List.length_nil, Nat.reduceAdd] at hsz
          have hszi : (4 : Int) ≤ (s.size : Int) := by omega
          have hdl := Lib.hid (show (s.extract 4 s.size).data.toList = s.data.toList.drop 4 from drop_list s 4)
          have hdz : (s.extract 4 s.size).size ≤ 1000000 := by simp; omega
          have hG := Lib.hid (show T.next true s.data.toList = T.comment (s.extract 4 s.size).data.toList by rw [hdl.out]; exact hN.out)
          clear hb
          go_wp2_with fail
          (with_reducible refine (Calls.mono (refine_told (fun t r => T.comment_bare) (refComment_any (s.extract 4 s.size) _ hdz)) ?_))
          rintro e wF ⟨v, rfl, hv, bF⟩
          obtain ⟨k, n, ao, m, cap, al, d, r, ee, hE1, hE2, hv2⟩ := told_agg hv
          rw [hE1]
          have kF := k0.on bF
          have cF := b0.trans (bF.mono b0.size)
          replace hE2 := Lib.hid hE2
          replace hv2 := Lib.hid hv2
          obtain ⟨q0, q1, q2, q3, q4, q5, q6⟩ := part_open kF
          obtain ⟨f0, f1, f2, f3, f4, f5, f6⟩ := part_free kF
          replace kF := Lib.hid kF
          have hBB := Lib.hid b0.size
          clear hv hE1 hN
          unfold partAgg partCells
          go_wp2_with fail
          exact part_end (rb := w.heap.size) rfl rfl (part_set kF.out) (told_next hG.out hE2.out hv2.out hBB.out kF.out (Nat.le_refl _) cF _ _ _ _ _ _ _)
        | false =>
          replace hN := Lib.hid (hN.out.trans (if_neg (by rw [hb]; decide)))
          clear hb
          go_wp2_with fail
          (with_reducible refine (refBegins_any s ⟨#[60, 33, 91, 67, 68, 65, 84, 65, 91]⟩ _ (by unfold maxLen; omega) (by decide)).mono ?_); rintro e w2 ⟨rfl, rfl⟩
          simp only []
          cases hb : T.begins [60, 33, 91, 67, 68, 65, 84, 65, 91] s.data.toList with
          | true =>
            replace hN := Lib.hid (hN.out.trans (if_pos hb))
            have hsz := hbig.out _ hb
            simp only [List.length_cons, List.length_nil, Nat.reduceAdd] at hsz
            omega
          | false =>
            replace hN := Lib.hid (hN.out.trans (if_neg (by rw [hb]; decide)))
            clear hb
            go_wp2_with fail
            (with_reducible refine (refBegins_any s ⟨#[60, 33, 68, 79, 67, 84, 89, 80, 69]⟩ _ (by unfold maxLen; omega) (by decide)).mono ?_); rintro e w2 ⟨rfl, rfl⟩
            simp only []
            cases hb : T.begins [60, 33, 68, 79, 67, 84, 89, 80, 69] s.data.toList with
            | true =>
              replace hN := Lib.hid (hN.out.trans (if_pos hb))
              have hg := hN
              clear hN hb
              go_wp2_with fail
              (with_reducible refine (refFailed_any 72 _).mono ?_); rintro e wF ⟨rfl, bF⟩
              have kF := k0.on bF
              have cF := b0.trans (bF.mono b0.size)
              obtain ⟨q0, q1, q2, q3, q4, q5, q6⟩ := part_open kF
              obtain ⟨f0, f1, f2, f3, f4, f5, f6⟩ := part_free kF
              replace kF := Lib.hid kF
              unfold partAgg partCells
              go_wp2_with fail
              exact part_end (rb := w.heap.size) rfl rfl (part_set kF.out) (told_err hg.out (part_below cF (Nat.le_refl _) _ _ _ _ _ _ _))
            | false =>
              replace hN := Lib.hid (hN.out.trans (if_neg (by rw [hb]; decide)))
              clear hb
              go_wp2_with fail
              (with_reducible refine (refBegins_any s ⟨#[60, 33]⟩ _ (by unfold maxLen; omega) (by decide)).mono ?_); rintro e w2 ⟨rfl, rfl⟩
              simp only []
              cases hb : T.begins [60, 33] s.data.toList with
              | true =>
                replace hN := Lib.hid (hN.out.trans (if_pos hb))
                have hg := hN
                clear hN hb
                go_wp2_with fail
                (with_reducible refine (refFailed_any 70 _).mono ?_); rintro e wF ⟨rfl, bF⟩
                have kF := k0.on bF
                have cF := b0.trans (bF.mono b0.size)
                obtain ⟨q0, q1, q2, q3, q4, q5, q6⟩ := part_open kF
                obtain ⟨f0, f1, f2, f3, f4, f5, f6⟩ := part_free kF
                replace kF := Lib.hid kF
                unfold partAgg partCells
                go_wp2_with fail
                exact part_end (rb := w.heap.size) rfl rfl (part_set kF.out) (told_err hg.out (part_below cF (Nat.le_refl _) _ _ _ _ _ _ _))
              | false =>
                replace hN := Lib.hid (hN.out.trans (if_neg (by rw [hb]; decide)))
                clear hb
                go_wp2_with fail
                (with_reducible refine (refBegins_any s ⟨#[60, 63]⟩ _ (by unfold maxLen; omega) (by decide)).mono ?_); rintro e w2 ⟨rfl, rfl⟩
                simp only []
                cases hb : T.begins [60, 63] s.data.toList with
                | true =>
                  replace hN := Lib.hid (hN.out.trans (if_pos hb))
                  have hsz := hbig.out _ hb
                  simp only [List.length_cons, List.length_nil, Nat.reduceAdd] at hsz
                  have hszi : (2 : Int) ≤ (s.size : Int) := by omega
                  have hdl := Lib.hid (show (s.extract 2 s.size).data.toList = s.data.toList.drop 2 from drop_list s 2)
                  have hdz : (s.extract 2 s.size).size ≤ 1000000 := by simp; omega
                  have hG := Lib.hid (show T.next true s.data.toList = T.pi (s.extract 2 s.size).data.toList by rw [hdl.out]; exact hN.out)
                  clear hb
                  go_wp2_with fail
                  (with_reducible refine (Calls.mono (refine_told (fun t r => T.pi_bare) (refPi_any (s.extract 2 s.size) _ hdz)) ?_))
                  rintro e wF ⟨v, rfl, hv, bF⟩
                  obtain ⟨k, n, ao, m, cap, al, d, r, ee, hE1, hE2, hv2⟩ := told_agg hv
                  rw [hE1]
                  have kF := k0.on bF
                  have cF := b0.trans (bF.mono b0.size)
                  replace hE2 := Lib.hid hE2
                  replace hv2 := Lib.hid hv2
                  obtain ⟨q0, q1, q2, q3, q4, q5, q6⟩ := part_open kF
                  obtain ⟨f0, f1, f2, f3, f4, f5, f6⟩ := part_free kF
                  replace kF := Lib.hid kF
                  have hBB := Lib.hid b0.size
                  clear hv hE1 hN
                  unfold partAgg partCells
                  go_wp2_with fail
                  exact part_end (rb := w.heap.size) rfl rfl (part_set kF.out) (told_next hG.out hE2.out hv2.out hBB.out kF.out (Nat.le_refl _) cF _ _ _ _ _ _ _)
                | false =>
                  replace hN := Lib.hid (hN.out.trans (if_neg (by rw [hb]; decide)))
                  clear hb
                  go_wp2_with fail
                  (with_reducible refine (refBegins_any s ⟨#[60, 47]⟩ _ (by unfold maxLen; omega) (by decide)).mono ?_); rintro e w2 ⟨rfl, rfl⟩
                  simp only []
                  cases hb : T.begins [60, 47] s.data.toList with
                  | true =>
                    replace hN := Lib.hid (hN.out.trans (if_pos hb))
                    have hsz := hbig.out _ hb
                    simp only [List.length_cons, List.length_nil, Nat.reduceAdd] at hsz
                    have hszi : (2 : Int) ≤ (s.size : Int) := by omega
                    have hdl := Lib.hid (show (s.extract 2 s.size).data.toList = s.data.toList.drop 2 from drop_list s 2)
                    have hdz : (s.extract 2 s.size).size ≤ 1000000 := by simp; omega
                    have hG := Lib.hid (show T.next true s.data.toList = T.shut (s.extract 2 s.size).data.toList by rw [hdl.out]; exact hN.out)
                    clear hb
                    go_wp2_with fail
                    (with_reducible refine (Calls.mono (refine_told (fun t r => T.shut_bare) (refShut_any (s.extract 2 s.size) _ hdz)) ?_))
                    rintro e wF ⟨v, rfl, hv, bF⟩
                    obtain ⟨k, n, ao, m, cap, al, d, r, ee, hE1, hE2, hv2⟩ := told_agg hv
                    rw [hE1]
                    have kF := k0.on bF
                    have cF := b0.trans (bF.mono b0.size)
                    replace hE2 := Lib.hid hE2
                    replace hv2 := Lib.hid hv2
                    obtain ⟨q0, q1, q2, q3, q4, q5, q6⟩ := part_open kF
                    obtain ⟨f0, f1, f2, f3, f4, f5, f6⟩ := part_free kF
                    replace kF := Lib.hid kF
                    have hBB := Lib.hid b0.size
                    clear hv hE1 hN
                    unfold partAgg partCells
                    go_wp2_with fail
                    exact part_end (rb := w.heap.size) rfl rfl (part_set kF.out) (told_next hG.out hE2.out hv2.out hBB.out kF.out (Nat.le_refl _) cF _ _ _ _ _ _ _)
                  | false =>
                    replace hN := Lib.hid (hN.out.trans (if_neg (by rw [hb]; decide)))
                    clear hb
                    go_wp2_with fail
                    (with_reducible refine (refBegins_any s ⟨#[60]⟩ _ (by unfold maxLen; omega) (by decide)).mono ?_); rintro e w2 ⟨rfl, rfl⟩
                    simp only []
                    cases hb : T.begins [60] s.data.toList with
                    | true =>
                      replace hN := Lib.hid (hN.out.trans (if_pos hb))
                      have hsz := hbig.out _ hb
                      simp only [List.length_cons, List.length_nil, Nat.reduceAdd] at hsz
                      have hszi : (1 : Int) ≤ (s.size : Int) := by omega
                      have hdl := Lib.hid (show (s.extract 1 s.size).data.toList = s.data.toList.drop 1 from drop_list s 1)
                      have hdz : (s.extract 1 s.size).size ≤ 1000000 := by simp; omega
                      have hG := Lib.hid (show T.next true s.data.toList = T.opened (s.extract 1 s.size).data.toList by rw [hdl.out]; exact hN.out)
                      clear hb
                      go_wp2_with fail
                      (with_reducible refine (refOpen_any (s.extract 1 s.size) _ hdz).mono ?_)
                      rintro e wF ⟨v, rfl, hv, bF⟩
                      obtain ⟨k, n, ao, m, cap, al, d, r, ee, hE1, hE2, hv2⟩ := told_agg hv
                      rw [hE1]
                      have kF := k0.on bF
                      have cF := b0.trans (bF.mono b0.size)
                      replace hE2 := Lib.hid hE2
                      replace hv2 := Lib.hid hv2
                      obtain ⟨q0, q1, q2, q3, q4, q5, q6⟩ := part_open kF
                      obtain ⟨f0, f1, f2, f3, f4, f5, f6⟩ := part_free kF
                      replace kF := Lib.hid kF
                      have hBB := Lib.hid b0.size
                      clear hv hE1 hN
                      unfold partAgg partCells
                      go_wp2_with fail
                      exact part_end (rb := w.heap.size) rfl rfl (part_set kF.out) (told_next hG.out hE2.out hv2.out hBB.out kF.out (Nat.le_refl _) cF _ _ _ _ _ _ _)
                    | false =>
                      replace hN := Lib.hid (hN.out.trans (if_neg (by rw [hb]; decide)))
                      clear hb
                      have hG := hN
                      go_wp2_with fail
                      (with_reducible refine (Calls.mono (refine_told (fun t r => T.text_bare) (refText_any s _ hs)) ?_))
                      rintro e wF ⟨v, rfl, hv, bF⟩
                      obtain ⟨k, n, ao, m, cap, al, d, r, ee, hE1, hE2, hv2⟩ := told_agg hv
                      rw [hE1]
                      have kF := k0.on bF
                      have cF := b0.trans (bF.mono b0.size)
                      replace hE2 := Lib.hid hE2
                      replace hv2 := Lib.hid hv2
                      obtain ⟨q0, q1, q2, q3, q4, q5, q6⟩ := part_open kF
                      obtain ⟨f0, f1, f2, f3, f4, f5, f6⟩ := part_free kF
                      replace kF := Lib.hid kF
                      have hBB := Lib.hid b0.size
                      clear hv hE1 hN
                      unfold partAgg partCells
                      go_wp2_with fail
                      exact part_end (rb := w.heap.size) rfl rfl (part_set kF.out) (told_next hG.out hE2.out hv2.out hBB.out kF.out (Nat.le_refl _) cF _ _ _ _ _ _ _)
end Go.Proofs.YtcjlhdmekhifaaaGreatDoor
namespace Go.Proofs.YtcjlhdmekhifaaaGreatDoor
open Go.RowKit

theorem rows_apart {w : World} {B1 B2 n1 n2 s1 s2 : Nat} {e1 e2 : TypeId} {v1 v2 : Value} {x1 x2 : List Value} (h1 : w.ownsRow B1 e1 s1 v1 n1 x1) (h2 : w.ownsRow B2 e2 s2 v2 n2 x2) (hte : e1 ≠ e2) : v1.ownBlock = none ∨ v1.ownBlock ≠ v2.ownBlock := by
  obtain ⟨_, ⟨rfl, _⟩ | ⟨g, cap, cur, rfl, hb, hh, _⟩⟩ := h1
  · exact .inl rfl
  · right
    obtain ⟨_, ⟨rfl, _⟩ | ⟨g2, cap2, cur2, rfl, hb2, hh2, _⟩⟩ := h2
    · simp [Value.ownBlock]
    · simp only [Value.ownBlock, ne_eq, Option.some.injEq]
      rintro rfl
      rw [hh] at hh2
      simp only [Option.some.injEq, Obj.cells.injEq] at hh2
      exact hte hh2.2.1
theorem tok_five (w : World) (a b c d f : Value) (t : TypeId) : ∀ j u, [a, b, c, d, f][j]? = some u → (w.alloc (.cells #[a, b, c, d, f] t)).cell? ((⟨w.heap.size, 0, none⟩ : Addr).add j) = some u := by
  intro j u hj
  have e := heap_alloc_new w (.cells #[a, b, c, d, f] t)
  rw [add_at, Nat.zero_add]
  unfold World.cell?
  rw [e]
  match j, hj with
  | 0, hj => simpa using hj
  | 1, hj => simpa using hj
  | 2, hj => simpa using hj
  | 3, hj => simpa using hj
  | 4, hj => simpa using hj

namespace T
theorem tokens_long {l : List UInt8} (h : 100000 < l.length) : tokens l = .error 2 := by unfold tokens; rw [if_pos h]
theorem tokens_bad {l : List UInt8} (h : ¬ 100000 < l.length) (hc : G.check l = false) : tokens l = .error 50 := by unfold tokens; rw [if_neg h, if_pos hc]
/-- what is told, when some tokens have come. -/
def Rest (l : List UInt8) (a : List Tok) (t : List UInt8) : Prop := tokens l = match run (decide (a = [])) t with | .error e => .error e | .ok ts => .ok (a ++ ts)
theorem rest_start {l : List UInt8} (h : ¬ 100000 < l.length) (hc : G.check l = true) : Rest l [] (G.lines l) := by
  unfold Rest
  rw [tokens_mk (by omega) hc]
  show run true (G.lines l) = match run true (G.lines l) with | .error e => .error e | .ok ts => .ok ([] ++ ts)
  cases run true (G.lines l) <;> rfl
theorem rest_end {l : List UInt8} {a : List Tok} (h : Rest l a []) : tokens l = .ok a := by
  unfold Rest at h; rw [h, run_nil]; simp
theorem rest_err {l t : List UInt8} {a : List Tok} {e : Nat} (h : Rest l a t) (ht : t ≠ []) (hn : next (decide (a = [])) t = .error e) : tokens l = .error e := by
  unfold Rest at h; rw [h, run_step ht, hn]
theorem rest_ok {l t r : List UInt8} {a : List Tok} {k : Tok} (h : Rest l a t) (ht : t ≠ []) (hn : next (decide (a = [])) t = .ok (k, r)) : Rest l (a ++ [k]) r := by
  unfold Rest at h ⊢
  rw [h, run_step ht, hn]
  simp only
  rw [decide_eq_false (by simp : ¬ a ++ [k] = [])]
  cases run false r with
  | error e => rfl
  | ok ts => simp
end T
theorem check_of {l : List UInt8} : (G.check l = true ∧ G.checkN l = 0) ∨ (G.check l = false ∧ G.checkN l = 50) := by
  unfold G.checkN
  cases G.check l <;> simp

/-- The tokens so far: a row that the call owns; their attributes rows of their own. -/
structure Toks2 (B : Nat) (w : World) (v : Value) (L : List (T.Tok × Value)) : Prop where
  row : w.ownsRow B 41 5 v L.length (rowCells L)
  attrs : ∀ x ∈ L, OwnsPairs B x.2 (x.1.attrs.map mpair) w
theorem Toks2.nil (B : Nat) (w : World) : Toks2 B w (.slice none 0 0) [] := ⟨World.ownsRow_nil _ _ _ _, fun x hx => by cases hx⟩
theorem row_on {w w' : World} {B : Nat} {e : TypeId} {size n : Nat} {v : Value} {xs : List Value} (h : w.ownsRow B e size v n xs) (hb : Below w.heap.size w w') : w'.ownsRow B e size v n xs := World.ownsRow.kept h (grown_of_below hb none) (by
  obtain ⟨_, ⟨rfl, _⟩ | ⟨g, cap, cur, rfl, _⟩⟩ := h
  · exact .inl rfl
  · right; simp [Value.ownBlock])
theorem Toks2.on {B : Nat} {w w' : World} {v : Value} {L : List (T.Tok × Value)} (h : Toks2 B w v L) (hb : Below w.heap.size w w') : Toks2 B w' v L := ⟨row_on h.row hb, fun x hx => row_on (h.attrs x hx) hb⟩
theorem Toks2.slice {B : Nat} {w : World} {v : Value} {L : List (T.Tok × Value)} (h : Toks2 B w v L) : ∃ ao cap, v = .slice ao L.length cap ∧ ToksIn w ao L ∧ (ao = none → cap = 0) := by
  obtain ⟨ao, cap, e, hin⟩ := toks_of_owns (B := B) (v := v) (L := L) (w := w) ⟨h.row, fun x hx => by
    obtain ⟨ao, cap, e, hp⟩ := pairs_of_owns (h.attrs x hx)
    exact ⟨ao, cap, by rw [e, List.length_map], hp⟩⟩
  refine ⟨ao, cap, e, hin, ?_⟩
  rintro rfl
  obtain ⟨_, ⟨h0, _⟩ | ⟨g, cap2, cur, h0, _⟩⟩ := h.row
  · rw [e] at h0; injection h0 
  · rw [e] at h0; cases h0
theorem Toks2.cap {B : Nat} {w : World} {v : Value} {L : List (T.Tok × Value)} (h : Toks2 B w v L) {ao : Option Addr} {cap : Nat} (e : v = .slice ao L.length cap) : L.length ≤ cap := by
  obtain ⟨_, ⟨_, hz⟩ | ⟨g, cap2, cur, h0, hb, hh, hk, hm, _⟩⟩ := h.row
  · omega
  · rw [e] at h0
    injection h0 with _ _ h2
    omega
/-- What is told of a text's tokens; and the row has room for them. -/
def RTold (s : ByteArray) (w : World) (e : Ending) (w' : World) : Prop :=
  ∃ (ao : Option Addr) (cap : Nat) (L : List (T.Tok × Value)), e = .returned (.tuple #[.slice ao L.length cap, .int .i64 (T.tokE s.data.toList)]) ∧ L.map Prod.fst = T.toks s.data.toList ∧ ToksIn w' ao L ∧ (ao = none → cap = 0) ∧ Below w.heap.size w w' ∧ L.length ≤ cap
theorem Toks2.more {B : Nat} {w w' : World} {v v' : Value} {L : List (T.Tok × Value)} {k : T.Tok} {u : Value} (h : Toks2 B w v L) (hu : OwnsPairs B u (k.attrs.map mpair) w) (hg : w.grownBy w' v.ownBlock) (hr : w'.ownsRow B 41 5 v' (L.length + 1) (rowCells L ++ tokCells k u)) : Toks2 B w' v' (L ++ [(k, u)]) := by
  refine ⟨by rw [List.length_append, List.length_singleton, rowCells_append]; simpa [rowCells] using hr, fun x hx => ?_⟩
  rcases List.mem_append.1 hx with hx | hx
  · exact World.ownsRow.kept (h.attrs x hx) hg (rows_apart (h.attrs x hx) h.row (by decide))
  · obtain rfl : x = (k, u) := List.mem_singleton.1 hx
    exact World.ownsRow.kept hu hg (rows_apart hu h.row (by decide))

set_option maxRecDepth 100000 in
set_option maxHeartbeats 12800000 in
theorem refTokens_any (s : ByteArray) (w : World) (hs : s.size ≤ 1000000) : Calls Tryz.prog 11 #[.string s] w (RTold s w) := by
  obtain ⟨i0, hi, hz0, hz1, hz2⟩ := info_parts infoTok
  have told0 : ∀ {e : Nat} {w' : World}, T.tokens s.data.toList = .error e → Below w.heap.size w w' → RTold s w (.returned (.tuple #[.slice none 0 0, .int .i64 (e : Int)])) w' := fun {e} {w'} h hb => by
    obtain ⟨h1, h2⟩ := T.told_err h
    exact ⟨none, 0, [], by rw [h2]; rfl, by rw [h1]; rfl, fun j hj => by simp at hj, fun _ => rfl, hb, Nat.le_refl _⟩
  go_enter Tryz.func11, Tryz.ntmps11
  by_cases hlong : 100000 < s.size
  · have hg := Lib.hid (T.tokens_long (l := s.data.toList) (by rw [list_len]; exact hlong))
    go_wp2
    go_ret2
    exact told0 hg.out (Below.refl _ _)
  go_wp2_with fail
  (with_reducible refine (refCheck_any s _ (by unfold maxLen; omega)).mono ?_); rintro e w1 ⟨rfl, b1⟩
  rcases check_of (l := s.data.toList) with ⟨hc, hcn⟩ | ⟨hc, hcn⟩
  · rw [hcn]
    have hR := Lib.hid (T.rest_start (l := s.data.toList) (by rw [list_len]; exact hlong) hc)
    have hll := G.lines_length s.data.toList
    rw [list_len] at hll
    clear hc hcn
    go_wp2_with fail
    (with_reducible refine (refLines_any s _ (by omega)).mono ?_); rintro e w2 ⟨rfl, b2⟩
    have c2 := b1.trans (b2.mono b1.size)
    obtain ⟨t0, ht0⟩ : ∃ t0 : ByteArray, t0 = ⟨(G.lines s.data.toList).toArray⟩ := ⟨_, rfl⟩
    rw [← ht0]
    have htl : t0.data.toList = G.lines s.data.toList := by rw [ht0]
    rw [← htl] at hR hll
    rw [list_len] at hll
    clear ht0 htl b1 b2
    go_wp2_with fail
    go_loopw [0, 5, 6] (fun v0 v5 _ wr => ∃ (t : ByteArray) (L : List (T.Tok × Value)), v0 = .string t ∧ Hid (T.Rest s.data.toList (L.map Prod.fst) t.data.toList) ∧ L.length + t.size ≤ s.size ∧ Hid (Toks2 w.heap.size wr v5 L) ∧ Below w.heap.size w wr) (fun v0 _ _ _ => strLen v0)
    case atStart => exact ⟨t0, [], rfl, hR, by simpa using hll, Lib.hid (Toks2.nil _ _), c2⟩
    case round =>
      obtain ⟨t, L, rfl, hR, hLt, hT, bw⟩ := hrel
      clear hll c2
      by_cases h0 : t.size = 0
      · have hnil : t.data.toList = [] := List.eq_nil_of_length_eq_zero (by rw [list_len]; exact h0)
        have hend := hR.out
        rw [hnil] at hend
        have hok := T.rest_end hend
        obtain ⟨h1, h2⟩ := T.told_ok hok
        replace h1 := Lib.hid h1
        replace h2 := Lib.hid h2
        obtain ⟨ao, cap, hve, hin, hcap⟩ := hT.out.slice
        have hle := Lib.hid (Toks2.cap hT.out hve)
        subst hve
        clear hnil hend hok hR hT
        go_wp2
        go_ret2
        exact ⟨ao, cap, L, by rw [h2.out]; rfl, h1.out.symm, hin, hcap, bw, hle.out⟩
      · have hti : (0 : Int) < (t.size : Int) := by omega
        have htne : t.data.toList ≠ [] := lst_ne (by omega)
        obtain ⟨ao, cap, rfl, hin, hcap⟩ := hT.out.slice
        clear hin hcap h0
        have hfirst : decide (L.map Prod.fst = []) = decide (L.length = 0) := by cases L <;> simp
        generalize hn : L.length = n at *
        replace hn := Lib.hid hn
        have hcase : (n = 0 ∧ decide (L.map Prod.fst = []) = true) ∨ (¬ (n : Int) = 0 ∧ decide (L.map Prod.fst = []) = false) := by
          rw [hfirst]
          by_cases h : n = 0
          · exact .inl ⟨h, decide_eq_true h⟩
          · exact .inr ⟨by omega, decide_eq_false h⟩
        clear hfirst
        rcases hcase with ⟨hn0, hf⟩ | ⟨hn0, hf⟩
        · subst hn0
          go_wp2_with fail
          (with_reducible refine (refNext_any t true _ (by omega)).mono ?_)
          rintro e wF ⟨v, rfl, hv, bF⟩
          have cF := bw.trans (bF.mono bw.size)
          have hTF := Lib.hid (hT.out.on bF)
          have hBB := bw.size
          clear bw bF hT
          cases hx : T.next true t.data.toList with
          | error e =>
            have hg := Lib.hid (T.rest_err hR.out htne (hf ▸ hx))
            have he0 : ¬ (e : Int) = 0 := by have := T.next_err hx; omega
            have c3 := cF.alloc cF.size (.cells (partCells 0 ⟨#[]⟩ (.slice none 0 0) false ⟨#[]⟩ ⟨#[]⟩ (e : Int)) 53)
            clear hR hTF hv hx hf htne
            unfold partVal
            simp only []
            unfold partAgg partCells
            go_wp2_with fail
            go_quiet (fail)
            go_wp2_with fail
            go_ret2
            exact told0 hg.out (Cells.below_drewN c3 _)
          | ok x =>
            obtain ⟨k, r⟩ := x
            have hu := owns_base (hv k r hx) hBB
            have hR2 := Lib.hid (T.rest_ok hR.out htne (hf ▸ hx))
            have hrl := T.next_less htne hx
            obtain ⟨au, cu, rfl, -⟩ := pairs_of_owns hu
            rw [List.length_map] at hu ⊢
            obtain ⟨nb, hnb⟩ : ∃ nb : ByteArray, nb = ⟨k.name.toArray⟩ := ⟨_, rfl⟩
            obtain ⟨db, hdb⟩ : ∃ db : ByteArray, db = ⟨k.data.toArray⟩ := ⟨_, rfl⟩
            obtain ⟨rb, hrb⟩ : ∃ rb : ByteArray, rb = ⟨r.toArray⟩ := ⟨_, rfl⟩
            have hrl2 : rb.data.toList = r := by rw [hrb]
            have hval : partVal (.ok (k, r)) (.slice au k.attrs.length cu) = .agg #[.int .i64 (k.kind : Int), .string nb, .slice au k.attrs.length cu, .bool k.alone, .string db, .string rb, .int .i64 0] := by rw [hnb, hdb, hrb]; rfl
            have htc := Lib.hid (show tokCells k (.slice au k.attrs.length cu) = [.int .i64 (k.kind : Int), .string nb, .slice au k.attrs.length cu, .bool k.alone, .string db] by unfold tokCells; rw [hnb, hdb])
            rw [hval]
            rw [← hrl2] at hR2 hrl
            rw [list_len, list_len] at hrl
            clear hval hnb hdb hrb hrl2 hR hv hx hf htne
            have hTA := hTF.out.on ((Below.refl _ _).alloc (Nat.le_refl _) (.cells #[.int .i64 (k.kind : Int), .string nb, .slice au k.attrs.length cu, .bool k.alone, .string db, .string rb, .int .i64 0] 53))
            have huA := pairs_alloc hu (.cells #[.int .i64 (k.kind : Int), .string nb, .slice au k.attrs.length cu, .bool k.alone, .string db, .string rb, .int .i64 0] 53)
            have cA := cF.alloc cF.size (.cells #[.int .i64 (k.kind : Int), .string nb, .slice au k.attrs.length cu, .bool k.alone, .string db, .string rb, .int .i64 0] 53)
            have kA := Cells.new wF 53 #[.int .i64 (k.kind : Int), .string nb, .slice au k.attrs.length cu, .bool k.alone, .string db, .string rb, .int .i64 0]
            obtain ⟨q0, q1, q2, q3, q4, q5, q6⟩ := part_open kA
            have hrowA := hTA.row
            rw [hn.out] at hrowA
            replace hTA := Lib.hid hTA
            replace kA := Lib.hid kA
            clear hTF hu cF
            go_wp2_with (at_builtin; refine wpList_append_own_at _ rfl _ _ 33 rfl w.heap.size 41 i0 _ 5 72 Tryz.underlying33 hi hz0 hz1 hz2 rfl (by decide) _ _ _ rfl (World.ownsRow.alloc hrowA _) ⟨wF.heap.size + 1, 0, none⟩ 1 1 [.int .i64 (k.kind : Int), .string nb, .slice au k.attrs.length cu, .bool k.alone, .string db] rfl rfl (fun j u hj => by have := tok_five (wF.alloc (.cells #[.int .i64 (k.kind : Int), .string nb, .slice au k.attrs.length cu, .bool k.alone, .string db, .string rb, .int .i64 0] 53)) _ _ _ _ _ 41 j u hj; rwa [World.size_alloc] at this) (fun u hu => by simp at hu; rcases hu with rfl | rfl | rfl | rfl | rfl <;> rfl) (by unfold maxLen; omega) (by omega) (by have := cA.size; simp at this ⊢; omega) ?_)
            intro v6 w4 hown2 hg2 _ hat
            have hga := (World.grownBy_alloc (wF.alloc (.cells #[.int .i64 (k.kind : Int), .string nb, .slice au k.attrs.length cu, .bool k.alone, .string db, .string rb, .int .i64 0] 53)) _ _).trans hg2
            have b4 := (Below.refl w.heap.size _).grown hga cA.size (fun j e => (World.ownsRow.lt hrowA j e).1)
            have c4 := cA.trans b4
            have hT4 := Lib.hid (hTA.out.more huA hga (by rw [htc.out, hn.out]; exact hown2))
            have k4 := kA.out.grown hga (kA.out.row_ne hrowA (by decide))
            have y5 : w4.cell? ⟨wF.heap.size, 5, none⟩ = some (.string rb) := k4.cell rfl
            have hlen4 := Lib.hid (show (L ++ [(k, (Value.slice au k.attrs.length cu))]).length + rb.size ≤ s.size by rw [List.length_append, List.length_singleton, hn.out]; omega)
            have hR4 := Lib.hid (show T.Rest s.data.toList ((L ++ [(k, (Value.slice au k.attrs.length cu))]).map Prod.fst) rb.data.toList by rw [List.map_append]; exact hR2.out)
            generalize L ++ [(k, (Value.slice au k.attrs.length cu))] = L2 at *
            obtain ⟨ao6, cap6, rfl, -, -⟩ := hT4.out.slice
            clear hown2 hg2 hat hga b4 k4 hrowA huA hTA kA cA q0 q1 q2 q3 q4 q5 q6 hR2
            go_wp2_with fail
            go_roundw
            case rel => exact ⟨rb, L2, rfl, hR4, hlen4.out, hT4, c4⟩
            case measure => simp [strLen] <;> omega
        · replace hn0 := beq_false_of_ne hn0
          go_wp2_with fail
          (with_reducible refine (refNext_any t false _ (by omega)).mono ?_)
          rintro e wF ⟨v, rfl, hv, bF⟩
          have cF := bw.trans (bF.mono bw.size)
          have hTF := Lib.hid (hT.out.on bF)
          have hBB := bw.size
          clear bw bF hT
          cases hx : T.next false t.data.toList with
          | error e =>
            have hg := Lib.hid (T.rest_err hR.out htne (hf ▸ hx))
            have he0 : ¬ (e : Int) = 0 := by have := T.next_err hx; omega
            have c3 := cF.alloc cF.size (.cells (partCells 0 ⟨#[]⟩ (.slice none 0 0) false ⟨#[]⟩ ⟨#[]⟩ (e : Int)) 53)
            clear hR hTF hv hx hf htne
            unfold partVal
            simp only []
            unfold partAgg partCells
            go_wp2_with fail
            go_quiet (fail)
            go_wp2_with fail
            go_ret2
            exact told0 hg.out (Cells.below_drewN c3 _)
          | ok x =>
            obtain ⟨k, r⟩ := x
            have hu := owns_base (hv k r hx) hBB
            have hR2 := Lib.hid (T.rest_ok hR.out htne (hf ▸ hx))
            have hrl := T.next_less htne hx
            obtain ⟨au, cu, rfl, -⟩ := pairs_of_owns hu
            rw [List.length_map] at hu ⊢
            obtain ⟨nb, hnb⟩ : ∃ nb : ByteArray, nb = ⟨k.name.toArray⟩ := ⟨_, rfl⟩
            obtain ⟨db, hdb⟩ : ∃ db : ByteArray, db = ⟨k.data.toArray⟩ := ⟨_, rfl⟩
            obtain ⟨rb, hrb⟩ : ∃ rb : ByteArray, rb = ⟨r.toArray⟩ := ⟨_, rfl⟩
            have hrl2 : rb.data.toList = r := by rw [hrb]
            have hval : partVal (.ok (k, r)) (.slice au k.attrs.length cu) = .agg #[.int .i64 (k.kind : Int), .string nb, .slice au k.attrs.length cu, .bool k.alone, .string db, .string rb, .int .i64 0] := by rw [hnb, hdb, hrb]; rfl
            have htc := Lib.hid (show tokCells k (.slice au k.attrs.length cu) = [.int .i64 (k.kind : Int), .string nb, .slice au k.attrs.length cu, .bool k.alone, .string db] by unfold tokCells; rw [hnb, hdb])
            rw [hval]
            rw [← hrl2] at hR2 hrl
            rw [list_len, list_len] at hrl
            clear hval hnb hdb hrb hrl2 hR hv hx hf htne
            have hTA := hTF.out.on ((Below.refl _ _).alloc (Nat.le_refl _) (.cells #[.int .i64 (k.kind : Int), .string nb, .slice au k.attrs.length cu, .bool k.alone, .string db, .string rb, .int .i64 0] 53))
            have huA := pairs_alloc hu (.cells #[.int .i64 (k.kind : Int), .string nb, .slice au k.attrs.length cu, .bool k.alone, .string db, .string rb, .int .i64 0] 53)
            have cA := cF.alloc cF.size (.cells #[.int .i64 (k.kind : Int), .string nb, .slice au k.attrs.length cu, .bool k.alone, .string db, .string rb, .int .i64 0] 53)
            have kA := Cells.new wF 53 #[.int .i64 (k.kind : Int), .string nb, .slice au k.attrs.length cu, .bool k.alone, .string db, .string rb, .int .i64 0]
            obtain ⟨q0, q1, q2, q3, q4, q5, q6⟩ := part_open kA
            have hrowA := hTA.row
            rw [hn.out] at hrowA
            replace hTA := Lib.hid hTA
            replace kA := Lib.hid kA
            clear hTF hu cF
            go_wp2_with (at_builtin; refine wpList_append_own_at _ rfl _ _ 33 rfl w.heap.size 41 i0 _ 5 72 Tryz.underlying33 hi hz0 hz1 hz2 rfl (by decide) _ _ _ rfl (World.ownsRow.alloc hrowA _) ⟨wF.heap.size + 1, 0, none⟩ 1 1 [.int .i64 (k.kind : Int), .string nb, .slice au k.attrs.length cu, .bool k.alone, .string db] rfl rfl (fun j u hj => by have := tok_five (wF.alloc (.cells #[.int .i64 (k.kind : Int), .string nb, .slice au k.attrs.length cu, .bool k.alone, .string db, .string rb, .int .i64 0] 53)) _ _ _ _ _ 41 j u hj; rwa [World.size_alloc] at this) (fun u hu => by simp at hu; rcases hu with rfl | rfl | rfl | rfl | rfl <;> rfl) (by unfold maxLen; omega) (by omega) (by have := cA.size; simp at this ⊢; omega) ?_)
            intro v6 w4 hown2 hg2 _ hat
            have hga := (World.grownBy_alloc (wF.alloc (.cells #[.int .i64 (k.kind : Int), .string nb, .slice au k.attrs.length cu, .bool k.alone, .string db, .string rb, .int .i64 0] 53)) _ _).trans hg2
            have b4 := (Below.refl w.heap.size _).grown hga cA.size (fun j e => (World.ownsRow.lt hrowA j e).1)
            have c4 := cA.trans b4
            have hT4 := Lib.hid (hTA.out.more huA hga (by rw [htc.out, hn.out]; exact hown2))
            have k4 := kA.out.grown hga (kA.out.row_ne hrowA (by decide))
            have y5 : w4.cell? ⟨wF.heap.size, 5, none⟩ = some (.string rb) := k4.cell rfl
            have hlen4 := Lib.hid (show (L ++ [(k, (Value.slice au k.attrs.length cu))]).length + rb.size ≤ s.size by rw [List.length_append, List.length_singleton, hn.out]; omega)
            have hR4 := Lib.hid (show T.Rest s.data.toList ((L ++ [(k, (Value.slice au k.attrs.length cu))]).map Prod.fst) rb.data.toList by rw [List.map_append]; exact hR2.out)
            generalize L ++ [(k, (Value.slice au k.attrs.length cu))] = L2 at *
            obtain ⟨ao6, cap6, rfl, -, -⟩ := hT4.out.slice
            clear hown2 hg2 hat hga b4 k4 hrowA huA hTA kA cA q0 q1 q2 q3 q4 q5 q6 hR2
            go_wp2_with fail
            go_roundw
            case rel => exact ⟨rb, L2, rfl, hR4, hlen4.out, hT4, c4⟩
            case measure => simp [strLen] <;> omega
  · have hg := Lib.hid (T.tokens_bad (l := s.data.toList) (by rw [list_len]; exact hlong) hc)
    rw [hcn]
    clear hc hcn
    go_wp2
    go_ret2
    exact told0 hg.out b1
end Go.Proofs.YtcjlhdmekhifaaaGreatDoor
