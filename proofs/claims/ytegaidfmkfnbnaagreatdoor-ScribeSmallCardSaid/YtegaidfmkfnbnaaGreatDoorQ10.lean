/-
  What the document's own words of tokens come to: next.
-/
import Derived.Test.YtegaidfmkfnbnaaGreatDoorQ09
import Derived.Test.YtegaidfmkfnbnaaGreatDoorQ05
namespace Go.Proofs.YtegaidfmkfnbnaaGreatDoor
open Go.RowKit

namespace T
theorem comment_bare {l r : List UInt8} {t : Tok} (h : comment l = .ok (t, r)) : t.attrs = [] := by
  unfold comment at h
  split at h
  · cases h; rfl
  · cases h
theorem cdata_bare {l r : List UInt8} {t : Tok} (h : cdata l = .ok (t, r)) : t.attrs = [] := by
  unfold cdata at h
  split at h
  · cases h; rfl
  · cases h
theorem pi_bare {l r : List UInt8} {t : Tok} (h : pi l = .ok (t, r)) : t.attrs = [] := by
  unfold pi at h
  split at h
  · cases h
  · split at h
    · cases h
    · split at h
      · cases h
      · split at h
        · cases h; rfl
        · cases h
theorem shut_bare {l r : List UInt8} {t : Tok} (h : shut l = .ok (t, r)) : t.attrs = [] := by
  unfold shut at h
  split at h
  · cases h
  · split at h
    · cases h; rfl
    · cases h
theorem text_bare {l r : List UInt8} {t : Tok} (h : text l = .ok (t, r)) : t.attrs = [] := by
  unfold text at h
  split at h
  · cases h
  · split at h
    · cases h
    · cases h; rfl
theorem decl_bare {l r : List UInt8} {t : Tok} (h : decl l = .ok (t, r)) : t.attrs = [] := by
  rw [(decl_append h []).2.2]
theorem declares_of {l : List UInt8} (h : begins [60, 63, 120, 109, 108] l = false) : declares l = false := by unfold declares; rw [h]; rfl
end T
theorem declares_short {s : ByteArray} (h : s.size ≤ 5) : T.declares s.data.toList = false := by
  unfold T.declares
  rw [List.drop_of_length_le (by rw [list_len]; exact h)]
  simp
theorem declares_long {s : ByteArray} (h : 5 < s.size) (hb : T.begins [60, 63, 120, 109, 108] s.data.toList = true) : T.declares s.data.toList = G.space ((s[5]).toNat : Int) := by
  unfold T.declares
  rw [hb, drop_cons s 5 h]
  rfl

theorem bare_told {g : T.Got} {w w' : World} {x : Ending} (hb : ∀ t r, g = .ok (t, r) → t.attrs = []) (h : x = .returned (partVal g (.slice none 0 0)) ∧ Below w.heap.size w w') : PartTold g w x w' :=
  ⟨_, h.1, fun t r hg => (by rw [hb t r hg]; exact pairs_nil _ _), h.2⟩
theorem refine_told {f : FuncId} {args : Array Value} {g : T.Got} {w : World} (hb : ∀ t r, g = .ok (t, r) → t.attrs = []) (h : Calls Tryz.prog f args w fun x w' => x = .returned (partVal g (.slice none 0 0)) ∧ Below w.heap.size w w') : Calls Tryz.prog f args w (PartTold g w) := h.mono fun _ _ hh => bare_told hb hh
theorem told_agg {g : T.Got} {v : Value} {B : Nat} {w' : World} (hv : ∀ t r, g = .ok (t, r) → OwnsPairs B v (t.attrs.map mpair) w') :
    ∃ (k : Int) (n : ByteArray) (ao : Option Addr) (m cap : Nat) (al : Bool) (d r : ByteArray) (e : Int), partVal g v = partAgg k n (.slice ao m cap) al d r e ∧ partAgg k n (.slice ao m cap) al d r e = partVal g (.slice ao m cap) ∧ (∀ t r, g = .ok (t, r) → OwnsPairs B (.slice ao m cap) (t.attrs.map mpair) w') := by
  cases g with
  | error e => exact ⟨_, _, none, 0, 0, _, _, _, _, rfl, rfl, fun t r h => by cases h⟩
  | ok x =>
    obtain ⟨t, r⟩ := x
    have ho := hv t r rfl
    obtain ⟨ao, cap, rfl, _⟩ := pairs_of_owns ho
    exact ⟨_, _, ao, _, cap, _, _, _, _, rfl, rfl, hv⟩
theorem owns_base {B B' : Nat} {v : Value} {l : List Pair} {w : World} (h : OwnsPairs B v l w) (hB : B' ≤ B) : OwnsPairs B' v l w := by
  obtain ⟨hl, h0 | ⟨g, cap, cur, rfl, hb, r⟩⟩ := h
  · exact ⟨hl, .inl h0⟩
  · exact ⟨hl, .inr ⟨g, cap, cur, rfl, Nat.le_trans hB hb, r⟩⟩
theorem told_next {G g : T.Got} {w wc w' : World} {b : Nat} {cs : Array Value} {k : Int} {n d r : ByteArray} {ao : Option Addr} {m cap : Nat} {al : Bool} {e : Int} (hG : G = g) (hE : partAgg k n (.slice ao m cap) al d r e = partVal g (.slice ao m cap)) (hv : ∀ t r, g = .ok (t, r) → OwnsPairs wc.heap.size (.slice ao m cap) (t.attrs.map mpair) w') (hB : w.heap.size ≤ wc.heap.size)
    (hc : Cells w' b 70 cs) (hb : w.heap.size ≤ b) (cF : Below w.heap.size w w') (x0 x1 x2 x3 x4 x5 x6 : Value) : PartTold G w (.returned (partAgg k n (.slice ao m cap) al d r e)) (((((((w'.setCell ⟨b, 0, none⟩ x0).setCell ⟨b, 1, none⟩ x1).setCell ⟨b, 2, none⟩ x2).setCell ⟨b, 3, none⟩ x3).setCell ⟨b, 4, none⟩ x4).setCell ⟨b, 5, none⟩ x5).setCell ⟨b, 6, none⟩ x6) := by
  subst hG
  exact ⟨_, by rw [hE], fun t r hg => part_rows hc (owns_base (hv t r hg) hB) (by decide) _ _ _ _ _ _ _, part_below cF hb _ _ _ _ _ _ _⟩

set_option maxRecDepth 100000 in
set_option maxHeartbeats 12800000 in
theorem refNext_any (s : ByteArray) (first : Bool) (w : World) (hs : s.size ≤ 1000000) : Calls Tryz.prog 42 #[.string s, .bool first] w (PartTold (T.next first s.data.toList) w) := by
  have hN : T.next first s.data.toList = if first && T.declares s.data.toList then T.decl (s.data.toList.drop 5)
    else if T.begins [60, 33, 45, 45] s.data.toList then T.comment (s.data.toList.drop 4)
    else if T.begins [60, 33, 91, 67, 68, 65, 84, 65, 91] s.data.toList then T.cdata (s.data.toList.drop 9)
    else if T.begins [60, 33, 68, 79, 67, 84, 89, 80, 69] s.data.toList then .error 72
    else if T.begins [60, 33] s.data.toList then .error 70
    else if T.begins [60, 63] s.data.toList then T.pi (s.data.toList.drop 2)
    else if T.begins [60, 47] s.data.toList then T.shut (s.data.toList.drop 2)
    else if T.begins [60] s.data.toList then T.opened (s.data.toList.drop 1)
    else T.text s.data.toList := rfl
  have hbig : ∀ p : List UInt8, T.begins p s.data.toList = true → p.length ≤ s.size := fun p h => by
    rw [T.begins_take] at h
    have := (of_decide_eq_true h).1
    rwa [list_len] at this
  replace hbig := Lib.hid hbig
  go_enter Tryz.func42, Tryz.ntmps42
  have b0 := (Below.refl w.heap.size w).alloc (Nat.le_refl _) (.cells (partCells 0 ⟨#[]⟩ (.slice none 0 0) false ⟨#[]⟩ ⟨#[]⟩ 0) 70)
  have k0 := Cells.new w 70 (partCells 0 ⟨#[]⟩ (.slice none 0 0) false ⟨#[]⟩ ⟨#[]⟩ 0)
  obtain ⟨D, hD⟩ : ∃ D, D = (first && T.declares s.data.toList) := ⟨_, rfl⟩
  rw [← hD] at hN
  replace hN := Lib.hid hN
  cases first with
  | false =>
    obtain rfl : D = false := by rw [hD]; rfl
    replace hN := Lib.hid (hN.out.trans (if_neg (by decide)))
    clear hD
    go_wp2_with fail
    (with_reducible refine (refBegins_any s ⟨#[60, 33, 45, 45]⟩ _ (by unfold maxLen; omega) (by decide)).mono ?_); rintro e w2 ⟨rfl, rfl⟩
    simp only []
    cases hb : T.begins [60, 33, 45, 45] s.data.toList with
    | true =>
      replace hN := Lib.hid (hN.out.trans (if_pos hb))
      have hsz := hbig.out _ hb
      simp only [List.length_cons, List.length_nil, Nat.reduceAdd] at hsz
      have hszi : (4 : Int) ≤ (s.size : Int) := by omega
      have hdl := Lib.hid (show (s.extract 4 s.size).data.toList = s.data.toList.drop 4 from drop_list s 4)
      have hdz : (s.extract 4 s.size).size ≤ 1000000 := by simp; omega
      have hG := Lib.hid (show T.next false s.data.toList = T.comment (s.extract 4 s.size).data.toList by rw [hdl.out]; exact hN.out)
      clear hb
      go_wp2_with fail
      (with_reducible refine (Calls.mono (refine_told (fun t r => T.comment_bare) (refComment_any (s.extract 4 s.size) _ hdz)) ?_))
      rintro e wF ⟨v, rfl, hv, bF⟩
      obtain ⟨k, n, ao, m, cap, al, d, r, ee, hE1, hE2, hv2⟩ := told_agg hv
      rw [hE1]
      have kF := k0.on bF
      have cF := b0.trans (bF.mono b0.size)
      replace hE2 := Lib.hid hE2
      replace hv2 := Lib.hid hv2
      obtain ⟨q0, q1, q2, q3, q4, q5, q6⟩ := part_open kF
      obtain ⟨f0, f1, f2, f3, f4, f5, f6⟩ := part_free kF
      replace kF := Lib.hid kF
      have hBB := Lib.hid b0.size
      clear hv hE1 hN
      unfold partAgg partCells
      go_wp2_with fail
      exact part_end (rb := w.heap.size) rfl rfl (part_set kF.out) (told_next hG.out hE2.out hv2.out hBB.out kF.out (Nat.le_refl _) cF _ _ _ _ _ _ _)
    | false =>
      replace hN := Lib.hid (hN.out.trans (if_neg (by rw [hb]; decide)))
      clear hb
      go_wp2_with fail
      (with_reducible refine (refBegins_any s ⟨#[60, 33, 91, 67, 68, 65, 84, 65, 91]⟩ _ (by unfold maxLen; omega) (by decide)).mono ?_); rintro e w2 ⟨rfl, rfl⟩
      simp only []
      cases hb : T.begins [60, 33, 91, 67, 68, 65, 84, 65, 91] s.data.toList with
      | true =>
        replace hN := Lib.hid (hN.out.trans (if_pos hb))
        have hsz := hbig.out _ hb
        simp only [List.length_cons, List.length_nil, Nat.reduceAdd] at hsz
        have hszi : (9 : Int) ≤ (s.size : Int) := by omega
        have hdl := Lib.hid (show (s.extract 9 s.size).data.toList = s.data.toList.drop 9 from drop_list s 9)
        have hdz : (s.extract 9 s.size).size ≤ 1000000 := by simp; omega
        have hG := Lib.hid (show T.next false s.data.toList = T.cdata (s.extract 9 s.size).data.toList by rw [hdl.out]; exact hN.out)
        clear hb
        go_wp2_with fail
        (with_reducible refine (Calls.mono (refine_told (fun t r => T.cdata_bare) (refCdata_any (s.extract 9 s.size) _ hdz)) ?_))
        rintro e wF ⟨v, rfl, hv, bF⟩
        obtain ⟨k, n, ao, m, cap, al, d, r, ee, hE1, hE2, hv2⟩ := told_agg hv
        rw [hE1]
        have kF := k0.on bF
        have cF := b0.trans (bF.mono b0.size)
        replace hE2 := Lib.hid hE2
        replace hv2 := Lib.hid hv2
        obtain ⟨q0, q1, q2, q3, q4, q5, q6⟩ := part_open kF
        obtain ⟨f0, f1, f2, f3, f4, f5, f6⟩ := part_free kF
        replace kF := Lib.hid kF
        have hBB := Lib.hid b0.size
        clear hv hE1 hN
        unfold partAgg partCells
        go_wp2_with fail
        exact part_end (rb := w.heap.size) rfl rfl (part_set kF.out) (told_next hG.out hE2.out hv2.out hBB.out kF.out (Nat.le_refl _) cF _ _ _ _ _ _ _)
      | false =>
        replace hN := Lib.hid (hN.out.trans (if_neg (by rw [hb]; decide)))
        clear hb
        go_wp2_with fail
        (with_reducible refine (refBegins_any s ⟨#[60, 33, 68, 79, 67, 84, 89, 80, 69]⟩ _ (by unfold maxLen; omega) (by decide)).mono ?_); rintro e w2 ⟨rfl, rfl⟩
        simp only []
        cases hb : T.begins [60, 33, 68, 79, 67, 84, 89, 80, 69] s.data.toList with
        | true =>
          replace hN := Lib.hid (hN.out.trans (if_pos hb))
          have hg := hN
          clear hN hb
          go_wp2_with fail
          (with_reducible refine (refFailed_any 72 _).mono ?_); rintro e wF ⟨rfl, bF⟩
          have kF := k0.on bF
          have cF := b0.trans (bF.mono b0.size)
          obtain ⟨q0, q1, q2, q3, q4, q5, q6⟩ := part_open kF
          obtain ⟨f0, f1, f2, f3, f4, f5, f6⟩ := part_free kF
          replace kF := Lib.hid kF
          unfold partAgg partCells
          go_wp2_with fail
          exact part_end (rb := w.heap.size) rfl rfl (part_set kF.out) (told_err hg.out (part_below cF (Nat.le_refl _) _ _ _ _ _ _ _))
        | false =>
          replace hN := Lib.hid (hN.out.trans (if_neg (by rw [hb]; decide)))
          clear hb
          go_wp2_with fail
          (with_reducible refine (refBegins_any s ⟨#[60, 33]⟩ _ (by unfold maxLen; omega) (by decide)).mono ?_); rintro e w2 ⟨rfl, rfl⟩
          simp only []
          cases hb : T.begins [60, 33] s.data.toList with
          | true =>
            replace hN := Lib.hid (hN.out.trans (if_pos hb))
            have hg := hN
            clear hN hb
            go_wp2_with fail
            (with_reducible refine (refFailed_any 70 _).mono ?_); rintro e wF ⟨rfl, bF⟩
            have kF := k0.on bF
            have cF := b0.trans (bF.mono b0.size)
            obtain ⟨q0, q1, q2, q3, q4, q5, q6⟩ := part_open kF
            obtain ⟨f0, f1, f2, f3, f4, f5, f6⟩ := part_free kF
            replace kF := Lib.hid kF
            unfold partAgg partCells
            go_wp2_with fail
            exact part_end (rb := w.heap.size) rfl rfl (part_set kF.out) (told_err hg.out (part_below cF (Nat.le_refl _) _ _ _ _ _ _ _))
          | false =>
            replace hN := Lib.hid (hN.out.trans (if_neg (by rw [hb]; decide)))
            clear hb
            go_wp2_with fail
            (with_reducible refine (refBegins_any s ⟨#[60, 63]⟩ _ (by unfold maxLen; omega) (by decide)).mono ?_); rintro e w2 ⟨rfl, rfl⟩
            simp only []
            cases hb : T.begins [60, 63] s.data.toList with
            | true =>
              replace hN := Lib.hid (hN.out.trans (if_pos hb))
              have hsz := hbig.out _ hb
              simp only [List.length_cons, List.length_nil, Nat.reduceAdd] at hsz
              have hszi : (2 : Int) ≤ (s.size : Int) := by omega
              have hdl := Lib.hid (show (s.extract 2 s.size).data.toList = s.data.toList.drop 2 from drop_list s 2)
              have hdz : (s.extract 2 s.size).size ≤ 1000000 := by simp; omega
              have hG := Lib.hid (show T.next false s.data.toList = T.pi (s.extract 2 s.size).data.toList by rw [hdl.out]; exact hN.out)
              clear hb
              go_wp2_with fail
              (with_reducible refine (Calls.mono (refine_told (fun t r => T.pi_bare) (refPi_any (s.extract 2 s.size) _ hdz)) ?_))
              rintro e wF ⟨v, rfl, hv, bF⟩
              obtain ⟨k, n, ao, m, cap, al, d, r, ee, hE1, hE2, hv2⟩ := told_agg hv
              rw [hE1]
              have kF := k0.on bF
              have cF := b0.trans (bF.mono b0.size)
              replace hE2 := Lib.hid hE2
              replace hv2 := Lib.hid hv2
              obtain ⟨q0, q1, q2, q3, q4, q5, q6⟩ := part_open kF
              obtain ⟨f0, f1, f2, f3, f4, f5, f6⟩ := part_free kF
              replace kF := Lib.hid kF
              have hBB := Lib.hid b0.size
              clear hv hE1 hN
              unfold partAgg partCells
              go_wp2_with fail
              exact part_end (rb := w.heap.size) rfl rfl (part_set kF.out) (told_next hG.out hE2.out hv2.out hBB.out kF.out (Nat.le_refl _) cF _ _ _ _ _ _ _)
            | false =>
              replace hN := Lib.hid (hN.out.trans (if_neg (by rw [hb]; decide)))
              clear hb
              go_wp2_with fail
              (with_reducible refine (refBegins_any s ⟨#[60, 47]⟩ _ (by unfold maxLen; omega) (by decide)).mono ?_); rintro e w2 ⟨rfl, rfl⟩
              simp only []
              cases hb : T.begins [60, 47] s.data.toList with
              | true =>
                replace hN := Lib.hid (hN.out.trans (if_pos hb))
                have hsz := hbig.out _ hb
                simp only [List.length_cons, List.length_nil, Nat.reduceAdd] at hsz
                have hszi : (2 : Int) ≤ (s.size : Int) := by omega
                have hdl := Lib.hid (show (s.extract 2 s.size).data.toList = s.data.toList.drop 2 from drop_list s 2)
                have hdz : (s.extract 2 s.size).size ≤ 1000000 := by simp; omega
                have hG := Lib.hid (show T.next false s.data.toList = T.shut (s.extract 2 s.size).data.toList by rw [hdl.out]; exact hN.out)
                clear hb
                go_wp2_with fail
                (with_reducible refine (Calls.mono (refine_told (fun t r => T.shut_bare) (refShut_any (s.extract 2 s.size) _ hdz)) ?_))
                rintro e wF ⟨v, rfl, hv, bF⟩
                obtain ⟨k, n, ao, m, cap, al, d, r, ee, hE1, hE2, hv2⟩ := told_agg hv
                rw [hE1]
                have kF := k0.on bF
                have cF := b0.trans (bF.mono b0.size)
                replace hE2 := Lib.hid hE2
                replace hv2 := Lib.hid hv2
                obtain ⟨q0, q1, q2, q3, q4, q5, q6⟩ := part_open kF
                obtain ⟨f0, f1, f2, f3, f4, f5, f6⟩ := part_free kF
                replace kF := Lib.hid kF
                have hBB := Lib.hid b0.size
                clear hv hE1 hN
                unfold partAgg partCells
                go_wp2_with fail
                exact part_end (rb := w.heap.size) rfl rfl (part_set kF.out) (told_next hG.out hE2.out hv2.out hBB.out kF.out (Nat.le_refl _) cF _ _ _ _ _ _ _)
              | false =>
                replace hN := Lib.hid (hN.out.trans (if_neg (by rw [hb]; decide)))
                clear hb
                go_wp2_with fail
                (with_reducible refine (refBegins_any s ⟨#[60]⟩ _ (by unfold maxLen; omega) (by decide)).mono ?_); rintro e w2 ⟨rfl, rfl⟩
                simp only []
                cases hb : T.begins [60] s.data.toList with
                | true =>
                  replace hN := Lib.hid (hN.out.trans (if_pos hb))
                  have hsz := hbig.out _ hb
                  simp only [List.length_cons, List.length_nil, Nat.reduceAdd] at hsz
                  have hszi : (1 : Int) ≤ (s.size : Int) := by omega
                  have hdl := Lib.hid (show (s.extract 1 s.size).data.toList = s.data.toList.drop 1 from drop_list s 1)
                  have hdz : (s.extract 1 s.size).size ≤ 1000000 := by simp; omega
                  have hG := Lib.hid (show T.next false s.data.toList = T.opened (s.extract 1 s.size).data.toList by rw [hdl.out]; exact hN.out)
                  clear hb
                  go_wp2_with fail
                  (with_reducible refine (refOpen_any (s.extract 1 s.size) _ hdz).mono ?_)
                  rintro e wF ⟨v, rfl, hv, bF⟩
                  obtain ⟨k, n, ao, m, cap, al, d, r, ee, hE1, hE2, hv2⟩ := told_agg hv
                  rw [hE1]
                  have kF := k0.on bF
                  have cF := b0.trans (bF.mono b0.size)
                  replace hE2 := Lib.hid hE2
                  replace hv2 := Lib.hid hv2
                  obtain ⟨q0, q1, q2, q3, q4, q5, q6⟩ := part_open kF
                  obtain ⟨f0, f1, f2, f3, f4, f5, f6⟩ := part_free kF
                  replace kF := Lib.hid kF
                  have hBB := Lib.hid b0.size
                  clear hv hE1 hN
                  unfold partAgg partCells
                  go_wp2_with fail
                  exact part_end (rb := w.heap.size) rfl rfl (part_set kF.out) (told_next hG.out hE2.out hv2.out hBB.out kF.out (Nat.le_refl _) cF _ _ _ _ _ _ _)
                | false =>
                  replace hN := Lib.hid (hN.out.trans (if_neg (by rw [hb]; decide)))
                  clear hb
                  have hG := hN
                  go_wp2_with fail
                  (with_reducible refine (Calls.mono (refine_told (fun t r => T.text_bare) (refText_any s _ hs)) ?_))
                  rintro e wF ⟨v, rfl, hv, bF⟩
                  obtain ⟨k, n, ao, m, cap, al, d, r, ee, hE1, hE2, hv2⟩ := told_agg hv
                  rw [hE1]
                  have kF := k0.on bF
                  have cF := b0.trans (bF.mono b0.size)
                  replace hE2 := Lib.hid hE2
                  replace hv2 := Lib.hid hv2
                  obtain ⟨q0, q1, q2, q3, q4, q5, q6⟩ := part_open kF
                  obtain ⟨f0, f1, f2, f3, f4, f5, f6⟩ := part_free kF
                  replace kF := Lib.hid kF
                  have hBB := Lib.hid b0.size
                  clear hv hE1 hN
                  unfold partAgg partCells
                  go_wp2_with fail
                  exact part_end (rb := w.heap.size) rfl rfl (part_set kF.out) (told_next hG.out hE2.out hv2.out hBB.out kF.out (Nat.le_refl _) cF _ _ _ _ _ _ _)
  | true =>
    rw [Bool.true_and] at hD
    go_wp2_with fail
    (with_reducible refine (refBegins_any s ⟨#[60, 63, 120, 109, 108]⟩ _ (by unfold maxLen; omega) (by decide)).mono ?_); rintro e w2 ⟨rfl, rfl⟩
    simp only []
    cases hx : T.begins [60, 63, 120, 109, 108] s.data.toList with
    | false =>
      obtain rfl : D = false := by rw [hD, T.declares_of hx]
      replace hN := Lib.hid (hN.out.trans (if_neg (by decide)))
      clear hD hx
      go_wp2_with fail
      (with_reducible refine (refBegins_any s ⟨#[60, 33, 45, 45]⟩ _ (by unfold maxLen; omega) (by decide)).mono ?_); rintro e w2 ⟨rfl, rfl⟩
      simp only []
      cases hb : T.begins [60, 33, 45, 45] s.data.toList with
      | true =>
        replace hN := Lib.hid (hN.out.trans (if_pos hb))
        have hsz := hbig.out _ hb
        simp only [List.length_cons, List.length_nil, Nat.reduceAdd] at hsz
        have hszi : (4 : Int) ≤ (s.size : Int) := by omega
        have hdl := Lib.hid (show (s.extract 4 s.size).data.toList = s.data.toList.drop 4 from drop_list s 4)
        have hdz : (s.extract 4 s.size).size ≤ 1000000 := by simp; omega
        have hG := Lib.hid (show T.next true s.data.toList = T.comment (s.extract 4 s.size).data.toList by rw [hdl.out]; exact hN.out)
        clear hb
        go_wp2_with fail
        (with_reducible refine (Calls.mono (refine_told (fun t r => T.comment_bare) (refComment_any (s.extract 4 s.size) _ hdz)) ?_))
        rintro e wF ⟨v, rfl, hv, bF⟩
        obtain ⟨k, n, ao, m, cap, al, d, r, ee, hE1, hE2, hv2⟩ := told_agg hv
        rw [hE1]
        have kF := k0.on bF
        have cF := b0.trans (bF.mono b0.size)
        replace hE2 := Lib.hid hE2
        replace hv2 := Lib.hid hv2
        obtain ⟨q0, q1, q2, q3, q4, q5, q6⟩ := part_open kF
        obtain ⟨f0, f1, f2, f3, f4, f5, f6⟩ := part_free kF
        replace kF := Lib.hid kF
        have hBB := Lib.hid b0.size
        clear hv hE1 hN
        unfold partAgg partCells
        go_wp2_with fail
        exact part_end (rb := w.heap.size) rfl rfl (part_set kF.out) (told_next hG.out hE2.out hv2.out hBB.out kF.out (Nat.le_refl _) cF _ _ _ _ _ _ _)
      | false =>
        replace hN := Lib.hid (hN.out.trans (if_neg (by rw [hb]; decide)))
        clear hb
        go_wp2_with fail
        (with_reducible refine (refBegins_any s ⟨#[60, 33, 91, 67, 68, 65, 84, 65, 91]⟩ _ (by unfold maxLen; omega) (by decide)).mono ?_); rintro e w2 ⟨rfl, rfl⟩
        simp only []
        cases hb : T.begins [60, 33, 91, 67, 68, 65, 84, 65, 91] s.data.toList with
        | true =>
          replace hN := Lib.hid (hN.out.trans (if_pos hb))
          have hsz := hbig.out _ hb
          simp only [List.length_cons, List.length_nil, Nat.reduceAdd] at hsz
          have hszi : (9 : Int) ≤ (s.size : Int) := by omega
          have hdl := Lib.hid (show (s.extract 9 s.size).data.toList = s.data.toList.drop 9 from drop_list s 9)
          have hdz : (s.extract 9 s.size).size ≤ 1000000 := by simp; omega
          have hG := Lib.hid (show T.next true s.data.toList = T.cdata (s.extract 9 s.size).data.toList by rw [hdl.out]; exact hN.out)
          clear hb
          go_wp2_with fail
          (with_reducible refine (Calls.mono (refine_told (fun t r => T.cdata_bare) (refCdata_any (s.extract 9 s.size) _ hdz)) ?_))
          rintro e wF ⟨v, rfl, hv, bF⟩
          obtain ⟨k, n, ao, m, cap, al, d, r, ee, hE1, hE2, hv2⟩ := told_agg hv
          rw [hE1]
          have kF := k0.on bF
          have cF := b0.trans (bF.mono b0.size)
          replace hE2 := Lib.hid hE2
          replace hv2 := Lib.hid hv2
          obtain ⟨q0, q1, q2, q3, q4, q5, q6⟩ := part_open kF
          obtain ⟨f0, f1, f2, f3, f4, f5, f6⟩ := part_free kF
          replace kF := Lib.hid kF
          have hBB := Lib.hid b0.size
          clear hv hE1 hN
          unfold partAgg partCells
          go_wp2_with fail
          exact part_end (rb := w.heap.size) rfl rfl (part_set kF.out) (told_next hG.out hE2.out hv2.out hBB.out kF.out (Nat.le_refl _) cF _ _ _ _ _ _ _)
        | false =>
          replace hN := Lib.hid (hN.out.trans (if_neg (by rw [hb]; decide)))
          clear hb
          go_wp2_with fail
          (with_reducible refine (refBegins_any s ⟨#[60, 33, 68, 79, 67, 84, 89, 80, 69]⟩ _ (by unfold maxLen; omega) (by decide)).mono ?_); rintro e w2 ⟨rfl, rfl⟩
          simp only []
          cases hb : T.begins [60, 33, 68, 79, 67, 84, 89, 80, 69] s.data.toList with
          | true =>
            replace hN := Lib.hid (hN.out.trans (if_pos hb))
            have hg := hN
            clear hN hb
            go_wp2_with fail
            (with_reducible refine (refFailed_any 72 _).mono ?_); rintro e wF ⟨rfl, bF⟩
            have kF := k0.on bF
            have cF := b0.trans (bF.mono b0.size)
            obtain ⟨q0, q1, q2, q3, q4, q5, q6⟩ := part_open kF
            obtain ⟨f0, f1, f2, f3, f4, f5, f6⟩ := part_free kF
            replace kF := Lib.hid kF
            unfold partAgg partCells
            go_wp2_with fail
            exact part_end (rb := w.heap.size) rfl rfl (part_set kF.out) (told_err hg.out (part_below cF (Nat.le_refl _) _ _ _ _ _ _ _))
          | false =>
            replace hN := Lib.hid (hN.out.trans (if_neg (by rw [hb]; decide)))
            clear hb
            go_wp2_with fail
            (with_reducible refine (refBegins_any s ⟨#[60, 33]⟩ _ (by unfold maxLen; omega) (by decide)).mono ?_); rintro e w2 ⟨rfl, rfl⟩
            simp only []
            cases hb : T.begins [60, 33] s.data.toList with
            | true =>
              replace hN := Lib.hid (hN.out.trans (if_pos hb))
              have hg := hN
              clear hN hb
              go_wp2_with fail
              (with_reducible refine (refFailed_any 70 _).mono ?_); rintro e wF ⟨rfl, bF⟩
              have kF := k0.on bF
              have cF := b0.trans (bF.mono b0.size)
              obtain ⟨q0, q1, q2, q3, q4, q5, q6⟩ := part_open kF
              obtain ⟨f0, f1, f2, f3, f4, f5, f6⟩ := part_free kF
              replace kF := Lib.hid kF
              unfold partAgg partCells
              go_wp2_with fail
              exact part_end (rb := w.heap.size) rfl rfl (part_set kF.out) (told_err hg.out (part_below cF (Nat.le_refl _) _ _ _ _ _ _ _))
            | false =>
              replace hN := Lib.hid (hN.out.trans (if_neg (by rw [hb]; decide)))
              clear hb
              go_wp2_with fail
              (with_reducible refine (refBegins_any s ⟨#[60, 63]⟩ _ (by unfold maxLen; omega) (by decide)).mono ?_); rintro e w2 ⟨rfl, rfl⟩
              simp only []
              cases hb : T.begins [60, 63] s.data.toList with
              | true =>
                replace hN := Lib.hid (hN.out.trans (if_pos hb))
                have hsz := hbig.out _ hb
                simp only [List.length_cons, List.length_nil, Nat.reduceAdd] at hsz
                have hszi : (2 : Int) ≤ (s.size : Int) := by omega
                have hdl := Lib.hid (show (s.extract 2 s.size).data.toList = s.data.toList.drop 2 from drop_list s 2)
                have hdz : (s.extract 2 s.size).size ≤ 1000000 := by simp; omega
                have hG := Lib.hid (show T.next true s.data.toList = T.pi (s.extract 2 s.size).data.toList by rw [hdl.out]; exact hN.out)
                clear hb
                go_wp2_with fail
                (with_reducible refine (Calls.mono (refine_told (fun t r => T.pi_bare) (refPi_any (s.extract 2 s.size) _ hdz)) ?_))
                rintro e wF ⟨v, rfl, hv, bF⟩
                obtain ⟨k, n, ao, m, cap, al, d, r, ee, hE1, hE2, hv2⟩ := told_agg hv
                rw [hE1]
                have kF := k0.on bF
                have cF := b0.trans (bF.mono b0.size)
                replace hE2 := Lib.hid hE2
                replace hv2 := Lib.hid hv2
                obtain ⟨q0, q1, q2, q3, q4, q5, q6⟩ := part_open kF
                obtain ⟨f0, f1, f2, f3, f4, f5, f6⟩ := part_free kF
                replace kF := Lib.hid kF
                have hBB := Lib.hid b0.size
                clear hv hE1 hN
                unfold partAgg partCells
                go_wp2_with fail
                exact part_end (rb := w.heap.size) rfl rfl (part_set kF.out) (told_next hG.out hE2.out hv2.out hBB.out kF.out (Nat.le_refl _) cF _ _ _ _ _ _ _)
              | false =>
                replace hN := Lib.hid (hN.out.trans (if_neg (by rw [hb]; decide)))
                clear hb
                go_wp2_with fail
                (with_reducible refine (refBegins_any s ⟨#[60, 47]⟩ _ (by unfold maxLen; omega) (by decide)).mono ?_); rintro e w2 ⟨rfl, rfl⟩
                simp only []
                cases hb : T.begins [60, 47] s.data.toList with
                | true =>
                  replace hN := Lib.hid (hN.out.trans (if_pos hb))
                  have hsz := hbig.out _ hb
                  simp only [List.length_cons, List.length_nil, Nat.reduceAdd] at hsz
                  have hszi : (2 : Int) ≤ (s.size : Int) := by omega
                  have hdl := Lib.hid (show (s.extract 2 s.size).data.toList = s.data.toList.drop 2 from drop_list s 2)
                  have hdz : (s.extract 2 s.size).size ≤ 1000000 := by simp; omega
                  have hG := Lib.hid (show T.next true s.data.toList = T.shut (s.extract 2 s.size).data.toList by rw [hdl.out]; exact hN.out)
                  clear hb
                  go_wp2_with fail
                  (with_reducible refine (Calls.mono (refine_told (fun t r => T.shut_bare) (refShut_any (s.extract 2 s.size) _ hdz)) ?_))
                  rintro e wF ⟨v, rfl, hv, bF⟩
                  obtain ⟨k, n, ao, m, cap, al, d, r, ee, hE1, hE2, hv2⟩ := told_agg hv
                  rw [hE1]
                  have kF := k0.on bF
                  have cF := b0.trans (bF.mono b0.size)
                  replace hE2 := Lib.hid hE2
                  replace hv2 := Lib.hid hv2
                  obtain ⟨q0, q1, q2, q3, q4, q5, q6⟩ := part_open kF
                  obtain ⟨f0, f1, f2, f3, f4, f5, f6⟩ := part_free kF
                  replace kF := Lib.hid kF
                  have hBB := Lib.hid b0.size
                  clear hv hE1 hN
                  unfold partAgg partCells
                  go_wp2_with fail
                  exact part_end (rb := w.heap.size) rfl rfl (part_set kF.out) (told_next hG.out hE2.out hv2.out hBB.out kF.out (Nat.le_refl _) cF _ _ _ _ _ _ _)
                | false =>
                  replace hN := Lib.hid (hN.out.trans (if_neg (by rw [hb]; decide)))
                  clear hb
                  go_wp2_with fail
                  (with_reducible refine (refBegins_any s ⟨#[60]⟩ _ (by unfold maxLen; omega) (by decide)).mono ?_); rintro e w2 ⟨rfl, rfl⟩
                  simp only []
                  cases hb : T.begins [60] s.data.toList with
                  | true =>
                    replace hN := Lib.hid (hN.out.trans (if_pos hb))
                    have hsz := hbig.out _ hb
                    simp only [List.length_cons, List.length_nil, Nat.reduceAdd] at hsz
                    have hszi : (1 : Int) ≤ (s.size : Int) := by omega
                    have hdl := Lib.hid (show (s.extract 1 s.size).data.toList = s.data.toList.drop 1 from drop_list s 1)
                    have hdz : (s.extract 1 s.size).size ≤ 1000000 := by simp; omega
                    have hG := Lib.hid (show T.next true s.data.toList = T.opened (s.extract 1 s.size).data.toList by rw [hdl.out]; exact hN.out)
                    clear hb
                    go_wp2_with fail
                    (with_reducible refine (refOpen_any (s.extract 1 s.size) _ hdz).mono ?_)
                    rintro e wF ⟨v, rfl, hv, bF⟩
                    obtain ⟨k, n, ao, m, cap, al, d, r, ee, hE1, hE2, hv2⟩ := told_agg hv
                    rw [hE1]
                    have kF := k0.on bF
                    have cF := b0.trans (bF.mono b0.size)
                    replace hE2 := Lib.hid hE2
                    replace hv2 := Lib.hid hv2
                    obtain ⟨q0, q1, q2, q3, q4, q5, q6⟩ := part_open kF
                    obtain ⟨f0, f1, f2, f3, f4, f5, f6⟩ := part_free kF
                    replace kF := Lib.hid kF
                    have hBB := Lib.hid b0.size
                    clear hv hE1 hN
                    unfold partAgg partCells
                    go_wp2_with fail
                    exact part_end (rb := w.heap.size) rfl rfl (part_set kF.out) (told_next hG.out hE2.out hv2.out hBB.out kF.out (Nat.le_refl _) cF _ _ _ _ _ _ _)
                  | false =>
                    replace hN := Lib.hid (hN.out.trans (if_neg (by rw [hb]; decide)))
                    clear hb
                    have hG := hN
                    go_wp2_with fail
                    (with_reducible refine (Calls.mono (refine_told (fun t r => T.text_bare) (refText_any s _ hs)) ?_))
                    rintro e wF ⟨v, rfl, hv, bF⟩
                    obtain ⟨k, n, ao, m, cap, al, d, r, ee, hE1, hE2, hv2⟩ := told_agg hv
                    rw [hE1]
                    have kF := k0.on bF
                    have cF := b0.trans (bF.mono b0.size)
                    replace hE2 := Lib.hid hE2
                    replace hv2 := Lib.hid hv2
                    obtain ⟨q0, q1, q2, q3, q4, q5, q6⟩ := part_open kF
                    obtain ⟨f0, f1, f2, f3, f4, f5, f6⟩ := part_free kF
                    replace kF := Lib.hid kF
                    have hBB := Lib.hid b0.size
                    clear hv hE1 hN
                    unfold partAgg partCells
                    go_wp2_with fail
                    exact part_end (rb := w.heap.size) rfl rfl (part_set kF.out) (told_next hG.out hE2.out hv2.out hBB.out kF.out (Nat.le_refl _) cF _ _ _ _ _ _ _)
    | true =>
      by_cases h5 : 5 < s.size
      · have h5i : (5 : Int) < (s.size : Int) := by omega
        rw [declares_long h5 hx] at hD
        have hb8 := (s[5]).toNat_lt
        go_wp2_with fail
        (with_reducible refine (refSpace_any ((s[5]).toNat : Int) _).mono ?_); rintro e w2 ⟨rfl, rfl⟩
        rw [← hD]
        clear hD hx
        cases D with
        | false =>
          replace hN := Lib.hid (hN.out.trans (if_neg (by decide)))
          go_wp2_with fail
          (with_reducible refine (refBegins_any s ⟨#[60, 33, 45, 45]⟩ _ (by unfold maxLen; omega) (by decide)).mono ?_); rintro e w2 ⟨rfl, rfl⟩
          simp only []
          cases hb : T.begins [60, 33, 45, 45] s.data.toList with
          | true =>
            replace hN := Lib.hid (hN.out.trans (if_pos hb))
            have hsz := hbig.out _ hb
            simp only [List.length_cons, List.length_nil, Nat.reduceAdd] at hsz
            have hszi : (4 : Int) ≤ (s.size : Int) := by omega
            have hdl := Lib.hid (show (s.extract 4 s.size).data.toList = s.data.toList.drop 4 from drop_list s 4)
            have hdz : (s.extract 4 s.size).size ≤ 1000000 := by simp; omega
            have hG := Lib.hid (show T.next true s.data.toList = T.comment (s.extract 4 s.size).data.toList by rw [hdl.out]; exact hN.out)
            clear hb
            go_wp2_with fail
            (with_reducible refine (Calls.mono (refine_told (fun t r => T.comment_bare) (refComment_any (s.extract 4 s.size) _ hdz)) ?_))
            rintro e wF ⟨v, rfl, hv, bF⟩
            obtain ⟨k, n, ao, m, cap, al, d, r, ee, hE1, hE2, hv2⟩ := told_agg hv
            rw [hE1]
            have kF := k0.on bF
            have cF := b0.trans (bF.mono b0.size)
            replace hE2 := Lib.hid hE2
            replace hv2 := Lib.hid hv2
            obtain ⟨q0, q1, q2, q3, q4, q5, q6⟩ := part_open kF
            obtain ⟨f0, f1, f2, f3, f4, f5, f6⟩ := part_free kF
            replace kF := Lib.hid kF
            have hBB := Lib.hid b0.size
            clear hv hE1 hN
            unfold partAgg partCells
            go_wp2_with fail
            exact part_end (rb := w.heap.size) rfl rfl (part_set kF.out) (told_next hG.out hE2.out hv2.out hBB.out kF.out (Nat.le_refl _) cF _ _ _ _ _ _ _)
          | false =>
            replace hN := Lib.hid (hN.out.trans (if_neg (by rw [hb]; decide)))
            clear hb
            go_wp2_with fail
            (with_reducible refine (refBegins_any s ⟨#[60, 33, 91, 67, 68, 65, 84, 65, 91]⟩ _ (by unfold maxLen; omega) (by decide)).mono ?_); rintro e w2 ⟨rfl, rfl⟩
            simp only []
            cases hb : T.begins [60, 33, 91, 67, 68, 65, 84, 65, 91] s.data.toList with
            | true =>
              replace hN := Lib.hid (hN.out.trans (if_pos hb))
              have hsz := hbig.out _ hb
              simp only [List.length_cons, List.length_nil, Nat.reduceAdd] at hsz
              have hszi : (9 : Int) ≤ (s.size : Int) := by omega
              have hdl := Lib.hid (show (s.extract 9 s.size).data.toList = s.data.toList.drop 9 from drop_list s 9)
              have hdz : (s.extract 9 s.size).size ≤ 1000000 := by simp; omega
              have hG := Lib.hid (show T.next true s.data.toList = T.cdata (s.extract 9 s.size).data.toList by rw [hdl.out]; exact hN.out)
              clear hb
              go_wp2_with fail
              (with_reducible refine (Calls.mono (refine_told (fun t r => T.cdata_bare) (refCdata_any (s.extract 9 s.size) _ hdz)) ?_))
              rintro e wF ⟨v, rfl, hv, bF⟩
              obtain ⟨k, n, ao, m, cap, al, d, r, ee, hE1, hE2, hv2⟩ := told_agg hv
              rw [hE1]
              have kF := k0.on bF
              have cF := b0.trans (bF.mono b0.size)
              replace hE2 := Lib.hid hE2
              replace hv2 := Lib.hid hv2
              obtain ⟨q0, q1, q2, q3, q4, q5, q6⟩ := part_open kF
              obtain ⟨f0, f1, f2, f3, f4, f5, f6⟩ := part_free kF
              replace kF := Lib.hid kF
              have hBB := Lib.hid b0.size
              clear hv hE1 hN
              unfold partAgg partCells
              go_wp2_with fail
              exact part_end (rb := w.heap.size) rfl rfl (part_set kF.out) (told_next hG.out hE2.out hv2.out hBB.out kF.out (Nat.le_refl _) cF _ _ _ _ _ _ _)
            | false =>
              replace hN := Lib.hid (hN.out.trans (if_neg (by rw [hb]; decide)))
              clear hb
              go_wp2_with fail
              (with_reducible refine (refBegins_any s ⟨#[60, 33, 68, 79, 67, 84, 89, 80, 69]⟩ _ (by unfold maxLen; omega) (by decide)).mono ?_); rintro e w2 ⟨rfl, rfl⟩
              simp only []
              cases hb : T.begins [60, 33, 68, 79, 67, 84, 89, 80, 69] s.data.toList with
              | true =>
                replace hN := Lib.hid (hN.out.trans (if_pos hb))
                have hg := hN
                clear hN hb
                go_wp2_with fail
                (with_reducible refine (refFailed_any 72 _).mono ?_); rintro e wF ⟨rfl, bF⟩
                have kF := k0.on bF
                have cF := b0.trans (bF.mono b0.size)
                obtain ⟨q0, q1, q2, q3, q4, q5, q6⟩ := part_open kF
                obtain ⟨f0, f1, f2, f3, f4, f5, f6⟩ := part_free kF
                replace kF := Lib.hid kF
                unfold partAgg partCells
                go_wp2_with fail
                exact part_end (rb := w.heap.size) rfl rfl (part_set kF.out) (told_err hg.out (part_below cF (Nat.le_refl _) _ _ _ _ _ _ _))
              | false =>
                replace hN := Lib.hid (hN.out.trans (if_neg (by rw [hb]; decide)))
                clear hb
                go_wp2_with fail
                (with_reducible refine (refBegins_any s ⟨#[60, 33]⟩ _ (by unfold maxLen; omega) (by decide)).mono ?_); rintro e w2 ⟨rfl, rfl⟩
                simp only []
                cases hb : T.begins [60, 33] s.data.toList with
                | true =>
                  replace hN := Lib.hid (hN.out.trans (if_pos hb))
                  have hg := hN
                  clear hN hb
                  go_wp2_with fail
                  (with_reducible refine (refFailed_any 70 _).mono ?_); rintro e wF ⟨rfl, bF⟩
                  have kF := k0.on bF
                  have cF := b0.trans (bF.mono b0.size)
                  obtain ⟨q0, q1, q2, q3, q4, q5, q6⟩ := part_open kF
                  obtain ⟨f0, f1, f2, f3, f4, f5, f6⟩ := part_free kF
                  replace kF := Lib.hid kF
                  unfold partAgg partCells
                  go_wp2_with fail
                  exact part_end (rb := w.heap.size) rfl rfl (part_set kF.out) (told_err hg.out (part_below cF (Nat.le_refl _) _ _ _ _ _ _ _))
                | false =>
                  replace hN := Lib.hid (hN.out.trans (if_neg (by rw [hb]; decide)))
                  clear hb
                  go_wp2_with fail
                  (with_reducible refine (refBegins_any s ⟨#[60, 63]⟩ _ (by unfold maxLen; omega) (by decide)).mono ?_); rintro e w2 ⟨rfl, rfl⟩
                  simp only []
                  cases hb : T.begins [60, 63] s.data.toList with
                  | true =>
                    replace hN := Lib.hid (hN.out.trans (if_pos hb))
                    have hsz := hbig.out _ hb
                    simp only [List.length_cons, List.length_nil, Nat.reduceAdd] at hsz
                    have hszi : (2 : Int) ≤ (s.size : Int) := by omega
                    have hdl := Lib.hid (show (s.extract 2 s.size).data.toList = s.data.toList.drop 2 from drop_list s 2)
                    have hdz : (s.extract 2 s.size).size ≤ 1000000 := by simp; omega
                    have hG := Lib.hid (show T.next true s.data.toList = T.pi (s.extract 2 s.size).data.toList by rw [hdl.out]; exact hN.out)
                    clear hb
                    go_wp2_with fail
                    (with_reducible refine (Calls.mono (refine_told (fun t r => T.pi_bare) (refPi_any (s.extract 2 s.size) _ hdz)) ?_))
                    rintro e wF ⟨v, rfl, hv, bF⟩
                    obtain ⟨k, n, ao, m, cap, al, d, r, ee, hE1, hE2, hv2⟩ := told_agg hv
                    rw [hE1]
                    have kF := k0.on bF
                    have cF := b0.trans (bF.mono b0.size)
                    replace hE2 := Lib.hid hE2
                    replace hv2 := Lib.hid hv2
                    obtain ⟨q0, q1, q2, q3, q4, q5, q6⟩ := part_open kF
                    obtain ⟨f0, f1, f2, f3, f4, f5, f6⟩ := part_free kF
                    replace kF := Lib.hid kF
                    have hBB := Lib.hid b0.size
                    clear hv hE1 hN
                    unfold partAgg partCells
                    go_wp2_with fail
                    exact part_end (rb := w.heap.size) rfl rfl (part_set kF.out) (told_next hG.out hE2.out hv2.out hBB.out kF.out (Nat.le_refl _) cF _ _ _ _ _ _ _)
                  | false =>
                    replace hN := Lib.hid (hN.out.trans (if_neg (by rw [hb]; decide)))
                    clear hb
                    go_wp2_with fail
                    (with_reducible refine (refBegins_any s ⟨#[60, 47]⟩ _ (by unfold maxLen; omega) (by decide)).mono ?_); rintro e w2 ⟨rfl, rfl⟩
                    simp only []
                    cases hb : T.begins [60, 47] s.data.toList with
                    | true =>
                      replace hN := Lib.hid (hN.out.trans (if_pos hb))
                      have hsz := hbig.out _ hb
                      simp only [List.length_cons, List.length_nil, Nat.reduceAdd] at hsz
                      have hszi : (2 : Int) ≤ (s.size : Int) := by omega
                      have hdl := Lib.hid (show (s.extract 2 s.size).data.toList = s.data.toList.drop 2 from drop_list s 2)
                      have hdz : (s.extract 2 s.size).size ≤ 1000000 := by simp; omega
                      have hG := Lib.hid (show T.next true s.data.toList = T.shut (s.extract 2 s.size).data.toList by rw [hdl.out]; exact hN.out)
                      clear hb
                      go_wp2_with fail
                      (with_reducible refine (Calls.mono (refine_told (fun t r => T.shut_bare) (refShut_any (s.extract 2 s.size) _ hdz)) ?_))
                      rintro e wF ⟨v, rfl, hv, bF⟩
                      obtain ⟨k, n, ao, m, cap, al, d, r, ee, hE1, hE2, hv2⟩ := told_agg hv
                      rw [hE1]
                      have kF := k0.on bF
                      have cF := b0.trans (bF.mono b0.size)
                      replace hE2 := Lib.hid hE2
                      replace hv2 := Lib.hid hv2
                      obtain ⟨q0, q1, q2, q3, q4, q5, q6⟩ := part_open kF
                      obtain ⟨f0, f1, f2, f3, f4, f5, f6⟩ := part_free kF
                      replace kF := Lib.hid kF
                      have hBB := Lib.hid b0.size
                      clear hv hE1 hN
                      unfold partAgg partCells
                      go_wp2_with fail
                      exact part_end (rb := w.heap.size) rfl rfl (part_set kF.out) (told_next hG.out hE2.out hv2.out hBB.out kF.out (Nat.le_refl _) cF _ _ _ _ _ _ _)
                    | false =>
                      replace hN := Lib.hid (hN.out.trans (if_neg (by rw [hb]; decide)))
                      clear hb
                      go_wp2_with fail
                      (with_reducible refine (refBegins_any s ⟨#[60]⟩ _ (by unfold maxLen; omega) (by decide)).mono ?_); rintro e w2 ⟨rfl, rfl⟩
                      simp only []
                      cases hb : T.begins [60] s.data.toList with
                      | true =>
                        replace hN := Lib.hid (hN.out.trans (if_pos hb))
                        have hsz := hbig.out _ hb
                        simp only [List.length_cons, List.length_nil, Nat.reduceAdd] at hsz
                        have hszi : (1 : Int) ≤ (s.size : Int) := by omega
                        have hdl := Lib.hid (show (s.extract 1 s.size).data.toList = s.data.toList.drop 1 from drop_list s 1)
                        have hdz : (s.extract 1 s.size).size ≤ 1000000 := by simp; omega
                        have hG := Lib.hid (show T.next true s.data.toList = T.opened (s.extract 1 s.size).data.toList by rw [hdl.out]; exact hN.out)
                        clear hb
                        go_wp2_with fail
                        (with_reducible refine (refOpen_any (s.extract 1 s.size) _ hdz).mono ?_)
                        rintro e wF ⟨v, rfl, hv, bF⟩
                        obtain ⟨k, n, ao, m, cap, al, d, r, ee, hE1, hE2, hv2⟩ := told_agg hv
                        rw [hE1]
                        have kF := k0.on bF
                        have cF := b0.trans (bF.mono b0.size)
                        replace hE2 := Lib.hid hE2
                        replace hv2 := Lib.hid hv2
                        obtain ⟨q0, q1, q2, q3, q4, q5, q6⟩ := part_open kF
                        obtain ⟨f0, f1, f2, f3, f4, f5, f6⟩ := part_free kF
                        replace kF := Lib.hid kF
                        have hBB := Lib.hid b0.size
                        clear hv hE1 hN
                        unfold partAgg partCells
                        go_wp2_with fail
                        exact part_end (rb := w.heap.size) rfl rfl (part_set kF.out) (told_next hG.out hE2.out hv2.out hBB.out kF.out (Nat.le_refl _) cF _ _ _ _ _ _ _)
                      | false =>
                        replace hN := Lib.hid (hN.out.trans (if_neg (by rw [hb]; decide)))
                        clear hb
                        have hG := hN
                        go_wp2_with fail
                        (with_reducible refine (Calls.mono (refine_told (fun t r => T.text_bare) (refText_any s _ hs)) ?_))
                        rintro e wF ⟨v, rfl, hv, bF⟩
                        obtain ⟨k, n, ao, m, cap, al, d, r, ee, hE1, hE2, hv2⟩ := told_agg hv
                        rw [hE1]
                        have kF := k0.on bF
                        have cF := b0.trans (bF.mono b0.size)
                        replace hE2 := Lib.hid hE2
                        replace hv2 := Lib.hid hv2
                        obtain ⟨q0, q1, q2, q3, q4, q5, q6⟩ := part_open kF
                        obtain ⟨f0, f1, f2, f3, f4, f5, f6⟩ := part_free kF
                        replace kF := Lib.hid kF
                        have hBB := Lib.hid b0.size
                        clear hv hE1 hN
                        unfold partAgg partCells
                        go_wp2_with fail
                        exact part_end (rb := w.heap.size) rfl rfl (part_set kF.out) (told_next hG.out hE2.out hv2.out hBB.out kF.out (Nat.le_refl _) cF _ _ _ _ _ _ _)
        | true =>
          replace hN := Lib.hid (hN.out.trans (if_pos rfl))
          have hszi : (5 : Int) ≤ (s.size : Int) := by omega
          have hdl := Lib.hid (show (s.extract 5 s.size).data.toList = s.data.toList.drop 5 from drop_list s 5)
          have hdz : (s.extract 5 s.size).size ≤ 1000000 := by simp; omega
          have hG := Lib.hid (show T.next true s.data.toList = T.decl (s.extract 5 s.size).data.toList by rw [hdl.out]; exact hN.out)
          go_wp2_with fail
          (with_reducible refine (Calls.mono (refine_told (fun t r => T.decl_bare) (refDecl_any (s.extract 5 s.size) _ hdz)) ?_))
          rintro e wF ⟨v, rfl, hv, bF⟩
          obtain ⟨k, n, ao, m, cap, al, d, r, ee, hE1, hE2, hv2⟩ := told_agg hv
          rw [hE1]
          have kF := k0.on bF
          have cF := b0.trans (bF.mono b0.size)
          replace hE2 := Lib.hid hE2
          replace hv2 := Lib.hid hv2
          obtain ⟨q0, q1, q2, q3, q4, q5, q6⟩ := part_open kF
          obtain ⟨f0, f1, f2, f3, f4, f5, f6⟩ := part_free kF
          replace kF := Lib.hid kF
          have hBB := Lib.hid b0.size
          clear hv hE1 hN
          unfold partAgg partCells
          go_wp2_with fail
          exact part_end (rb := w.heap.size) rfl rfl (part_set kF.out) (told_next hG.out hE2.out hv2.out hBB.out kF.out (Nat.le_refl _) cF _ _ _ _ _ _ _)
      · have h5i : ¬ (5 : Int) < (s.size : Int) := by omega
        obtain rfl : D = false := by rw [hD, declares_short (by omega)]
        replace hN := Lib.hid (hN.out.trans (if_neg (by decide)))
        clear hD hx
        go_wp2_with fail
        (with_reducible refine (refBegins_any s ⟨#[60, 33, 45, 45]⟩ _ (by unfold maxLen; omega) (by decide)).mono ?_); rintro e w2 ⟨rfl, rfl⟩
        simp only []
        cases hb : T.begins [60, 33, 45, 45] s.data.toList with
        | true =>
          replace hN := Lib.hid (hN.out.trans (if_pos hb))
          have hsz := hbig.out _ hb
          simp only [List.length_cons, List.length_nil, Nat.reduceAdd] at hsz
          have hszi : (4 : Int) ≤ (s.size : Int) := by omega
          have hdl := Lib.hid (show (s.extract 4 s.size).data.toList = s.data.toList.drop 4 from drop_list s 4)
          have hdz : (s.extract 4 s.size).size ≤ 1000000 := by simp; omega
          have hG := Lib.hid (show T.next true s.data.toList = T.comment (s.extract 4 s.size).data.toList by rw [hdl.out]; exact hN.out)
          clear hb
          go_wp2_with fail
          (with_reducible refine (Calls.mono (refine_told (fun t r => T.comment_bare) (refComment_any (s.extract 4 s.size) _ hdz)) ?_))
          rintro e wF ⟨v, rfl, hv, bF⟩
          obtain ⟨k, n, ao, m, cap, al, d, r, ee, hE1, hE2, hv2⟩ := told_agg hv
          rw [hE1]
          have kF := k0.on bF
          have cF := b0.trans (bF.mono b0.size)
          replace hE2 := Lib.hid hE2
          replace hv2 := Lib.hid hv2
          obtain ⟨q0, q1, q2, q3, q4, q5, q6⟩ := part_open kF
          obtain ⟨f0, f1, f2, f3, f4, f5, f6⟩ := part_free kF
          replace kF := Lib.hid kF
          have hBB := Lib.hid b0.size
          clear hv hE1 hN
          unfold partAgg partCells
          go_wp2_with fail
          exact part_end (rb := w.heap.size) rfl rfl (part_set kF.out) (told_next hG.out hE2.out hv2.out hBB.out kF.out (Nat.le_refl _) cF _ _ _ _ _ _ _)
        | false =>
          replace hN := Lib.hid (hN.out.trans (if_neg (by rw [hb]; decide)))
          clear hb
          go_wp2_with fail
          (with_reducible refine (refBegins_any s ⟨#[60, 33, 91, 67, 68, 65, 84, 65, 91]⟩ _ (by unfold maxLen; omega) (by decide)).mono ?_); rintro e w2 ⟨rfl, rfl⟩
          simp only []
          cases hb : T.begins [60, 33, 91, 67, 68, 65, 84, 65, 91] s.data.toList with
          | true =>
            replace hN := Lib.hid (hN.out.trans (if_pos hb))
            have hsz := hbig.out _ hb
            simp only [List.length_cons, List.length_nil, Nat.reduceAdd] at hsz
            omega
          | false =>
            replace hN := Lib.hid (hN.out.trans (if_neg (by rw [hb]; decide)))
            clear hb
            go_wp2_with fail
            (with_reducible refine (refBegins_any s ⟨#[60, 33, 68, 79, 67, 84, 89, 80, 69]⟩ _ (by unfold maxLen; omega) (by decide)).mono ?_); rintro e w2 ⟨rfl, rfl⟩
            simp only []
            cases hb : T.begins [60, 33, 68, 79, 67, 84, 89, 80, 69] s.data.toList with
            | true =>
              replace hN := Lib.hid (hN.out.trans (if_pos hb))
              have hg := hN
              clear hN hb
              go_wp2_with fail
              (with_reducible refine (refFailed_any 72 _).mono ?_); rintro e wF ⟨rfl, bF⟩
              have kF := k0.on bF
              have cF := b0.trans (bF.mono b0.size)
              obtain ⟨q0, q1, q2, q3, q4, q5, q6⟩ := part_open kF
              obtain ⟨f0, f1, f2, f3, f4, f5, f6⟩ := part_free kF
              replace kF := Lib.hid kF
              unfold partAgg partCells
              go_wp2_with fail
              exact part_end (rb := w.heap.size) rfl rfl (part_set kF.out) (told_err hg.out (part_below cF (Nat.le_refl _) _ _ _ _ _ _ _))
            | false =>
              replace hN := Lib.hid (hN.out.trans (if_neg (by rw [hb]; decide)))
              clear hb
              go_wp2_with fail
              (with_reducible refine (refBegins_any s ⟨#[60, 33]⟩ _ (by unfold maxLen; omega) (by decide)).mono ?_); rintro e w2 ⟨rfl, rfl⟩
              simp only []
              cases hb : T.begins [60, 33] s.data.toList with
              | true =>
                replace hN := Lib.hid (hN.out.trans (if_pos hb))
                have hg := hN
                clear hN hb
                go_wp2_with fail
                (with_reducible refine (refFailed_any 70 _).mono ?_); rintro e wF ⟨rfl, bF⟩
                have kF := k0.on bF
                have cF := b0.trans (bF.mono b0.size)
                obtain ⟨q0, q1, q2, q3, q4, q5, q6⟩ := part_open kF
                obtain ⟨f0, f1, f2, f3, f4, f5, f6⟩ := part_free kF
                replace kF := Lib.hid kF
                unfold partAgg partCells
                go_wp2_with fail
                exact part_end (rb := w.heap.size) rfl rfl (part_set kF.out) (told_err hg.out (part_below cF (Nat.le_refl _) _ _ _ _ _ _ _))
              | false =>
                replace hN := Lib.hid (hN.out.trans (if_neg (by rw [hb]; decide)))
                clear hb
                go_wp2_with fail
                (with_reducible refine (refBegins_any s ⟨#[60, 63]⟩ _ (by unfold maxLen; omega) (by decide)).mono ?_); rintro e w2 ⟨rfl, rfl⟩
                simp only []
                cases hb : T.begins [60, 63] s.data.toList with
                | true =>
                  replace hN := Lib.hid (hN.out.trans (if_pos hb))
                  have hsz := hbig.out _ hb
                  simp only [List.length_cons, List.length_nil, Nat.reduceAdd] at hsz
                  have hszi : (2 : Int) ≤ (s.size : Int) := by omega
                  have hdl := Lib.hid (show (s.extract 2 s.size).data.toList = s.data.toList.drop 2 from drop_list s 2)
                  have hdz : (s.extract 2 s.size).size ≤ 1000000 := by simp; omega
                  have hG := Lib.hid (show T.next true s.data.toList = T.pi (s.extract 2 s.size).data.toList by rw [hdl.out]; exact hN.out)
                  clear hb
                  go_wp2_with fail
                  (with_reducible refine (Calls.mono (refine_told (fun t r => T.pi_bare) (refPi_any (s.extract 2 s.size) _ hdz)) ?_))
                  rintro e wF ⟨v, rfl, hv, bF⟩
                  obtain ⟨k, n, ao, m, cap, al, d, r, ee, hE1, hE2, hv2⟩ := told_agg hv
                  rw [hE1]
                  have kF := k0.on bF
                  have cF := b0.trans (bF.mono b0.size)
                  replace hE2 := Lib.hid hE2
                  replace hv2 := Lib.hid hv2
                  obtain ⟨q0, q1, q2, q3, q4, q5, q6⟩ := part_open kF
                  obtain ⟨f0, f1, f2, f3, f4, f5, f6⟩ := part_free kF
                  replace kF := Lib.hid kF
                  have hBB := Lib.hid b0.size
                  clear hv hE1 hN
                  unfold partAgg partCells
                  go_wp2_with fail
                  exact part_end (rb := w.heap.size) rfl rfl (part_set kF.out) (told_next hG.out hE2.out hv2.out hBB.out kF.out (Nat.le_refl _) cF _ _ _ _ _ _ _)
                | false =>
                  replace hN := Lib.hid (hN.out.trans (if_neg (by rw [hb]; decide)))
                  clear hb
                  go_wp2_with fail
                  (with_reducible refine (refBegins_any s ⟨#[60, 47]⟩ _ (by unfold maxLen; omega) (by decide)).mono ?_); rintro e w2 ⟨rfl, rfl⟩
                  simp only []
                  cases hb : T.begins [60, 47] s.data.toList with
                  | true =>
                    replace hN := Lib.hid (hN.out.trans (if_pos hb))
                    have hsz := hbig.out _ hb
                    simp only [List.length_cons, List.length_nil, Nat.reduceAdd] at hsz
                    have hszi : (2 : Int) ≤ (s.size : Int) := by omega
                    have hdl := Lib.hid (show (s.extract 2 s.size).data.toList = s.data.toList.drop 2 from drop_list s 2)
                    have hdz : (s.extract 2 s.size).size ≤ 1000000 := by simp; omega
                    have hG := Lib.hid (show T.next true s.data.toList = T.shut (s.extract 2 s.size).data.toList by rw [hdl.out]; exact hN.out)
                    clear hb
                    go_wp2_with fail
                    (with_reducible refine (Calls.mono (refine_told (fun t r => T.shut_bare) (refShut_any (s.extract 2 s.size) _ hdz)) ?_))
                    rintro e wF ⟨v, rfl, hv, bF⟩
                    obtain ⟨k, n, ao, m, cap, al, d, r, ee, hE1, hE2, hv2⟩ := told_agg hv
                    rw [hE1]
                    have kF := k0.on bF
                    have cF := b0.trans (bF.mono b0.size)
                    replace hE2 := Lib.hid hE2
                    replace hv2 := Lib.hid hv2
                    obtain ⟨q0, q1, q2, q3, q4, q5, q6⟩ := part_open kF
                    obtain ⟨f0, f1, f2, f3, f4, f5, f6⟩ := part_free kF
                    replace kF := Lib.hid kF
                    have hBB := Lib.hid b0.size
                    clear hv hE1 hN
                    unfold partAgg partCells
                    go_wp2_with fail
                    exact part_end (rb := w.heap.size) rfl rfl (part_set kF.out) (told_next hG.out hE2.out hv2.out hBB.out kF.out (Nat.le_refl _) cF _ _ _ _ _ _ _)
                  | false =>
                    replace hN := Lib.hid (hN.out.trans (if_neg (by rw [hb]; decide)))
                    clear hb
                    go_wp2_with fail
                    (with_reducible refine (refBegins_any s ⟨#[60]⟩ _ (by unfold maxLen; omega) (by decide)).mono ?_); rintro e w2 ⟨rfl, rfl⟩
                    simp only []
                    cases hb : T.begins [60] s.data.toList with
                    | true =>
                      replace hN := Lib.hid (hN.out.trans (if_pos hb))
                      have hsz := hbig.out _ hb
                      simp only [List.length_cons, List.length_nil, Nat.reduceAdd] at hsz
                      have hszi : (1 : Int) ≤ (s.size : Int) := by omega
                      have hdl := Lib.hid (show (s.extract 1 s.size).data.toList = s.data.toList.drop 1 from drop_list s 1)
                      have hdz : (s.extract 1 s.size).size ≤ 1000000 := by simp; omega
                      have hG := Lib.hid (show T.next true s.data.toList = T.opened (s.extract 1 s.size).data.toList by rw [hdl.out]; exact hN.out)
                      clear hb
                      go_wp2_with fail
                      (with_reducible refine (refOpen_any (s.extract 1 s.size) _ hdz).mono ?_)
                      rintro e wF ⟨v, rfl, hv, bF⟩
                      obtain ⟨k, n, ao, m, cap, al, d, r, ee, hE1, hE2, hv2⟩ := told_agg hv
                      rw [hE1]
                      have kF := k0.on bF
                      have cF := b0.trans (bF.mono b0.size)
                      replace hE2 := Lib.hid hE2
                      replace hv2 := Lib.hid hv2
                      obtain ⟨q0, q1, q2, q3, q4, q5, q6⟩ := part_open kF
                      obtain ⟨f0, f1, f2, f3, f4, f5, f6⟩ := part_free kF
                      replace kF := Lib.hid kF
                      have hBB := Lib.hid b0.size
                      clear hv hE1 hN
                      unfold partAgg partCells
                      go_wp2_with fail
                      exact part_end (rb := w.heap.size) rfl rfl (part_set kF.out) (told_next hG.out hE2.out hv2.out hBB.out kF.out (Nat.le_refl _) cF _ _ _ _ _ _ _)
                    | false =>
                      replace hN := Lib.hid (hN.out.trans (if_neg (by rw [hb]; decide)))
                      clear hb
                      have hG := hN
                      go_wp2_with fail
                      (with_reducible refine (Calls.mono (refine_told (fun t r => T.text_bare) (refText_any s _ hs)) ?_))
                      rintro e wF ⟨v, rfl, hv, bF⟩
                      obtain ⟨k, n, ao, m, cap, al, d, r, ee, hE1, hE2, hv2⟩ := told_agg hv
                      rw [hE1]
                      have kF := k0.on bF
                      have cF := b0.trans (bF.mono b0.size)
                      replace hE2 := Lib.hid hE2
                      replace hv2 := Lib.hid hv2
                      obtain ⟨q0, q1, q2, q3, q4, q5, q6⟩ := part_open kF
                      obtain ⟨f0, f1, f2, f3, f4, f5, f6⟩ := part_free kF
                      replace kF := Lib.hid kF
                      have hBB := Lib.hid b0.size
                      clear hv hE1 hN
                      unfold partAgg partCells
                      go_wp2_with fail
                      exact part_end (rb := w.heap.size) rfl rfl (part_set kF.out) (told_next hG.out hE2.out hv2.out hBB.out kF.out (Nat.le_refl _) cF _ _ _ _ _ _ _)
end Go.Proofs.YtegaidfmkfnbnaaGreatDoor
