/-
  What the reader's word of the next token comes to.
-/
import Derived.Test.YtcoeijjmahneeaaGreatDoorG44
namespace Go.Proofs.YtcoeijjmahneeaaGreatDoor
open Go.RowKit

namespace T
theorem begins_app (p r : List UInt8) : begins p (p ++ r) = true := begins_iff.2 ⟨r, rfl⟩
theorem no_neg {b : Bool} (h : b = false) : ¬ b = true := by rw [h]; decide
theorem nx0 {l r : List UInt8}  (h : [60, 33, 45, 45] ++ r = l) : next false l = comment r := by
  have hb : begins [60, 33, 45, 45] l = true := begins_iff.2 ⟨r, h⟩
  have hd : l.drop 4 = r := by rw [← h]; rfl
  unfold next
  rw [if_neg (by simp), if_pos hb, hd]
theorem nx1 {l r : List UInt8} (n0 : begins [60, 33, 45, 45] l = false) (h : [60, 33, 91, 67, 68, 65, 84, 65, 91] ++ r = l) : next false l = cdata r := by
  have hb : begins [60, 33, 91, 67, 68, 65, 84, 65, 91] l = true := begins_iff.2 ⟨r, h⟩
  have hd : l.drop 9 = r := by rw [← h]; rfl
  unfold next
  rw [if_neg (by simp), if_neg (no_neg n0), if_pos hb, hd]
theorem nx2 {l r : List UInt8} (n0 : begins [60, 33, 45, 45] l = false) (n1 : begins [60, 33, 91, 67, 68, 65, 84, 65, 91] l = false) (h : [60, 33, 68, 79, 67, 84, 89, 80, 69] ++ r = l) : next false l = .error 72 := by
  have hb : begins [60, 33, 68, 79, 67, 84, 89, 80, 69] l = true := begins_iff.2 ⟨r, h⟩
  unfold next
  rw [if_neg (by simp), if_neg (no_neg n0), if_neg (no_neg n1), if_pos hb]
theorem nx3 {l r : List UInt8} (n0 : begins [60, 33, 45, 45] l = false) (n1 : begins [60, 33, 91, 67, 68, 65, 84, 65, 91] l = false) (n2 : begins [60, 33, 68, 79, 67, 84, 89, 80, 69] l = false) (h : [60, 33] ++ r = l) : next false l = .error 70 := by
  have hb : begins [60, 33] l = true := begins_iff.2 ⟨r, h⟩
  unfold next
  rw [if_neg (by simp), if_neg (no_neg n0), if_neg (no_neg n1), if_neg (no_neg n2), if_pos hb]
theorem nx4 {l r : List UInt8} (n0 : begins [60, 33, 45, 45] l = false) (n1 : begins [60, 33, 91, 67, 68, 65, 84, 65, 91] l = false) (n2 : begins [60, 33, 68, 79, 67, 84, 89, 80, 69] l = false) (n3 : begins [60, 33] l = false) (h : [60, 63] ++ r = l) : next false l = pi r := by
  have hb : begins [60, 63] l = true := begins_iff.2 ⟨r, h⟩
  have hd : l.drop 2 = r := by rw [← h]; rfl
  unfold next
  rw [if_neg (by simp), if_neg (no_neg n0), if_neg (no_neg n1), if_neg (no_neg n2), if_neg (no_neg n3), if_pos hb, hd]
theorem nx5 {l r : List UInt8} (n0 : begins [60, 33, 45, 45] l = false) (n1 : begins [60, 33, 91, 67, 68, 65, 84, 65, 91] l = false) (n2 : begins [60, 33, 68, 79, 67, 84, 89, 80, 69] l = false) (n3 : begins [60, 33] l = false) (n4 : begins [60, 63] l = false) (h : [60, 47] ++ r = l) : next false l = shut r := by
  have hb : begins [60, 47] l = true := begins_iff.2 ⟨r, h⟩
  have hd : l.drop 2 = r := by rw [← h]; rfl
  unfold next
  rw [if_neg (by simp), if_neg (no_neg n0), if_neg (no_neg n1), if_neg (no_neg n2), if_neg (no_neg n3), if_neg (no_neg n4), if_pos hb, hd]
theorem nx6 {l r : List UInt8} (n0 : begins [60, 33, 45, 45] l = false) (n1 : begins [60, 33, 91, 67, 68, 65, 84, 65, 91] l = false) (n2 : begins [60, 33, 68, 79, 67, 84, 89, 80, 69] l = false) (n3 : begins [60, 33] l = false) (n4 : begins [60, 63] l = false) (n5 : begins [60, 47] l = false) (h : [60] ++ r = l) : next false l = opened r := by
  have hb : begins [60] l = true := begins_iff.2 ⟨r, h⟩
  have hd : l.drop 1 = r := by rw [← h]; rfl
  unfold next
  rw [if_neg (by simp), if_neg (no_neg n0), if_neg (no_neg n1), if_neg (no_neg n2), if_neg (no_neg n3), if_neg (no_neg n4), if_neg (no_neg n5), if_pos hb, hd]
theorem nx7 {l : List UInt8} (n0 : begins [60, 33, 45, 45] l = false) (n1 : begins [60, 33, 91, 67, 68, 65, 84, 65, 91] l = false) (n2 : begins [60, 33, 68, 79, 67, 84, 89, 80, 69] l = false) (n3 : begins [60, 33] l = false) (n4 : begins [60, 63] l = false) (n5 : begins [60, 47] l = false) (n6 : begins [60] l = false) : next false l = text l := by
  unfold next
  rw [if_neg (by simp), if_neg (no_neg n0), if_neg (no_neg n1), if_neg (no_neg n2), if_neg (no_neg n3), if_neg (no_neg n4), if_neg (no_neg n5), if_neg (no_neg n6)]
end T

theorem ownsPairs_base {B B' : Nat} {v : Value} {l : List Pair} {w : World} (h : OwnsPairs B' v l w) (hB : B ≤ B') : OwnsPairs B v l w := by
  obtain ⟨a, h0 | ⟨g, cap, cur, rfl, hb, r⟩⟩ := h
  · exact ⟨a, .inl h0⟩
  · exact ⟨a, .inr ⟨g, cap, cur, rfl, Nat.le_trans hB hb, r⟩⟩
/-- What another word told is told on. -/
theorem ans_pass {b : Nat} {w w1 wn : World} {g : T.Got} {k : T.Tok} {t : ByteArray} {v : Value} (hg : g = .ok (k, t.data.toList)) (hov : OwnsPairs w1.heap.size v (k.attrs.map mpair) wn) (hsz : w.heap.size ≤ w1.heap.size) (hA : At b t wn) (gr : w.grownBy wn (some b)) (hb : b < w.heap.size)
    {y0 y1 y2 y3 y4 : Value} (bx : Box5 wn w.heap.size y0 y1 y2 y3 y4) :
    Ans b w g (.returned (.agg #[.int .i64 (k.kind : Int), .string ⟨k.name.toArray⟩, v, .bool k.alone, .string ⟨k.data.toArray⟩])) (set5 wn w.heap.size (.int .i64 (k.kind : Int)) (.string ⟨k.name.toArray⟩) v (.bool k.alone) (.string ⟨k.data.toArray⟩)) := by
  subst hg
  obtain ⟨a1, a2⟩ := told_set hA gr hb (.int .i64 (k.kind : Int)) (.string ⟨k.name.toArray⟩) v (.bool k.alone) (.string ⟨k.data.toArray⟩)
  exact ⟨t, rfl, v, rfl, World.ownsRow.kept (ownsPairs_base hov hsz) (grown_set5 _ _ _ _ _ _ _) (row_apart hov bx (by intro cs fr e; cases e)), a1, a2⟩

set_option maxRecDepth 100000 in
set_option maxHeartbeats 12800000 in
theorem token_any (b : Nat) (s : ByteArray) (w : World) (h : At b s w) :
    Calls Tryz.prog 41 #[.pointer (some ⟨b, 0, none⟩)] w (Ans b w (T.next false s.data.toList)) := by
  have g0 := World.grownBy_alloc w (.cells #[.int .i64 0, .string ⟨#[]⟩, .slice none 0 0, .bool false, .string ⟨#[]⟩] 44) (some b)
  have hA := h.below ((Below.refl w.heap.size w).alloc (Nat.le_refl _) (.cells #[.int .i64 0, .string ⟨#[]⟩, .slice none 0 0, .bool false, .string ⟨#[]⟩] 44))
  have bx := Box5.new w
  have hb := h.lt
  have hsm := h.small
  have hne : some w.heap.size ≠ some b := by simp; omega
  clear h
  cases n0 : T.begins [60, 33, 45, 45] s.data.toList with
  | true =>
    obtain ⟨l0, e0⟩ := T.begins_iff.1 n0
    obtain ⟨t0, rfl⟩ := bytes_of l0
    have hx := T.nx0  e0
    have y0 := fun w h => takes_yes b s t0 ⟨#[60, 33, 45, 45]⟩ w h e0
    clear  n0 e0
    cases hq : T.comment t0.data.toList with
    | error q =>
      have hr := Lib.hid ((hx).trans hq)
      have c := fun w h => comment_any b t0 w h
      rw [hq] at c
      clear hq hx
      go_enter Tryz.func41, Tryz.ntmps41
      go_wp2_with fail
      (with_reducible refine (y0 _ hA).mono ?_); rintro e w1 ⟨rfl, h1, g1⟩
      go_wp2_with fail
      (with_reducible refine (c _ h1).mono ?_); rintro e w2 ⟨rfl, g2⟩
      exact ⟨rfl, ans_no hr.out ((g0.trans g1).trans g2)⟩
    | ok x =>
      obtain ⟨k, lt⟩ := x
      have hr := (hx).trans hq
      have c := fun w h => comment_any b t0 w h
      rw [hq] at c
      clear hq hx
      go_enter Tryz.func41, Tryz.ntmps41
      go_wp2_with fail
      (with_reducible refine (y0 _ hA).mono ?_); rintro e w1 ⟨rfl, h1, g1⟩
      go_wp2_with fail
      (with_reducible refine (c _ h1).mono ?_); rintro e w2 ⟨t, ht, v, rfl, hov, h2, g2⟩
      dsimp only at ht hov
      unfold tokVal
      rw [← ht] at hr
      replace hr := Lib.hid hr
      have gP := g0.trans g1
      have gA := g1.trans g2
      have bA := bx.on gA hne
      have d0 := bA.c0
      have d1 := bA.c1
      have d2 := bA.c2
      have d3 := bA.c3
      have d4 := bA.c4
      have f0 := bA.free 0
      have f1 := bA.free 1
      have f2 := bA.free 2
      have f3 := bA.free 3
      have f4 := bA.free 4
      replace bA := Lib.hid bA
      clear bx c
      obtain ⟨ao, cap, hv, -⟩ := pairs_of_owns hov
      rw [List.length_map] at hv
      subst hv
      go_wp2_with fail
      exact tok_end rfl rfl (bA.out.set _ _ _ _ _) (ans_pass hr.out hov gP.size h2 (g0.trans gA) hb bA.out)
  | false =>
    have y0 := fun w h => takes_no b s ⟨#[60, 33, 45, 45]⟩ w h n0
    cases n1 : T.begins [60, 33, 91, 67, 68, 65, 84, 65, 91] s.data.toList with
    | true =>
      obtain ⟨l1, e1⟩ := T.begins_iff.1 n1
      obtain ⟨t1, rfl⟩ := bytes_of l1
      have hx := T.nx1 n0 e1
      have y1 := fun w h => takes_yes b s t1 ⟨#[60, 33, 91, 67, 68, 65, 84, 65, 91]⟩ w h e1
      clear n0 n1 e1
      cases hc : T.cutAt [93, 93, 62] t1.data.toList with
      | none =>
        have hr := Lib.hid (hx.trans (T.cdata_none hc))
        have c1 := fun w h => upTo_no b t1 ⟨#[93, 93, 62]⟩ w h (by simp) hc
        clear hc hx
        go_enter Tryz.func41, Tryz.ntmps41
        go_wp2_with fail
        (with_reducible refine (y0 _ hA).mono ?_); rintro e w1 ⟨rfl, h1, g1⟩
        go_wp2_with fail
        (with_reducible refine (y1 _ h1).mono ?_); rintro e w2 ⟨rfl, h2, g2⟩
        go_wp2_with fail
        (with_reducible refine (c1 _ h2).mono ?_); rintro e w3 ⟨rfl, g3⟩
        exact ⟨rfl, ans_no hr.out (((g0.trans g1).trans g2).trans g3)⟩
      | some x =>
        obtain ⟨la, lr⟩ := x
        obtain ⟨v, rfl⟩ := bytes_of la
        obtain ⟨t, rfl⟩ := bytes_of lr
        have hr := Lib.hid (hx.trans (T.cdata_ok hc))
        have c1 := fun w h => upTo_ok b t1 v t ⟨#[93, 93, 62]⟩ w h (by simp) hc
        clear hc hx
        go_enter Tryz.func41, Tryz.ntmps41
        go_wp2_with fail
        (with_reducible refine (y0 _ hA).mono ?_); rintro e w1 ⟨rfl, h1, g1⟩
        go_wp2_with fail
        (with_reducible refine (y1 _ h1).mono ?_); rintro e w2 ⟨rfl, h2, g2⟩
        go_wp2_with fail
        (with_reducible refine (c1 _ h2).mono ?_); rintro e w3 ⟨rfl, h3, g3⟩
        have gA := ((g1.trans g2).trans g3)
        have bA := bx.on gA hne
        have d0 := bA.c0
        have d1 := bA.c1
        have d2 := bA.c2
        have d3 := bA.c3
        have d4 := bA.c4
        have f0 := bA.free 0
        have f1 := bA.free 1
        have f2 := bA.free 2
        have f3 := bA.free 3
        have f4 := bA.free 4
        replace bA := Lib.hid bA
        clear bx
        go_wp2_with fail
        exact tok_end rfl rfl (bA.out.set _ _ _ _ _) (ans_plain hr.out rfl h3 (((g0.trans g1).trans g2).trans g3) hb rfl)
    | false =>
      have y1 := fun w h => takes_no b s ⟨#[60, 33, 91, 67, 68, 65, 84, 65, 91]⟩ w h n1
      cases n2 : T.begins [60, 33, 68, 79, 67, 84, 89, 80, 69] s.data.toList with
      | true =>
        obtain ⟨l2, e2⟩ := T.begins_iff.1 n2
        obtain ⟨t2, rfl⟩ := bytes_of l2
        have hx := T.nx2 n0 n1 e2
        have y2 := fun w h => takes_yes b s t2 ⟨#[60, 33, 68, 79, 67, 84, 89, 80, 69]⟩ w h e2
        clear n0 n1 n2 e2
        replace hx := Lib.hid hx
        go_enter Tryz.func41, Tryz.ntmps41
        go_wp2_with fail
        (with_reducible refine (y0 _ hA).mono ?_); rintro e w1 ⟨rfl, h1, g1⟩
        go_wp2_with fail
        (with_reducible refine (y1 _ h1).mono ?_); rintro e w2 ⟨rfl, h2, g2⟩
        go_wp2_with fail
        (with_reducible refine (y2 _ h2).mono ?_); rintro e w3 ⟨rfl, h3, g3⟩
        go_wp2_with fail
        exact ⟨rfl, ans_no hx.out (((g0.trans g1).trans g2).trans g3)⟩
      | false =>
        have y2 := fun w h => takes_no b s ⟨#[60, 33, 68, 79, 67, 84, 89, 80, 69]⟩ w h n2
        cases n3 : T.begins [60, 33] s.data.toList with
        | true =>
          obtain ⟨l3, e3⟩ := T.begins_iff.1 n3
          obtain ⟨t3, rfl⟩ := bytes_of l3
          have hx := T.nx3 n0 n1 n2 e3
          have y3 := fun w h => takes_yes b s t3 ⟨#[60, 33]⟩ w h e3
          clear n0 n1 n2 n3 e3
          replace hx := Lib.hid hx
          go_enter Tryz.func41, Tryz.ntmps41
          go_wp2_with fail
          (with_reducible refine (y0 _ hA).mono ?_); rintro e w1 ⟨rfl, h1, g1⟩
          go_wp2_with fail
          (with_reducible refine (y1 _ h1).mono ?_); rintro e w2 ⟨rfl, h2, g2⟩
          go_wp2_with fail
          (with_reducible refine (y2 _ h2).mono ?_); rintro e w3 ⟨rfl, h3, g3⟩
          go_wp2_with fail
          (with_reducible refine (y3 _ h3).mono ?_); rintro e w4 ⟨rfl, h4, g4⟩
          go_wp2_with fail
          exact ⟨rfl, ans_no hx.out ((((g0.trans g1).trans g2).trans g3).trans g4)⟩
        | false =>
          have y3 := fun w h => takes_no b s ⟨#[60, 33]⟩ w h n3
          cases n4 : T.begins [60, 63] s.data.toList with
          | true =>
            obtain ⟨l4, e4⟩ := T.begins_iff.1 n4
            obtain ⟨t4, rfl⟩ := bytes_of l4
            have hx := T.nx4 n0 n1 n2 n3 e4
            have y4 := fun w h => takes_yes b s t4 ⟨#[60, 63]⟩ w h e4
            clear n0 n1 n2 n3 n4 e4
            cases hq : T.pi t4.data.toList with
            | error q =>
              have hr := Lib.hid ((hx).trans hq)
              have c := fun w h => instruction_any b t4 w h
              rw [hq] at c
              clear hq hx
              go_enter Tryz.func41, Tryz.ntmps41
              go_wp2_with fail
              (with_reducible refine (y0 _ hA).mono ?_); rintro e w1 ⟨rfl, h1, g1⟩
              go_wp2_with fail
              (with_reducible refine (y1 _ h1).mono ?_); rintro e w2 ⟨rfl, h2, g2⟩
              go_wp2_with fail
              (with_reducible refine (y2 _ h2).mono ?_); rintro e w3 ⟨rfl, h3, g3⟩
              go_wp2_with fail
              (with_reducible refine (y3 _ h3).mono ?_); rintro e w4 ⟨rfl, h4, g4⟩
              go_wp2_with fail
              (with_reducible refine (y4 _ h4).mono ?_); rintro e w5 ⟨rfl, h5, g5⟩
              go_wp2_with fail
              (with_reducible refine (c _ h5).mono ?_); rintro e w6 ⟨rfl, g6⟩
              exact ⟨rfl, ans_no hr.out ((((((g0.trans g1).trans g2).trans g3).trans g4).trans g5).trans g6)⟩
            | ok x =>
              obtain ⟨k, lt⟩ := x
              have hr := (hx).trans hq
              have c := fun w h => instruction_any b t4 w h
              rw [hq] at c
              clear hq hx
              go_enter Tryz.func41, Tryz.ntmps41
              go_wp2_with fail
              (with_reducible refine (y0 _ hA).mono ?_); rintro e w1 ⟨rfl, h1, g1⟩
              go_wp2_with fail
              (with_reducible refine (y1 _ h1).mono ?_); rintro e w2 ⟨rfl, h2, g2⟩
              go_wp2_with fail
              (with_reducible refine (y2 _ h2).mono ?_); rintro e w3 ⟨rfl, h3, g3⟩
              go_wp2_with fail
              (with_reducible refine (y3 _ h3).mono ?_); rintro e w4 ⟨rfl, h4, g4⟩
              go_wp2_with fail
              (with_reducible refine (y4 _ h4).mono ?_); rintro e w5 ⟨rfl, h5, g5⟩
              go_wp2_with fail
              (with_reducible refine (c _ h5).mono ?_); rintro e w6 ⟨t, ht, v, rfl, hov, h6, g6⟩
              dsimp only at ht hov
              unfold tokVal
              rw [← ht] at hr
              replace hr := Lib.hid hr
              have gP := g0.trans ((((g1.trans g2).trans g3).trans g4).trans g5)
              have gA := ((((g1.trans g2).trans g3).trans g4).trans g5).trans g6
              have bA := bx.on gA hne
              have d0 := bA.c0
              have d1 := bA.c1
              have d2 := bA.c2
              have d3 := bA.c3
              have d4 := bA.c4
              have f0 := bA.free 0
              have f1 := bA.free 1
              have f2 := bA.free 2
              have f3 := bA.free 3
              have f4 := bA.free 4
              replace bA := Lib.hid bA
              clear bx c
              obtain ⟨ao, cap, hv, -⟩ := pairs_of_owns hov
              rw [List.length_map] at hv
              subst hv
              go_wp2_with fail
              exact tok_end rfl rfl (bA.out.set _ _ _ _ _) (ans_pass hr.out hov gP.size h6 (g0.trans gA) hb bA.out)
          | false =>
            have y4 := fun w h => takes_no b s ⟨#[60, 63]⟩ w h n4
            cases n5 : T.begins [60, 47] s.data.toList with
            | true =>
              obtain ⟨l5, e5⟩ := T.begins_iff.1 n5
              obtain ⟨t5, rfl⟩ := bytes_of l5
              have hx := T.nx5 n0 n1 n2 n3 n4 e5
              have y5 := fun w h => takes_yes b s t5 ⟨#[60, 47]⟩ w h e5
              clear n0 n1 n2 n3 n4 n5 e5
              cases hq : T.shut t5.data.toList with
              | error q =>
                have hr := Lib.hid ((hx).trans hq)
                have c := fun w h => end_any b t5 w h
                rw [hq] at c
                clear hq hx
                go_enter Tryz.func41, Tryz.ntmps41
                go_wp2_with fail
                (with_reducible refine (y0 _ hA).mono ?_); rintro e w1 ⟨rfl, h1, g1⟩
                go_wp2_with fail
                (with_reducible refine (y1 _ h1).mono ?_); rintro e w2 ⟨rfl, h2, g2⟩
                go_wp2_with fail
                (with_reducible refine (y2 _ h2).mono ?_); rintro e w3 ⟨rfl, h3, g3⟩
                go_wp2_with fail
                (with_reducible refine (y3 _ h3).mono ?_); rintro e w4 ⟨rfl, h4, g4⟩
                go_wp2_with fail
                (with_reducible refine (y4 _ h4).mono ?_); rintro e w5 ⟨rfl, h5, g5⟩
                go_wp2_with fail
                (with_reducible refine (y5 _ h5).mono ?_); rintro e w6 ⟨rfl, h6, g6⟩
                go_wp2_with fail
                (with_reducible refine (c _ h6).mono ?_); rintro e w7 ⟨rfl, g7⟩
                exact ⟨rfl, ans_no hr.out (((((((g0.trans g1).trans g2).trans g3).trans g4).trans g5).trans g6).trans g7)⟩
              | ok x =>
                obtain ⟨k, lt⟩ := x
                have hr := (hx).trans hq
                have c := fun w h => end_any b t5 w h
                rw [hq] at c
                clear hq hx
                go_enter Tryz.func41, Tryz.ntmps41
                go_wp2_with fail
                (with_reducible refine (y0 _ hA).mono ?_); rintro e w1 ⟨rfl, h1, g1⟩
                go_wp2_with fail
                (with_reducible refine (y1 _ h1).mono ?_); rintro e w2 ⟨rfl, h2, g2⟩
                go_wp2_with fail
                (with_reducible refine (y2 _ h2).mono ?_); rintro e w3 ⟨rfl, h3, g3⟩
                go_wp2_with fail
                (with_reducible refine (y3 _ h3).mono ?_); rintro e w4 ⟨rfl, h4, g4⟩
                go_wp2_with fail
                (with_reducible refine (y4 _ h4).mono ?_); rintro e w5 ⟨rfl, h5, g5⟩
                go_wp2_with fail
                (with_reducible refine (y5 _ h5).mono ?_); rintro e w6 ⟨rfl, h6, g6⟩
                go_wp2_with fail
                (with_reducible refine (c _ h6).mono ?_); rintro e w7 ⟨t, ht, v, rfl, hov, h7, g7⟩
                dsimp only at ht hov
                unfold tokVal
                rw [← ht] at hr
                replace hr := Lib.hid hr
                have gP := g0.trans (((((g1.trans g2).trans g3).trans g4).trans g5).trans g6)
                have gA := (((((g1.trans g2).trans g3).trans g4).trans g5).trans g6).trans g7
                have bA := bx.on gA hne
                have d0 := bA.c0
                have d1 := bA.c1
                have d2 := bA.c2
                have d3 := bA.c3
                have d4 := bA.c4
                have f0 := bA.free 0
                have f1 := bA.free 1
                have f2 := bA.free 2
                have f3 := bA.free 3
                have f4 := bA.free 4
                replace bA := Lib.hid bA
                clear bx c
                obtain ⟨ao, cap, hv, -⟩ := pairs_of_owns hov
                rw [List.length_map] at hv
                subst hv
                go_wp2_with fail
                exact tok_end rfl rfl (bA.out.set _ _ _ _ _) (ans_pass hr.out hov gP.size h7 (g0.trans gA) hb bA.out)
            | false =>
              have y5 := fun w h => takes_no b s ⟨#[60, 47]⟩ w h n5
              cases n6 : T.begins [60] s.data.toList with
              | true =>
                obtain ⟨l6, e6⟩ := T.begins_iff.1 n6
                obtain ⟨t6, rfl⟩ := bytes_of l6
                have hx := T.nx6 n0 n1 n2 n3 n4 n5 e6
                have y6 := fun w h => takes_yes b s t6 ⟨#[60]⟩ w h e6
                clear n0 n1 n2 n3 n4 n5 n6 e6
                cases hq : T.opened t6.data.toList with
                | error q =>
                  have hr := Lib.hid ((hx).trans hq)
                  have c := fun w h => start_any b t6 w h
                  rw [hq] at c
                  clear hq hx
                  go_enter Tryz.func41, Tryz.ntmps41
                  go_wp2_with fail
                  (with_reducible refine (y0 _ hA).mono ?_); rintro e w1 ⟨rfl, h1, g1⟩
                  go_wp2_with fail
                  (with_reducible refine (y1 _ h1).mono ?_); rintro e w2 ⟨rfl, h2, g2⟩
                  go_wp2_with fail
                  (with_reducible refine (y2 _ h2).mono ?_); rintro e w3 ⟨rfl, h3, g3⟩
                  go_wp2_with fail
                  (with_reducible refine (y3 _ h3).mono ?_); rintro e w4 ⟨rfl, h4, g4⟩
                  go_wp2_with fail
                  (with_reducible refine (y4 _ h4).mono ?_); rintro e w5 ⟨rfl, h5, g5⟩
                  go_wp2_with fail
                  (with_reducible refine (y5 _ h5).mono ?_); rintro e w6 ⟨rfl, h6, g6⟩
                  go_wp2_with fail
                  (with_reducible refine (y6 _ h6).mono ?_); rintro e w7 ⟨rfl, h7, g7⟩
                  go_wp2_with fail
                  (with_reducible refine (c _ h7).mono ?_); rintro e w8 ⟨rfl, g8⟩
                  exact ⟨rfl, ans_no hr.out ((((((((g0.trans g1).trans g2).trans g3).trans g4).trans g5).trans g6).trans g7).trans g8)⟩
                | ok x =>
                  obtain ⟨k, lt⟩ := x
                  have hr := (hx).trans hq
                  have c := fun w h => start_any b t6 w h
                  rw [hq] at c
                  clear hq hx
                  go_enter Tryz.func41, Tryz.ntmps41
                  go_wp2_with fail
                  (with_reducible refine (y0 _ hA).mono ?_); rintro e w1 ⟨rfl, h1, g1⟩
                  go_wp2_with fail
                  (with_reducible refine (y1 _ h1).mono ?_); rintro e w2 ⟨rfl, h2, g2⟩
                  go_wp2_with fail
                  (with_reducible refine (y2 _ h2).mono ?_); rintro e w3 ⟨rfl, h3, g3⟩
                  go_wp2_with fail
                  (with_reducible refine (y3 _ h3).mono ?_); rintro e w4 ⟨rfl, h4, g4⟩
                  go_wp2_with fail
                  (with_reducible refine (y4 _ h4).mono ?_); rintro e w5 ⟨rfl, h5, g5⟩
                  go_wp2_with fail
                  (with_reducible refine (y5 _ h5).mono ?_); rintro e w6 ⟨rfl, h6, g6⟩
                  go_wp2_with fail
                  (with_reducible refine (y6 _ h6).mono ?_); rintro e w7 ⟨rfl, h7, g7⟩
                  go_wp2_with fail
                  (with_reducible refine (c _ h7).mono ?_); rintro e w8 ⟨t, ht, v, rfl, hov, h8, g8⟩
                  dsimp only at ht hov
                  unfold tokVal
                  rw [← ht] at hr
                  replace hr := Lib.hid hr
                  have gP := g0.trans ((((((g1.trans g2).trans g3).trans g4).trans g5).trans g6).trans g7)
                  have gA := ((((((g1.trans g2).trans g3).trans g4).trans g5).trans g6).trans g7).trans g8
                  have bA := bx.on gA hne
                  have d0 := bA.c0
                  have d1 := bA.c1
                  have d2 := bA.c2
                  have d3 := bA.c3
                  have d4 := bA.c4
                  have f0 := bA.free 0
                  have f1 := bA.free 1
                  have f2 := bA.free 2
                  have f3 := bA.free 3
                  have f4 := bA.free 4
                  replace bA := Lib.hid bA
                  clear bx c
                  obtain ⟨ao, cap, hv, -⟩ := pairs_of_owns hov
                  rw [List.length_map] at hv
                  subst hv
                  go_wp2_with fail
                  exact tok_end rfl rfl (bA.out.set _ _ _ _ _) (ans_pass hr.out hov gP.size h8 (g0.trans gA) hb bA.out)
              | false =>
                have y6 := fun w h => takes_no b s ⟨#[60]⟩ w h n6
                have hx := T.nx7 n0 n1 n2 n3 n4 n5 n6
                clear n0 n1 n2 n3 n4 n5 n6
                cases hq : T.text s.data.toList with
                | error q =>
                  have hr := Lib.hid ((hx).trans hq)
                  have c := fun w h => characters_any b s w h
                  rw [hq] at c
                  clear hq hx
                  go_enter Tryz.func41, Tryz.ntmps41
                  go_wp2_with fail
                  (with_reducible refine (y0 _ hA).mono ?_); rintro e w1 ⟨rfl, h1, g1⟩
                  go_wp2_with fail
                  (with_reducible refine (y1 _ h1).mono ?_); rintro e w2 ⟨rfl, h2, g2⟩
                  go_wp2_with fail
                  (with_reducible refine (y2 _ h2).mono ?_); rintro e w3 ⟨rfl, h3, g3⟩
                  go_wp2_with fail
                  (with_reducible refine (y3 _ h3).mono ?_); rintro e w4 ⟨rfl, h4, g4⟩
                  go_wp2_with fail
                  (with_reducible refine (y4 _ h4).mono ?_); rintro e w5 ⟨rfl, h5, g5⟩
                  go_wp2_with fail
                  (with_reducible refine (y5 _ h5).mono ?_); rintro e w6 ⟨rfl, h6, g6⟩
                  go_wp2_with fail
                  (with_reducible refine (y6 _ h6).mono ?_); rintro e w7 ⟨rfl, h7, g7⟩
                  go_wp2_with fail
                  (with_reducible refine (c _ h7).mono ?_); rintro e w8 ⟨rfl, g8⟩
                  exact ⟨rfl, ans_no hr.out ((((((((g0.trans g1).trans g2).trans g3).trans g4).trans g5).trans g6).trans g7).trans g8)⟩
                | ok x =>
                  obtain ⟨k, lt⟩ := x
                  have hr := (hx).trans hq
                  have c := fun w h => characters_any b s w h
                  rw [hq] at c
                  clear hq hx
                  go_enter Tryz.func41, Tryz.ntmps41
                  go_wp2_with fail
                  (with_reducible refine (y0 _ hA).mono ?_); rintro e w1 ⟨rfl, h1, g1⟩
                  go_wp2_with fail
                  (with_reducible refine (y1 _ h1).mono ?_); rintro e w2 ⟨rfl, h2, g2⟩
                  go_wp2_with fail
                  (with_reducible refine (y2 _ h2).mono ?_); rintro e w3 ⟨rfl, h3, g3⟩
                  go_wp2_with fail
                  (with_reducible refine (y3 _ h3).mono ?_); rintro e w4 ⟨rfl, h4, g4⟩
                  go_wp2_with fail
                  (with_reducible refine (y4 _ h4).mono ?_); rintro e w5 ⟨rfl, h5, g5⟩
                  go_wp2_with fail
                  (with_reducible refine (y5 _ h5).mono ?_); rintro e w6 ⟨rfl, h6, g6⟩
                  go_wp2_with fail
                  (with_reducible refine (y6 _ h6).mono ?_); rintro e w7 ⟨rfl, h7, g7⟩
                  go_wp2_with fail
                  (with_reducible refine (c _ h7).mono ?_); rintro e w8 ⟨t, ht, v, rfl, hov, h8, g8⟩
                  dsimp only at ht hov
                  unfold tokVal
                  rw [← ht] at hr
                  replace hr := Lib.hid hr
                  have gP := g0.trans ((((((g1.trans g2).trans g3).trans g4).trans g5).trans g6).trans g7)
                  have gA := ((((((g1.trans g2).trans g3).trans g4).trans g5).trans g6).trans g7).trans g8
                  have bA := bx.on gA hne
                  have d0 := bA.c0
                  have d1 := bA.c1
                  have d2 := bA.c2
                  have d3 := bA.c3
                  have d4 := bA.c4
                  have f0 := bA.free 0
                  have f1 := bA.free 1
                  have f2 := bA.free 2
                  have f3 := bA.free 3
                  have f4 := bA.free 4
                  replace bA := Lib.hid bA
                  clear bx c
                  obtain ⟨ao, cap, hv, -⟩ := pairs_of_owns hov
                  rw [List.length_map] at hv
                  subst hv
                  go_wp2_with fail
                  exact tok_end rfl rfl (bA.out.set _ _ _ _ _) (ans_pass hr.out hov gP.size h8 (g0.trans gA) hb bA.out)
end Go.Proofs.YtcoeijjmahneeaaGreatDoor
