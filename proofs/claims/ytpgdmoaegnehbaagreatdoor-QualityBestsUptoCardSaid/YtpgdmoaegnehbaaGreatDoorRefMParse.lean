/-
  What the document's own Parse of media types comes to.
-/
import Derived.Test.YtpgdmoaegnehbaaGreatDoorRefParams
namespace Go.Proofs.YtpgdmoaegnehbaaGreatDoor
open Go.RowKit

/-- Parse's answers. -/
def mpM (s : ByteArray) : Md.Med := (Md.parse s.data.toList).getD Md.none'
def mpE (s : ByteArray) : Int := if (Md.parse s.data.toList).isSome = true then 0 else 130
theorem mp_none {s : ByteArray} (h : Md.parse s.data.toList = none) : mpM s = Md.none' ∧ mpE s = 130 := by unfold mpM mpE; rw [h]; exact ⟨rfl, rfl⟩
theorem mp_some {s : ByteArray} {m : Md.Med} (h : Md.parse s.data.toList = some m) : mpM s = m ∧ mpE s = 0 := by unfold mpM mpE; rw [h]; exact ⟨rfl, rfl⟩

theorem med_end {R : Ending → World → Prop} {tmps : Array Value} {w : World} {rb : Nat} {x y z : Value} {c : Int} (h2 : tmps[2]? = some (.pointer (some ⟨rb, 0, none⟩))) (h3 : tmps[3]? = some (.int .i64 c))
    (c0 : w.cell? ⟨rb, 0, none⟩ = some x) (c1 : w.cell? ⟨rb, 1, none⟩ = some y) (c2 : w.cell? ⟨rb, 2, none⟩ = some z)
    (hR : R (.returned (.tuple #[.agg #[x, y, z], .int .i64 c])) w) : bodyPost Tryz.prog Tryz.f35 R .ret { tmps := tmps, defers := [] } w := by
  refine ⟨rfl, _, ?_, hR⟩
  have l3 : 3 < tmps.size := (Array.getElem?_eq_some_iff.1 h3).1
  have g2 : tmps[2] = .pointer (some ⟨rb, 0, none⟩) := (Array.getElem?_eq_some_iff.1 h2).2
  have g3 : tmps[3] = .int .i64 c := (Array.getElem?_eq_some_iff.1 h3).2
  have l2 : 2 < tmps.size := by omega
  simp [results, Tryz.results35, go_sem, l2, l3, g2, g3, c0, c1, c2]

/-- A box of three. -/
def Box3 (w : World) (b : Nat) (x y z : Value) : Prop := w.heap[b]? = some (.cells #[x, y, z] 40 (0, 0))
theorem Box3.new (w : World) (x y z : Value) : Box3 (w.alloc (.cells #[x, y, z] 40)) w.heap.size x y z := heap_alloc_new w _
theorem Box3.lt {w : World} {b : Nat} {x y z : Value} (h : Box3 w b x y z) : b < w.heap.size := (Array.getElem?_eq_some_iff.1 h).1
theorem Box3.on {w w' : World} {b : Nat} {x y z : Value} (h : Box3 w b x y z) (hb : Below w.heap.size w w') : Box3 w' b x y z := (hb.block b h.lt).trans h
theorem Box3.c0 {w : World} {b : Nat} {x y z : Value} (h : Box3 w b x y z) : w.cell? ⟨b, 0, none⟩ = some x := by unfold World.cell?; rw [show w.heap[b]? = _ from h]; rfl
theorem Box3.c1 {w : World} {b : Nat} {x y z : Value} (h : Box3 w b x y z) : w.cell? ⟨b, 1, none⟩ = some y := by unfold World.cell?; rw [show w.heap[b]? = _ from h]; rfl
theorem Box3.c2 {w : World} {b : Nat} {x y z : Value} (h : Box3 w b x y z) : w.cell? ⟨b, 2, none⟩ = some z := by unfold World.cell?; rw [show w.heap[b]? = _ from h]; rfl
theorem Box3.free {w : World} {b : Nat} {x y z : Value} (h : Box3 w b x y z) (i : Nat) : w.frozen? ⟨b, i, none⟩ = false := by simp [World.frozen?, show w.heap[b]? = _ from h]

theorem ownsPairs_mono {B B' : Nat} {v : Value} {l : List Pair} {w : World} (h : OwnsPairs B' v l w) (hB : B ≤ B') : OwnsPairs B v l w := by
  obtain ⟨a, h0 | ⟨g, cap, cur, rfl, hb, r⟩⟩ := h
  · exact ⟨a, .inl h0⟩
  · exact ⟨a, .inr ⟨g, cap, cur, rfl, Nat.le_trans hB hb, r⟩⟩

/-- The three cells of a box set anew. -/
def set3 (w : World) (b : Nat) (x y z : Value) : World := ((w.setCell ⟨b, 0, none⟩ x).setCell ⟨b, 1, none⟩ y).setCell ⟨b, 2, none⟩ z
theorem set3_cells {w : World} {b : Nat} {x y z : Value} (h : Box3 w b x y z) (x' y' z' : Value) :
    (set3 w b x' y' z').cell? ⟨b, 0, none⟩ = some x' ∧ (set3 w b x' y' z').cell? ⟨b, 1, none⟩ = some y' ∧ (set3 w b x' y' z').cell? ⟨b, 2, none⟩ = some z' := by
  unfold set3
  refine ⟨?_, ?_, ?_⟩
  · rw [World.cell?_setCell_other _ _ _ _ (by simp), World.cell?_setCell_other _ _ _ _ (by simp)]
    exact World.cell?_setCell_same _ _ _ h.c0
  · rw [World.cell?_setCell_other _ _ _ _ (by simp)]
    exact World.cell?_setCell_same _ _ _ (u := y) (by rw [World.cell?_setCell_other _ _ _ _ (by simp)]; exact h.c1)
  · exact World.cell?_setCell_same _ _ _ (u := z) (by rw [World.cell?_setCell_other _ _ _ _ (by simp), World.cell?_setCell_other _ _ _ _ (by simp)]; exact h.c2)
theorem set3_below {B : Nat} {w0 w : World} {b : Nat} (h : Below B w0 w) (hb : B ≤ b) (x y z : Value) : Below B w0 (set3 w b x y z) := ((h.setCell (p := ⟨b, 0, none⟩) hb x).setCell (p := ⟨b, 1, none⟩) hb y).setCell (p := ⟨b, 2, none⟩) hb z
theorem row_set {w : World} {B : Nat} {e : TypeId} {size n : Nat} {v : Value} {xs : List Value} (h : w.ownsRow B e size v n xs) {a : Addr} (ha : some a.block ≠ v.ownBlock) (u : Value) : (w.setCell a u).ownsRow B e size v n xs := by
  obtain ⟨hl, h0 | ⟨g, cap, cur, rfl, hb, hh, r⟩⟩ := h
  · exact ⟨hl, .inl h0⟩
  · refine ⟨hl, .inr ⟨g, cap, cur, rfl, hb, ?_, r⟩⟩
    rw [RowKit.Below.heap_setCell _ _ _ _ (by intro e; apply ha; simp [Value.ownBlock, e])]
    exact hh
theorem set3_owns {B : Nat} {w : World} {b : Nat} {x y z v : Value} {l : List Pair} (h : OwnsPairs B v l w) (k : Box3 w b x y z) (x' y' z' : Value) : OwnsPairs B v l (set3 w b x' y' z') := by
  have hne : some b ≠ v.ownBlock := by
    obtain ⟨_, ⟨rfl, _⟩ | ⟨g, cap, cur, rfl, hb, hh, _⟩⟩ := h
    · simp [Value.ownBlock]
    · simp only [Value.ownBlock, ne_eq, Option.some.injEq]
      rintro rfl
      rw [show w.heap[b]? = _ from k] at hh
      cases hh
  exact row_set (row_set (row_set h (a := ⟨b, 0, none⟩) hne x') (a := ⟨b, 1, none⟩) hne y') (a := ⟨b, 2, none⟩) hne z'

set_option maxRecDepth 100000 in
set_option maxHeartbeats 6400000 in
theorem refMParse_any (s : ByteArray) (w : World) (hs : s.size ≤ 100000) :
    Calls Tryz.prog 35 #[.string s] w fun e w' => ∃ v, e = .returned (.tuple #[.agg #[.string (mpM s).ty, .string (mpM s).sub, v], .int .i64 (mpE s)]) ∧ OwnsPairs w.heap.size v (mpM s).params w' ∧ Below w.heap.size w w' := by
  have hsm : s.size ≤ maxLen := by unfold maxLen; omega
  go_enter Tryz.func35, Tryz.ntmps35
  have bA : Below w.heap.size w (w.alloc (.cells #[.string ⟨#[]⟩, .string ⟨#[]⟩, .slice none 0 0] 40)) := (Below.refl _ _).alloc (Nat.le_refl _) _
  have k0 := Box3.new w (.string ⟨#[]⟩) (.string ⟨#[]⟩) (.slice none 0 0)
  have hnone : Hid (Md.parse s.data.toList = none → mpM s = Md.none' ∧ mpE s = 130) := Lib.hid mp_none
  go_wp2_with fail
  (with_reducible refine (refSkip_any s _ hsm).mono ?_); rintro e w1 ⟨rfl, rfl⟩
  have hu1 := skA_size s
  have hu2 := Lib.hid (skA_list s)
  generalize skA s = u at *
  go_wp2_with fail
  (with_reducible refine (refToken_any u _ (by unfold maxLen; omega)).mono ?_); rintro e w1 ⟨rfl, b1⟩
  have x1 := bA.trans (b1.mono bA.size)
  have k1 := k0.on b1
  clear bA k0 b1
  have hn1 := tkA_size u
  have hn2 := Lib.hid (show (tkA u).data.toList = Md.tok (Md.skip s.data.toList) by rw [tkA_list, hu2.out])
  have hr1 := tkB_size u
  have hr2 := Lib.hid (show (tkB u).data.toList = Md.tokR (Md.skip s.data.toList) by rw [tkB_list, hu2.out])
  generalize tkA u = a at *
  generalize tkB u = rs at *
  by_cases ha0 : a.size = 0
  · obtain ⟨r1, r2⟩ := hnone.out (by unfold Md.parse; rw [if_pos (.inl (by rw [← hn2.out]; exact nil_of_size ha0))])
    have he := empty_yes ha0
    have q := k1
    have c0 := k1.c0
    have c1 := k1.c1
    have c2 := k1.c2
    have f0 := k1.free 0
    have f1 := k1.free 1
    have f2 := k1.free 2
    replace r1 := Lib.hid r1
    replace r2 := Lib.hid r2
    replace q := Lib.hid q
    clear k1 hnone
    go_wp2_with fail
    obtain ⟨y0, y1, y2⟩ := set3_cells q.out (.string ⟨#[]⟩) (.string ⟨#[]⟩) (.slice none 0 0)
    exact med_end (rb := w.heap.size) rfl rfl y0 y1 y2 ⟨_, by rw [r1.out, r2.out]; rfl, by rw [r1.out]; exact pairs_nil _ _, set3_below x1 (Nat.le_refl _) _ _ _⟩
  have ha1 : 0 < a.size := by omega
  have hane := ne_empty ha1
  have hat : Md.tok (Md.skip s.data.toList) ≠ [] := by rw [← hn2.out]; exact not_nil ha1
  by_cases hs47 : ∃ h : 0 < rs.size, (rs[0]).toNat = 47
  · obtain ⟨hr0, h47⟩ := hs47
    have hrne := ne_empty hr0
    have hh47 : (Md.tokR (Md.skip s.data.toList)).head? = some 47 := by rw [← hr2.out, head_byte hr0, byte_is (c := 47) h47]
    have h47b : (((rs[0]).toNat : Int) != 47) = false := by rw [h47]; rfl
    have hdr : (rs.extract 1 rs.size).data.toList = (Md.tokR (Md.skip s.data.toList)).drop 1 := by rw [drop_list, hr2.out]
    have hP1 : Hid (Md.parse s.data.toList = if Md.tok ((Md.tokR (Md.skip s.data.toList)).drop 1) = [] then none
      else match Md.paramsG [] (Md.tokR ((Md.tokR (Md.skip s.data.toList)).drop 1)) with
        | none => none
        | some ps => if Md.tok (Md.skip s.data.toList) = [42] ∧ Md.tok ((Md.tokR (Md.skip s.data.toList)).drop 1) ≠ [42] then none
          else some ⟨⟨(Md.lower (Md.tok (Md.skip s.data.toList))).toArray⟩, ⟨(Md.lower (Md.tok ((Md.tokR (Md.skip s.data.toList)).drop 1))).toArray⟩, ps⟩) := Lib.hid (by
      unfold Md.parse
      rw [if_neg (by rintro (e | e); exact hat e; exact e hh47)]
      rfl)
    replace hdr := Lib.hid hdr
    clear h47 hh47 hat
    go_wp2_with fail
    (with_reducible refine (refToken_any (rs.extract 1 rs.size) _ (by unfold maxLen; simp; omega)).mono ?_); rintro e w2 ⟨rfl, b2⟩
    have x2 := x1.trans (b2.mono x1.size)
    have k2 := k1.on b2
    clear x1 k1 b2
    have hm1 := tkA_size (rs.extract 1 rs.size)
    have hm2 := Lib.hid (show (tkA (rs.extract 1 rs.size)).data.toList = Md.tok ((Md.tokR (Md.skip s.data.toList)).drop 1) by rw [tkA_list, hdr.out])
    have hq1 := tkB_size (rs.extract 1 rs.size)
    have hq2 := Lib.hid (show (tkB (rs.extract 1 rs.size)).data.toList = Md.tokR ((Md.tokR (Md.skip s.data.toList)).drop 1) by rw [tkB_list, hdr.out])
    rw [ByteArray.size_extract] at hm1 hq1
    generalize tkA (rs.extract 1 rs.size) = b at *
    generalize tkB (rs.extract 1 rs.size) = rt at *
    go_wp2_with fail
    (with_reducible refine (refParams_any rt _ (by omega)).mono ?_); rintro e w3 ⟨v, rfl, ho, b3⟩
    have x3 := x2.trans (b3.mono x2.size)
    have k3 := k2.on b3
    have ho3 : OwnsPairs w.heap.size v (prL rt) w3 := ownsPairs_mono ho x2.size
    clear x2 k2 b3 ho
    by_cases hb0 : b.size = 0
    · obtain ⟨r1, r2⟩ := hnone.out (by rw [hP1.out, if_pos (by rw [← hm2.out]; exact nil_of_size hb0)])
      have he := empty_yes hb0
      have q := k3
      have c0 := k3.c0
      have c1 := k3.c1
      have c2 := k3.c2
      have f0 := k3.free 0
      have f1 := k3.free 1
      have f2 := k3.free 2
      replace r1 := Lib.hid r1
      replace r2 := Lib.hid r2
      replace q := Lib.hid q
      clear k3 hnone
      go_wp2_with fail
      obtain ⟨y0, y1, y2⟩ := set3_cells q.out (.string ⟨#[]⟩) (.string ⟨#[]⟩) (.slice none 0 0)
      exact med_end (rb := w.heap.size) rfl rfl y0 y1 y2 ⟨_, by rw [r1.out, r2.out]; rfl, by rw [r1.out]; exact pairs_nil _ _, set3_below x3 (Nat.le_refl _) _ _ _⟩
    have hb1 : 0 < b.size := by omega
    have hbne := ne_empty hb1
    have hbt : Md.tok ((Md.tokR (Md.skip s.data.toList)).drop 1) ≠ [] := by rw [← hm2.out]; exact not_nil hb1
    cases hps : Md.paramsG [] (Md.tokR ((Md.tokR (Md.skip s.data.toList)).drop 1)) with
    | none =>
      obtain ⟨r1, r2⟩ := hnone.out (by rw [hP1.out, if_neg hbt, hps])
      obtain ⟨e1, e2⟩ := pr_none (s := rt) (by rw [hq2.out]; exact hps)
      rw [e2]
      clear e1 e2
      have q := k3
      have c0 := k3.c0
      have c1 := k3.c1
      have c2 := k3.c2
      have f0 := k3.free 0
      have f1 := k3.free 1
      have f2 := k3.free 2
      replace r1 := Lib.hid r1
      replace r2 := Lib.hid r2
      replace q := Lib.hid q
      clear k3 hnone
      go_wp2_with fail
      obtain ⟨y0, y1, y2⟩ := set3_cells q.out (.string ⟨#[]⟩) (.string ⟨#[]⟩) (.slice none 0 0)
      exact med_end (rb := w.heap.size) rfl rfl y0 y1 y2 ⟨_, by rw [r1.out, r2.out]; rfl, by rw [r1.out]; exact pairs_nil _ _, set3_below x3 (Nat.le_refl _) _ _ _⟩
    | some ps =>
      obtain ⟨e1, e2⟩ := pr_some (s := rt) (by rw [hq2.out]; exact hps)
      rw [e2]
      rw [e1] at ho3
      clear e1 e2
      have hP2 := hP1.out.trans (if_neg hbt)
      rw [hps] at hP2
      dsimp only at hP2
      rw [← hn2.out, ← hm2.out] at hP2
      have hP2 := Lib.hid hP2
      clear hps hbt hP1
      by_cases hstar : a.data.toList = [42] ∧ b.data.toList ≠ [42]
      · obtain ⟨r1, r2⟩ := hnone.out (by rw [hP2.out, if_pos hstar])
        have g1 : (a.toList == [42]) = true := str_is hstar.1
        have g2 : (b.toList == [42]) = false := str_ne hstar.2
        clear hstar hP2
        have q := k3
        have c0 := k3.c0
        have c1 := k3.c1
        have c2 := k3.c2
        have f0 := k3.free 0
        have f1 := k3.free 1
        have f2 := k3.free 2
        replace r1 := Lib.hid r1
        replace r2 := Lib.hid r2
        replace q := Lib.hid q
        clear k3 hnone
        go_wp2_with fail
        obtain ⟨y0, y1, y2⟩ := set3_cells q.out (.string ⟨#[]⟩) (.string ⟨#[]⟩) (.slice none 0 0)
        exact med_end (rb := w.heap.size) rfl rfl y0 y1 y2 ⟨_, by rw [r1.out, r2.out]; rfl, by rw [r1.out]; exact pairs_nil _ _, set3_below x3 (Nat.le_refl _) _ _ _⟩
      · obtain ⟨r1, r2⟩ := mp_some (hP2.out.trans (if_neg hstar))
        replace r1 := Lib.hid r1
        replace r2 := Lib.hid r2
        have hg : (a.toList == [42]) = false ∨ ((a.toList == [42]) = true ∧ (b.toList == [42]) = true) := by
          by_cases h1 : a.data.toList = [42]
          · right
            refine ⟨str_is h1, str_is ?_⟩
            by_cases h2 : b.data.toList = [42]
            · exact h2
            · exact absurd ⟨h1, h2⟩ hstar
          · exact .inl (str_ne h1)
        clear hstar hP2 hnone
        have hal : a.size ≤ 70368744177664 := by omega
        have hbl : b.size ≤ 70368744177664 := by omega
        rcases hg with g1 | ⟨g1, g2⟩
        all_goals
          go_wp2_with fail
          (with_reducible refine (refLower_any a _ hal).mono ?_); rintro e w4 ⟨rfl, b4⟩
          have x4 := x3.trans (b4.mono x3.size)
          have k4 := k3.on b4
          have o4 := pairs_below ho3 b4
          clear x3 k3 ho3 b4
          go_wp2_with fail
          (with_reducible refine (refLower_any b _ hbl).mono ?_); rintro e w5 ⟨rfl, b5⟩
          have x5 := x4.trans (b5.mono x4.size)
          have k5 := k4.on b5
          have o5 := pairs_below o4 b5
          clear x4 k4 o4 b5
          obtain ⟨ao, cap, rfl, -⟩ := pairs_of_owns o5
          have q := Lib.hid k5
          have c0 := k5.c0
          have c1 := k5.c1
          have c2 := k5.c2
          have f0 := k5.free 0
          have f1 := k5.free 1
          have f2 := k5.free 2
          clear k5
          go_wp2_with fail
          obtain ⟨y0, y1, y2⟩ := set3_cells q.out (.string (loA a)) (.string (loA b)) (.slice ao ps.length cap)
          exact med_end (rb := w.heap.size) rfl rfl y0 y1 y2 ⟨_, by rw [r1.out, r2.out]; rfl, by rw [r1.out]; exact set3_owns o5 q.out _ _ _, set3_below x5 (Nat.le_refl _) _ _ _⟩
  · have hno : (Md.tokR (Md.skip s.data.toList)).head? ≠ some 47 := by
      rw [← hr2.out]
      intro e
      by_cases hr0 : 0 < rs.size
      · rw [head_byte hr0] at e; exact hs47 ⟨hr0, by rw [Option.some.inj e]; rfl⟩
      · rw [nil_of_size (by omega)] at e; cases e
    obtain ⟨r1, r2⟩ := hnone.out (by unfold Md.parse; exact if_pos (.inr hno))
    clear hno
    by_cases hr0 : 0 < rs.size
    · have hrne := ne_empty hr0
      have h47b : (((rs[0]).toNat : Int) != 47) = true := by
        rw [bne_iff_ne]; intro e; exact hs47 ⟨hr0, by omega⟩
      clear hs47
      have q := k1
      have c0 := k1.c0
      have c1 := k1.c1
      have c2 := k1.c2
      have f0 := k1.free 0
      have f1 := k1.free 1
      have f2 := k1.free 2
      replace r1 := Lib.hid r1
      replace r2 := Lib.hid r2
      replace q := Lib.hid q
      clear k1 hnone
      go_wp2_with fail
      obtain ⟨y0, y1, y2⟩ := set3_cells q.out (.string ⟨#[]⟩) (.string ⟨#[]⟩) (.slice none 0 0)
      exact med_end (rb := w.heap.size) rfl rfl y0 y1 y2 ⟨_, by rw [r1.out, r2.out]; rfl, by rw [r1.out]; exact pairs_nil _ _, set3_below x1 (Nat.le_refl _) _ _ _⟩
    · have he := empty_yes (s := rs) (by omega)
      clear hs47
      have q := k1
      have c0 := k1.c0
      have c1 := k1.c1
      have c2 := k1.c2
      have f0 := k1.free 0
      have f1 := k1.free 1
      have f2 := k1.free 2
      replace r1 := Lib.hid r1
      replace r2 := Lib.hid r2
      replace q := Lib.hid q
      clear k1 hnone
      go_wp2_with fail
      obtain ⟨y0, y1, y2⟩ := set3_cells q.out (.string ⟨#[]⟩) (.string ⟨#[]⟩) (.slice none 0 0)
      exact med_end (rb := w.heap.size) rfl rfl y0 y1 y2 ⟨_, by rw [r1.out, r2.out]; rfl, by rw [r1.out]; exact pairs_nil _ _, set3_below x1 (Nat.le_refl _) _ _ _⟩
end Go.Proofs.YtpgdmoaegnehbaaGreatDoor
