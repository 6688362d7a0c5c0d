/-
  What the document's own word of parameters comes to: contract of Params.
  What the document's own Parse of media types comes to.
  What comparing pairs comes to: contract of SamePairs.
  Tokens in memory: an answer's, and rows that a call owns.
  Rows of nodes that a call owns; a leaf.
  What the document's own Grown comes to: nodes and one more.
  The environment, under the name that other stages' texts know it by.
  The environment, under the name that other stages' texts know it by.
-/
import Derived.Test.YtbaclacfadkjdaaGreatDoorG10
import Derived.Test.YtbaclacfadkjdaaGreatDoorG02
import Derived.Laws.StructEq
import Derived.Deep.DeepCutAuto
import Derived.Deep.RegionHeld3
import Derived.Deep.QuietTactic
import Derived.BigQuiet
import Derived.Laws.Cover1
import Derived.Test.YtbaclacfadkjdaaGreatDoorG01
import Derived.Test.YtbaclacfadkjdaaGreatDoorG03
import Derived.Laws.AppendOwnNone
import Derived.Laws.OwnMore
import Derived.Maps.AppendAt
import Derived.Test.YtbaclacfadkjdaaGreatDoorG05
import Derived.Test.YtbaclacfadkjdaaGreatDoorG07
namespace Go.Proofs.YtbaclacfadkjdaaGreatDoor
open Go.RowKit
def prL (s : ByteArray) : List Pair := (Md.paramsG [] s.data.toList).getD []
def prC (s : ByteArray) : Bool := (Md.paramsG [] s.data.toList).isSome
theorem pr_none {s : ByteArray} (h : Md.paramsG [] s.data.toList = none) : prL s = [] ∧ prC s = false := by unfold prL prC; rw [h]; exact ⟨rfl, rfl⟩
theorem pr_some {s : ByteArray} {l : List Pair} (h : Md.paramsG [] s.data.toList = some l) : prL s = l ∧ prC s = true := by unfold prL prC; rw [h]; exact ⟨rfl, rfl⟩
set_option maxRecDepth 100000 in
set_option maxHeartbeats 3200000 in
theorem refParams_any (s : ByteArray) (w : World) (hs : s.size ≤ 1000000) :
    Calls Tryz.prog 94 #[.string s] w fun e w' => ∃ v, e = .returned (.tuple #[v, .bool (prC s)]) ∧ OwnsPairs w.heap.size v (prL s) w' ∧ Below w.heap.size w w' := by
  obtain ⟨i0, hi, hz0, hz1, hz2⟩ := info_parts infoPair
  go_enter Tryz.func94, Tryz.ntmps94
  go_wp2_with fail
  go_loopw [0, 4, 5, 6, 7, 8] (fun v0 v4 _ _ _ _ wr => ∃ (t : ByteArray) (acc : List Pair), v0 = .string t ∧ OwnsPairs w.heap.size v4 acc wr ∧ Hid (Md.paramsG [] s.data.toList = Md.paramsG acc t.data.toList) ∧ acc.length + t.size ≤ s.size ∧ Below w.heap.size w wr) (fun v0 _ _ _ _ _ _ => strLen v0)
  case atStart => exact ⟨s, [], rfl, pairs_nil _ _, Lib.hid rfl, by simp, Below.refl _ _⟩
  case round =>
    obtain ⟨t, acc, rfl, ho, hP, hlen, bw⟩ := hrel
    have htm : t.size ≤ maxLen := by unfold maxLen; omega
    go_wp2_with fail
    (with_reducible refine (refSkip_any t _ htm).mono ?_); rintro e w1 ⟨rfl, rfl⟩
    have hu1 := skA_size t
    have hu2 := Lib.hid (skA_list t)
    generalize hu : skA t = u at *
    clear hu
    by_cases h0 : u.size = 0
    · obtain ⟨r1, r2⟩ := pr_some (hP.out.trans (Md.pg_end (by rw [← hu2.out]; exact nil_of_size h0)))
      replace r1 := Lib.hid r1
      replace r2 := Lib.hid r2
      have he := empty_yes h0
      clear hP h0
      go_wp2
      go_ret2
      exact ⟨_, by rw [r2.out]; rfl, by rw [r1.out]; exact ho, bw⟩
    have h1 : 0 < u.size := by omega
    have hne := ne_empty h1
    have hnn : Md.skip t.data.toList ≠ [] := by rw [← hu2.out]; exact not_nil h1
    have hh := head_byte h1
    rw [hu2.out] at hh
    by_cases h59 : (u[0]).toNat = 59
    · have hh59 : (Md.skip t.data.toList).head? = some 59 := by rw [hh, byte_is (c := 59) h59]
      have h59b : (((u[0]).toNat : Int) != 59) = false := by rw [h59]; rfl
      have hdu : (u.extract 1 u.size).data.toList = (Md.skip t.data.toList).drop 1 := by rw [drop_list, hu2.out]
      clear hh h59 h0
      replace hh59 := Lib.hid hh59
      replace hnn := Lib.hid hnn
      replace hdu := Lib.hid hdu
      go_wp2_with fail
      (with_reducible refine (refSkip_any (u.extract 1 u.size) _ (by unfold maxLen; simp; omega)).mono ?_); rintro e w1 ⟨rfl, rfl⟩
      have hx1 := skA_size (u.extract 1 u.size)
      have hx2 := Lib.hid (show (skA (u.extract 1 u.size)).data.toList = Md.skip ((Md.skip t.data.toList).drop 1) by rw [skA_list, hdu.out])
      rw [ByteArray.size_extract] at hx1
      generalize skA (u.extract 1 u.size) = x at *
      go_wp2_with fail
      (with_reducible refine (refToken_any x _ (by unfold maxLen; omega)).mono ?_); rintro e w2 ⟨rfl, b2⟩
      have x2 := bw.trans (b2.mono bw.size)
      have o2 := pairs_below ho b2
      have hn1 := tkA_size x
      have hn2 := Lib.hid (show (tkA x).data.toList = Md.tok (Md.skip ((Md.skip t.data.toList).drop 1)) by rw [tkA_list, hx2.out])
      have hr1 := tkB_size x
      have hr2 := Lib.hid (show (tkB x).data.toList = Md.tokR (Md.skip ((Md.skip t.data.toList).drop 1)) by rw [tkB_list, hx2.out])
      generalize tkA x = nm at *
      generalize tkB x = rs at *
      clear hx2 ho bw b2
      by_cases hn0 : nm.size = 0
      · obtain ⟨r1, r2⟩ := pr_none (hP.out.trans (Md.pg_name hnn.out hh59.out (by rw [← hn2.out]; exact nil_of_size hn0)))
        replace r1 := Lib.hid r1
        replace r2 := Lib.hid r2
        have he := empty_yes hn0
        clear hP hn0
        go_wp2
        go_ret2
        exact ⟨_, by rw [r2.out]; rfl, by rw [r1.out]; exact pairs_nil _ _, x2⟩
      have hnne := ne_empty (s := nm) (by omega)
      have hnt : Hid (Md.tok (Md.skip ((Md.skip t.data.toList).drop 1)) ≠ []) := Lib.hid (by rw [← hn2.out]; exact not_nil (by omega))
      by_cases hs61 : ∃ h : 0 < rs.size, (rs[0]).toNat = 61
      · obtain ⟨hr0, h61⟩ := hs61
        have hrne := ne_empty hr0
        have hh61 : Hid ((Md.tokR (Md.skip ((Md.skip t.data.toList).drop 1))).head? = some 61) := Lib.hid (by rw [← hr2.out, head_byte hr0, byte_is (c := 61) h61])
        have h61b : (((rs[0]).toNat : Int) != 61) = false := by rw [h61]; rfl
        have hdr : (rs.extract 1 rs.size).data.toList = (Md.tokR (Md.skip ((Md.skip t.data.toList).drop 1))).drop 1 := by rw [drop_list, hr2.out]
        replace hdr := Lib.hid hdr
        clear h61
        go_wp2_with fail
        (with_reducible refine (refValue_any (rs.extract 1 rs.size) _ (by simp; omega)).mono ?_); rintro e w3 ⟨rfl, b3⟩
        have x3 := x2.trans (b3.mono x2.size)
        have o3 := pairs_below o2 b3
        clear x2 o2 b3
        cases hv : Md.value ((Md.tokR (Md.skip ((Md.skip t.data.toList).drop 1))).drop 1) with
        | none =>
          obtain ⟨r1, r2⟩ := pr_none (hP.out.trans (Md.pg_value hnn.out hh59.out hnt.out hh61.out hv))
          replace r1 := Lib.hid r1
          replace r2 := Lib.hid r2
          have hvc := va_none (s := rs.extract 1 rs.size) (by rw [hdr.out]; exact hv)
          rw [hvc]
          clear hP hvc hv
          go_wp2
          go_ret2
          exact ⟨_, by rw [r2.out]; rfl, by rw [r1.out]; exact pairs_nil _ _, x3⟩
        | some xr =>
          obtain ⟨v, r⟩ := xr
          have hst := hP.out.trans (Md.pg_step hnn.out hh59.out hnt.out hh61.out hv)
          have hshort := Md.params_shorter hnn.out hv
          rw [list_len] at hshort
          obtain ⟨e1, e2, e3⟩ := va_some (s := rs.extract 1 rs.size) (by rw [hdr.out]; exact hv)
          rw [e1, e2, e3]
          rw [← hn2.out] at hst
          have hst : Hid (Md.paramsG [] s.data.toList = Md.paramsG (acc ++ [⟨loA nm, ⟨v.toArray⟩⟩]) (⟨r.toArray⟩ : ByteArray).data.toList) := Lib.hid (by rw [mk_list]; exact hst)
          have hrsz : (⟨r.toArray⟩ : ByteArray).size = r.length := by rw [← list_len, mk_list]
          have hshort2 : (⟨r.toArray⟩ : ByteArray).size < t.size := by omega
          generalize (⟨v.toArray⟩ : ByteArray) = V at *
          generalize (⟨r.toArray⟩ : ByteArray) = R at *
          clear hP hv e1 e2 e3 hnn hh59 hnt hh61 hdr hn2 hr2 hdu hu2 hshort hrsz
          go_wp2_with fail
          (with_reducible refine (refLower_any nm _ (by omega)).mono ?_); rintro e w4 ⟨rfl, b4⟩
          have x4 := x3.trans (b4.mono x3.size)
          have o4 := pairs_below o3 b4
          generalize loA nm = ln at *
          clear o3 x3 b4
          go_wp2_with (at_builtin; refine wpList_append_own_at _ rfl _ _ 91 rfl w.heap.size 126 i0 _ 2 32 Tryz.underlying91 hi hz0 hz1 hz2 rfl (by decide) _ _ _ rfl (pairs_alloc o4 _) ⟨w4.heap.size, 0, none⟩ 1 1 [.string ln, .string V] rfl rfl (cells_two _ _ _ _) (fun u hu => by simp at hu; rcases hu with rfl | rfl <;> rfl) (by unfold maxLen; omega) (by omega) (by have := x4.size; simp; omega) ?_)
          intro v5 w5 hown5 hg5 _ hat
          have hga : w4.grownBy w5 u4.ownBlock := (World.grownBy_alloc w4 _ _).trans hg5
          have b5 : Below w.heap.size w4 w5 := (Below.refl _ _).grown hga x4.size (fun j e => (World.ownsRow.lt o4 j e).1)
          have q5 : OwnsPairs w.heap.size v5 (acc ++ [⟨ln, V⟩]) w5 := by unfold OwnsPairs; simpa [pairCells] using hown5
          clear hown5 hat hg5 hga o4
          go_wp2_with fail
          go_roundw
          case rel => exact ⟨R, acc ++ [⟨ln, V⟩], rfl, q5, hst, by simp; omega, x4.trans b5⟩
          case measure => simp [strLen]; omega
      · obtain ⟨r1, r2⟩ := pr_none (hP.out.trans (Md.pg_sign hnn.out hh59.out hnt.out (by
          rw [← hr2.out]
          intro e
          by_cases hr0 : 0 < rs.size
          · rw [head_byte hr0] at e; exact hs61 ⟨hr0, by rw [Option.some.inj e]; rfl⟩
          · rw [nil_of_size (by omega)] at e; cases e)))
        replace r1 := Lib.hid r1
        replace r2 := Lib.hid r2
        by_cases hr0 : 0 < rs.size
        · have hrne := ne_empty hr0
          have h61b : (((rs[0]).toNat : Int) != 61) = true := by
            rw [bne_iff_ne]; intro e; exact hs61 ⟨hr0, by omega⟩
          clear hs61 hP
          go_wp2
          go_ret2
          exact ⟨_, by rw [r2.out]; rfl, by rw [r1.out]; exact pairs_nil _ _, x2⟩
        · have he := empty_yes (s := rs) (by omega)
          clear hs61 hP
          go_wp2
          go_ret2
          exact ⟨_, by rw [r2.out]; rfl, by rw [r1.out]; exact pairs_nil _ _, x2⟩
    · obtain ⟨r1, r2⟩ := pr_none (hP.out.trans (Md.pg_semi hnn (by rw [hh]; intro e; exact h59 (by rw [Option.some.inj e]; rfl))))
      replace r1 := Lib.hid r1
      replace r2 := Lib.hid r2
      have h59b : (((u[0]).toNat : Int) != 59) = true := by rw [bne_iff_ne]; omega
      clear hP hh h59 hnn
      go_wp2
      go_ret2
      exact ⟨_, by rw [r2.out]; rfl, by rw [r1.out]; exact pairs_nil _ _, bw⟩
end Go.Proofs.YtbaclacfadkjdaaGreatDoor
namespace Go.Proofs.YtbaclacfadkjdaaGreatDoor
open Go.RowKit
def mpM (s : ByteArray) : Md.Med := (Md.parse s.data.toList).getD Md.none'
def mpE (s : ByteArray) : Int := if (Md.parse s.data.toList).isSome = true then 0 else 130
theorem mp_none {s : ByteArray} (h : Md.parse s.data.toList = none) : mpM s = Md.none' ∧ mpE s = 130 := by unfold mpM mpE; rw [h]; exact ⟨rfl, rfl⟩
theorem mp_some {s : ByteArray} {m : Md.Med} (h : Md.parse s.data.toList = some m) : mpM s = m ∧ mpE s = 0 := by unfold mpM mpE; rw [h]; exact ⟨rfl, rfl⟩
theorem med_end {R : Ending → World → Prop} {tmps : Array Value} {w : World} {rb : Nat} {x y z : Value} {c : Int} (h2 : tmps[2]? = some (.pointer (some ⟨rb, 0, none⟩))) (h3 : tmps[3]? = some (.int .i64 c))
    (c0 : w.cell? ⟨rb, 0, none⟩ = some x) (c1 : w.cell? ⟨rb, 1, none⟩ = some y) (c2 : w.cell? ⟨rb, 2, none⟩ = some z)
    (hR : R (.returned (.tuple #[.agg #[x, y, z], .int .i64 c])) w) : bodyPost Tryz.prog Tryz.f66 R .ret { tmps := tmps, defers := [] } w := by
  refine ⟨rfl, _, ?_, hR⟩
  have l3 : 3 < tmps.size := (Array.getElem?_eq_some_iff.1 h3).1
  have g2 : tmps[2] = .pointer (some ⟨rb, 0, none⟩) := (Array.getElem?_eq_some_iff.1 h2).2
  have g3 : tmps[3] = .int .i64 c := (Array.getElem?_eq_some_iff.1 h3).2
  have l2 : 2 < tmps.size := by omega
  simp [results, Tryz.results66, go_sem, l2, l3, g2, g3, c0, c1, c2]
def Box3 (w : World) (b : Nat) (x y z : Value) : Prop := w.heap[b]? = some (.cells #[x, y, z] 93 (0, 0))
theorem Box3.new (w : World) (x y z : Value) : Box3 (w.alloc (.cells #[x, y, z] 93)) w.heap.size x y z := heap_alloc_new w _
theorem Box3.lt {w : World} {b : Nat} {x y z : Value} (h : Box3 w b x y z) : b < w.heap.size := (Array.getElem?_eq_some_iff.1 h).1
theorem Box3.on {w w' : World} {b : Nat} {x y z : Value} (h : Box3 w b x y z) (hb : Below w.heap.size w w') : Box3 w' b x y z := (hb.block b h.lt).trans h
theorem Box3.c0 {w : World} {b : Nat} {x y z : Value} (h : Box3 w b x y z) : w.cell? ⟨b, 0, none⟩ = some x := by unfold World.cell?; rw [show w.heap[b]? = _ from h]; rfl
theorem Box3.c1 {w : World} {b : Nat} {x y z : Value} (h : Box3 w b x y z) : w.cell? ⟨b, 1, none⟩ = some y := by unfold World.cell?; rw [show w.heap[b]? = _ from h]; rfl
theorem Box3.c2 {w : World} {b : Nat} {x y z : Value} (h : Box3 w b x y z) : w.cell? ⟨b, 2, none⟩ = some z := by unfold World.cell?; rw [show w.heap[b]? = _ from h]; rfl
theorem Box3.free {w : World} {b : Nat} {x y z : Value} (h : Box3 w b x y z) (i : Nat) : w.frozen? ⟨b, i, none⟩ = false := by simp [World.frozen?, show w.heap[b]? = _ from h]
theorem ownsPairs_mono {B B' : Nat} {v : Value} {l : List Pair} {w : World} (h : OwnsPairs B' v l w) (hB : B ≤ B') : OwnsPairs B v l w := by
  obtain ⟨a, h0 | ⟨g, cap, cur, rfl, hb, r⟩⟩ := h
  · exact ⟨a, .inl h0⟩
  · exact ⟨a, .inr ⟨g, cap, cur, rfl, Nat.le_trans hB hb, r⟩⟩
def set3 (w : World) (b : Nat) (x y z : Value) : World := ((w.setCell ⟨b, 0, none⟩ x).setCell ⟨b, 1, none⟩ y).setCell ⟨b, 2, none⟩ z
theorem set3_cells {w : World} {b : Nat} {x y z : Value} (h : Box3 w b x y z) (x' y' z' : Value) :
    (set3 w b x' y' z').cell? ⟨b, 0, none⟩ = some x' ∧ (set3 w b x' y' z').cell? ⟨b, 1, none⟩ = some y' ∧ (set3 w b x' y' z').cell? ⟨b, 2, none⟩ = some z' := by
  unfold set3
  refine ⟨?_, ?_, ?_⟩
  · rw [World.cell?_setCell_other _ _ _ _ (by simp), World.cell?_setCell_other _ _ _ _ (by simp)]
    exact World.cell?_setCell_same _ _ _ h.c0
  · rw [World.cell?_setCell_other _ _ _ _ (by simp)]
    exact World.cell?_setCell_same _ _ _ (u := y) (by rw [World.cell?_setCell_other _ _ _ _ (by simp)]; exact h.c1)
  · exact World.cell?_setCell_same _ _ _ (u := z) (by rw [World.cell?_setCell_other _ _ _ _ (by simp), World.cell?_setCell_other _ _ _ _ (by simp)]; exact h.c2)
theorem set3_below {B : Nat} {w0 w : World} {b : Nat} (h : Below B w0 w) (hb : B ≤ b) (x y z : Value) : Below B w0 (set3 w b x y z) := ((h.setCell (p := ⟨b, 0, none⟩) hb x).setCell (p := ⟨b, 1, none⟩) hb y).setCell (p := ⟨b, 2, none⟩) hb z
theorem row_set {w : World} {B : Nat} {e : TypeId} {size n : Nat} {v : Value} {xs : List Value} (h : w.ownsRow B e size v n xs) {a : Addr} (ha : some a.block ≠ v.ownBlock) (u : Value) : (w.setCell a u).ownsRow B e size v n xs := by
  obtain ⟨hl, h0 | ⟨g, cap, cur, rfl, hb, hh, r⟩⟩ := h
  · exact ⟨hl, .inl h0⟩
  · refine ⟨hl, .inr ⟨g, cap, cur, rfl, hb, ?_, r⟩⟩
    rw [RowKit.Below.heap_setCell _ _ _ _ (by intro e; apply ha; simp [Value.ownBlock, e])]
    exact hh
theorem set3_owns {B : Nat} {w : World} {b : Nat} {x y z v : Value} {l : List Pair} (h : OwnsPairs B v l w) (k : Box3 w b x y z) (x' y' z' : Value) : OwnsPairs B v l (set3 w b x' y' z') := by
  have hne : some b ≠ v.ownBlock := by
    obtain ⟨_, ⟨rfl, _⟩ | ⟨g, cap, cur, rfl, hb, hh, _⟩⟩ := h
    · simp [Value.ownBlock]
    · simp only [Value.ownBlock, ne_eq, Option.some.injEq]
      rintro rfl
      rw [show w.heap[b]? = _ from k] at hh
      cases hh
  exact row_set (row_set (row_set h (a := ⟨b, 0, none⟩) hne x') (a := ⟨b, 1, none⟩) hne y') (a := ⟨b, 2, none⟩) hne z'
set_option maxRecDepth 100000 in
set_option maxHeartbeats 6400000 in
theorem refMParse_any (s : ByteArray) (w : World) (hs : s.size ≤ 100000) :
    Calls Tryz.prog 66 #[.string s] w fun e w' => ∃ v, e = .returned (.tuple #[.agg #[.string (mpM s).ty, .string (mpM s).sub, v], .int .i64 (mpE s)]) ∧ OwnsPairs w.heap.size v (mpM s).params w' ∧ Below w.heap.size w w' := by
  have hsm : s.size ≤ maxLen := by unfold maxLen; omega
  go_enter Tryz.func66, Tryz.ntmps66
  have bA : Below w.heap.size w (w.alloc (.cells #[.string ⟨#[]⟩, .string ⟨#[]⟩, .slice none 0 0] 93)) := (Below.refl _ _).alloc (Nat.le_refl _) _
  have k0 := Box3.new w (.string ⟨#[]⟩) (.string ⟨#[]⟩) (.slice none 0 0)
  have hnone : Hid (Md.parse s.data.toList = none → mpM s = Md.none' ∧ mpE s = 130) := Lib.hid mp_none
  go_wp2_with fail
  (with_reducible refine (refSkip_any s _ hsm).mono ?_); rintro e w1 ⟨rfl, rfl⟩
  have hu1 := skA_size s
  have hu2 := Lib.hid (skA_list s)
  generalize skA s = u at *
  go_wp2_with fail
  (with_reducible refine (refToken_any u _ (by unfold maxLen; omega)).mono ?_); rintro e w1 ⟨rfl, b1⟩
  have x1 := bA.trans (b1.mono bA.size)
  have k1 := k0.on b1
  clear bA k0 b1
  have hn1 := tkA_size u
  have hn2 := Lib.hid (show (tkA u).data.toList = Md.tok (Md.skip s.data.toList) by rw [tkA_list, hu2.out])
  have hr1 := tkB_size u
  have hr2 := Lib.hid (show (tkB u).data.toList = Md.tokR (Md.skip s.data.toList) by rw [tkB_list, hu2.out])
  generalize tkA u = a at *
  generalize tkB u = rs at *
  by_cases ha0 : a.size = 0
  · obtain ⟨r1, r2⟩ := hnone.out (by unfold Md.parse; rw [if_pos (.inl (by rw [← hn2.out]; exact nil_of_size ha0))])
    have he := empty_yes ha0
    have q := k1
    have c0 := k1.c0
    have c1 := k1.c1
    have c2 := k1.c2
    have f0 := k1.free 0
    have f1 := k1.free 1
    have f2 := k1.free 2
    replace r1 := Lib.hid r1
    replace r2 := Lib.hid r2
    replace q := Lib.hid q
    clear k1 hnone
    go_wp2_with fail
    obtain ⟨y0, y1, y2⟩ := set3_cells q.out (.string ⟨#[]⟩) (.string ⟨#[]⟩) (.slice none 0 0)
    exact med_end (rb := w.heap.size) rfl rfl y0 y1 y2 ⟨_, by rw [r1.out, r2.out]; rfl, by rw [r1.out]; exact pairs_nil _ _, set3_below x1 (Nat.le_refl _) _ _ _⟩
  have ha1 : 0 < a.size := by omega
  have hane := ne_empty ha1
  have hat : Md.tok (Md.skip s.data.toList) ≠ [] := by rw [← hn2.out]; exact not_nil ha1
  by_cases hs47 : ∃ h : 0 < rs.size, (rs[0]).toNat = 47
  · obtain ⟨hr0, h47⟩ := hs47
    have hrne := ne_empty hr0
    have hh47 : (Md.tokR (Md.skip s.data.toList)).head? = some 47 := by rw [← hr2.out, head_byte hr0, byte_is (c := 47) h47]
    have h47b : (((rs[0]).toNat : Int) != 47) = false := by rw [h47]; rfl
    have hdr : (rs.extract 1 rs.size).data.toList = (Md.tokR (Md.skip s.data.toList)).drop 1 := by rw [drop_list, hr2.out]
    have hP1 : Hid (Md.parse s.data.toList = if Md.tok ((Md.tokR (Md.skip s.data.toList)).drop 1) = [] then none
      else match Md.paramsG [] (Md.tokR ((Md.tokR (Md.skip s.data.toList)).drop 1)) with
        | none => none
        | some ps => if Md.tok (Md.skip s.data.toList) = [42] ∧ Md.tok ((Md.tokR (Md.skip s.data.toList)).drop 1) ≠ [42] then none
          else some ⟨⟨(Md.lower (Md.tok (Md.skip s.data.toList))).toArray⟩, ⟨(Md.lower (Md.tok ((Md.tokR (Md.skip s.data.toList)).drop 1))).toArray⟩, ps⟩) := Lib.hid (by
      unfold Md.parse
      rw [if_neg (by rintro (e | e); exact hat e; exact e hh47)]
      rfl)
    replace hdr := Lib.hid hdr
    clear h47 hh47 hat
    go_wp2_with fail
    (with_reducible refine (refToken_any (rs.extract 1 rs.size) _ (by unfold maxLen; simp; omega)).mono ?_); rintro e w2 ⟨rfl, b2⟩
    have x2 := x1.trans (b2.mono x1.size)
    have k2 := k1.on b2
    clear x1 k1 b2
    have hm1 := tkA_size (rs.extract 1 rs.size)
    have hm2 := Lib.hid (show (tkA (rs.extract 1 rs.size)).data.toList = Md.tok ((Md.tokR (Md.skip s.data.toList)).drop 1) by rw [tkA_list, hdr.out])
    have hq1 := tkB_size (rs.extract 1 rs.size)
    have hq2 := Lib.hid (show (tkB (rs.extract 1 rs.size)).data.toList = Md.tokR ((Md.tokR (Md.skip s.data.toList)).drop 1) by rw [tkB_list, hdr.out])
    rw [ByteArray.size_extract] at hm1 hq1
    generalize tkA (rs.extract 1 rs.size) = b at *
    generalize tkB (rs.extract 1 rs.size) = rt at *
    go_wp2_with fail
    (with_reducible refine (refParams_any rt _ (by omega)).mono ?_); rintro e w3 ⟨v, rfl, ho, b3⟩
    have x3 := x2.trans (b3.mono x2.size)
    have k3 := k2.on b3
    have ho3 : OwnsPairs w.heap.size v (prL rt) w3 := ownsPairs_mono ho x2.size
    clear x2 k2 b3 ho
    by_cases hb0 : b.size = 0
    · obtain ⟨r1, r2⟩ := hnone.out (by rw [hP1.out, if_pos (by rw [← hm2.out]; exact nil_of_size hb0)])
      have he := empty_yes hb0
      have q := k3
      have c0 := k3.c0
      have c1 := k3.c1
      have c2 := k3.c2
      have f0 := k3.free 0
      have f1 := k3.free 1
      have f2 := k3.free 2
      replace r1 := Lib.hid r1
      replace r2 := Lib.hid r2
      replace q := Lib.hid q
      clear k3 hnone
      go_wp2_with fail
      obtain ⟨y0, y1, y2⟩ := set3_cells q.out (.string ⟨#[]⟩) (.string ⟨#[]⟩) (.slice none 0 0)
      exact med_end (rb := w.heap.size) rfl rfl y0 y1 y2 ⟨_, by rw [r1.out, r2.out]; rfl, by rw [r1.out]; exact pairs_nil _ _, set3_below x3 (Nat.le_refl _) _ _ _⟩
    have hb1 : 0 < b.size := by omega
    have hbne := ne_empty hb1
    have hbt : Md.tok ((Md.tokR (Md.skip s.data.toList)).drop 1) ≠ [] := by rw [← hm2.out]; exact not_nil hb1
    cases hps : Md.paramsG [] (Md.tokR ((Md.tokR (Md.skip s.data.toList)).drop 1)) with
    | none =>
      obtain ⟨r1, r2⟩ := hnone.out (by rw [hP1.out, if_neg hbt, hps])
      obtain ⟨e1, e2⟩ := pr_none (s := rt) (by rw [hq2.out]; exact hps)
      rw [e2]
      clear e1 e2
      have q := k3
      have c0 := k3.c0
      have c1 := k3.c1
      have c2 := k3.c2
      have f0 := k3.free 0
      have f1 := k3.free 1
      have f2 := k3.free 2
      replace r1 := Lib.hid r1
      replace r2 := Lib.hid r2
      replace q := Lib.hid q
      clear k3 hnone
      go_wp2_with fail
      obtain ⟨y0, y1, y2⟩ := set3_cells q.out (.string ⟨#[]⟩) (.string ⟨#[]⟩) (.slice none 0 0)
      exact med_end (rb := w.heap.size) rfl rfl y0 y1 y2 ⟨_, by rw [r1.out, r2.out]; rfl, by rw [r1.out]; exact pairs_nil _ _, set3_below x3 (Nat.le_refl _) _ _ _⟩
    | some ps =>
      obtain ⟨e1, e2⟩ := pr_some (s := rt) (by rw [hq2.out]; exact hps)
      rw [e2]
      rw [e1] at ho3
      clear e1 e2
      have hP2 := hP1.out.trans (if_neg hbt)
      rw [hps] at hP2
      dsimp only at hP2
      rw [← hn2.out, ← hm2.out] at hP2
      have hP2 := Lib.hid hP2
      clear hps hbt hP1
      by_cases hstar : a.data.toList = [42] ∧ b.data.toList ≠ [42]
      · obtain ⟨r1, r2⟩ := hnone.out (by rw [hP2.out, if_pos hstar])
        have g1 : (a.toList == [42]) = true := str_is hstar.1
        have g2 : (b.toList == [42]) = false := str_ne hstar.2
        clear hstar hP2
        have q := k3
        have c0 := k3.c0
        have c1 := k3.c1
        have c2 := k3.c2
        have f0 := k3.free 0
        have f1 := k3.free 1
        have f2 := k3.free 2
        replace r1 := Lib.hid r1
        replace r2 := Lib.hid r2
        replace q := Lib.hid q
        clear k3 hnone
        go_wp2_with fail
        obtain ⟨y0, y1, y2⟩ := set3_cells q.out (.string ⟨#[]⟩) (.string ⟨#[]⟩) (.slice none 0 0)
        exact med_end (rb := w.heap.size) rfl rfl y0 y1 y2 ⟨_, by rw [r1.out, r2.out]; rfl, by rw [r1.out]; exact pairs_nil _ _, set3_below x3 (Nat.le_refl _) _ _ _⟩
      · obtain ⟨r1, r2⟩ := mp_some (hP2.out.trans (if_neg hstar))
        replace r1 := Lib.hid r1
        replace r2 := Lib.hid r2
        have hg : (a.toList == [42]) = false ∨ ((a.toList == [42]) = true ∧ (b.toList == [42]) = true) := by
          by_cases h1 : a.data.toList = [42]
          · right
            refine ⟨str_is h1, str_is ?_⟩
            by_cases h2 : b.data.toList = [42]
            · exact h2
            · exact absurd ⟨h1, h2⟩ hstar
          · exact .inl (str_ne h1)
        clear hstar hP2 hnone
        have hal : a.size ≤ 70368744177664 := by omega
        have hbl : b.size ≤ 70368744177664 := by omega
        rcases hg with g1 | ⟨g1, g2⟩
        all_goals
          go_wp2_with fail
          (with_reducible refine (refLower_any a _ hal).mono ?_); rintro e w4 ⟨rfl, b4⟩
          have x4 := x3.trans (b4.mono x3.size)
          have k4 := k3.on b4
          have o4 := pairs_below ho3 b4
          clear x3 k3 ho3 b4
          go_wp2_with fail
          (with_reducible refine (refLower_any b _ hbl).mono ?_); rintro e w5 ⟨rfl, b5⟩
          have x5 := x4.trans (b5.mono x4.size)
          have k5 := k4.on b5
          have o5 := pairs_below o4 b5
          clear x4 k4 o4 b5
          obtain ⟨ao, cap, rfl, -⟩ := pairs_of_owns o5
          have q := Lib.hid k5
          have c0 := k5.c0
          have c1 := k5.c1
          have c2 := k5.c2
          have f0 := k5.free 0
          have f1 := k5.free 1
          have f2 := k5.free 2
          clear k5
          go_wp2_with fail
          obtain ⟨y0, y1, y2⟩ := set3_cells q.out (.string (loA a)) (.string (loA b)) (.slice ao ps.length cap)
          exact med_end (rb := w.heap.size) rfl rfl y0 y1 y2 ⟨_, by rw [r1.out, r2.out]; rfl, by rw [r1.out]; exact set3_owns o5 q.out _ _ _, set3_below x5 (Nat.le_refl _) _ _ _⟩
  · have hno : (Md.tokR (Md.skip s.data.toList)).head? ≠ some 47 := by
      rw [← hr2.out]
      intro e
      by_cases hr0 : 0 < rs.size
      · rw [head_byte hr0] at e; exact hs47 ⟨hr0, by rw [Option.some.inj e]; rfl⟩
      · rw [nil_of_size (by omega)] at e; cases e
    obtain ⟨r1, r2⟩ := hnone.out (by unfold Md.parse; exact if_pos (.inr hno))
    clear hno
    by_cases hr0 : 0 < rs.size
    · have hrne := ne_empty hr0
      have h47b : (((rs[0]).toNat : Int) != 47) = true := by
        rw [bne_iff_ne]; intro e; exact hs47 ⟨hr0, by omega⟩
      clear hs47
      have q := k1
      have c0 := k1.c0
      have c1 := k1.c1
      have c2 := k1.c2
      have f0 := k1.free 0
      have f1 := k1.free 1
      have f2 := k1.free 2
      replace r1 := Lib.hid r1
      replace r2 := Lib.hid r2
      replace q := Lib.hid q
      clear k1 hnone
      go_wp2_with fail
      obtain ⟨y0, y1, y2⟩ := set3_cells q.out (.string ⟨#[]⟩) (.string ⟨#[]⟩) (.slice none 0 0)
      exact med_end (rb := w.heap.size) rfl rfl y0 y1 y2 ⟨_, by rw [r1.out, r2.out]; rfl, by rw [r1.out]; exact pairs_nil _ _, set3_below x1 (Nat.le_refl _) _ _ _⟩
    · have he := empty_yes (s := rs) (by omega)
      clear hs47
      have q := k1
      have c0 := k1.c0
      have c1 := k1.c1
      have c2 := k1.c2
      have f0 := k1.free 0
      have f1 := k1.free 1
      have f2 := k1.free 2
      replace r1 := Lib.hid r1
      replace r2 := Lib.hid r2
      replace q := Lib.hid q
      clear k1 hnone
      go_wp2_with fail
      obtain ⟨y0, y1, y2⟩ := set3_cells q.out (.string ⟨#[]⟩) (.string ⟨#[]⟩) (.slice none 0 0)
      exact med_end (rb := w.heap.size) rfl rfl y0 y1 y2 ⟨_, by rw [r1.out, r2.out]; rfl, by rw [r1.out]; exact pairs_nil _ _, set3_below x1 (Nat.le_refl _) _ _ _⟩
end Go.Proofs.YtbaclacfadkjdaaGreatDoor
namespace Go.Proofs.YtbaclacfadkjdaaGreatDoor
open Go.RowKit
end Go.Proofs.YtbaclacfadkjdaaGreatDoor
namespace Go.Proofs.YtbaclacfadkjdaaGreatDoor
open Go.RowKit
end Go.Proofs.YtbaclacfadkjdaaGreatDoor
namespace Go.Proofs.YtbaclacfadkjdaaGreatDoor
open Go.RowKit
theorem infoNode : (Tryz.prog.info? 25).map (fun i => (i.zero, i.size, i.bytes)) = some (some (.agg #[.int .i64 0, .string ByteArray.empty, .string ByteArray.empty, .slice none 0 0, .slice none 0 0, .string ByteArray.empty]), 6, 104) := by kernel_rfl
def OwnsKids (S : Nat → Prop) (B : Nat) (v : Value) (kids : List Gv.Node) (w : World) : Prop :=
  ∃ css : List (List Value), css.length = kids.length ∧ w.ownsRow B 25 6 v kids.length css.flatten ∧ ∀ j (h1 : j < css.length) (h2 : j < kids.length), NodeAt (fun b => S b ∧ some b ≠ v.ownBlock) w css[j] kids[j]
theorem kids_nil (S : Nat → Prop) (B : Nat) (w : World) : OwnsKids S B (.slice none 0 0) [] w := ⟨[], rfl, World.ownsRow_nil _ _ _ _, fun j h => by simp at h⟩
theorem own_on {w w' : World} {B : Nat} {e : TypeId} {size n : Nat} {v : Value} {xs : List Value} (h : w.ownsRow B e size v n xs) (hb : Below w.heap.size w w') : w'.ownsRow B e size v n xs := World.ownsRow.kept h (grown_of_below hb none) (by
  obtain ⟨_, ⟨rfl, _⟩ | ⟨g, cap, cur, rfl, _⟩⟩ := h
  · exact .inl rfl
  · right; simp [Value.ownBlock])
theorem OwnsKids.on {S : Nat → Prop} {B : Nat} {v : Value} {kids : List Gv.Node} {w w' : World} (h : OwnsKids S B v kids w) (hb : Below w.heap.size w w') : OwnsKids S B v kids w' := by
  obtain ⟨css, h1, h2, h3⟩ := h
  exact ⟨css, h1, own_on h2 hb, fun j a b => (h3 j a b).on hb⟩
theorem OwnsKids.mono {S S' : Nat → Prop} {B : Nat} {v : Value} {kids : List Gv.Node} {w : World} (h : OwnsKids S B v kids w) (hS : ∀ b, S b → b < w.heap.size → S' b) : OwnsKids S' B v kids w := by
  obtain ⟨css, h1, h2, h3⟩ := h
  exact ⟨css, h1, h2, fun j a b => (h3 j a b).mono fun x hx hl => ⟨hS x hx.1 hl, hx.2⟩⟩
theorem flat_at : ∀ (css : List (List Value)), (∀ c ∈ css, c.length = 6) → ∀ j i (h : j < css.length), i < 6 → css.flatten[j * 6 + i]? = css[j][i]?
  | [], _, j, i, h, _ => by simp at h
  | c :: css, hc, 0, i, h, hi => by
    have := hc c (by simp)
    simp only [List.flatten_cons, Nat.zero_mul, Nat.zero_add, List.getElem_cons_zero]
    rw [List.getElem?_append_left (by omega)]
  | c :: css, hc, j + 1, i, h, hi => by
    have h6 := hc c (by simp)
    have ih := flat_at css (fun x hx => hc x (by simp [hx])) j i (by simpa using h) hi
    simp only [List.flatten_cons, List.getElem_cons_succ]
    rw [List.getElem?_append_right (by omega), ← ih]
    congr 1; omega
theorem OwnsKids.rows {S : Nat → Prop} {B : Nat} {v : Value} {kids : List Gv.Node} {w : World} (h : OwnsKids S B v kids w) (hB : ∀ b, B ≤ b → b < w.heap.size → S b) : ∃ (ao : Option Addr) (cap : Nat) (cs : Nat → List Value), v = .slice ao kids.length cap ∧ RowsAt S w v kids.length cs ∧ (∀ j (h : j < kids.length), NodeAt S w (cs j) kids[j]) ∧ kids.length ≤ maxLen ∧ (ao = none → cap = 0) := by
  obtain ⟨css, h1, h2, h3⟩ := h
  have h6 : ∀ c ∈ css, c.length = 6 := fun c hc => by
    obtain ⟨j, hj, rfl⟩ := List.mem_iff_getElem.1 hc
    exact (h3 j hj (by omega)).six
  have hc := fun g hg => World.ownsRow.cells h2 (g := g) hg
  obtain ⟨hl, ⟨rfl, h0⟩ | ⟨g, cap, cur, rfl, hb, hh, hk, hm, _⟩⟩ := h2
  · have hk0 : kids = [] := List.eq_nil_of_length_eq_zero h0
    subst hk0
    exact ⟨none, 0, fun _ => [], rfl, ⟨none, 0, rfl, fun j hj => by simp at hj⟩, fun j hj => by simp at hj, by unfold maxLen; simp, fun _ => rfl⟩
  · refine ⟨_, cap, fun j => css[j]?.getD [], rfl, ⟨_, cap, rfl, fun j hj => ?_⟩, fun j hj => ?_, Nat.le_trans hk hm, fun e => by cases e⟩
    · have hj2 : j < css.length := by omega
      have e : css[j]?.getD [] = css[j] := by simp [hj2]
      dsimp only
      rw [e]
      have hg : g < w.heap.size := (Array.getElem?_eq_some_iff.1 hh).1
      refine ⟨h6 _ (List.getElem_mem hj2), g, 0, rfl, hB g hb hg, fun i u hu => ?_⟩
      have hi : i < 6 := by
        have := (List.getElem?_eq_some_iff.1 hu).1
        rwa [h6 _ (List.getElem_mem hj2)] at this
      have := hc g rfl (j * 6 + i) u (by rw [flat_at css h6 j i hj2 hi]; exact hu)
      rw [add_at, ← Nat.add_assoc] at this
      exact this
    · have hj2 : j < css.length := by omega
      have e : css[j]?.getD [] = css[j] := by simp [hj2]
      dsimp only
      rw [e]
      exact (h3 j hj2 hj).mono fun b hb _ => hb.1
theorem kids_more {S : Nat → Prop} {B N : Nat} {v v' : Value} {kids : List Gv.Node} {css : List (List Value)} {w w' : World} {c : List Value} {n : Gv.Node} (h1 : css.length = kids.length)
    (h3 : ∀ j (h1 : j < css.length) (h2 : j < kids.length), NodeAt (fun b => S b ∧ some b ≠ v.ownBlock) w css[j] kids[j]) (hn : NodeAt (fun b => S b ∧ some b ≠ v.ownBlock) w c n)
    (hr : w'.ownsRow B 25 6 v' (kids.length + 1) (css.flatten ++ c)) (hg : w.grownBy w' v.ownBlock) (hat : v'.ownBlock = v.ownBlock ∨ v'.ownBlock = some N) (hN : w.heap.size ≤ N) : OwnsKids S B v' (kids ++ [n]) w' := by
  have step : ∀ {c : List Value} {n : Gv.Node}, NodeAt (fun b => S b ∧ some b ≠ v.ownBlock) w c n → NodeAt (fun b => S b ∧ some b ≠ v'.ownBlock) w' c n := fun {c n} h => by
    have h' : NodeAt (fun b => (S b ∧ some b ≠ v.ownBlock) ∧ some b ≠ v'.ownBlock) w c n := h.mono fun b hb hl => ⟨hb, by
      rcases hat with e | e
      · rw [e]; exact hb.2
      · rw [e]; intro x; injection x with x; omega⟩
    exact (h'.stay (stay_grown hg (fun g e x => x.1.2 e.symm))).mono fun b hb _ => ⟨hb.1.1, hb.2⟩
  refine ⟨css ++ [c], by simp [h1], by rw [List.length_append, List.length_singleton, List.flatten_append]; simpa using hr, fun j a b => ?_⟩
  by_cases hj : j < css.length
  · rw [List.getElem_append_left hj, List.getElem_append_left (by omega)]
    exact step (h3 j hj (by omega))
  · have hj2 : j = css.length := by simp at a; omega
    subst hj2
    rw [List.getElem_append_right (Nat.le_refl _), List.getElem_append_right (by omega)]
    simp only [h1, Nat.sub_self, List.getElem_cons_zero]
    exact step hn
/-! ### leaf -/
namespace Gv
end Gv
theorem atts_nil (S : Nat → Prop) (w : World) : AttsAt S w (.slice none 0 0) [] := ⟨none, 0, rfl, Nat.le_refl _, fun j hj => by simp at hj⟩
theorem rows_nil (S : Nat → Prop) (w : World) (cs : Nat → List Value) : RowsAt S w (.slice none 0 0) 0 cs := ⟨none, 0, rfl, fun j hj => by omega⟩
theorem node_plain (S : Nat → Prop) (w : World) (k : Int) (sp nm d : ByteArray) : NodeAt S w [.int .i64 (k : Int), .string sp, .string nm, .slice none 0 0, .slice none 0 0, .string d] (.mk k sp nm [] [] d) :=
  .mk (fun _ => []) ⟨by unfold maxLen; simp, by unfold maxLen; simp⟩ (atts_nil S w) (rows_nil S w _) (fun j hj => by simp at hj)
theorem node_end {F : Func} {R : Ending → World → Prop} {tmps : Array Value} {w : World} {rb i : Nat} {k : Int} {sp nm d : ByteArray} {ao bo : Option Addr} {m1 c1 m2 c2 : Nat} (hres : F.results = #[ResultVar.cell i 25])
    (h2 : tmps[i]? = some (.pointer (some ⟨rb, 0, none⟩))) (hc : Cells w rb 25 (nodeArr k sp nm (.slice ao m1 c1) (.slice bo m2 c2) d))
    (hR : R (.returned (.agg (nodeArr k sp nm (.slice ao m1 c1) (.slice bo m2 c2) d))) w) : bodyPost Tryz.prog F R .ret { tmps := tmps, defers := [] } w := by
  refine ⟨rfl, _, ?_, hR⟩
  have l2 : i < tmps.size := (Array.getElem?_eq_some_iff.1 h2).1
  have g2 : tmps[i] = .pointer (some ⟨rb, 0, none⟩) := (Array.getElem?_eq_some_iff.1 h2).2
  obtain ⟨x0, x1, x2, x3, x4, x5⟩ := node_open hc
  simp [results, hres, go_sem, l2, g2, x0, x1, x2, x3, x4, x5]
  rfl
end Go.Proofs.YtbaclacfadkjdaaGreatDoor
namespace Go.Proofs.YtbaclacfadkjdaaGreatDoor
open Go.RowKit
def kidList (m : Nat) (cs : Nat → List Value) : List (List Value) := (List.range m).map cs
theorem kidList_len (m : Nat) (cs : Nat → List Value) : (kidList m cs).length = m := by simp [kidList]
theorem kidList_at (m : Nat) (cs : Nat → List Value) {j : Nat} (h : j < (kidList m cs).length) : (kidList m cs)[j] = cs j := by simp [kidList]
theorem kidList_six {S : Nat → Prop} {w : World} {v : Value} {m : Nat} {cs : Nat → List Value} (h : RowsAt S w v m cs) : ∀ c ∈ kidList m cs, c.length = 6 := by
  obtain ⟨ao, cap, _, c⟩ := h
  intro x hx
  unfold kidList at hx
  obtain ⟨j, hj, rfl⟩ := List.mem_map.1 hx
  exact (c j (List.mem_range.1 hj)).1
theorem flat_len : ∀ (css : List (List Value)), (∀ c ∈ css, c.length = 6) → css.flatten.length = css.length * 6
  | [], _ => rfl
  | c :: css, h => by
    have := flat_len css (fun x hx => h x (by simp [hx]))
    have h6 := h c (by simp)
    simp only [List.flatten_cons, List.length_append, List.length_cons]
    omega
theorem rows_news {S : Nat → Prop} {w : World} {ad : Addr} {m cap : Nat} {cs : Nat → List Value} (h : RowsAt S w (.slice (some ad) m cap) m cs) :
    (kidList m cs).flatten.length = m * 6 ∧ ∀ j u, (kidList m cs).flatten[j]? = some u → w.cell? (ad.add j) = some u := by
  have h6 := kidList_six h
  have hl : (kidList m cs).flatten.length = m * 6 := by rw [flat_len _ h6, kidList_len]
  refine ⟨hl, fun j u hu => ?_⟩
  have hj : j < (kidList m cs).flatten.length := (List.getElem?_eq_some_iff.1 hu).1
  rw [hl] at hj
  obtain ⟨ao, cap', e0, c⟩ := h
  cases e0
  obtain ⟨_, b, off, e1, _, e3⟩ := c (j / 6) (by omega)
  cases e1
  have a : (⟨b, off, none⟩ : Addr).add j = ⟨b, off + j, none⟩ := by unfold Addr.add; split <;> simp_all
  rw [a]
  have e2 : j = j / 6 * 6 + j % 6 := by omega
  have hjl : j / 6 < (kidList m cs).length := by rw [kidList_len]; omega
  rw [e2, flat_at _ h6 (j / 6) (j % 6) hjl (by omega), kidList_at] at hu
  have := e3 (j % 6) u hu
  rw [← this]
  congr 2
  omega
theorem node_cells_one {S : Nat → Prop} {w : World} {c : List Value} {n : Gv.Node} (h : NodeAt S w c n) : ∀ u ∈ c, u.oneCell' = true := by
  obtain ⟨k, sp, nm, d, as', kids, ao, bo, ca, cb, cs, _, rfl, _⟩ := h.open'
  intro u hu
  simp at hu
  rcases hu with rfl | rfl | rfl | rfl | rfl | rfl <;> rfl
theorem kidList_one {S : Nat → Prop} {w : World} {kids : List Gv.Node} {cs : Nat → List Value} (hk : ∀ j (h : j < kids.length), NodeAt S w (cs j) kids[j]) : ∀ u ∈ (kidList kids.length cs).flatten, u.oneCell' = true := by
  intro u hu
  obtain ⟨c, hc, hu⟩ := List.mem_flatten.1 hu
  unfold kidList at hc
  obtain ⟨j, hj, rfl⟩ := List.mem_map.1 hc
  exact node_cells_one (hk j (List.mem_range.1 hj)) u hu
namespace Gv
end Gv
end Go.Proofs.YtbaclacfadkjdaaGreatDoor
