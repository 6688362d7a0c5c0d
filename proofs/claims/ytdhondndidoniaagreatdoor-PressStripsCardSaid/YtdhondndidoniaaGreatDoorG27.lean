/-
  The program's own Parse of media types.
-/
import Derived.Test.YtdhondndidoniaaGreatDoorG25
import Derived.Test.YtdhondndidoniaaGreatDoorG26
namespace Go.Proofs.YtdhondndidoniaaGreatDoor
open Go.RowKit

/-- A row's block is none of another kind. -/
theorem own_apart {B n sz : Nat} {t : TypeId} {v : Value} {xs : List Value} {w : World} {k : Nat} {o : Obj} (h : w.ownsRow B t sz v n xs) (hk : w.heap[k]? = some o) (hne : ∀ cs fr, o ≠ .cells cs t fr) : v.ownBlock = none ∨ v.ownBlock ≠ some k := by
  obtain ⟨_, ⟨rfl, _⟩ | ⟨g, cap, cur, rfl, hb, hh, _⟩⟩ := h
  · exact .inl rfl
  · right
    simp only [Value.ownBlock, ne_eq, Option.some.injEq]
    rintro rfl
    rw [hk] at hh
    cases hh
    exact hne _ _ rfl
theorem not_own {B n sz : Nat} {t : TypeId} {v : Value} {xs : List Value} {w : World} {k : Nat} {o : Obj} (h : w.ownsRow B t sz v n xs) (hk : w.heap[k]? = some o) (hne : ∀ cs fr, o ≠ .cells cs t fr) : some k ≠ v.ownBlock := by
  rcases own_apart h hk hne with e | e
  · rw [e]; intro e2; cases e2
  · exact fun e2 => e e2.symm
theorem row_set2 {w : World} {B : Nat} {e : TypeId} {size n : Nat} {v : Value} {xs : List Value} (h : w.ownsRow B e size v n xs) {b : Nat} (ha : some b ≠ v.ownBlock) (i : Nat) (u : Value) : (w.setCell ⟨b, i, none⟩ u).ownsRow B e size v n xs :=
  row_set h (a := ⟨b, i, none⟩) ha u

def zero3 : Array Value := #[.string ⟨#[]⟩, .string ⟨#[]⟩, .slice none 0 0]
/-- Parse under way: what is left, the parameters read so far. -/
structure Pr (w : World) (ty sub : ByteArray) (mb : Nat) (t : ByteArray) (acc : List Pair) (v : Value) (wr : World) : Prop where
  text : At (w.heap.size + 1) t wr
  res : Cells wr w.heap.size 120 zero3
  med : Cells wr mb 120 #[.string ty, .string sub, v]
  row : OwnsPairs w.heap.size v acc wr
  low : Below w.heap.size w wr
  hm : w.heap.size + 1 < mb
variable {w wr W : World} {ty sub : ByteArray} {mb : Nat} {t : ByteArray} {acc : List Pair} {v : Value}
theorem Pr.rowM (h : Pr w ty sub mb t acc v wr) : some mb ≠ v.ownBlock := not_own h.row h.med (by intro cs fr e; cases e)
theorem Pr.rowR (h : Pr w ty sub mb t acc v wr) : some w.heap.size ≠ v.ownBlock := not_own h.row h.res (by intro cs fr e; cases e)
theorem Pr.rowT (h : Pr w ty sub mb t acc v wr) : some (w.heap.size + 1) ≠ v.ownBlock := not_own h.row h.text.box (by intro cs fr e; cases e)
theorem Pr.read {t' : ByteArray} (h : Pr w ty sub mb t acc v wr) (hA : At (w.heap.size + 1) t' W) (hg : wr.grownBy W (some (w.heap.size + 1))) : Pr w ty sub mb t' acc v W :=
  ⟨hA, h.res.grown hg (by omega), h.med.grown hg (by have := h.hm; omega), World.ownsRow.kept h.row hg (.inr (Ne.symm h.rowT)), h.low.grown hg h.low.size (fun k e => by cases e; omega), h.hm⟩
theorem Pr.below (h : Pr w ty sub mb t acc v wr) (hb : Below wr.heap.size wr W) : Pr w ty sub mb t acc v W :=
  ⟨h.text.below hb, h.res.on hb, h.med.on hb, pairs_below h.row hb, h.low.trans (hb.mono h.low.size), h.hm⟩
/-- A box of its own beside is written. -/
theorem Pr.side (h : Pr w ty sub mb t acc v wr) {pb : Nat} (h1 : mb < pb) (h2 : some pb ≠ v.ownBlock) (i : Nat) (u : Value) : Pr w ty sub mb t acc v (wr.setCell ⟨pb, i, none⟩ u) :=
  ⟨h.text.other (by have := h.hm; omega) i u, h.res.other i u (by have := h.hm; omega), h.med.other i u (by omega), row_set2 h.row h2 i u, h.low.setCell (p := ⟨pb, i, none⟩) (by have := h.hm; show _ ≤ pb; omega) u, h.hm⟩
/-- A parameter more. -/
theorem Pr.more (h : Pr w ty sub mb t acc v wr) (hg : wr.grownBy W v.ownBlock) {p : Pair} {v' : Value} (hq : OwnsPairs w.heap.size v' (acc ++ [p]) W) : Pr w ty sub mb t (acc ++ [p]) v' (W.setCell ⟨mb, 2, none⟩ v') := by
  have hk : ∀ (k : Nat) (o : Obj), wr.heap[k]? = some o → some k ≠ v.ownBlock → W.heap[k]? = some o := fun k o e hne => (hg.block k (Array.getElem?_eq_some_iff.1 e).1 hne).trans e
  have hmed : Cells W mb 120 #[.string ty, .string sub, v] := hk _ _ h.med h.rowM
  have hne : some mb ≠ v'.ownBlock := not_own hq hmed (by intro cs fr e; cases e)
  have hlow : Below w.heap.size w W := h.low.grown hg h.low.size (fun k e => own_low h.row k e)
  exact ⟨At.other ⟨hk _ _ h.text.box h.rowT, h.text.small⟩ (by have := h.hm; omega) 2 v', Cells.other (hk _ _ h.res h.rowR) 2 v' (by have := h.hm; omega), hmed.set 2 v', row_set2 hq hne 2 v', hlow.setCell (p := ⟨mb, 2, none⟩) (by have := h.hm; show _ ≤ mb; omega) v', h.hm⟩
theorem Pr.row_lt (h : Pr w ty sub mb t acc v wr) : ∀ k, some k = v.ownBlock → k < wr.heap.size := fun k e => (World.ownsRow.lt h.row k e.symm).2
/-- The result is written. -/
theorem Pr.done (h : Pr w ty sub mb t acc v wr) (x y z : Value) : Cells (((wr.setCell ⟨w.heap.size, 0, none⟩ x).setCell ⟨w.heap.size, 1, none⟩ y).setCell ⟨w.heap.size, 2, none⟩ z) w.heap.size 120 #[x, y, z] ∧
    OwnsPairs w.heap.size v acc (((wr.setCell ⟨w.heap.size, 0, none⟩ x).setCell ⟨w.heap.size, 1, none⟩ y).setCell ⟨w.heap.size, 2, none⟩ z) ∧
    Below w.heap.size w (((wr.setCell ⟨w.heap.size, 0, none⟩ x).setCell ⟨w.heap.size, 1, none⟩ y).setCell ⟨w.heap.size, 2, none⟩ z) :=
  ⟨((h.res.set 0 x).set 1 y).set 2 z, row_set2 (row_set2 (row_set2 h.row h.rowR 0 x) h.rowR 1 y) h.rowR 2 z, ((h.low.setCell (p := ⟨w.heap.size, 0, none⟩) (Nat.le_refl _) x).setCell (p := ⟨w.heap.size, 1, none⟩) (Nat.le_refl _) y).setCell (p := ⟨w.heap.size, 2, none⟩) (Nat.le_refl _) z⟩
/-- How far it is to the end. -/
def prMeas (b : Nat) (v : Value) (w : World) : Nat := match v with | .bool true => boxLen b w + 1 | _ => 0

theorem pR_size {s : ByteArray} (h : pOk s = true) : (pR s).size < s.size := by
  have h59 : hdB 59 s = true := by unfold pOk at h; simp at h; exact h.1.1.1
  have e := hdR_list h59
  have h1 := hdB_iff.1 h59
  have hl : (hdR 59 s).size < s.size := by
    rw [← list_len, e, List.length_drop, list_len]
    have : s.data.toList ≠ [] := by intro e2; rw [e2] at h1; cases h1
    have := List.length_pos_iff.2 this
    rw [list_len] at this
    omega
  have a1 : (pT1 s).size ≤ (hdR 59 s).size := skA_size _
  have a2 : (pT2 s).size ≤ (pT1 s).size := tkB_size _
  have a3 : (pT3 s).size ≤ (pT2 s).size := hdR_size _ _
  have hv : vaC (pT3 s) = true := by unfold pOk at h; simp at h; exact h.2
  cases hval : Md.value (pT3 s).data.toList with
  | none => rw [va_none hval] at hv; cases hv
  | some x =>
    obtain ⟨y, r⟩ := x
    obtain ⟨_, e2, _⟩ := va_some hval
    have := Md.value_length hval
    have : (pR s).size = r.length := by unfold pR; rw [e2, ← list_len, mk_list]
    rw [list_len] at *
    omega

theorem Md.skip_skip (l : List UInt8) : Md.skip (Md.skip l) = Md.skip l := by
  induction l with
  | nil => rfl
  | cons b t ih =>
    cases hb : Md.blankB b with
    | true => rw [Md.skip_one _ _ hb, ih]
    | false => rw [Md.skip_stop _ _ hb, Md.skip_stop _ _ hb]
theorem Md.pg_skip (acc : List Pair) (s : List UInt8) : Md.paramsG acc (Md.skip s) = Md.paramsG acc s := by
  have e := Md.skip_skip s
  by_cases h : Md.skip s = []
  · rw [Md.pg_end h, Md.pg_end (by rw [e]; exact h)]
  by_cases h1 : (Md.skip s).head? = some 59
  · by_cases h2 : Md.tok (Md.skip ((Md.skip s).drop 1)) = []
    · rw [Md.pg_name h h1 h2, Md.pg_name (by rw [e]; exact h) (by rw [e]; exact h1) (by rw [e]; exact h2)]
    · by_cases h3 : (Md.tokR (Md.skip ((Md.skip s).drop 1))).head? = some 61
      · cases h4 : Md.value ((Md.tokR (Md.skip ((Md.skip s).drop 1))).drop 1) with
        | none => rw [Md.pg_value h h1 h2 h3 h4, Md.pg_value (by rw [e]; exact h) (by rw [e]; exact h1) (by rw [e]; exact h2) (by rw [e]; exact h3) (by rw [e]; exact h4)]
        | some x =>
          obtain ⟨v, r⟩ := x
          rw [Md.pg_step h h1 h2 h3 h4, Md.pg_step (s := Md.skip s) (by rw [e]; exact h) (by rw [e]; exact h1) (by rw [e]; exact h2) (by rw [e]; exact h3) (by rw [e]; exact h4), e]
      · rw [Md.pg_sign h h1 h2 h3, Md.pg_sign (by rw [e]; exact h) (by rw [e]; exact h1) (by rw [e]; exact h2) (by rw [e]; exact h3)]
  · rw [Md.pg_semi h h1, Md.pg_semi (by rw [e]; exact h) (by rw [e]; exact h1)]

set_option maxRecDepth 100000 in
set_option maxHeartbeats 12800000 in
theorem mParse_any (s : ByteArray) (w : World) (hs : s.size ≤ 100000) (_ : Env w) :
    Calls Tryz.prog 148 #[.string s] w fun e w' => ∃ v, e = .returned (.tuple #[.agg #[.string (mpM s).ty, .string (mpM s).sub, v], .int .i64 (mpE s)]) ∧ OwnsPairs w.heap.size v (mpM s).params w' ∧ Below w.heap.size w w' := by
  obtain ⟨i0, hi, hz0, hz1, hz2⟩ := info_parts infoPair
  obtain ⟨ks1, ks2⟩ := kind_step (s := s)
  replace ks1 := Lib.hid ks1
  replace ks2 := Lib.hid ks2
  have hkz : Hid ((kR s).size ≤ s.size) := Lib.hid (by
    have a1 : (kT1 s).size ≤ s.size := skA_size _
    have a2 : (kT2 s).size ≤ (kT1 s).size := tkB_size _
    have a3 : (kT3 s).size ≤ (kT2 s).size := hdR_size _ _
    have a4 : (kR s).size ≤ (kT3 s).size := tkB_size _
    omega)
  have hnone : Hid (Md.parse s.data.toList = none → mpM s = Md.none' ∧ mpE s = 130) := Lib.hid mp_none
  have hsome : Hid (∀ m, Md.parse s.data.toList = some m → mpM s = m ∧ mpE s = 0) := Lib.hid (fun m => mp_some)
  generalize mpM s = M at *
  generalize mpE s = E at *
  have A0 : At (w.heap.size + 1) s ((w.alloc (.cells #[.string ⟨#[]⟩, .string ⟨#[]⟩, .slice none 0 0] 120)).alloc (.cells #[.string s] 174)) := by
    have := Cells.new (w.alloc (.cells #[.string ⟨#[]⟩, .string ⟨#[]⟩, .slice none 0 0] 120)) 174 #[.string s]
    rw [World.size_alloc] at this
    exact ⟨this, hs⟩
  have R0 : Cells ((w.alloc (.cells #[.string ⟨#[]⟩, .string ⟨#[]⟩, .slice none 0 0] 120)).alloc (.cells #[.string s] 174)) w.heap.size 120 zero3 := (Cells.new w _ _).alloc _
  have B0 : Below w.heap.size w ((w.alloc (.cells #[.string ⟨#[]⟩, .string ⟨#[]⟩, .slice none 0 0] 120)).alloc (.cells #[.string s] 174)) := ((Below.refl _ _).alloc (Nat.le_refl _) _).alloc (by rw [World.size_alloc]; omega) _
  have S0 : ((w.alloc (.cells #[.string ⟨#[]⟩, .string ⟨#[]⟩, .slice none 0 0] 120)).alloc (.cells #[.string s] 174)).heap.size = w.heap.size + 2 := by rw [World.size_alloc, World.size_alloc]
  replace A0 := Lib.hid A0
  replace R0 := Lib.hid R0
  replace B0 := Lib.hid B0
  replace S0 := Lib.hid S0
  go_enter Tryz.func148, Tryz.ntmps148
  go_upto_region 2 with fail
  generalize ((w.alloc (.cells #[.string ⟨#[]⟩, .string ⟨#[]⟩, .slice none 0 0] 120)).alloc (.cells #[.string s] 174)) = w0 at *
  have hkd := Lib.hid (kind_any (w.heap.size + 1) s w0 A0.out)
  go_wp2_with fail
  (with_reducible refine (hkd.out).mono ?_); rintro e w1 ⟨rfl, hA1, hg1⟩
  clear hkd
  generalize kA s = ty at *
  generalize kS s = sub at *
  generalize kOk s = ok at *
  generalize kR s = t0 at *
  have hsz1 := hg1.size
  have P1 : Pr w ty sub w1.heap.size t0 [] (.slice none 0 0) (w1.alloc (.cells #[.string ty, .string sub, .slice none 0 0] 120)) :=
    ⟨hA1.below ((Below.refl _ _).alloc (Nat.le_refl _) _), (R0.out.grown hg1 (by omega)).alloc _, Cells.new _ _ _, pairs_nil _ _, (B0.out.grown hg1 B0.out.size (fun k e => by cases e; omega)).alloc (by have := B0.out.size; omega) _, by have := S0.out; omega⟩
  replace P1 := Lib.hid P1
  clear hA1 hg1 A0 R0 B0
  go_upto_region 3 with fail
  generalize w1.alloc (.cells #[.string ty, .string sub, .slice none 0 0] 120) = w2 at *
  have hsp := Lib.hid (space_any (w.heap.size + 1) t0 w2 P1.out.text)
  go_wp2_with fail
  (with_reducible refine (hsp.out).mono ?_); rintro e w3 ⟨rfl, hA3, hg3⟩
  have P3 := Lib.hid (P1.out.read hA3 hg3)
  clear hsp P1 hA3 hg3
  have hst1 : Hid (ok = true → Md.skip (skA t0).data.toList = (skA t0).data.toList ∧ ([] : List Pair).length + (skA t0).size ≤ s.size ∧ Md.parse s.data.toList = (Md.paramsG [] (skA t0).data.toList).map (fun ps => ⟨ty, sub, ps⟩)) := Lib.hid (fun e => ⟨by rw [skA_list, Md.skip_skip], by have := skA_size t0; have := hkz.out; simp; omega, by rw [skA_list, Md.pg_skip]; exact ks1.out e⟩)
  clear ks1
  go_wp2_with fail
  go_loopw [6, 7] (fun v6 _ wr => ∃ (is : Bool) (t : ByteArray) (acc : List Pair) (v : Value), v6 = .bool is ∧ Hid (Pr w ty sub w1.heap.size t acc v wr) ∧ Hid (is = true → Md.skip t.data.toList = t.data.toList ∧ acc.length + t.size ≤ s.size ∧ Md.parse s.data.toList = (Md.paramsG acc t.data.toList).map (fun ps => ⟨ty, sub, ps⟩)) ∧ Hid (is = false → Md.parse s.data.toList = none)) (fun v6 _ wr => prMeas (w.heap.size + 1) v6 wr)
  case atStart => exact ⟨ok, skA t0, [], _, rfl, P3, hst1, ks2⟩
  case round =>
    obtain ⟨is, t, acc, v, rfl, hP, hY, hN⟩ := hrel
    obtain ⟨ao, cap, rfl, _⟩ := pairs_of_owns hP.out.row
    cases is
    case false =>
      obtain ⟨r1, r2⟩ := hnone.out (hN.out rfl)
      subst r1; subst r2
      have c0 := hP.out.res.cell (i := 0) rfl
      have c1 := hP.out.res.cell (i := 1) rfl
      have c2 := hP.out.res.cell (i := 2) rfl
      have f0 := hP.out.res.free 0
      have f1 := hP.out.res.free 1
      have f2 := hP.out.res.free 2
      have D := Lib.hid (hP.out.done (.string ⟨#[]⟩) (.string ⟨#[]⟩) (.slice none 0 0))
      clear hnone hsome hY hN
      go_wp2_with fail
      exact media_end (k := w.heap.size) rfl rfl rfl D.out.1 ⟨_, rfl, pairs_nil _ _, D.out.2.2⟩
    case true =>
      obtain ⟨y1, y2, y3⟩ := hY.out rfl
      by_cases h0 : t.size = 0
      · obtain ⟨r1, r2⟩ := hsome.out ⟨ty, sub, acc⟩ (by rw [y3, Md.pg_end (by rw [y1]; exact nil_of_size h0)]; rfl)
        subst r1; subst r2
        obtain rfl : t = ByteArray.empty := ByteArray.size_eq_zero_iff.1 h0
        have he3 : (ByteArray.empty.toList == []) = true := by rw [ByteArray.toList_eq]; rfl
        have he4 : (ByteArray.empty.toList != []) = false := by rw [ByteArray.toList_eq]; rfl
        have he2 : ByteArray.empty.toList = [] := by rw [ByteArray.toList_eq]; rfl
        have tx := hP.out.text.cell
        have c0 := hP.out.res.cell (i := 0) rfl
        have c1 := hP.out.res.cell (i := 1) rfl
        have c2 := hP.out.res.cell (i := 2) rfl
        have f0 := hP.out.res.free 0
        have f1 := hP.out.res.free 1
        have f2 := hP.out.res.free 2
        have m0 := hP.out.med.cell (i := 0) rfl
        have m1 := hP.out.med.cell (i := 1) rfl
        have m2 := hP.out.med.cell (i := 2) rfl
        have D := Lib.hid (hP.out.done (.string ty) (.string sub) (.slice ao acc.length cap))
        clear hnone hsome hY hN y1 y2 y3
        go_wp2_with fail
        exact media_end (k := w.heap.size) rfl rfl rfl D.out.1 ⟨_, rfl, D.out.2.1, D.out.2.2⟩
      · have hp : 0 < t.size := by omega
        have hne3 : ¬ t.toList = [] := by
          rw [ByteArray.toList_eq]
          exact lst_ne hp
        have hne2 : (t.toList == []) = false := by
          rw [beq_eq_false_iff_ne]; exact hne3
        have hne4 : (t.toList != []) = true := by rw [bne, hne2]; rfl
        obtain ⟨st1, st2⟩ := par_step (acc := acc) y1 (not_nil hp)
        have hst1 : Hid (pOk t = true → Md.parse s.data.toList = (Md.paramsG (acc ++ [⟨pN t, pV t⟩]) (pR t).data.toList).map (fun ps => ⟨ty, sub, ps⟩)) := Lib.hid (fun e => by rw [y3, st1 e])
        have hst2 : Hid (pOk t = false → Md.parse s.data.toList = none) := Lib.hid (fun e => by rw [y3, st2 e]; rfl)
        have hpr := Lib.hid (fun e => @pR_size t e)
        have hacc : acc.length ≤ 100000 := by omega
        replace y2 := Lib.hid y2
        have hml := Lib.hid (show prMeas (w.heap.size + 1) (.bool true) wr = t.size + 1 by unfold prMeas; rw [boxLen_at hP.out.text])
        have tx := hP.out.text.cell
        clear y1 y3 st1 st2 hY hN
        go_upto_region 7 with fail
        clear tx
        have P4 := Lib.hid (hP.out.below ((Below.refl _ _).alloc (Nat.le_refl _) (.cells #[.string ⟨#[]⟩, .string ⟨#[]⟩] 172)))
        have Q4 := Lib.hid (Cells.new wr 172 #[.string ⟨#[]⟩, .string ⟨#[]⟩])
        have hrl := Lib.hid hP.out.row_lt
        have hlm := Lib.hid hP.out.med.lt
        generalize wr.alloc (.cells #[.string ⟨#[]⟩, .string ⟨#[]⟩] 172) = w4 at *
        have hpa := Lib.hid (prm_any (w.heap.size + 1) t w4 P4.out.text)
        clear hne2 hne3 hne4
        go_wp2_with fail
        (with_reducible refine (hpa.out).mono ?_); rintro e w5 ⟨rfl, ⟨t', hA5, ht5, hR5⟩, hg5⟩
        clear hpa
        generalize pN t = NN at *
        generalize pV t = VV at *
        generalize pOk t = OK at *
        have hne : some wr.heap.size ≠ (Value.slice ao acc.length cap).ownBlock := fun e => absurd (hrl.out _ e) (Nat.lt_irrefl _)
        have hbt : wr.heap.size ≠ w.heap.size + 1 := by have := hP.out.text.lt; omega
        have P5 := P4.out.read hA5 hg5
        have Q5 := Q4.out.grown hg5 hbt
        have P6 := Lib.hid ((P5.side hlm.out hne 0 (.string NN)).side hlm.out hne 1 (.string VV))
        have Q6 := Lib.hid ((Q5.set 0 (.string NN)).set 1 (.string VV))
        have q0 := Q5.cell (i := 0) rfl
        have q1 := Q5.cell (i := 1) rfl
        have g0 := Q5.free 0
        have g1 := Q5.free 1
        replace ht5 := Lib.hid ht5
        replace hR5 := Lib.hid hR5
        clear P4 Q4 hA5 hg5 hne P5 Q5 hP hbt hrl
        go_upto_region 8 with fail
        clear q0 q1 g0 g1
        generalize (w5.setCell ⟨wr.heap.size, 0, none⟩ (.string NN)).setCell ⟨wr.heap.size, 1, none⟩ (.string VV) = w6 at *
        have q0 := Q6.out.cell (i := 0) rfl
        have q1 := Q6.out.cell (i := 1) rfl
        have m2 := P6.out.med.cell (i := 2) rfl
        have o6 := P6.out.row
        have x6 := P6.out.low.size
        go_wp2_with (at_builtin; refine wpList_append_own_at _ rfl _ _ 118 rfl w.heap.size 172 i0 _ 2 32 Tryz.underlying118 hi hz0 hz1 hz2 rfl (by decide) _ _ _ rfl (pairs_alloc o6 _) ⟨w6.heap.size, 0, none⟩ 1 1 [.string NN, .string VV] rfl rfl (cells_two _ _ _ _) (fun u hu => by simp at hu; rcases hu with rfl | rfl <;> rfl) (by unfold maxLen; omega) (by omega) (by simp; omega) ?_)
        intro v7 w7 hown7 hg7 _ hat
        have hga := (World.grownBy_alloc w6 _ _).trans hg7
        have q7 : OwnsPairs w.heap.size v7 (acc ++ [⟨NN, VV⟩]) w7 := by unfold OwnsPairs; simpa [pairCells] using hown7
        have P8 := Lib.hid (P6.out.more hga q7)
        obtain ⟨ao7, cap7, hv7, _⟩ := pairs_of_owns q7
        rw [List.length_append, List.length_singleton] at hv7
        subst hv7
        have hm7 : Cells w7 w1.heap.size 120 #[.string ty, .string sub, .slice ao acc.length cap] := (hga.block _ P6.out.med.lt P6.out.rowM).trans P6.out.med
        have n2 := hm7.cell (i := 2) rfl
        have e2 := hm7.free 2
        clear hown7 hat hg7 hga q7 o6 P6 Q6 q0 q1 m2 hm7
        have hsp := Lib.hid (space_any (w.heap.size + 1) t' _ P8.out.text)
        go_wp2_with fail
        (with_reducible refine (hsp.out).mono ?_); rintro e w9 ⟨rfl, hA9, hg9⟩
        have P9 := Lib.hid (P8.out.read hA9 hg9)
        have hsk := Lib.hid (skA_size t')
        have hskip : Hid (Md.skip (skA t').data.toList = (skA t').data.toList) := Lib.hid (by rw [skA_list, Md.skip_skip])
        have hpg := Lib.hid (fun l => (Md.pg_skip l t'.data.toList).symm.trans (by rw [← skA_list]))
        have hm9 := Lib.hid (boxLen_at P9.out.text)
        clear hsp P8 hA9 hg9 n2 e2
        generalize skA t' = t9 at *
        go_wp2_with fail
        go_roundw
        case rel =>
          refine ⟨OK, t9, acc ++ [⟨NN, VV⟩], _, rfl, P9, Lib.hid (fun e => ⟨hskip.out, ?_, ?_⟩), hst2⟩
          · have a1 := hR5.out e
            have a2 := hpr.out e
            have a3 := hsk.out
            have a4 := y2.out
            rw [List.length_append, List.length_singleton]
            subst a1
            omega
          · rw [hst1.out e, ← hR5.out e, hpg.out]
        case measure =>
          rw [hml.out]
          cases OK with
          | false => exact Nat.succ_pos _
          | true =>
            have a1 := hR5.out rfl
            have a2 := hpr.out rfl
            have a3 := hsk.out
            subst a1
            show boxLen (w.heap.size + 1) w9 + 1 < t.size + 1
            rw [hm9.out]
            omega
end Go.Proofs.YtdhondndidoniaaGreatDoor
