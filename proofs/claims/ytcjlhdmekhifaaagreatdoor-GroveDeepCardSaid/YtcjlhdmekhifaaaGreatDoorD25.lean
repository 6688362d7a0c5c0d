/-
  What the parser's own words come to: startTag.
-/
import Derived.Test.YtcjlhdmekhifaaaGreatDoorD22
import Derived.Test.YtcjlhdmekhifaaaGreatDoorD24
namespace Go.Proofs.YtcjlhdmekhifaaaGreatDoor
open Go.RowKit

theorem infoEl : (Tryz.prog.info? 71).map (fun i => (i.zero, i.size, i.bytes)) = some (some (.agg #[.string ByteArray.empty, .slice none 0 0, .int .i64 0, .string ByteArray.empty, .string ByteArray.empty, .slice none 0 0, .slice none 0 0, .string ByteArray.empty]), 8, 144) := by kernel_rfl
/-- What is told of a step. -/
def StepTold (pb : Nat) (st : Gv.St) (t : T.Tok) (w : World) (x : Ending) (w' : World) : Prop := Below pb w w' ∧
  match Gv.step st t with
  | .error e => x = .returned (.int .i64 (e : Int))
  | .ok st' => x = .returned (.int .i64 0) ∧ PSs pb st' w'
theorem stepTold_err {pb : Nat} {st : Gv.St} {t : T.Tok} {w w' : World} {e : Nat} {k : Int} (h : Gv.step st t = .error e) (hk : k = (e : Int)) (hb : Below pb w w') : StepTold pb st t w (.returned (.int .i64 k)) w' := by
  refine ⟨hb, ?_⟩
  rw [h, hk]
theorem stepTold_ok {pb : Nat} {st st' : Gv.St} {t : T.Tok} {w w' : World} (h : Gv.step st t = .ok st') (hb : Below pb w w') (hp : PSs pb st' w') : StepTold pb st t w (.returned (.int .i64 0)) w' := by
  refine ⟨hb, ?_⟩
  rw [h]
  exact ⟨rfl, hp⟩
namespace Gv
theorem step_start {s : List Open} {t : T.Tok} (ht : t.kind = 0) : step ⟨s, none⟩ t = opened ⟨s, none⟩ t := by
  unfold step
  cases s with
  | nil =>
    simp only
    rw [if_neg (by rw [ht]; simp), if_neg (by rw [ht]; simp), if_neg (by rw [ht]; simp), if_pos ht]
  | cons o os =>
    simp only
    rw [if_neg (by rw [ht]; simp), if_pos ht]
theorem start_two {n : Node} {t : T.Tok} (ht : t.kind = 0) : step ⟨[], some n⟩ t = .error 90 := by
  unfold step
  simp only
  rw [if_neg (by rw [ht]; simp), if_pos (.inr ⟨ht, rfl⟩)]
theorem start_deep {s : List Open} {t : T.Tok} (ht : t.kind = 0) (h : 30 ≤ s.length) : step ⟨s, none⟩ t = .error 2 := by
  rw [step_start ht]; unfold opened; simp only; rw [if_pos (by omega)]
theorem start_wide {s : List Open} {t : T.Tok} (ht : t.kind = 0) (h : ¬ 30 ≤ s.length) (ha : 50 < t.attrs.length) : step ⟨s, none⟩ t = .error 2 := by
  rw [step_start ht]; unfold opened; simp only; rw [if_neg (by omega), el_long ha]
theorem start_bad {s : List Open} {t : T.Tok} {e : Nat} (ht : t.kind = 0) (h : ¬ 30 ≤ s.length) (he : element t (scopeOf s) = .error e) : step ⟨s, none⟩ t = .error e := by
  rw [step_start ht]; unfold opened; simp only; rw [if_neg (by omega), he]
theorem start_in {s : List Open} {t : T.Tok} {sp nm : ByteArray} {l : List Att} {sc : List Pair} (ht : t.kind = 0) (h : ¬ 30 ≤ s.length) (he : element t (scopeOf s) = .ok ((sp, nm, l), sc)) (ha : t.alone = false) : step ⟨s, none⟩ t = .ok ⟨⟨t.name, sp, nm, l, [], sc⟩ :: s, none⟩ := by
  rw [step_start ht]; unfold opened; simp only; rw [if_neg (by omega), he]; simp only; rw [if_neg (by rw [ha]; simp)]
theorem start_alone {s : List Open} {t : T.Tok} {sp nm : ByteArray} {l : List Att} {sc : List Pair} (ht : t.kind = 0) (h : ¬ 30 ≤ s.length) (he : element t (scopeOf s) = .ok ((sp, nm, l), sc)) (ha : t.alone = true) : step ⟨s, none⟩ t = .ok (ended s none (Open.node ⟨t.name, sp, nm, l, [], sc⟩)) := by
  rw [step_start ht]; unfold opened; simp only; rw [if_neg (by omega), he]; simp only; rw [if_pos ha]; rfl
end Gv
theorem own_ne {B n sz k : Nat} {t : TypeId} {v : Value} {xs : List Value} {w : World} (h : w.ownsRow B t sz v n xs) (hk : k < B) : v.ownBlock ≠ some k := fun e => by
  have := (World.ownsRow.lt h k e).1
  omega
theorem own_ne2 {B n sz k : Nat} {t t2 : TypeId} {v : Value} {xs : List Value} {w : World} {c : Array Value} (h : w.ownsRow B t sz v n xs) (hk : Cells w k t2 c) (hne : t2 ≠ t) : v.ownBlock ≠ some k := fun e => by
  rcases st_apart h hk hne with x | x
  · rw [x] at e; cases e
  · exact x e
theorem below_quiet (w : World) (n : Nat) : Below w.heap.size w (w.drewN n) := Cells.below_drewN (Below.refl _ _) n
theorem Gv.element_err0 {t : T.Tok} {scope : List Pair} {e : Nat} (h : Gv.element t scope = .error e) : e ≠ 0 := by
  unfold Gv.element at h
  split at h
  · cases h; omega
  · split at h
    · cases h; omega
    · split at h
      · cases h; omega
      · split at h
        · rename_i h2
          cases h
          exact Gv.attrsGo_err0 _ _ h2
        · cases h
theorem el_one (tag sp nm : ByteArray) (ao bo co : Option Addr) (m1 c1 m2 c2 m3 c3 : Nat) : ∀ u ∈ [Value.string tag, .slice ao m1 c1, .int .i64 0, .string sp, .string nm, .slice bo m2 c2, .slice co m3 c3, .string ⟨#[]⟩], u.oneCell' = true := by
  intro u hu
  simp at hu
  rcases hu with rfl | rfl | rfl | rfl | rfl | rfl | rfl | rfl <;> rfl
theorem el_new (w : World) (l : List Value) (t : TypeId) : ∀ j u, l[j]? = some u → ((w.alloc (.cells l.toArray t)).drew).cell? ((⟨w.heap.size, 0, none⟩ : Addr).add j) = some u := by
  intro j u hu
  rw [add_at, Nat.zero_add]
  exact (Cells.new w t l.toArray).cell (by simpa using hu)
theorem size_new {lo : Nat} (w : World) (o : Obj) (h : lo ≤ w.heap.size) : lo ≤ (w.alloc o).drew.heap.size := by
  show lo ≤ (w.alloc _).heap.size
  rw [World.size_alloc]; omega
theorem PSt.shape {pb : Nat} {es : List El} {sv : Value} {k : Int} {sp nm d : ByteArray} {va vk : Value} {root : Option Gv.Node} {w : World} (h : PSt pb es sv k sp nm d va vk root w) : ∃ so scap, sv = .slice so es.length scap ∧ es.length ≤ scap ∧ (so = none ∧ scap = 0 ∨ ∃ g, so = some ⟨g, 0, none⟩) := by
  rcases h.row.2 with ⟨rfl, e⟩ | ⟨g, cap, _, rfl, _, _, hc, _⟩
  · exact ⟨none, 0, by rw [e], by omega, .inl ⟨rfl, rfl⟩⟩
  · exact ⟨_, cap, rfl, hc, .inr ⟨g, rfl⟩⟩

set_option maxRecDepth 100000 in
set_option maxHeartbeats 12800000 in
theorem startTag_any {pb m : Nat} {st : Gv.St} (t : T.Tok) (tv : Value) (w : World) (h : PSs pb st w) (hF : Gv.Fine m st) (hm : m ≤ 200000) (ht : t.kind = 0) (hat : AttrsAt w tv t.attrs) (hft : T.Fit 100000 t) (hE : Env w) :
    Calls Tryz.prog 18 #[.pointer (some ⟨pb, 0, none⟩), .agg (tokCells t tv).toArray] w (StepTold pb st t w) := by
  obtain ⟨s, root⟩ := st
  obtain ⟨es, sv, k, sp, nm, d, va, vk, h, hes⟩ := h
  dsimp only at h hes
  subst hes
  have hkls : Hid (∀ x ∈ es.map El.o, x.kids.length ≤ 1000000) := Lib.hid (fun x hx => by have := (hF.kids x hx).1; omega)
  have hdeep : es.length ≤ 30 := by have := hF.deep; simpa using this
  have hscl := Gv.scoped_head hF.wide
  rw [List.length_map] at hscl
  obtain ⟨so, scap, rfl, hscap, hso⟩ := h.shape
  obtain ⟨tao, tc, rfl, htp⟩ := hat
  have hf1 : t.name.length ≤ 1000000 := by have := hft.1; omega
  have hf2 : ∀ a ∈ t.attrs.map mpair, a.name.size ≤ 1000000 := fun a ha => by
    obtain ⟨p, hp, rfl⟩ := List.mem_map.1 ha
    have := (hft.2.2 p hp).1
    have h2 : (mpair p).name.size = p.1.length := by simp [mpair, ByteArray.size]
    omega
  have e2 := fun e hd he => Lib.hid (Gv.start_bad (s := es.map El.o) (e := e) ht hd he)
  have e3 := fun sp nm l sc hd he ha => Lib.hid (Gv.start_in (s := es.map El.o) (sp := sp) (nm := nm) (l := l) (sc := sc) ht hd he ha)
  have e4 := fun sp nm l sc hd he ha => Lib.hid (Gv.start_alone (s := es.map El.o) (sp := sp) (nm := nm) (l := l) (sc := sc) ht hd he ha)
  have e0 := fun hd => Lib.hid (Gv.start_deep (s := es.map El.o) ht hd)
  have e1 := fun hd ha => Lib.hid (Gv.start_wide (s := es.map El.o) ht hd ha)
  have e9 := fun n => Lib.hid (Gv.start_two (n := n) ht)
  simp only [List.length_map] at e0 e1 e2 e3 e4
  have hpl : pb < w.heap.size := h.box.lt
  clear hF
  replace ht := Lib.hid ht
  unfold tokCells
  have bA := (Below.refl w.heap.size w).alloc (Nat.le_refl _) (.cells #[.int .i64 (t.kind : Int), .string ⟨t.name.toArray⟩, .slice tao t.attrs.length tc, .bool t.alone, .string ⟨t.data.toArray⟩] 41)
  have kT := Cells.new w 41 #[.int .i64 (t.kind : Int), .string ⟨t.name.toArray⟩, .slice tao t.attrs.length tc, .bool t.alone, .string ⟨t.data.toArray⟩]
  have h1 := h.on bA
  have htp1 : AttrsAt _ (.slice tao t.attrs.length tc) t.attrs := ⟨tao, tc, rfl, htp.below bA⟩
  have hE1 := hE.on bA
  generalize hL : es.length = L at *
  replace hL := Lib.hid hL
  have p0 := h1.box.cell (i := 0) (v := .slice so L scap) rfl
  have p7 := h1.box.cell (i := 7) (v := .bool root.isSome) rfl
  have hT := Lib.hid (rfl : (⟨t.kind, t.name, t.attrs, t.alone, t.data⟩ : T.Tok) = t)
  clear h hE htp
  go_enter Tryz.func18, Tryz.ntmps18
  go_wp2_with fail
  by_cases hnil : es = []
  case' pos =>
    have hL0 : L = 0 := by rw [← hL.out, hnil]; rfl
    (with_reducible refine (top_nil _ (show _ = some (Value.slice so 0 scap) by rw [hL0] at p0; exact p0)).mono ?_); rintro x w2 ⟨rfl, rfl⟩
    have hso2 : ScopeAt (pb + 1) (.slice none 0 0) (Gv.scopeOf (es.map El.o)) (w.alloc (.cells #[.int .i64 (t.kind : Int), .string ⟨t.name.toArray⟩, .slice tao t.attrs.length tc, .bool t.alone, .string ⟨t.data.toArray⟩] 41)) := by rw [hnil]; exact scope_nil _ _
    have hon : Hid ((Gv.scopeOf (es.map El.o)).length = 0) := Lib.hid (by rw [hnil]; rfl)
    have hon2 : 0 ≤ 10000 := by omega
    cases root with
    | some n =>
      have h9 : Hid (Gv.step ⟨es.map El.o, some n⟩ t = .error 90) := Lib.hid (by rw [hnil]; exact (e9 n).out)
      have b9 := bA.mono (show pb ≤ w.heap.size by omega)
      clear e0 e1 e2 e3 e4 e9 h1 kT hso2
      go_wp2_with fail
      go_ret
      exact stepTold_err h9.out rfl b9
    | none => ?_
    have hb0 := Lib.hid bA
    clear e9 bA hL0 hnil
    generalize hW : w.alloc (.cells #[.int .i64 (t.kind : Int), .string ⟨t.name.toArray⟩, .slice tao t.attrs.length tc, .bool t.alone, .string ⟨t.data.toArray⟩] 41) = W at *
    clear hW
    go_upto_region 7 with fail
  case' neg =>
    obtain ⟨q, e, es2, hq⟩ : ∃ q e es2, es = e :: es2 ∧ L = q + 1 ∧ q = es2.length := by
      cases es with
      | nil => exact absurd rfl hnil
      | cons e es2 => exact ⟨es2.length, e, es2, rfl, hL.out.symm, rfl⟩
    obtain ⟨hq1, hq2, hq3⟩ := hq
    obtain rfl : root = none := h1.alone hnil
    obtain ⟨g, rfl⟩ : ∃ g, so = some ⟨g, 0, none⟩ := by
      rcases hso with ⟨_, e⟩ | ⟨g, e⟩
      · omega
      · exact ⟨g, e⟩
    have hq4 : q ≤ 100 := by omega
    have htop := fun w2 (hh : PSt pb es (.slice (some ⟨g, 0, none⟩) L scap) k sp nm d va vk none w2) => (show PSt pb (e :: es2) (.slice (some ⟨g, 0, none⟩) L scap) k sp nm d va vk none w2 by rw [← hq1]; exact hh)
    have z1 := (htop _ h1).top 1 e.vs rfl
    rw [← hq3] at z1
    have hsE := (htop _ h1).stk.1.scope
    obtain ⟨oo, ocap, hvs, _⟩ := hsE.at'
    have hsceq : Gv.scopeOf (es.map El.o) = e.o.scope := by rw [hq1]; rfl
    have hso2 := hsE
    rw [← hsceq] at hso2
    rw [← hsceq] at hvs
    rw [hvs] at z1 hso2
    obtain ⟨on, hon⟩ : ∃ on, (Gv.scopeOf (es.map El.o)).length = on := ⟨_, rfl⟩
    rw [hon] at z1 hso2 hvs hscl
    have hon2 : on ≤ 10000 := by omega
    replace hon := Lib.hid hon
    replace hq1 := Lib.hid hq1
    replace hq2 := Lib.hid hq2
    replace hq3 := Lib.hid hq3
    replace hvs := Lib.hid hvs
    replace hsceq := Lib.hid hsceq
    clear hsE
    (with_reducible refine (top_cons _ (show _ = some (Value.slice (some ⟨g, 0, none⟩) (q + 1) scap) by rw [hq2.out] at p0; exact p0) hq4).mono ?_); rintro x w2 ⟨rfl, nq, rfl⟩
    have bq := below_quiet (w.alloc (.cells #[.int .i64 (t.kind : Int), .string ⟨t.name.toArray⟩, .slice tao t.attrs.length tc, .bool t.alone, .string ⟨t.data.toArray⟩] 41)) nq
    have hb0 := Lib.hid (Cells.below_drewN bA nq)
    replace h1 := h1.on bq
    replace kT := kT.drewN nq
    replace htp1 := htp1.below bq
    replace hE1 := hE1.on bq
    replace hso2 := hso2.on bq
    have z1 : ((w.alloc (.cells #[.int .i64 (t.kind : Int), .string ⟨t.name.toArray⟩, .slice tao t.attrs.length tc, .bool t.alone, .string ⟨t.data.toArray⟩] 41)).drewN nq).cell? ⟨g, q * 8 + 1, none⟩ = _ := z1
    have p0 : ((w.alloc (.cells #[.int .i64 (t.kind : Int), .string ⟨t.name.toArray⟩, .slice tao t.attrs.length tc, .bool t.alone, .string ⟨t.data.toArray⟩] 41)).drewN nq).cell? ⟨pb, 0, none⟩ = _ := p0
    clear e9 bA bq htop
    generalize hW : (w.alloc (.cells #[.int .i64 (t.kind : Int), .string ⟨t.name.toArray⟩, .slice tao t.attrs.length tc, .bool t.alone, .string ⟨t.data.toArray⟩] 41)).drewN nq = W at *
    clear hW
    go_upto_region 7 with fail
    clear z1
  all_goals
    have hpg : pb < W.heap.size := h1.box.lt
    have htW : w.heap.size < W.heap.size := kT.lt
    have x2 := kT.cell (i := 2) (v := .slice tao t.attrs.length tc) rfl
    have x3 := kT.cell (i := 3) (v := .bool t.alone) rfl
    have q0 := kT.cell (i := 0) (v := .int .i64 (t.kind : Int)) rfl
    have q1 := kT.cell (i := 1) (v := .string ⟨t.name.toArray⟩) rfl
    have q4 := kT.cell (i := 4) (v := .string ⟨t.data.toArray⟩) rfl
    have hb9 := Lib.hid (hb0.out.mono (show pb ≤ w.heap.size by omega))
    clear hb0
    by_cases hd : 30 ≤ L
    · have hdi : (30 : Int) ≤ (L : Int) := by omega
      have hr := e0 hd
      clear e0 e1 e2 e3 e4 h1 kT hso2
      go_wp2_with fail
      go_ret
      exact stepTold_err hr.out rfl hb9.out
    have hdi : ¬ (30 : Int) ≤ (L : Int) := by omega
    by_cases ha : 50 < t.attrs.length
    · have hai : (50 : Int) < (t.attrs.length : Int) := by omega
      have hr := e1 hd ha
      clear e0 e1 e2 e3 e4 h1 kT hso2
      go_wp2_with fail
      go_ret
      exact stepTold_err hr.out rfl hb9.out
    have hai : ¬ (50 : Int) < (t.attrs.length : Int) := by omega
    have hbeg := begin_any (B := pb + 1) t (.slice tao t.attrs.length tc) (Gv.scopeOf (es.map El.o)) _ htp1 hso2 hon.out (by omega) hon2 ha hf1 hf2 hE1
    simp only [tokCells] at hbeg
    replace hbeg := Lib.hid hbeg
    replace e2 := fun e he => e2 e hd he
    replace e3 := fun sp nm l sc he ha => e3 sp nm l sc hd he ha
    replace e4 := fun sp nm l sc he ha => e4 sp nm l sc hd he ha
    replace h1 := Lib.hid h1
    replace kT := Lib.hid kT
    clear e0 e1 htp1 hso2 hE1
    go_wp2_with fail
    (with_reducible refine hbeg.out.mono ?_); rintro x w2 ⟨b2, hB⟩
    have hp2 := h1.out.on b2
    have kT2 := kT.out.on b2
    have hs2 := h1.out.stk.on b2
    have b3 := hb9.out.trans (b2.mono (Nat.le_of_lt hpg))
    have hw2 := b2.size
    clear hbeg h1 kT b2 hb9 x2 x3 q0 q1 q4 p0
    cases hel : Gv.element t (Gv.scopeOf (es.map El.o)) with
    | error e =>
      rw [hel] at hB
      simp only at hB
      subst hB
      have hr := e2 e hel
      have hne := Gv.element_err0 hel
      have hz1 : ((e : Int) != 0) = true := by rw [bne_iff_ne]; omega
      have hz2 : ¬ (e : Int) = 0 := by omega
      have b4 := fun A => b3.alloc (show pb ≤ w2.heap.size by omega) (.cells A 71)
      clear e2 e3 e4 hel hp2 kT2 hs2
      unfold elArr
      go_wp2_with fail
      go_ret
      exact stepTold_err hr.out rfl (b4 _)
    | ok z => ?_
    obtain ⟨⟨sp2, nm2, as'⟩, sc⟩ := z
    rw [hel] at hB
    simp only at hB
    obtain ⟨vs2, va2, rfl, hsc2, hoa2⟩ := hB
    have f3 := fun ha => e3 sp2 nm2 as' sc hel ha
    have f4 := fun ha => e4 sp2 nm2 as' sc hel ha
    obtain ⟨aS, cS, hvs2, _⟩ := hsc2.at'
    obtain ⟨aA, cA, hva2, _⟩ := OwnsAtts.at' hoa2
    subst hvs2 hva2
    have bN := (Below.refl w2.heap.size w2).alloc (Nat.le_refl _) (.cells (elArr ⟨t.name.toArray⟩ (.slice aS sc.length cS) sp2 nm2 (.slice aA as'.length cA) (.slice none 0 0)) 71)
    have kE := Cells.new w2 71 (elArr ⟨t.name.toArray⟩ (.slice aS sc.length cS) sp2 nm2 (.slice aA as'.length cA) (.slice none 0 0))
    have h3 := hp2.on bN
    have kT3 := kT2.on bN
    have hs3 := hs2.on bN
    have hsc3 := hsc2.on bN
    have hoa3 := own_on hoa2 bN
    have b4 := b3.trans (bN.mono (by omega))
    have hw3 := bN.size
    clear e2 e3 e4 hel hp2 kT2 hs2 hsc2 hoa2 b3 bN
    unfold elArr at *
    replace h3 := Lib.hid h3
    replace hs3 := Lib.hid hs3
    replace hsc3 := Lib.hid hsc3
    replace hoa3 := Lib.hid hoa3
    replace kT3 := Lib.hid kT3
    replace b4 := Lib.hid b4
    replace kE := Lib.hid kE
    go_upto_region 12 with fail
    generalize hW3 : w2.alloc (.cells #[.string ⟨t.name.toArray⟩, .slice aS sc.length cS, .int .i64 0, .string sp2, .string nm2, .slice aA as'.length cA, .slice none 0 0, .string ⟨#[]⟩] 71) = W3 at *
    clear hW3
    have hel3 := kE.out.lt
    generalize w2.heap.size = eb at *
    obtain ⟨i0, hi, hz0, hz1, hz2⟩ := info_parts infoEl
    have hrow := h3.out.row
    rw [hL.out] at hrow
    have hsb := own_ne hrow (Nat.lt_succ_self pb)
    have htb2 := own_ne2 hrow kT3.out (by decide)
    have p0 := h3.out.box.cell (i := 0) rfl
    have pf := h3.out.box.free 0
    have x3 := kT3.out.cell (i := 3) (v := .bool t.alone) rfl
    have xf := kT3.out.free 3
    have hpl3 : pb < W3.heap.size := by omega
    have htl3 : w.heap.size < W3.heap.size := by omega
    have hpH : pb < W3.heap.size + 1 := by omega
    have htH : w.heap.size < W3.heap.size + 1 := by omega
    have hn1 : ¬ eb = W3.heap.size := by omega
    have hn2 : ¬ pb = W3.heap.size := by omega
    have hn3 : ¬ w.heap.size = W3.heap.size := by omega
    have hn4 : ¬ w.heap.size = pb := by omega
    have y0 := kE.out.cell (i := 0) (v := .string ⟨t.name.toArray⟩) rfl
    have y1 := kE.out.cell (i := 1) (v := .slice aS sc.length cS) rfl
    have y2 := kE.out.cell (i := 2) (v := .int .i64 0) rfl
    have y3 := kE.out.cell (i := 3) (v := .string sp2) rfl
    have y4 := kE.out.cell (i := 4) (v := .string nm2) rfl
    have y5 := kE.out.cell (i := 5) (v := .slice aA as'.length cA) rfl
    have y6 := kE.out.cell (i := 6) (v := .slice none 0 0) rfl
    have y7 := kE.out.cell (i := 7) (v := .string ⟨#[]⟩) rfl
    have hk1 : L + 1 ≤ maxLen := by unfold maxLen; omega
    have hk2 : (L + 1) * 144 ≤ 140737488355328 := by omega
    have hlo : pb + 1 ≤ W3.heap.size := by omega
    have hwl : Hid (W.heap.size ≤ W3.heap.size ∧ pb + 1 ≤ W.heap.size) := Lib.hid ⟨by omega, by omega⟩
    have b5 := fun w5 hg => (b4.out.grown (w' := w5) hg (by omega) (fun j e => by have := (World.ownsRow.lt hrow j e).1; omega))
    replace hrow := Lib.hid hrow
    go_region_law (
      refine step_append_lies _ rfl _ _ 36 rfl (pb + 1) 71 i0 _ 8 144 Tryz.underlying36 hi hz0 hz1 hz2 rfl (by decide) (.slice _ L scap) L (stkCells es) rfl (show ((W3.alloc (.cells #[.string ⟨t.name.toArray⟩, .slice aS sc.length cS, .int .i64 0, .string sp2, .string nm2, .slice aA as'.length cA, .slice none 0 0, .string ⟨#[]⟩] 71)).drew).ownsRow _ _ _ _ _ _ from World.ownsRow.alloc hrow.out _) ⟨W3.heap.size, 0, none⟩ 1 1 [.string ⟨t.name.toArray⟩, .slice aS sc.length cS, .int .i64 0, .string sp2, .string nm2, .slice aA as'.length cA, .slice none 0 0, .string ⟨#[]⟩] rfl rfl (el_new W3 [.string ⟨t.name.toArray⟩, .slice aS sc.length cS, .int .i64 0, .string sp2, .string nm2, .slice aA as'.length cA, .slice none 0 0, .string ⟨#[]⟩] 71) (el_one _ _ _ _ _ _ _ _ _ _ _ _) (by decide) hk1 hk2 (size_new W3 _ hlo) (W3.heap.size + 1) (by simp) ?_
      intro g5 cap5 w5 hown5 hg5 hat5 hlt5
      have hga := grown_new hg5
      obtain ⟨hgg, z0, zf⟩ := put_facts (off := 0) hga hsb hat5 hpH hpl3 p0 pf
      obtain ⟨_, z3, _⟩ := put_facts (off := 3) hga htb2 hat5 htH htl3 x3 xf)
    all_goals
      have hp := PSt.push (e := ⟨⟨t.name, sp2, nm2, as', [], sc⟩, W.heap.size, .slice aS sc.length cS, .slice aA as'.length cA, .slice none 0 0⟩) h3.out hwl.out hsc3.out hoa3.out ⟨rfl, rfl⟩ hs3.out (g := g5) (cap := cap5) (by rw [hL.out, stkCells_cons]; exact hown5) hga hat5 (Nat.le_succ _)
      rw [hL.out] at hp
      have hPs : Hid (PSs pb ⟨⟨t.name, sp2, nm2, as', [], sc⟩ :: es.map El.o, none⟩ (w5.setCell ⟨pb, 0, none⟩ (.slice (some ⟨g5, 0, none⟩) (L + 1) cap5))) := Lib.hid ⟨_, _, _, _, _, _, _, _, hp, rfl⟩
      have b6 := Lib.hid ((b5 w5 hga).setCell (p := ⟨pb, 0, none⟩) (Nat.le_refl _) (.slice (some ⟨g5, 0, none⟩) (L + 1) cap5))
      clear hp hown5 hg5 hga b5 h3 hs3 hsc3 hoa3 kT3 kE hrow b4 y0 y1 y2 y3 y4 y5 y6 y7
      cases hal : t.alone with
      | false =>
        have hr := f3 hal
        rw [hal] at z3
        clear f3 f4 hal
        go_wp2_with fail
        go_ret
        exact stepTold_ok hr.out b6.out hPs.out
      | true =>
        have hr := f4 hal
        rw [hal] at z3
        clear f3 f4 hal
        go_wp2_with fail
        (with_reducible refine (pend_any _ hPs.out (by rw [List.length_map, hL.out]; omega) hkls.out).mono ?_); rintro x w7 ⟨rfl, b7, h7⟩
        replace h7 := Lib.hid h7
        go_wp2_with fail
        go_ret
        exact stepTold_ok hr.out (b6.out.trans b7) h7.out
end Go.Proofs.YtcjlhdmekhifaaaGreatDoor
