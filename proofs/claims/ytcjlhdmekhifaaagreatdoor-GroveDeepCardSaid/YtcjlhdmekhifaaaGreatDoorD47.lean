/-
  What the document's own words of trees come to: body.
-/
import Derived.Test.YtcjlhdmekhifaaaGreatDoorD46
import Derived.Test.YtcjlhdmekhifaaaGreatDoorD20
import Derived.Deep.RegionWith
namespace Go.Proofs.YtcjlhdmekhifaaaGreatDoor
open Go.RowKit

/-- What stands within an element, since its node was laid in the block behind w2: its kids' row and all in it are younger. -/
structure BodyIn (w2 : World) (sp nm : ByteArray) (va vk : Value) (kids : List Gv.Node) (w : World) : Prop where
  n : Cells w w2.heap.size 26 (nodeArr 0 sp nm va vk ⟨#[]⟩)
  kid : OwnsKids (fun b => w2.heap.size + 1 ≤ b) (w2.heap.size + 1) vk kids w
  low : Below w2.heap.size w2 w
  sz : w2.heap.size + 1 ≤ w.heap.size
theorem BodyIn.on {w2 : World} {sp nm : ByteArray} {va vk : Value} {kids : List Gv.Node} {w w' : World} (h : BodyIn w2 sp nm va vk kids w) (hb : Below w.heap.size w w') : BodyIn w2 sp nm va vk kids w' :=
  ⟨h.n.on hb, h.kid.on hb, h.low.trans (hb.mono h.low.size), Nat.le_trans h.sz hb.size⟩
theorem BodyIn.first (w2 : World) (sp nm : ByteArray) (va : Value) : BodyIn w2 sp nm va (.slice none 0 0) [] (w2.alloc (.cells (nodeArr 0 sp nm va (.slice none 0 0) ⟨#[]⟩) 26)) :=
  ⟨Cells.new _ _ _, kids_nil _ _ _, (Below.refl _ _).alloc (Nat.le_refl _) _, by simp⟩
/-- Other kids are stored. -/
theorem BodyIn.store {w2 : World} {sp nm : ByteArray} {va vk vk' : Value} {kids kids' : List Gv.Node} {w w' : World} (h : BodyIn w2 sp nm va vk kids w) (hk : OwnsKids (fun b => w2.heap.size + 1 ≤ b) (w2.heap.size + 1) vk' kids' w') (hb : Below (w2.heap.size + 1) w w') :
    BodyIn w2 sp nm va vk' kids' (w'.setCell ⟨w2.heap.size, 4, none⟩ vk') := by
  have kn : Cells w' w2.heap.size 26 (nodeArr 0 sp nm va vk ⟨#[]⟩) := (hb.block w2.heap.size (by omega)).trans h.n
  have hg : w'.grownBy (w'.setCell ⟨w2.heap.size, 4, none⟩ vk') (some w2.heap.size) := ⟨rfl, rfl, rfl, by simp, fun k _ hk => heap_setCell_other w' ⟨w2.heap.size, 4, none⟩ k vk' (fun x => hk (by simp [x]))⟩
  have hlt := hb.size
  have hsz := h.sz
  refine ⟨?_, ?_, (h.low.trans (hb.mono (by omega))).setCell (p := ⟨w2.heap.size, 4, none⟩) (Nat.le_refl _) _, ?_⟩
  · have := kn.set 4 vk'
    simpa [nodeArr] using this
  · obtain ⟨css, h1, h2, h3⟩ := hk
    refine ⟨css, h1, World.ownsRow.kept h2 hg ?_, fun j a b => (h3 j a b).stay (stay_grown hg (fun g e x => by injection e with e; subst e; exact absurd x.1 (by omega)))⟩
    cases hv : vk'.ownBlock with
    | none => exact .inl rfl
    | some g =>
      right
      intro e
      have := (World.ownsRow.lt h2 g hv).1
      injection e with e
      omega
  · simp only [World.size_setCell]; omega
theorem OwnsKids.base {S : Nat → Prop} {B B' : Nat} {v : Value} {kids : List Gv.Node} {w : World} (h : OwnsKids S B v kids w) (hB : B' ≤ B) : OwnsKids S B' v kids w := by
  obtain ⟨css, h1, h2, h3⟩ := h
  exact ⟨css, h1, World.ownsRow.mono h2 hB, h3⟩

theorem kids_kept {S : Nat → Prop} {B g : Nat} {v : Value} {kids : List Gv.Node} {w w' : World} (h : OwnsKids S B v kids w) (hg : w.grownBy w' (some g)) (hB : g < B) (hS : ¬ S g) : OwnsKids S B v kids w' := by
  obtain ⟨css, h1, h2, h3⟩ := h
  refine ⟨css, h1, World.ownsRow.kept h2 hg ?_, fun j a b => (h3 j a b).stay (stay_grown hg (fun g' e x => by injection e with e; subst e; exact hS x.1))⟩
  cases hv : v.ownBlock with
  | none => exact .inl rfl
  | some g' =>
    right
    intro e
    have := (World.ownsRow.lt h2 g' hv).1
    injection e with e
    omega

set_option maxRecDepth 100000 in
set_option maxHeartbeats 12800000 in
theorem refBody_any : ∀ (f depth : Nat), depth + f = 31 → 1 ≤ depth → ∀ (L : List (T.Tok × Value)) (scope : List Pair) (ao so : Option Addr) (cap scap : Nat) (w : World), ToksIn w ao L → (hne : 0 < L.length) → L[0].1.kind = 0 → (∀ x ∈ L, T.Fit 100000 x.1) → L.length ≤ 100000 →
    PairsIn w so scope → (so = none → scap = 0) → scope.length ≤ 50 * depth → L.length ≤ cap →
    Calls Tryz.prog 14 #[.slice ao L.length cap, .slice so scope.length scap, .int .i64 (depth : Int)] w (BodyTold (L.map Prod.fst) scope depth w) := by
  intro f
  induction f with
  | zero =>
    intro depth hd h1 L scope ao so cap scap w hL hne hk hfit hlen hsc hcap hsl hcp
    obtain rfl : depth = 31 := by omega
    have hbad : ∀ (s : List Gv.Open) (r : Option Gv.Node), s.length + 1 = 31 → Gv.scopeOf s = scope → (s ≠ [] ∨ r = none) → Gv.BodyBad s r (L.map Prod.fst) 2 := fun s r h1 h2 h3 => by
      obtain ⟨x, t, rfl⟩ : ∃ x t, L = x :: t := by
        cases L with
        | nil => simp at hne
        | cons x t => exact ⟨x, t, rfl⟩
      exact Gv.body_long h3 hk (by omega)
    replace hbad := Lib.hid hbad
    clear hd h1 hfit hsc hcap hsl hk hL hcp
    go_enter Tryz.func14, Tryz.ntmps14
    have kR := Lib.hid (Cells.new w 26 (nodeArr 0 ⟨#[]⟩ ⟨#[]⟩ (.slice none 0 0) (.slice none 0 0) ⟨#[]⟩))
    have b0 := Lib.hid ((Below.refl w.heap.size w).alloc (Nat.le_refl _) (.cells (nodeArr 0 ⟨#[]⟩ ⟨#[]⟩ (.slice none 0 0) (.slice none 0 0) ⟨#[]⟩) 26))
    go_wp2_with fail
    exact elem_end (rb := w.heap.size) rfl rfl rfl rfl kR.out (bodyTold_bad b0.out (by decide) rfl hbad.out)
  | succ f ih =>
    intro depth hd h1 L scope ao so cap scap w hL hne hk hfit hlen hsc hcap hsl hcp
    have hdi : ¬ (30 : Int) < (depth : Int) := by omega
    have hLne := Lib.hid hne
    obtain ⟨⟨t, tv⟩, hx⟩ : ∃ x, x = L[0] := ⟨_, rfl⟩
    obtain ⟨b, off, rfl, c0, c1, c2, c3, c4, hat⟩ := hL.cells hne (t := t) (v := tv) hx.symm
    obtain ⟨tao, tcap, rfl, htp⟩ := hat
    have htk : t.kind = 0 := (congrArg (fun y : T.Tok × Value => y.1.kind) hx).trans hk
    obtain ⟨hft1, _, hft3⟩ : T.Fit 100000 t := hfit (t, _) (by rw [hx]; exact List.getElem_mem hne)
    obtain ⟨x, L', rfl⟩ : ∃ x t, L = x :: t := by
      cases L with
      | nil => simp at hne
      | cons x t => exact ⟨x, t, rfl⟩
    obtain rfl : (t, _) = x := hx
    have hbadE := fun e s r (ha : s.length + 1 = depth) (hs : Gv.scopeOf s = scope) (hr : s ≠ [] ∨ r = none) (he : Gv.element t scope = .error e) => Gv.body_bad (s := s) (r := r) (t := t) (l := L'.map Prod.fst) (e := e) hr htk (by omega) (by rw [hs]; exact he)
    have halone := fun sp nm as' sc s r (ha : s.length + 1 = depth) (hs : Gv.scopeOf s = scope) (hr : s ≠ [] ∨ r = none) (he : Gv.element t scope = .ok ((sp, nm, as'), sc)) (hal : t.alone = true) => Gv.body_alone (s := s) (r := r) (t := t) (l := L'.map Prod.fst) (sp := sp) (nm := nm) (as' := as') (sc := sc) hr htk (by omega) (by rw [hs]; exact he) hal
    have hin := fun sp nm as' sc s r (ha : s.length + 1 = depth) (hs : Gv.scopeOf s = scope) (hr : s ≠ [] ∨ r = none) (he : Gv.element t scope = .ok ((sp, nm, as'), sc)) (hal : t.alone = false) => Gv.body_in (s := s) (r := r) (t := t) (l := L'.map Prod.fst) (sp := sp) (nm := nm) (as' := as') (sc := sc) hr htk (by omega) (by rw [hs]; exact he) hal
    rw [Nat.zero_mul, Nat.add_zero] at c0 c1 c2 c3 c4
    clear hk
    replace hlen := Lib.hid hlen
    replace hfit := Lib.hid hfit
    replace hLne := Lib.hid hLne
    replace hsl := Lib.hid hsl
    replace hcp := Lib.hid hcp
    replace ih := Lib.hid ih
    replace hd := Lib.hid hd
    have b0 := (Below.refl w.heap.size w).alloc (Nat.le_refl _) (.cells (nodeArr 0 ⟨#[]⟩ ⟨#[]⟩ (.slice none 0 0) (.slice none 0 0) ⟨#[]⟩) 26)
    have kR := Cells.new w 26 (nodeArr 0 ⟨#[]⟩ ⟨#[]⟩ (.slice none 0 0) (.slice none 0 0) ⟨#[]⟩)
    unfold nodeArr at b0 kR
    have hatB : AttrsAt (w.alloc (.cells #[.int .i64 0, .string ⟨#[]⟩, .string ⟨#[]⟩, .slice none 0 0, .slice none 0 0, .string ⟨#[]⟩] 26)) (.slice tao t.attrs.length tcap) t.attrs := ⟨tao, tcap, rfl, htp.below b0⟩
    have cc := fun (o : Nat) v (h : w.cell? ⟨b, o, none⟩ = some v) => (b0.cell (World.block_lt_of_cell? w _ h)).trans h
    replace c0 := cc _ _ c0
    replace c1 := cc _ _ c1
    replace c2 := cc _ _ c2
    replace c3 := cc _ _ c3
    replace c4 := cc _ _ c4
    clear cc
    have hsc1 := hsc.below b0
    clear hsc htp
    have hEl : Calls Tryz.prog 28 #[.agg #[.int .i64 (t.kind : Int), .string ⟨t.name.toArray⟩, .slice tao t.attrs.length tcap, .bool t.alone, .string ⟨t.data.toArray⟩], .slice so scope.length scap] (w.alloc (.cells #[.int .i64 0, .string ⟨#[]⟩, .string ⟨#[]⟩, .slice none 0 0, .slice none 0 0, .string ⟨#[]⟩] 26)) _ :=
      refElement_any t (.slice tao t.attrs.length tcap) scope _ hatB hsc1 rfl hcap (by have := hsl.out; omega) (by unfold maxLen; omega) (fun a ha => by
        obtain ⟨p, hp, rfl⟩ := List.mem_map.1 ha
        have := (hft3 p hp).1
        have h2 : (mpair p).name.size = p.1.length := by simp [mpair, ByteArray.size]
        unfold maxLen
        omega)
    replace hEl := Lib.hid hEl
    replace htk := Lib.hid htk
    go_enter Tryz.func14, Tryz.ntmps14
    go_wp2_with fail
    (with_reducible refine hEl.out.mono ?_)
    rintro e w2 ⟨bE, hE⟩
    have c2w := b0.trans (bE.mono b0.size)
    have kR2 := kR.on bE
    have hL2 := hL.below c2w
    have y1 := bE.size
    have hx2 : w.heap.size + 1 ≤ w2.heap.size := by rw [World.size_alloc] at y1; exact y1
    clear kR hL hsc1 hatB y1
    cases hel : Gv.element t scope with
    | error ee =>
      rw [hel] at hE
      simp only at hE
      subst hE
      have hbad := Lib.hid (fun s r ha hs hr => hbadE ee s r ha hs hr hel)
      have hne0 := Lib.hid (Gv.element_err hel)
      clear hbadE halone hin hel ih
      unfold nodeArr
      have hz1 : ((ee : Int) != 0) = true := by rw [bne_iff_ne]; have := hne0.out; omega
      have hz2 : ¬ (ee : Int) = 0 := by have := hne0.out; omega
      have kR3 := kR2.alloc (.cells #[.int .i64 0, .string ⟨#[]⟩, .string ⟨#[]⟩, .slice none 0 0, .slice none 0 0, .string ⟨#[]⟩] 26)
      have c3w := c2w.alloc c2w.size (.cells #[.int .i64 0, .string ⟨#[]⟩, .string ⟨#[]⟩, .slice none 0 0, .slice none 0 0, .string ⟨#[]⟩] 26)
      have kN3 := Cells.new w2 26 #[.int .i64 0, .string ⟨#[]⟩, .string ⟨#[]⟩, .slice none 0 0, .slice none 0 0, .string ⟨#[]⟩]
      have f0 := kR3.free 0
      have f1 := kR3.free 1
      have f2 := kR3.free 2
      have f3 := kR3.free 3
      have f4 := kR3.free 4
      have f5 := kR3.free 5
      obtain ⟨x0, x1, x2, x3, x4, x5⟩ := node_open kR3
      obtain ⟨y0, y1, y2, y3, y4, y5⟩ := node_open kN3
      have kR8 := Lib.hid (node_set rfl kR3 0 ⟨#[]⟩ ⟨#[]⟩ ⟨#[]⟩ (.slice none 0 0) (.slice none 0 0))
      have c8 := Lib.hid (six_below c3w (Nat.le_refl w.heap.size) (.int .i64 0) (.string ⟨#[]⟩) (.string ⟨#[]⟩) (.slice none 0 0) (.slice none 0 0) (.string ⟨#[]⟩))
      clear kR2 kR3 kN3 c2w c3w hL2 bE b0
      go_wp2_with fail
      exact elem_end (rb := w.heap.size) rfl rfl rfl rfl kR8.out (bodyTold_bad c8.out hne0.out rfl hbad.out)
    | ok z =>
      obtain ⟨⟨sp, nm, as'⟩, sc⟩ := z
      rw [hel] at hE
      simp only at hE
      obtain ⟨va, vi, rfl, ha, hi⟩ := hE
      replace ha : OwnsAtts w.heap.size va as' w2 := World.ownsRow.mono ha b0.size
      replace hi : OwnsPairs w.heap.size vi sc w2 := World.ownsRow.mono hi b0.size
      obtain ⟨aoV, cpV, rfl, _⟩ := ha.at'
      obtain ⟨aoI, cpI, rfl, _, hcI⟩ := pairs_slice hi
      have hscl := Lib.hid (Gv.element_scope hel)
      have d3 := (bE.cell (World.block_lt_of_cell? _ _ c3)).trans c3
      have bN := (Below.refl w2.heap.size w2).alloc (Nat.le_refl _) (.cells #[.int .i64 0, .string sp, .string nm, .slice aoV as'.length cpV, .slice none 0 0, .string ⟨#[]⟩] 26)
      have d3' := (bN.cell (World.block_lt_of_cell? _ _ d3)).trans d3
      have kR3 := kR2.on bN
      have kN3 := Cells.new w2 26 #[.int .i64 0, .string sp, .string nm, .slice aoV as'.length cpV, .slice none 0 0, .string ⟨#[]⟩]
      have ha3 : OwnsAtts w.heap.size (.slice aoV as'.length cpV) as' _ := row_on ha bN
      have hi3 : OwnsPairs w.heap.size (.slice aoI sc.length cpI) sc _ := row_on hi bN
      have hL3 := hL2.below bN
      have c3w := c2w.trans (bN.mono c2w.size)
      unfold nodeArr
      clear hbadE c0 c1 c2 c3 c4 d3 bE b0
      by_cases hal : t.alone = true
      · rw [hal] at d3'
        have hok := Lib.hid (fun s r ha hs hr => halone sp nm as' sc s r ha hs hr hel hal)
        clear halone hin hel ih hal
        have f0 := kR3.free 0
        have f1 := kR3.free 1
        have f2 := kR3.free 2
        have f3 := kR3.free 3
        have f4 := kR3.free 4
        have f5 := kR3.free 5
        obtain ⟨x0, x1, x2, x3, x4, x5⟩ := node_open kR3
        obtain ⟨y0, y1, y2, y3, y4, y5⟩ := node_open kN3
        have kR8 := Lib.hid (node_set rfl kR3 0 sp nm ⟨#[]⟩ (.slice aoV as'.length cpV) (.slice none 0 0))
        have c8 := Lib.hid (six_below c3w (Nat.le_refl w.heap.size) (.int .i64 0) (.string sp) (.string nm) (.slice aoV as'.length cpV) (.slice none 0 0) (.string ⟨#[]⟩))
        have a8 := Lib.hid (six_apart ha3 kR3 (by decide) (.int .i64 0) (.string sp) (.string nm) (.slice aoV as'.length cpV) (.slice none 0 0) (.string ⟨#[]⟩))
        clear kR3 kN3 c3w hL3 ha3 hi3 bN kR2 ha hi hL2 c2w
        go_wp2_with fail
        exact elem_end (rb := w.heap.size) rfl rfl rfl rfl kR8.out (bodyTold_ok (k := 1) c8.out rfl a8.out (kids_nil _ _ _) hok.out)
      · have hal' : t.alone = false := by simpa using hal
        rw [hal'] at d3'
        have hwi : Hid (∀ (s : List Gv.Open) (r : Option Gv.Node), s.length + 1 = depth → Gv.scopeOf s = scope → (s ≠ [] ∨ r = none) → Gv.Within s r (t :: L'.map Prod.fst) ⟨t.name, sp, nm, as', [], sc⟩ 1) := Lib.hid (fun s r ha hs hr => hin sp nm as' sc s r ha hs hr hel hal')
        have hI := Lib.hid (BodyIn.first w2 sp nm (.slice aoV as'.length cpV))
        obtain ⟨y0, y1, y2, y3, y4, y5⟩ := node_open kN3
        clear halone hin hel hal hal' kR3 kN3 ha3 hi3 hL3 c3w bN
        replace kR2 := Lib.hid kR2
        replace ha := Lib.hid ha
        replace hi := Lib.hid hi
        replace hL2 := Lib.hid hL2
        replace c2w := Lib.hid c2w
        replace hx2 := Lib.hid hx2
        go_wp2_with fail
        clear y0 y1 y2 y3 y4 y5 d3'
        go_loopw [12, 13, 14, 15] (fun i _ _ _ wr => ∃ (m : Nat) (kids : List Gv.Node) (vk : Value), 1 ≤ m ∧ m ≤ L'.length + 1 ∧ i = .int .i64 (m : Int) ∧ kids.length ≤ m ∧ Hid (Gv.Light (m * 400000) kids) ∧ Hid (∀ (s : List Gv.Open) (r : Option Gv.Node), s.length + 1 = depth → Gv.scopeOf s = scope → (s ≠ [] ∨ r = none) → Gv.Within s r (t :: L'.map Prod.fst) ⟨t.name, sp, nm, as', kids, sc⟩ m) ∧ Hid (BodyIn w2 sp nm (.slice aoV as'.length cpV) vk kids wr)) (fun i _ _ _ _ => L'.length + 1 - (intOf i).toNat)
        case atStart => exact ⟨1, [], _, Nat.le_refl _, by omega, rfl, by simp, Lib.hid (Gv.light_nil _), hwi, hI⟩
        case round =>
          obtain ⟨m, kids, vk, hm1, hm, rfl, hkl, hLt, hW, hJ⟩ := hrel
          clear hI hwi
          have kR := kR2.out.on hJ.out.low
          obtain ⟨vo, vcap, _, rfl, -, -, -, hvc⟩ := OwnsKids.rows (S := fun _ => True) (hJ.out.kid.mono fun _ _ _ => trivial) (fun _ _ _ => trivial)
          by_cases hlt : m < L'.length + 1
          · have hmi : (m : Int) < (L'.length : Int) + 1 := by omega
            have hm5 : m + 1 ≤ 1000000 := by have := hlen.out; rw [List.length_cons] at this; omega
            have hml : m < ((t, Value.slice tao t.attrs.length tcap) :: L').length := by simpa using hlt
            have hml2 : m < (t :: L'.map Prod.fst).length := by simpa using hlt
            have hLr := hL2.out.below hJ.out.low
            obtain ⟨⟨u, uv⟩, hx⟩ : ∃ x, x = ((t, Value.slice tao t.attrs.length tcap) :: L')[m]'hml := ⟨_, rfl⟩
            have hum : (t :: L'.map Prod.fst)[m]'hml2 = u := by
              have e : (t :: L'.map Prod.fst) = ((t, Value.slice tao t.attrs.length tcap) :: L').map Prod.fst := rfl
              simp only [e, List.getElem_map, ← hx]
            have hfu := hfit.out (u, uv) (by rw [hx]; exact List.getElem_mem hml)
            obtain ⟨b2, off2, e2, d0, d1, d2, d3, d4, hatu⟩ := hLr.cells hml (t := u) (v := uv) hx.symm
            cases e2
            obtain ⟨uao, ucap, rfl, hup⟩ := hatu
            obtain ⟨b3, off3, e3, -, g1, -, -, -, -⟩ := hLr.cells hne (t := t) (v := .slice tao t.attrs.length tcap) rfl
            cases e3
            rw [Nat.zero_mul, Nat.add_zero] at g1
            have hshut := fun (k1 : u.kind = 1) (hn : u.name = t.name) => Lib.hid (fun s r ha hs hr => Gv.in_shut (hW.out s r ha hs hr) hml2 (by rw [hum]; exact k1) (by rw [hum]; exact hn))
            have hnest := fun (k1 : u.kind = 1) (hn : ¬ u.name = t.name) => Lib.hid (fun s r ha hs hr => Gv.in_nest (hW.out s r ha hs hr) hml2 (by rw [hum]; exact k1) (by rw [hum]; exact hn))
            obtain ⟨x0, x1, x2, x3, x4, x5⟩ := node_open kR
            obtain ⟨y0, y1, y2, y3, y4, y5⟩ := node_open hJ.out.n
            by_cases k1 : u.kind = 1
            · have k1i : (u.kind : Int) = 1 := by omega
              have f0 := kR.free 0
              have f1 := kR.free 1
              have f2 := kR.free 2
              have f3 := kR.free 3
              have f4 := kR.free 4
              have f5 := kR.free 5
              by_cases hn : u.name = t.name
              · have hok := hshut k1 hn
                have hns : (⟨u.name.toArray⟩ : ByteArray) = ⟨t.name.toArray⟩ := by rw [hn]
                have q1 : (!(⟨u.name.toArray⟩ : ByteArray).toList == (⟨t.name.toArray⟩ : ByteArray).toList) = false := by rw [hns]; simp
                clear hshut hnest hn k1 hns hum hx hfu hup hlt hml hml2
                have kR8 := Lib.hid (node_set rfl kR 0 sp nm ⟨#[]⟩ (.slice aoV as'.length cpV) (.slice vo kids.length vcap)).drew
                have c7 := c2w.out.trans (hJ.out.low.mono c2w.out.size)
                have c8 := Lib.hid (six_below c7 (Nat.le_refl w.heap.size) (.int .i64 0) (.string sp) (.string nm) (.slice aoV as'.length cpV) (.slice vo kids.length vcap) (.string ⟨#[]⟩)).drew
                generalize (⟨u.name.toArray⟩ : ByteArray) = un at *
                generalize (⟨t.name.toArray⟩ : ByteArray) = tn at *
                clear hLr
                go_wp2_with fail
                have a8 := Lib.hid (row_on (six_apart (row_on ha.out hJ.out.low) kR (by decide) (.int .i64 0) (.string sp) (.string nm) (.slice aoV as'.length cpV) (.slice vo kids.length vcap) (.string ⟨#[]⟩)) (Below.refl _ _).drew)
                have k8 := Lib.hid ((kids_kept hJ.out.kid (grown_six wr w.heap.size 0 (.int .i64 0) (.string sp) (.string nm) (.slice aoV as'.length cpV) (.slice vo kids.length vcap) (.string ⟨#[]⟩)) (by have := hx2.out; omega) (by have := hx2.out; omega)).on (Below.refl _ _).drew)
                clear kR
                go_region
                go_wp2_with fail
                exact elem_end (rb := w.heap.size) rfl rfl rfl rfl kR8.out (bodyTold_ok (k := m + 1) c8.out (by simp) a8.out ((k8.out.mono (S' := fun b => w.heap.size ≤ b) fun b hb _ => by have := hx2.out; omega).base (by have := hx2.out; omega)) hok.out)
              · have hbad := hnest k1 hn
                have hn2 : ¬ (⟨u.name.toArray⟩ : ByteArray) = ⟨t.name.toArray⟩ := fun e => hn (by have := congrArg (fun b : ByteArray => b.data.toList) e; simpa using this)
                have q1 : (!(⟨u.name.toArray⟩ : ByteArray).toList == (⟨t.name.toArray⟩ : ByteArray).toList) = true := sn_ne hn2
                clear hshut hnest hn k1 hn2 hum hx hfu hup hlt hml hml2
                have kR8 := Lib.hid (node_set rfl kR 0 ⟨#[]⟩ ⟨#[]⟩ ⟨#[]⟩ (.slice none 0 0) (.slice none 0 0)).drew
                have c7 := c2w.out.trans (hJ.out.low.mono c2w.out.size)
                have c8 := Lib.hid (six_below c7 (Nat.le_refl w.heap.size) (.int .i64 0) (.string ⟨#[]⟩) (.string ⟨#[]⟩) (.slice none 0 0) (.slice none 0 0) (.string ⟨#[]⟩)).drew
                generalize (⟨u.name.toArray⟩ : ByteArray) = un at *
                generalize (⟨t.name.toArray⟩ : ByteArray) = tn at *
                clear kR hLr c7
                go_wp2_with fail
                go_region
                go_wp2_with fail
                exact elem_end (rb := w.heap.size) rfl rfl rfl rfl kR8.out (bodyTold_bad (e := 90) c8.out (by decide) rfl hbad.out)
            · have k1i : ¬ (u.kind : Int) = 1 := by omega
              by_cases k0 : u.kind = 0
              · have k0i : (u.kind : Int) = 0 := by omega
                have hmi0 : (0 : Int) ≤ (m : Int) := by omega
                have hmi1 : (m : Int) ≤ (L'.length : Int) + 1 := by omega
                have hcl : L'.length + 1 ≤ cap := hcp.out
                have hcm : ¬ cap = m := by omega
                have hcm2 : ¬ m = cap := by omega
                have hLd : ToksIn wr (some ⟨b, off + m * 5, none⟩) (((t, Value.slice tao t.attrs.length tcap) :: L').drop m) := toks_from hLr m
                have hdl : (((t, Value.slice tao t.attrs.length tcap) :: L').drop m).length = L'.length + 1 - m := by rw [List.length_drop, List.length_cons]
                have hdm : ((((t, Value.slice tao t.attrs.length tcap) :: L').drop m)[0]'(by rw [hdl]; omega)).1.kind = 0 := by
                  rw [List.getElem_drop]
                  simp only [Nat.add_zero, ← hx]
                  exact k0
                obtain ⟨_, _, e4, hPI, _⟩ := pairs_slice (row_on hi.out hJ.out.low)
                cases e4
                have hcall := ih.out (depth + 1) (by have := hd.out; omega) (by omega) _ sc _ aoI (cap - m) cpI wr hLd (by rw [hdl]; omega) hdm (fun x hx => hfit.out x (List.mem_of_mem_drop hx)) (by rw [hdl]; have := hlen.out; rw [List.length_cons] at this; omega) hPI hcI (by have := hsl.out; have := hscl.out; omega) (by rw [hdl]; omega)
                rw [hdl, show ((depth + 1 : Nat) : Int) = (depth : Int) + 1 by omega] at hcall
                replace hcall := Lib.hid hcall
                clear hLd hdm hPI hLr hx hum hfu hup hshut hnest x0 x1 x2 x3 x4 x5 y0 y1 y2 y3 y4 y5 d1 d2 d3 d4
                go_wp2_with fail
                (with_reducible refine hcall.out.mono ?_)
                rintro x w5 ⟨b5, ⟨c, n, k, rfl, hn5, hnk, hnd, hnb⟩ | ⟨k, e, rfl, he0, hnb⟩⟩
                · obtain ⟨kk, ksp, knm, kd, kas, kks, kao, kbo, kca, kcb, _, rfl, rfl, -, -, -, -, -⟩ := hn5.open'
                  have hlen2 : 1 ≤ k ∧ k ≤ L'.length + 1 - m := by
                    have h0 := hnb (List.replicate depth ⟨[], ⟨#[]⟩, ⟨#[]⟩, [], [], sc⟩) none (by simp) (by
                      obtain ⟨q, rfl⟩ : ∃ q, depth = q + 1 := ⟨depth - 1, by omega⟩
                      rw [List.replicate_succ]
                      rfl) (.inr rfl)
                    have h1 := h0.2.1
                    rw [List.length_map, hdl] at h1
                    exact ⟨h0.1, h1⟩
                  have hWk := Lib.hid (fun s r ha hs hr => Gv.in_kid (hW.out s r ha hs hr) (by
                    have := hnb (⟨t.name, sp, nm, as', kids, sc⟩ :: s) r (by simp; omega) rfl (.inl (by simp))
                    rw [List.map_drop] at this
                    exact this))
                  have bA1 := (Below.refl w5.heap.size w5).alloc (Nat.le_refl _) (.cells #[.int .i64 (kk : Int), .string ksp, .string knm, .slice kao kas.length kca, .slice kbo kks.length kcb, .string kd] 26)
                  have bA2 := (Below.refl (w5.alloc (.cells #[.int .i64 (kk : Int), .string ksp, .string knm, .slice kao kas.length kca, .slice kbo kks.length kcb, .string kd] 26)).heap.size (w5.alloc (.cells #[.int .i64 (kk : Int), .string ksp, .string knm, .slice kao kas.length kca, .slice kbo kks.length kcb, .string kd] 26))).alloc (Nat.le_refl _) (.cells #[.int .i64 (kk : Int), .string ksp, .string knm, .slice kao kas.length kca, .slice kbo kks.length kcb, .string kd] 26)
                  have kK := Cells.new w5 26 #[.int .i64 (kk : Int), .string ksp, .string knm, .slice kao kas.length kca, .slice kbo kks.length kcb, .string kd]
                  have kL := Cells.new (w5.alloc (.cells #[.int .i64 (kk : Int), .string ksp, .string knm, .slice kao kas.length kca, .slice kbo kks.length kcb, .string kd] 26)) 26 #[.int .i64 (kk : Int), .string ksp, .string knm, .slice kao kas.length kca, .slice kbo kks.length kcb, .string kd]
                  rw [World.size_alloc] at kL
                  have hJ5 := hJ.out.on b5
                  have hJ7 := Lib.hid ((hJ5.on bA1).on bA2)
                  have hsz := hJ.out.sz
                  have hsz5 := hJ5.sz
                  have hnK : Hid (NodeAt (fun g => w2.heap.size + 1 ≤ g ∧ some g ≠ (Value.slice vo kids.length vcap).ownBlock) _ _ _) := Lib.hid (((hn5.mono (S' := fun g => w2.heap.size + 1 ≤ g ∧ some g ≠ (Value.slice vo kids.length vcap).ownBlock) fun g hg _ => ⟨by have hg' : wr.heap.size ≤ g := hg; omega, fun e => by
                    obtain ⟨_, _, h2, _⟩ := hJ.out.kid
                    have := (World.ownsRow.lt h2 g e.symm).2
                    have hg' : wr.heap.size ≤ g := hg
                    omega⟩).on bA1).on bA2)
                  have y4 := (hJ5.on bA1).n.cell (i := 4) (v := .slice vo kids.length vcap) rfl
                  have x0 := kK.cell (i := 0) (v := .int .i64 (kk : Int)) rfl
                  have x1 := kK.cell (i := 1) (v := .string ksp) rfl
                  have x2 := kK.cell (i := 2) (v := .string knm) rfl
                  have x3 := kK.cell (i := 3) (v := .slice kao kas.length kca) rfl
                  have x4 := kK.cell (i := 4) (v := .slice kbo kks.length kcb) rfl
                  have x5 := kK.cell (i := 5) (v := .string kd) rfl
                  have hlw : w2.heap.size < w5.heap.size := by omega
                  have hne5 : ¬ w2.heap.size = w5.heap.size := by omega
                  have hkl2 : kids.length ≤ 1000000 := by omega
                  have hmk : m + k ≤ L'.length + 1 := by omega
                  have hm1k : 1 ≤ m + k := by omega
                  have hkk : kids.length + 1 ≤ m + k := by omega
                  have hBs : w2.heap.size + 1 ≤ ((w5.alloc (.cells #[.int .i64 (kk : Int), .string ksp, .string knm, .slice kao kas.length kca, .slice kbo kks.length kcb, .string kd] 26)).alloc (.cells #[.int .i64 (kk : Int), .string ksp, .string knm, .slice kao kas.length kca, .slice kbo kks.length kcb, .string kd] 26)).heap.size := hJ7.out.sz
                  have hLk : Hid (Gv.Light ((m + k) * 400000) (kids ++ [.mk kk ksp knm kas kks kd])) := Lib.hid (Gv.light_more (by
                    have : kd = ByteArray.empty := hnd
                    show kd.size ≤ _
                    rw [this]
                    exact Nat.zero_le _))
                  have hkN : k ≤ 1000000 := by have := hlen2.2; have := hlen.out; rw [List.length_cons] at this; omega
                  have hk1 := Lib.hid hlen2.1
                  replace hkl2 := Lib.hid hkl2
                  replace hmk := Lib.hid hmk
                  replace hm1k := Lib.hid hm1k
                  replace hkk := Lib.hid hkk
                  replace hBs := Lib.hid hBs
                  replace kL := Lib.hid kL
                  clear kK hJ hJ5 hn5 hnk hnd hnb hcall hW hLt hkl hm hm1 hlt hml hml2 hcl hcm hcm2 hdl hmi0 hmi1 k0 k1 hlen2 bA1 bA2 kR b5 hsz hsz5
                  go_wp2_with (at_builtin; refine wpList_append_node rfl _ _ rfl (w2.heap.size + 1) _ rfl hJ7.out.kid (w5.heap.size + 1) 1 rfl (node_list kL.out) hnK.out hkl2.out hBs.out ?_)
                  intro v' w7 hO7 b7
                  obtain ⟨vo', vcap', _, rfl, -, -, -, -⟩ := OwnsKids.rows (S := fun _ => True) (hO7.mono fun _ _ _ => trivial) (fun _ _ _ => trivial)
                  have hJ9 := hJ7.out.store hO7 b7
                  simp only [List.length_append, List.length_singleton] at hJ9
                  replace hJ9 := Lib.hid hJ9
                  have kn7 : Cells w7 w2.heap.size 26 (nodeArr 0 sp nm (.slice aoV as'.length cpV) (.slice vo kids.length vcap) ⟨#[]⟩) := (b7.block w2.heap.size (by omega)).trans hJ7.out.n
                  replace y4 := kn7.cell (i := 4) (v := .slice vo kids.length vcap) rfl
                  have g4 := kn7.free 4
                  clear kn7 hO7 b7 hJ7 kL hnK x0 x1 x2 x3 x4 x5 hBs hkl2 hne5 hlw
                  go_wp2_with fail
                  go_roundw
                  case rel => exact ⟨m + k, _, _, hm1k.out, hmk.out, by go_num, by simpa using hkk.out, hLk, hWk, hJ9⟩
                  case measure =>
                    have := hk1.out
                    simp [intOf] <;> omega
                · have hbad := Lib.hid (fun s r ha hs hr => Gv.in_kid_bad (hW.out s r ha hs hr) (by
                    have := hnb (⟨t.name, sp, nm, as', kids, sc⟩ :: s) r (by simp; omega) rfl (.inl (by simp))
                    rw [List.map_drop] at this
                    exact this))
                  have hz2 : ¬ (e : Int) = 0 := by omega
                  have hz1 : ((e : Int) != 0) = true := by rw [bne_iff_ne]; omega
                  have b6 := (hJ.out.low.trans (b5.mono hJ.out.low.size))
                  have bK := (Below.refl w5.heap.size w5).alloc (Nat.le_refl _) (.cells #[.int .i64 0, .string ⟨#[]⟩, .string ⟨#[]⟩, .slice none 0 0, .slice none 0 0, .string ⟨#[]⟩] 26)
                  have kR5 := (kR2.out.on b6).on bK
                  have c7 := (c2w.out.trans (b6.mono c2w.out.size)).trans (bK.mono (c2w.out.trans (b6.mono c2w.out.size)).size)
                  have hlt5 := (kR2.out.on b6).lt
                  have hne5 : ¬ w.heap.size = w5.heap.size := by omega
                  have f0 := kR5.free 0
                  have f1 := kR5.free 1
                  have f2 := kR5.free 2
                  have f3 := kR5.free 3
                  have f4 := kR5.free 4
                  have f5 := kR5.free 5
                  obtain ⟨x0, x1, x2, x3, x4, x5⟩ := node_open kR5
                  have kR8 := Lib.hid (node_set rfl kR5 0 ⟨#[]⟩ ⟨#[]⟩ ⟨#[]⟩ (.slice none 0 0) (.slice none 0 0))
                  have c8 := Lib.hid (six_below c7 (Nat.le_refl w.heap.size) (.int .i64 0) (.string ⟨#[]⟩) (.string ⟨#[]⟩) (.slice none 0 0) (.slice none 0 0) (.string ⟨#[]⟩))
                  clear kR5 c7 b6 bK b5 kR hnb hcall hJ hW hLt hkl hm hm1 hlt hmi hm5 hml hml2 hcl hcm hcm2 hdl hmi0 hmi1 k0 k1 hlt5
                  replace he0 := Lib.hid he0
                  unfold nodeArr
                  go_wp2_with fail
                  exact elem_end (rb := w.heap.size) rfl rfl rfl rfl kR8.out (bodyTold_bad c8.out he0.out rfl hbad.out)
              · have k0i : ¬ (u.kind : Int) = 0 := by omega
                clear x0 x1 x2 x3 x4 x5 y0 y1 y2 y3 y4 y5
                have hpl := refPlain_any (⟨u.name.toArray⟩ : ByteArray) wr (by
                  have h1 : u.name.length ≤ 100000 := hfu.1
                  have h2 : (⟨u.name.toArray⟩ : ByteArray).size = u.name.length := by simp [ByteArray.size]
                  unfold maxLen
                  omega)
                have hnt : (⟨u.name.toArray⟩ : ByteArray).data.toList = u.name := by simp
                rw [hnt] at hpl
                replace hpl := Lib.hid hpl
                have hprefix := Lib.hid (fun (k4 : u.kind = 4) hp => (fun s r ha hs hr => Gv.in_prefix (hW.out s r ha hs hr) hml2 (by rw [hum]; exact k4) (by rw [hum]; exact hp) : ∀ (s : List Gv.Open) (r : Option Gv.Node), s.length + 1 = depth → Gv.scopeOf s = scope → (s ≠ [] ∨ r = none) → _))
                clear hnt
                go_upto_region 9 with fail
                go_cut [61] from 38 to 115 (fun c wx => ∃ q : Bool, c = .bool q ∧ Hid (q = (decide (u.kind = 4) && !G.plain u.name)) ∧ Hid (Below wr.heap.size wr wx))
                case first =>
                  clear hprefix hshut hnest hW hLt hJ kR
                  by_cases k4 : u.kind = 4
                  · have k4i : (u.kind : Int) = 4 := by omega
                    have hq := Lib.hid (show (!G.plain u.name) = (decide (u.kind = 4) && !G.plain u.name) by simp [k4])
                    clear k4
                    go_wp2_with fail
                    (with_reducible refine hpl.out.mono ?_); rintro x w5 ⟨rfl, b5⟩
                    go_wp2_with fail
                    go_meet
                    exact ⟨_, rfl, hq, Lib.hid b5⟩
                  · have k4i : ¬ (u.kind : Int) = 4 := by omega
                    have k4b : ((u.kind : Int) == 4) = false := by simpa using k4i
                    have hq := Lib.hid (show false = (decide (u.kind = 4) && !G.plain u.name) by simp [k4])
                    clear k4
                    go_wp2_with fail
                    go_meet
                    exact ⟨_, rfl, hq, Lib.hid (Below.refl _ _)⟩
                case rest =>
                  obtain ⟨q, rfl, hq, bC⟩ := hcut
                  clear hpl
                  cases q with
                  | true =>
                    have hk4 : u.kind = 4 := by have := hq.out; simp at this; exact this.1
                    have hp : G.plain u.name = false := by have := hq.out; simp at this; exact this.2
                    have hbad := Lib.hid (hprefix.out hk4 hp)
                    have b6 := hJ.out.low.trans (bC.out.mono hJ.out.low.size)
                    have kR5 := kR.on bC.out
                    have c7 := c2w.out.trans (b6.mono c2w.out.size)
                    have f0 := kR5.free 0
                    have f1 := kR5.free 1
                    have f2 := kR5.free 2
                    have f3 := kR5.free 3
                    have f4 := kR5.free 4
                    have f5 := kR5.free 5
                    obtain ⟨x0, x1, x2, x3, x4, x5⟩ := node_open kR5
                    have kR8 := Lib.hid (node_set rfl kR5 0 ⟨#[]⟩ ⟨#[]⟩ ⟨#[]⟩ (.slice none 0 0) (.slice none 0 0))
                    have c8 := Lib.hid (six_below c7 (Nat.le_refl w.heap.size) (.int .i64 0) (.string ⟨#[]⟩) (.string ⟨#[]⟩) (.slice none 0 0) (.slice none 0 0) (.string ⟨#[]⟩))
                    clear kR5 c7 b6 bC kR hprefix hp hk4 hq hJ hW hLt hkl hm hm1 hlt hm5 hml hml2 k0 k1 k0i k1i hum hfu hx hup hLr hshut hnest g1 d0 d1 d2 d3 d4
                    go_wp2_with fail
                    exact elem_end (rb := w.heap.size) rfl rfl rfl rfl kR8.out (bodyTold_bad (e := 80) c8.out (by decide) rfl hbad.out)
                  | false =>
                    have hp4 : u.kind = 4 → G.plain u.name = true := fun h => by have := hq.out; simp [h] at this; exact this
                    have b5 := bC.out
                    have up := fun (o : Nat) v (h : wr.cell? ⟨b, o, none⟩ = some v) => (b5.cell (World.block_lt_of_cell? wr _ h)).trans h
                    replace d0 := up _ _ d0
                    replace d1 := up _ _ d1
                    replace d2 := up _ _ d2
                    replace d3 := up _ _ d3
                    replace d4 := up _ _ d4
                    have hJ' := Lib.hid (hJ.out.on b5)
                    have kR' := kR.on b5
                    clear hprefix up hJ kR
                    have hJ := hJ'
                    have kR := kR'
                    clear hJ' kR' b5 bC hq
                    have hsm := Lib.hid (Gv.leaf_data u)
                    have hls : Hid (∀ wq, Below wc.heap.size wc wq → wq.cell? ⟨w2.heap.size, 4, none⟩ = some (.slice vo kids.length vcap) ∧ wq.frozen? ⟨w2.heap.size, 4, none⟩ = false) := Lib.hid fun wq bq => ⟨(hJ.out.n.on bq).cell rfl, (hJ.out.n.on bq).free 4⟩
                    have hleaf : Hid (∀ w', Below wc.heap.size wc w' → Calls Tryz.prog 30 #[.agg #[.int .i64 (u.kind : Int), .string ⟨u.name.toArray⟩, .slice uao u.attrs.length ucap, .bool u.alone, .string ⟨u.data.toArray⟩]] w' fun x wq => x = .returned (.agg #[.int .i64 (Gv.lkind u : Nat), .string ⟨#[]⟩, .string (Gv.lname u), .slice none 0 0, .slice none 0 0, .string (Gv.str u.data)]) ∧ Below wc.heap.size wc wq ∧ wq.cell? ⟨w2.heap.size, 4, none⟩ = some (.slice vo kids.length vcap) ∧ wq.frozen? ⟨w2.heap.size, 4, none⟩ = false) := Lib.hid fun w' hb =>
                      (refLeaf_any u (.slice uao u.attrs.length ucap) w' ⟨_, _, _, rfl⟩).mono (by
                        rintro x wq ⟨rfl, bq⟩
                        have b1 := hb.trans (bq.mono hb.size)
                        exact ⟨rfl, b1, hls.out _ b1⟩)
                    have hgrown : Hid (∀ w', Below wc.heap.size wc w' → Calls Tryz.prog 29 #[.slice vo kids.length vcap, .agg #[.int .i64 (Gv.lkind u : Nat), .string ⟨#[]⟩, .string (Gv.lname u), .slice none 0 0, .slice none 0 0, .string (Gv.str u.data)]] w' fun x wg => ∃ vo' vcap', x = .returned (.slice vo' (Gv.grown kids (Gv.leaf u)).length vcap') ∧ OwnsKids (fun g => w2.heap.size + 1 ≤ g) (w2.heap.size + 1) (.slice vo' (Gv.grown kids (Gv.leaf u)).length vcap') (Gv.grown kids (Gv.leaf u)) wg ∧ Below wc.heap.size wc wg ∧ wg.cell? ⟨w2.heap.size, 4, none⟩ = some (.slice vo kids.length vcap) ∧ wg.frozen? ⟨w2.heap.size, 4, none⟩ = false) := Lib.hid fun w' hb => by
                      have hk := hJ.out.kid.on hb
                      have hszw := (hJ.out.on hb).sz
                      obtain ⟨ao9, cap9, cs9, e9, hr9, hk9, -, hc9⟩ := OwnsKids.rows (S := fun g => w2.heap.size + 1 ≤ g) hk (fun _ h _ => h)
                      cases e9
                      have hleq : Gv.leaf u = .mk (Gv.lkind u) ByteArray.empty (Gv.lname u) [] [] (Gv.str u.data) := Gv.leaf_of u
                      rw [hleq]
                      refine (refGrown_any (S := fun g => w2.heap.size + 1 ≤ g) (c := [.int .i64 (Gv.lkind u : Nat), .string ⟨#[]⟩, .string (Gv.lname u), .slice none 0 0, .slice none 0 0, .string (Gv.str u.data)]) w' hr9 hk9 hc9 (by omega) (node_plain _ _ _ _ _ _) (fun mm hmm => ?_)).mono ?_
                      · have q1 := hLt.out mm hmm
                        have q2 := hsm.out
                        rw [hleq] at q2
                        have q3 : (Gv.str u.data).size = u.data.length := q2
                        have q4 : u.data.length ≤ 4 * 100000 := hfu.2.1
                        show mm.data.size + (Gv.str u.data).size ≤ _
                        rw [q3]
                        have : m * 400000 ≤ 1000000 * 400000 := Nat.mul_le_mul_right _ (by omega)
                        omega
                      · rintro x wg ⟨v', rfl, hO, bg⟩
                        have b1 := hb.trans (bg.mono hb.size)
                        have hO' := hO.base hszw
                        obtain ⟨vo', vcap', _, rfl, -, -, -, -⟩ := OwnsKids.rows (S := fun _ => True) (hO'.mono fun _ _ _ => trivial) (fun _ _ _ => trivial)
                        exact ⟨vo', vcap', rfl, hO', b1, hls.out _ b1⟩
                    have hWl := Lib.hid (fun s r ha hs hr => Gv.in_leaf (hW.out s r ha hs hr) hml2 (by rw [hum]; exact k1) (by rw [hum]; exact k0) (by rw [hum]; exact hp4))
                    rw [hum] at hWl
                    have hLk : Hid (Gv.Light ((m + 1) * 400000) (Gv.grown kids (Gv.leaf u))) := Lib.hid ((Gv.light_grown (D := 400000) hLt.out (by rw [hsm.out]; have : u.data.length ≤ 4 * 100000 := hfu.2.1; omega)).mono (by omega))
                    have hkk := Lib.hid (Nat.le_trans (Gv.grown_len kids (Gv.leaf u)) (Nat.succ_le_succ hkl))
                    have hm1k : Hid (1 ≤ m + 1 ∧ m + 1 ≤ L'.length + 1) := Lib.hid ⟨by omega, by omega⟩
                    obtain ⟨y4, y5⟩ := hls.out wc (Below.refl _ _)
                    clear k0i k1i hls hsm hW hLt hkl hm hm1 hlt hml hml2 hum hfu hx hup hLr hshut hnest hp4 k0 k1 kR g1
                    go_wp2_with fail
                    go_region_with (first
                      | (go_at_call 30; refine (hleaf.out _ ?_).mono ?_; (first | exact (Below.refl _ _).drew | assumption); rintro e wq ⟨rfl, bq, z4, z5⟩)
                      | (go_at_call 29; refine (hgrown.out _ ?_).mono ?_; (first | assumption | exact (Below.refl _ _).drew); rintro e wg ⟨vo', vcap', rfl, hO, bg, z6, z7⟩))
                    all_goals
                      have hJ9 := Lib.hid (hJ.out.store hO (bg.mono hJ.out.sz))
                      clear hO bg hJ hleaf hgrown
                      go_wp2_with fail
                      go_roundw
                      case rel => exact ⟨m + 1, _, _, hm1k.out.1, hm1k.out.2, by go_num, hkk.out, hLk, hWl, hJ9⟩
                      case measure => simp [intOf] <;> omega
          · have hbad := Lib.hid (fun s r ha hs hr => Gv.in_end (hW.out s r ha hs hr) (by rw [List.length_cons, List.length_map]; exact hlt))
            have hmi : ¬ (m : Int) < (L'.length : Int) + 1 := by omega
            have f0 := kR.free 0
            have f1 := kR.free 1
            have f2 := kR.free 2
            have f3 := kR.free 3
            have f4 := kR.free 4
            have f5 := kR.free 5
            obtain ⟨x0, x1, x2, x3, x4, x5⟩ := node_open kR
            have kR8 := Lib.hid (node_set rfl kR 0 ⟨#[]⟩ ⟨#[]⟩ ⟨#[]⟩ (.slice none 0 0) (.slice none 0 0))
            have c8 := Lib.hid (six_below (c2w.out.trans (hJ.out.low.mono c2w.out.size)) (Nat.le_refl w.heap.size) (.int .i64 0) (.string ⟨#[]⟩) (.string ⟨#[]⟩) (.slice none 0 0) (.slice none 0 0) (.string ⟨#[]⟩))
            clear kR hJ hW hLt hlt hm hkl hm1
            go_wp2_with fail
            exact elem_end (rb := w.heap.size) rfl rfl rfl rfl kR8.out (bodyTold_bad (e := 90) c8.out (by decide) rfl hbad.out)
end Go.Proofs.YtcjlhdmekhifaaaGreatDoor
