/-
  What the program's own words of a start-tag come to: has, attributes.
  The stack of open elements in memory: each element's cells, what it made, which blocks that lies in.
-/
import Derived.Test.YtcjlhdmekhifaaaGreatDoorD05
import Derived.Test.YtcjlhdmekhifaaaGreatDoorD06
import Derived.Test.YtcjlhdmekhifaaaGreatDoorD07
import Derived.Test.YtcjlhdmekhifaaaGreatDoorD18
namespace Go.Proofs.YtcjlhdmekhifaaaGreatDoor
open Go.RowKit

def Gv.hasAt (l : List Gv.Att) (sp nm : ByteArray) : Bool := l.any fun x => decide (x.space = sp ∧ x.name = nm)
theorem att_box {b : Nat} {x y z : ByteArray} {w : World} (h : Cells w b 47 #[.string x, .string y, .string z]) : w.cell? ⟨b, 0, none⟩ = some (.string x) ∧ w.cell? ⟨b, 1, none⟩ = some (.string y) ∧ w.cell? ⟨b, 2, none⟩ = some (.string z) := ⟨h.cell rfl, h.cell rfl, h.cell rfl⟩

set_option maxRecDepth 100000 in
set_option maxHeartbeats 1600000 in
theorem has_any {S : Nat → Prop} {ao : Option Addr} {n cap : Nat} (l : List Gv.Att) (sp nm : ByteArray) (w : World) (hat : AttsAt S w (.slice ao n cap) l) (hn : l.length = n) (hnl : n ≤ 1000) :
    Calls Tryz.prog 120 #[.slice ao n cap, .string sp, .string nm] w fun e w' => e = .returned (.bool (Gv.hasAt l sp nm)) ∧ Below w.heap.size w w' := by
  replace hn := Lib.hid hn
  go_enter Tryz.func120, Tryz.ntmps120
  go_wp2_with fail
  go_loopw [8, 11] (fun _ i wr => ∃ k : Nat, k ≤ n ∧ i = .int .i64 (k : Int) ∧ Hid (Gv.hasAt (l.take k) sp nm = false) ∧ Below w.heap.size w wr) (fun _ i _ => n - (intOf i).toNat)
  case atStart => exact ⟨0, Nat.zero_le _, rfl, Lib.hid rfl, Below.refl _ _⟩
  case round =>
    obtain ⟨k, hk, rfl, hall, bw⟩ := hrel
    by_cases hlt : k < n
    · have hkl : k < l.length := by rw [hn.out]; exact hlt
      have hat1 := hat.stay (stay_below bw)
      have d1 := fun sp nm va e => hat1.cells hkl (sp := sp) (nm := nm) (va := va) e
      have hst : Gv.hasAt (l.take (k + 1)) sp nm = (Gv.hasAt (l.take k) sp nm || decide (l[k].space = sp ∧ l[k].name = nm)) := by
        rw [List.take_succ_eq_append_getElem hkl]; unfold Gv.hasAt; rw [List.any_append]; simp only [List.any_cons, List.any_nil, Bool.or_false]
      have hwh : l[k].space = sp → l[k].name = nm → Gv.hasAt l sp nm = true := fun a b => by
        unfold Gv.hasAt
        rw [List.any_eq_true]
        exact ⟨_, List.getElem_mem hkl, by simp [a, b]⟩
      rw [hall.out, Bool.false_or] at hst
      generalize l[k] = u at *
      obtain ⟨b, off, rfl, c0, c1, c2⟩ := d1 u.space u.name u.value rfl
      clear d1 hat1
      have hki : (k : Int) < (n : Int) := by omega
      have bA := bw.alloc bw.size (.cells #[.string u.space, .string u.name, .string u.value] 47)
      obtain ⟨x0, x1, x2⟩ := att_box (Cells.new wr 47 #[.string u.space, .string u.name, .string u.value])
      by_cases hs1 : u.space = sp
      · by_cases hs2 : u.name = nm
        · have hr := Lib.hid (hwh hs1 hs2)
          have g1 := sn_is hs1
          have g2 := sn_is hs2
          have g4 := congrArg ByteArray.toList hs1
          have g5 := congrArg ByteArray.toList hs2
          clear hst hwh hs1 hs2 hall
          go_wp2_with fail
          go_ret
          exact ⟨by rw [hr.out]; rfl, bA⟩
        · have hr := Lib.hid (hst.trans (decide_eq_false (fun e => hs2 e.2)))
          have g1 := sn_is hs1
          have g2 := sn_isnt hs2
          have g4 := congrArg ByteArray.toList hs1
          have g5 := sn_prop hs2
          clear hst hwh hs1 hs2 hall
          go_wp2_with fail
          go_roundw
          case rel => exact ⟨k + 1, by omega, by go_num, hr, bA⟩
          case measure => simp [intOf] <;> omega
      · have hr := Lib.hid (hst.trans (decide_eq_false (fun e => hs1 e.1)))
        have g1 := sn_isnt hs1
        have g4 := sn_prop hs1
        clear hst hwh hs1 hall
        go_wp2_with fail
        go_roundw
        case rel => exact ⟨k + 1, by omega, by go_num, hr, bA⟩
        case measure => simp [intOf] <;> omega
    · have hfull : l.take k = l := List.take_of_length_le (by rw [hn.out]; omega)
      rw [hfull] at hall
      clear hfull
      have hki : ¬ (k : Int) < (n : Int) := by omega
      go_wp2_with fail
      go_ret
      exact ⟨by rw [hall.out]; rfl, bw⟩

/-- What is told of attributes. -/
def AttrsTold (sc rest : List Pair) (w : World) (x : Ending) (w' : World) : Prop := Below w.heap.size w w' ∧
  match Gv.attrsGo sc [] rest with
  | .error e => x = .returned (.tuple #[.slice none 0 0, .int .i64 (e : Int)])
  | .ok l => ∃ v, x = .returned (.tuple #[v, .int .i64 0]) ∧ OwnsAtts w.heap.size v l w'
theorem attrsTold_err {sc rest : List Pair} {w w' : World} {e : Nat} {k : Int} (h : Gv.attrsGo sc [] rest = .error e) (hk : k = (e : Int)) (hb : Below w.heap.size w w') : AttrsTold sc rest w (.returned (.tuple #[.slice none 0 0, .int .i64 k])) w' := by
  refine ⟨hb, ?_⟩
  rw [h, hk]
theorem attrsTold_ok {sc rest : List Pair} {w w' : World} {l : List Gv.Att} {v : Value} (h : Gv.attrsGo sc [] rest = .ok l) (hb : Below w.heap.size w w') (ho : OwnsAtts w.heap.size v l w') : AttrsTold sc rest w (.returned (.tuple #[v, .int .i64 0])) w' := by
  refine ⟨hb, ?_⟩
  rw [h]
  exact ⟨v, rfl, ho⟩
theorem has_two {acc : List Gv.Att} {sp nm : ByteArray} (h : Gv.hasAt acc sp nm = true) : ∃ x ∈ acc, x.space = sp ∧ x.name = nm := by
  obtain ⟨x, h1, h2⟩ := List.any_eq_true.1 h
  exact ⟨x, h1, by simpa using h2⟩
theorem has_more {acc : List Gv.Att} {sp nm : ByteArray} (h : Gv.hasAt acc sp nm = false) : ∀ x ∈ acc, ¬ (x.space = sp ∧ x.name = nm) := fun x hx e => by
  have : Gv.hasAt acc sp nm = true := List.any_eq_true.2 ⟨x, hx, by simpa using e⟩
  rw [h] at this; cases this
theorem att_new (w : World) (a b c : Value) (t : TypeId) : ∀ j u, [a, b, c][j]? = some u → (w.alloc (.cells #[a, b, c] t)).cell? ((⟨w.heap.size, 0, none⟩ : Addr).add j) = some u := by
  intro j u hj
  rw [add_at, Nat.zero_add]
  exact (Cells.new w t #[a, b, c]).cell (by rw [← Array.getElem?_toList]; exact hj)

set_option maxRecDepth 100000 in
set_option maxHeartbeats 3200000 in
theorem attributes_any {so ro : Option Addr} {n scap m rcap : Nat} (sc rest : List Pair) (w : World) (hsc : PairsIn w so sc) (hn : sc.length = n) (hnl : n ≤ 100000) (hre : PairsIn w ro rest) (hm : rest.length = m) (hml : m ≤ 1000) (hz : ∀ a ∈ rest, a.name.size ≤ 1000000) (hE : Env w) :
    Calls Tryz.prog 80 #[.slice so n scap, .slice ro m rcap] w (AttrsTold sc rest w) := by
  obtain ⟨i0, hi, hz0, hz1, hz2⟩ := info_parts infoAtt
  replace hn := Lib.hid hn
  replace hm := Lib.hid hm
  go_enter Tryz.func80, Tryz.ntmps80
  go_wp2_with fail
  go_loopw [4, 5, 6, 8, 9, 10, 11, 14] (fun _ _ v6 _ _ _ _ i wr => ∃ (k : Nat) (acc : List Gv.Att), k ≤ m ∧ i = .int .i64 (k : Int) ∧ acc.length ≤ k ∧ Hid (Gv.attrsGo sc [] rest = Gv.attrsGo sc acc (rest.drop k)) ∧ OwnsAtts w.heap.size v6 acc wr ∧ Below w.heap.size w wr) (fun _ _ _ _ _ _ _ i _ => m - (intOf i).toNat)
  case atStart => exact ⟨0, [], Nat.zero_le _, rfl, Nat.le_refl _, Lib.hid rfl, atts_none _ _, Below.refl _ _⟩
  case round =>
    obtain ⟨k, acc, hk, rfl, hacc, hG, hO, bw⟩ := hrel
    by_cases hlt : k < m
    · have hkl : k < rest.length := by rw [hm.out]; exact hlt
      obtain ⟨b, off, rfl, d0, d1⟩ := (hre.below bw) k hkl
      have hG1 := hG.out
      rw [List.drop_eq_getElem_cons hkl] at hG1
      have hza := hz rest[k] (List.getElem_mem hkl)
      generalize rest[k] = a at *
      obtain ⟨an, av⟩ := a
      dsimp only at d0 d1 hza
      have gErr := fun h => Lib.hid (hG1.trans (Gv.go_none h))
      have gTwo := fun sp nm h x => Lib.hid (hG1.trans (Gv.go_two (sp := sp) (nm := nm) h x))
      have gMore := fun sp nm h x => Lib.hid (hG1.trans (Gv.go_more (sp := sp) (nm := nm) h x))
      dsimp only at gErr gTwo gMore
      have hmi : (k : Int) < (m : Int) := by omega
      have bA := (Below.refl wr.heap.size wr).alloc (Nat.le_refl _) (.cells #[.string an, .string av] 86)
      have kA := Cells.new wr 86 #[.string an, .string av]
      obtain ⟨x0, x1⟩ : _ ∧ _ := ⟨kA.cell (i := 0) (v := .string an) rfl, kA.cell (i := 1) (v := .string av) rfl⟩
      have hscA := (hsc.below bw).below bA
      have hEA := (hE.on bw).on bA
      clear hG hG1
      go_wp2_with fail
      (with_reducible refine (pResolve_any sc an true _ hscA hn.out hnl hza hEA).mono ?_); rintro e w2 ⟨rfl, b2⟩
      have b12 := bA.trans (b2.mono bA.size)
      have kA2 := kA.on b2
      have O2 := own_on hO b12
      have bw2 := bw.trans (b12.mono bw.size)
      clear kA bA b2 d0 d1 hscA hEA x0 x1 hO
      have x0 := kA2.cell (i := 0) (v := .string an) rfl
      have x1 := kA2.cell (i := 1) (v := .string av) rfl
      cases hr : P.resolve sc an true with
      | none =>
        obtain ⟨e1, e2, e3⟩ := P.re_none hr
        have hg := gErr hr
        rw [e1, e2, e3]
        clear gErr gTwo gMore hr e1 e2 e3
        go_wp2_with fail
        go_ret2
        exact attrsTold_err hg.out rfl bw2
      | some z =>
        obtain ⟨sp, nm⟩ := z
        obtain ⟨e1, e2, e3⟩ := P.re_some hr
        have g2 := fun x => gTwo sp nm hr x
        have g3 := fun x => gMore sp nm hr x
        rw [e1, e2, e3]
        clear gErr gTwo gMore hr e1 e2 e3
        obtain ⟨ao, cpa, rfl, hat⟩ := OwnsAtts.at' O2
        have hla : acc.length ≤ 1000 := by omega
        go_wp2_with fail
        (with_reducible refine (has_any acc sp nm _ hat rfl hla).mono ?_); rintro e w3 ⟨rfl, b3⟩
        have O3 := own_on O2 b3
        have bw3 := bw2.trans (b3.mono bw2.size)
        have kA3 := kA2.on b3
        clear O2 bw2 kA2 x0 x1 hat b12
        have x1 := kA3.cell (i := 1) (v := .string av) rfl
        cases hh : Gv.hasAt acc sp nm with
        | true =>
          have hg := g2 (has_two hh)
          clear g2 g3 hh
          go_wp2_with fail
          go_ret2
          exact attrsTold_err hg.out rfl bw3
        | false =>
          have hg := g3 (has_more hh)
          clear g2 g3 hh
          have O4 := Lib.hid (World.ownsRow.alloc O3 (.cells #[.string sp, .string nm, .string av] 47))
          have hsz : w.heap.size ≤ w3.heap.size + 1 := by have := bw3.size; omega
          have hl1 : acc.length + 1 ≤ maxLen := by unfold maxLen; omega
          have hl2 : (acc.length + 1) * 48 ≤ 140737488355328 := by omega
          go_wp2_with (at_builtin; refine wpList_append_own_at _ rfl _ _ 23 rfl w.heap.size 47 i0 _ 3 48 Tryz.underlying23 hi hz0 hz1 hz2 rfl (by decide) _ acc.length (acc.flatMap attCells) rfl O4.out ⟨w3.heap.size, 0, none⟩ 1 1 [.string sp, .string nm, .string av] rfl rfl (att_new _ _ _ _ _) (fun u hu => by simp at hu; rcases hu with rfl | rfl | rfl <;> rfl) hl1 hl2 (by simp; omega) ?_)
          intro va2 wE hownE hgE _ _
          have hga : w3.grownBy wE (Value.slice ao acc.length cpa).ownBlock := (World.grownBy_alloc w3 _ _).trans hgE
          have bE := bw3.grown hga bw3.size (fun j e => (World.ownsRow.lt O3 j e).1)
          have O5 : OwnsAtts w.heap.size va2 (acc ++ [⟨sp, nm, av⟩]) wE := by
            unfold OwnsAtts
            rw [List.length_append, List.length_singleton, List.flatMap_append]
            simpa [attCells] using hownE
          clear hownE hgE hga O4 O3 bw3
          go_wp2_with fail
          go_roundw
          case rel => exact ⟨k + 1, acc ++ [⟨sp, nm, av⟩], by omega, by go_num, by simp; omega, hg, O5, bE⟩
          case measure => simp [intOf] <;> omega
    · have hend := Lib.hid (show Gv.attrsGo sc [] rest = .ok acc by rw [hG.out, List.drop_eq_nil_of_le (by rw [hm.out]; omega)]; rfl)
      have hmi : ¬ (k : Int) < (m : Int) := by omega
      clear hG
      go_wp2_with fail
      go_ret2
      exact attrsTold_ok hend.out bw hO
end Go.Proofs.YtcjlhdmekhifaaaGreatDoor
namespace Go.Proofs.YtcjlhdmekhifaaaGreatDoor
open Go.RowKit

theorem st_apart {B n sz : Nat} {t : TypeId} {v : Value} {xs : List Value} {w : World} {k : Nat} {c : Array Value} {t2 : TypeId} {fr : Nat × Nat} (h : w.ownsRow B t sz v n xs) (hk : w.heap[k]? = some (.cells c t2 fr)) (hne : t2 ≠ t) : v.ownBlock = none ∨ v.ownBlock ≠ some k := by
  obtain ⟨_, ⟨rfl, _⟩ | ⟨g, cap, cur, rfl, hb, hh, _⟩⟩ := h
  · exact .inl rfl
  · right
    simp only [Value.ownBlock, ne_eq, Option.some.injEq]
    rintro rfl
    rw [hk] at hh
    cases hh
    exact hne rfl

/-- A scope in memory: a row of the call's, perhaps without its spare. -/
def ScopeAt (B : Nat) (v : Value) (l : List Pair) (w : World) : Prop := ∃ ao cap cap2, v = .slice ao l.length cap2 ∧ OwnsPairs B (.slice ao l.length cap) l w ∧ l.length ≤ cap2 ∧ (ao = none → cap2 = 0)
theorem scope_nil (B : Nat) (w : World) : ScopeAt B (.slice none 0 0) [] w := ⟨none, 0, 0, rfl, pairs_nil _ _, Nat.le_refl _, fun _ => rfl⟩
theorem ScopeAt.at' {B : Nat} {v : Value} {l : List Pair} {w : World} (h : ScopeAt B v l w) : ∃ ao cap, v = .slice ao l.length cap ∧ PairsIn w ao l ∧ l.length ≤ cap ∧ (ao = none → cap = 0) := by
  obtain ⟨ao, cap, cap2, rfl, h1, h2, h3⟩ := h
  obtain ⟨ao', cap', e, hp⟩ := pairs_of_owns h1
  cases e
  exact ⟨_, cap2, rfl, hp, h2, h3⟩
theorem ScopeAt.kept {B : Nat} {v : Value} {l : List Pair} {w w' : World} {row : Option Nat} (h : ScopeAt B v l w) (hg : w.grownBy w' row) (hr : ∀ g, row = some g → ∃ c t fr, w.heap[g]? = some (.cells c t fr) ∧ t ≠ 86) : ScopeAt B v l w' := by
  obtain ⟨ao, cap, cap2, rfl, h1, h2⟩ := h
  refine ⟨ao, cap, cap2, rfl, World.ownsRow.kept h1 hg ?_, h2⟩
  cases row with
  | none => cases ao <;> simp [Value.ownBlock]
  | some g =>
    obtain ⟨c, t, fr, hc, hne⟩ := hr g rfl
    exact st_apart h1 hc hne
theorem ScopeAt.on {B : Nat} {v : Value} {l : List Pair} {w w' : World} (h : ScopeAt B v l w) (hb : Below w.heap.size w w') : ScopeAt B v l w' := h.kept (grown_of_below hb none) (fun g e => by cases e)

/-- An element that is open: what it is; from which block on lies what it made; its scope's, attributes' and kids' slices. -/
structure El where
  o : Gv.Open
  lo : Nat
  vs : Value
  va : Value
  vk : Value
def El.cells (e : El) : List Value := [.string ⟨e.o.tag.toArray⟩, e.vs, .int .i64 0, .string e.o.space, .string e.o.name, e.va, e.vk, .string ⟨#[]⟩]
/-- .. in memory: what it made lies below a bound, and not in the stack's own row. -/
structure ElAt (w : World) (B : Nat) (sb : Option Nat) (hi : Nat) (e : El) : Prop where
  low : B ≤ e.lo ∧ e.lo ≤ hi
  scope : ScopeAt B e.vs e.o.scope w
  atts : OwnsAtts e.lo e.va e.o.attrs w
  kids : OwnsKids (fun b => e.lo ≤ b ∧ b < hi ∧ some b ≠ sb) e.lo e.vk e.o.kids w
  far : ∀ g, e.vk.ownBlock = some g → g < hi
/-- A block that is none of an element's. -/
def Aloof (w : World) (B : Nat) (sb : Option Nat) (hi g : Nat) : Prop := (∃ c t fr, w.heap[g]? = some (.cells c t fr) ∧ t ≠ 86 ∧ t ≠ 47 ∧ (t = 26 → hi ≤ g)) ∧ (hi ≤ g ∨ some g = sb ∨ g < B)
theorem Aloof.lower {w : World} {B : Nat} {sb : Option Nat} {hi hi2 g : Nat} (h : Aloof w B sb hi g) (hle : hi2 ≤ hi) : Aloof w B sb hi2 g := by
  obtain ⟨⟨c, t, fr, h1, h2, h3, h4⟩, h5⟩ := h
  exact ⟨⟨c, t, fr, h1, h2, h3, fun e => by have := h4 e; omega⟩, by
    rcases h5 with h | h | h
    · exact .inl (by omega)
    · exact .inr (.inl h)
    · exact .inr (.inr h)⟩
theorem ElAt.frame {w w' : World} {B hi : Nat} {sb row : Option Nat} {e : El} (h : ElAt w B sb hi e) (hg : w.grownBy w' row) (hr : ∀ g, row = some g → Aloof w B sb hi g) : ElAt w' B sb hi e := by
  obtain ⟨css, h1, h2, h3⟩ := h.kids
  refine ⟨h.low, h.scope.kept hg (fun g e => by obtain ⟨⟨c, t, fr, a, b, _⟩, _⟩ := hr g e; exact ⟨c, t, fr, a, b⟩), World.ownsRow.kept h.atts hg ?_, ⟨css, h1, World.ownsRow.kept h2 hg ?_, fun j a b => (h3 j a b).stay (stay_grown hg ?_)⟩, h.far⟩
  · cases row with
    | none => cases e.va.ownBlock <;> simp
    | some g =>
      obtain ⟨⟨c, t, fr, a, _, b, _⟩, _⟩ := hr g rfl
      exact st_apart h.atts a b
  · cases row with
    | none => cases e.vk.ownBlock <;> simp
    | some g =>
      obtain ⟨⟨c, t, fr, a, _, _, b⟩, _⟩ := hr g rfl
      by_cases ht : t = 26
      · have := b ht
        right
        intro e
        have := h.far g e
        omega
      · exact st_apart h2 a ht
  · rintro g e ⟨⟨x1, x2, x3⟩, _⟩
    obtain ⟨_, y⟩ := hr g e
    have := h.low.1
    rcases y with y | y | y
    · omega
    · exact x3 y
    · omega
theorem ElAt.wider {w : World} {B hi hi2 : Nat} {sb : Option Nat} {e : El} (h : ElAt w B sb hi e) (hle : hi ≤ hi2) : ElAt w B sb hi2 e :=
  ⟨⟨h.low.1, by have := h.low.2; omega⟩, h.scope, h.atts, h.kids.mono fun b hb _ => ⟨hb.1, by omega, hb.2.2⟩, fun g e => by have := h.far g e; omega⟩
theorem ElAt.moved {w : World} {B hi N : Nat} {sb sb2 : Option Nat} {e : El} (h : ElAt w B sb hi e) (hs : sb2 = sb ∨ sb2 = some N) (hN : hi ≤ N) : ElAt w B sb2 hi e :=
  ⟨h.low, h.scope, h.atts, h.kids.mono fun b hb _ => ⟨hb.1, hb.2.1, by
    rcases hs with e | e
    · rw [e]; exact hb.2.2
    · rw [e]; intro x; injection x; have := hb.2.1; omega⟩, h.far⟩

/-- THE OPEN ELEMENTS, the innermost first: each lies behind the outer ones. -/
def Stk (w : World) (B : Nat) (sb : Option Nat) : Nat → List El → Prop
  | _, [] => True
  | hi, e :: es => ElAt w B sb hi e ∧ Stk w B sb e.lo es
theorem Stk.frame {w w' : World} {B : Nat} {sb row : Option Nat} (hg : w.grownBy w' row) : ∀ {es : List El} {hi : Nat}, Stk w B sb hi es → (∀ g, row = some g → Aloof w B sb hi g) → Stk w' B sb hi es
  | [], _, _, _ => trivial
  | _ :: _, _, h, hr => ⟨h.1.frame hg hr, Stk.frame hg h.2 fun g e' => (hr g e').lower h.1.low.2⟩
theorem Stk.on {w w' : World} {B : Nat} {sb : Option Nat} {es : List El} {hi : Nat} (h : Stk w B sb hi es) (hb : Below w.heap.size w w') : Stk w' B sb hi es := h.frame (grown_of_below hb none) (fun g e => by cases e)
theorem Stk.wider {w : World} {B hi hi2 : Nat} {sb : Option Nat} {es : List El} (h : Stk w B sb hi es) (hle : hi ≤ hi2) : Stk w B sb hi2 es := by
  cases es with
  | nil => trivial
  | cons e es => exact ⟨h.1.wider hle, h.2⟩
theorem Stk.moved {w : World} {B N : Nat} {sb sb2 : Option Nat} (hs : sb2 = sb ∨ sb2 = some N) : ∀ {es : List El} {hi : Nat}, hi ≤ N → Stk w B sb hi es → Stk w B sb2 hi es
  | [], _, _, _ => trivial
  | _ :: _, _, hN, h => ⟨h.1.moved hs hN, Stk.moved hs (Nat.le_trans h.1.low.2 hN) h.2⟩

/-! ### the parser's box -/
def stkCells (es : List El) : List Value := es.reverse.flatMap El.cells
theorem stkCells_len (es : List El) : (stkCells es).length = es.length * 8 := by
  have : ∀ l : List El, (l.flatMap El.cells).length = l.length * 8 := by
    intro l
    induction l with
    | nil => rfl
    | cons x l ih => rw [List.flatMap_cons, List.length_append, ih]; simp [El.cells]; omega
  unfold stkCells
  rw [this, List.length_reverse]
theorem stkCells_cons (e : El) (es : List El) : stkCells (e :: es) = stkCells es ++ e.cells := by simp [stkCells]
def pArr (sv : Value) (k : Int) (sp nm d : ByteArray) (va vk : Value) (b : Bool) : Array Value := #[sv, .int .i64 k, .string sp, .string nm, va, vk, .string d, .bool b]
/-- THE PARSER IN MEMORY, at block pb: the stack, the one element. -/
structure PSt (pb : Nat) (es : List El) (sv : Value) (k : Int) (sp nm d : ByteArray) (va vk : Value) (root : Option Gv.Node) (w : World) : Prop where
  box : Cells w pb 38 (pArr sv (k : Int) sp nm d va vk root.isSome)
  row : w.ownsRow (pb + 1) 71 8 sv es.length (stkCells es)
  stk : Stk w (pb + 1) sv.ownBlock w.heap.size es
  rootAt : ∀ n, root = some n → NodeAt (fun b => pb < b) w [.int .i64 (k : Int), .string sp, .string nm, va, vk, .string d] n
  alone : es ≠ [] → root = none
theorem PSt.on {pb : Nat} {es : List El} {sv : Value} {k : Int} {sp nm d : ByteArray} {va vk : Value} {root : Option Gv.Node} {w w' : World} (h : PSt pb es sv k sp nm d va vk root w) (hb : Below w.heap.size w w') : PSt pb es sv k sp nm d va vk root w' :=
  ⟨h.box.on hb, own_on h.row hb, (h.stk.on hb).wider hb.size, fun n e => (h.rootAt n e).on hb, h.alone⟩
end Go.Proofs.YtcjlhdmekhifaaaGreatDoor
