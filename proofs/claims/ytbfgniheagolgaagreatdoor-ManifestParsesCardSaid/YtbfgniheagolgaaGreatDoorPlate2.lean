/-
  What each call on a plate comes to, as far as a name's form goes, second part: the plate as it lies in memory; New, outcome, Create's deferred closure, spend, take, do, Create, and manifest's isName.
-/
import Derived.Test.YtbfgniheagolgaaGreatDoorPlate
namespace Go.Proofs.YtbfgniheagolgaaGreatDoor
open Go.RowKit
open Go.Maps (Keyed)

/-- How a file reads that a directory leads to: not at all. -/
def asFile (v : Value) : Option (DataW Unit × List MemPlace) :=
  match v with
  | .pointer _ => some (.nil, [])
  | _ => none

theorem asFile_inv {v : Value} {z : DataW Unit × List MemPlace} (h : asFile v = some z) : ∃ p, v = .pointer p := by
  cases v <;> simp [asFile] at h
  exact ⟨_, rfl⟩

theorem nameKey : Keyed Tryz.prog 9 := Maps.string_keyed Tryz.underlying9

/-- A PLATE WITH ENDLESS POWER LIES AT THE HEAD OF BLOCK pb, which is one of the call's own, as all that it leads to; no more than k files, no more than k steps. -/
structure PlateAt (B pb k : Nat) (sm nm n : Nat) (room : Int) (sv : Value) (xs : List Value) (w : World) : Prop where
  hB : B ≤ pb
  hn : B ≤ nm
  head : w.heap[pb]? = some (.cells #[.int .i64 room, .int .i64 (-1), .map (some sm), .map (some nm), sv] 60 (0, 0))
  now : ∃ D, w.ownsMap Tryz.prog 9 asFile nm k D
  steps : w.ownsRow B 73 2 sv n xs
  hk : n ≤ k

theorem PlateAt.lt {B pb k sm nm n : Nat} {room : Int} {sv : Value} {xs : List Value} {w : World} (h : PlateAt B pb k sm nm n room sv xs w) : pb < w.heap.size :=
  (Array.getElem?_eq_some_iff.1 h.head).1

theorem PlateAt.ne {B pb k sm nm n : Nat} {room : Int} {sv : Value} {xs : List Value} {w : World} (h : PlateAt B pb k sm nm n room sv xs w) : nm ≠ pb := by
  obtain ⟨D, es, c, hm, _⟩ := h.now
  rintro rfl
  have := h.head
  rw [hm] at this; cases this

theorem PlateAt.cell {B pb k sm nm n : Nat} {room : Int} {sv : Value} {xs : List Value} {w : World} (h : PlateAt B pb k sm nm n room sv xs w) :
    w.cell? ⟨pb, 0, none⟩ = some (.int .i64 room) ∧ w.cell? ⟨pb, 1, none⟩ = some (.int .i64 (-1)) ∧ w.cell? ⟨pb, 2, none⟩ = some (.map (some sm)) ∧ w.cell? ⟨pb, 3, none⟩ = some (.map (some nm)) ∧ w.cell? ⟨pb, 4, none⟩ = some sv := by
  simp [World.cell?, h.head]

theorem PlateAt.free {B pb k sm nm n : Nat} {room : Int} {sv : Value} {xs : List Value} {w : World} (h : PlateAt B pb k sm nm n room sv xs w) (i : Nat) : w.frozen? ⟨pb, i, none⟩ = false := by
  simp [World.frozen?, h.head]

theorem alloc_at {w : World} (o : Obj) (n : Nat) (h : w.heap.size = n) : (w.alloc o).heap[n]? = some o := by subst h; exact heap_alloc_new w o

theorem new_any (w : World) : Calls Tryz.prog 23 #[.int .i64 0] w fun e w' =>
    ∃ pb sm nm, e = .returned (.tuple #[.pointer (some ⟨pb, 0, none⟩), .int .i64 0]) ∧ PlateAt w.heap.size pb 0 sm nm 0 0 (.slice none 0 0) [] w' ∧ Below w.heap.size w w' := by
  have hmm := @run_makeMap Tryz.prog
  go_enter Tryz.func23, Tryz.ntmps23
  go_wp2
  go_ret2
  refine ⟨w.heap.size + 1 + 1, w.heap.size, w.heap.size + 1, rfl, ⟨by omega, by omega, alloc_at _ _ (by simp), ⟨.map [], ?_⟩, World.ownsRow_nil _ _ _ _, Nat.le_refl _⟩, ?_⟩
  · have h0 := (World.ownsMap_made (w.alloc (.map #[] 0)) Tryz.prog 9 asFile).alloc (.cells #[.int .i64 0, .int .i64 (-1), .map (some w.heap.size), .map (some (w.heap.size + 1)), .slice none 0 0] 60)
    have e : (w.alloc (.map #[] 0)).heap.size = w.heap.size + 1 := by simp
    rw [e] at h0; exact h0
  · exact (((Below.refl _ _).alloc (Nat.le_refl _) _).alloc (by simp) _).alloc (by simp; omega) _

theorem outcome_own (x : Int) (w : World) : Calls Tryz.prog 38 #[.nilIface, .int .i64 x] w fun e w' => e = .returned (.int .i64 x) ∧ w = w' := by
  go_enter Tryz.func38, Tryz.ntmps38
  go_wp2
  go_ret
  exact ⟨rfl, rfl⟩

theorem spend_any {B pb k sm nm n : Nat} {room : Int} {sv : Value} {xs : List Value} {w : World} (h : PlateAt B pb k sm nm n room sv xs w) :
    Calls Tryz.prog 40 #[.pointer (some ⟨pb, 0, none⟩)] w fun e w' => e = .returned (.tuple #[]) ∧ w = w' := by
  obtain ⟨c0, c1, c2, c3, c4⟩ := h.cell
  go_enter Tryz.func40, Tryz.ntmps40
  go_wp2
  go_end0
  exact ⟨rfl, rfl⟩

/-- WHAT STANDS IN BLOCKS OF OTHER TYPES STAYS. -/
def Lets (w w' : World) : Prop := ∀ (j : Nat) (cs : Array Value) (T : TypeId) (fr : Nat × Nat), w.heap[j]? = some (.cells cs T fr) → T ≠ 60 → T ≠ 73 → w'.heap[j]? = some (.cells cs T fr)

theorem Lets.refl (w : World) : Lets w w := fun _ _ _ _ h _ _ => h
theorem Lets.trans {a b c : World} (h : Lets a b) (k : Lets b c) : Lets a c := fun j cs T fr h0 h1 h2 => k j cs T fr (h j cs T fr h0 h1 h2) h1 h2
theorem Lets.alloc {a b : World} (h : Lets a b) (o : Obj) : Lets a (b.alloc o) := fun j cs T fr h0 h1 h2 => by
  have := h j cs T fr h0 h1 h2
  rw [Below.heap_alloc _ _ _ (Array.getElem?_eq_some_iff.1 this).1]; exact this
theorem Lets.drew {a b : World} (h : Lets a b) : Lets a b.drew := h

/-- In a map's block nothing of cells stands. -/
theorem lets_map {w w' : World} {b n : Nat} {D : DataW Unit} (h : w.ownsMap Tryz.prog 9 asFile b n D) (hg : w.grownBy w' (some b)) : Lets w w' := fun j cs T fr h0 _ _ => by
  obtain ⟨es, c, hm, _⟩ := h
  rw [hg.block j (Array.getElem?_eq_some_iff.1 h0).1 (by
    intro e
    cases e
    rw [hm] at h0; cases h0)]
  exact h0

theorem zeroFile (w : World) : (zeroValue 68).run Tryz.prog w = .ok (.pointer none) w := by kernel_rfl

theorem wpList_lookup_own_file {P : Program} (w : World) {ops : Array Oper} {rest : List Oper} {o : Oper} {a : Act} {Q : Exit → Act → World → Prop}
    (hg : o.guard = none) (m x : Operand) (t : TypeId) (hop : o.op = Op.lookup t m x false)
    (k e : TypeId) (K : Keyed P k) (ht : P.underlying t = some (.map k e)) (hz : (zeroValue e).run P w = .ok (.pointer none) w) (b n : Nat) (D : DataW Unit)
    (hm : a.eval m = .map (some b)) (hown : w.ownsMap P k asFile b n D) (key : Value) (kl : Lit) (hx : a.eval x = key) (hkey : keyOf P k key = some kl)
    (hK : ∀ p, wpList P ops Q rest (a.put o.dst (.pointer p)) w) :
    wpList P ops Q (o :: rest) a w := by
  refine wpList_plain hg fun K' hK' => ?_
  obtain ⟨v, ps, hrun, hv⟩ := hown.lookup K ht hz (zd := .nil) (zp := []) rfl hkey
  obtain ⟨p, rfl⟩ := asFile_inv hv
  unfold Oper.wp
  simp [execOp, hop, hm, hx, hrun, Result.andThen]
  exact hK' _ _ (hK p)

set_option maxHeartbeats 800000 in
theorem take_any {nm k : Nat} {D : DataW Unit} (s : ByteArray) (f : Addr) (sp : Nat) (w : World) (hs : s.size ≤ maxLen) (hk : k < 4294967296)
    (c0 : w.cell? ⟨sp, 0, none⟩ = some (.string s)) (c1 : w.cell? ⟨sp, 1, none⟩ = some (.pointer (some f))) (hown : w.ownsMap Tryz.prog 9 asFile nm k D) :
    Calls Tryz.prog 50 #[.map (some nm), .slice (some ⟨sp, 0, none⟩) 1 1] w fun e w' => e = .returned (.tuple #[]) ∧ (∃ D', w'.ownsMap Tryz.prog 9 asFile nm (k + 1) D') ∧ w.grownBy w' (some nm) := by
  have hkey := WideMaps.keyOf_string_mk (P := Tryz.prog) Tryz.underlying9 hs
  go_enter Tryz.func50, Tryz.ntmps50
  go_wp2_with fail
  refine wp_loop_rounds 2 ?_
  rw [rounds_succ]
  go_wp2_with (first
    | (at_mapUpdate; refine wpList_mapUpdate_own _ rfl _ _ _ 57 rfl 9 68 nameKey Tryz.underlying57 _ nm k _ rfl (hown.alloc _) (by unfold maxLen; omega) _ _ _ rfl rfl hkey .nil [] rfl ?_; intro w1 hown1 hgrow1)
    | fail)
  rw [rounds_succ]
  go_wp2
  go_end0
  exact ⟨rfl, ⟨_, hown1⟩, (World.grownBy_alloc w _ _).trans hgrow1⟩

theorem infoStep : (Tryz.prog.info? 73).map (fun i => (i.zero, i.size, i.bytes)) = some (some (.agg #[.string ByteArray.empty, .pointer none]), 2, 24) := by kernel_rfl

theorem PlateAt.grown {B pb k k' sm nm n : Nat} {room : Int} {sv : Value} {xs : List Value} {w w' : World} (h : PlateAt B pb k sm nm n room sv xs w) (hg : w.grownBy w' (some nm)) (hk : k ≤ k') {D : DataW Unit} (hm : w'.ownsMap Tryz.prog 9 asFile nm k' D) : PlateAt B pb k' sm nm n room sv xs w' := by
  have hne := h.ne
  obtain ⟨hB, hn, head, ⟨D0, es, c, hm0, _⟩, steps, hk0⟩ := h
  refine ⟨hB, hn, ?_, ⟨D, hm⟩, ?_, by omega⟩
  · rw [hg.block pb (Array.getElem?_eq_some_iff.1 head).1 (by simp; omega)]; exact head
  · refine steps.kept hg ?_
    obtain ⟨_, ⟨rfl, _⟩ | ⟨g, cap, cur, rfl, _, hh, _⟩⟩ := steps
    · exact .inl rfl
    · right
      intro e
      simp [Value.ownBlock] at e
      subst e
      rw [hm0] at hh; cases hh

theorem row_form {w : World} {B : Nat} {e : TypeId} {size n : Nat} {v : Value} {xs : List Value} (h : w.ownsRow B e size v n xs) (hn : 0 < n) :
    ∃ g cap, v = .slice (some ⟨g, 0, none⟩) n cap ∧ B ≤ g := by
  obtain ⟨_, ⟨_, rfl⟩ | ⟨g, cap, cur, rfl, hb, _⟩⟩ := h
  · omega
  · exact ⟨g, cap, rfl, hb⟩

theorem head_set {w : World} {pb : Nat} {a b c d e : Value} {T : TypeId} {fr : Nat × Nat} (h : w.heap[pb]? = some (.cells #[a, b, c, d, e] T fr)) (v : Value) :
    (w.setCell ⟨pb, 4, none⟩ v).heap[pb]? = some (.cells #[a, b, c, d, v] T fr) := by
  simp [World.setCell, Array.getElem?_modify, h]

theorem row_tag {w : World} {B : Nat} {e : TypeId} {size n : Nat} {v : Value} {xs : List Value} (h : w.ownsRow B e size v n xs) {j : Nat} {cs : Array Value} {T : TypeId} {fr : Nat × Nat} (hj : w.heap[j]? = some (.cells cs T fr)) (hT : T ≠ e) : some j ≠ v.ownBlock := by
  obtain ⟨_, ⟨rfl, _⟩ | ⟨g, cap, cur, rfl, hb, hh, _⟩⟩ := h
  · simp [Value.ownBlock]
  · simp only [Value.ownBlock, ne_eq, Option.some.injEq]
    rintro rfl
    rw [hh] at hj; cases hj; exact hT rfl

theorem row_map {w : World} {B : Nat} {e : TypeId} {size n : Nat} {v : Value} {xs : List Value} (h : w.ownsRow B e size v n xs) {j : Nat} {es : Array MapEntry} {c : Nat} (hj : w.heap[j]? = some (.map es c)) : some j ≠ v.ownBlock := by
  obtain ⟨_, ⟨rfl, _⟩ | ⟨g, cap, cur, rfl, hb, hh, _⟩⟩ := h
  · simp [Value.ownBlock]
  · simp only [Value.ownBlock, ne_eq, Option.some.injEq]
    rintro rfl
    rw [hh] at hj; cases hj

theorem row_setCell {w : World} {B : Nat} {e : TypeId} {size n : Nat} {v : Value} {xs : List Value} (h : w.ownsRow B e size v n xs) {a : Addr} (ha : some a.block ≠ v.ownBlock) (u : Value) : (w.setCell a u).ownsRow B e size v n xs := by
  obtain ⟨hl, h0 | ⟨g, cap, cur, rfl, hb, hh, r⟩⟩ := h
  · exact ⟨hl, .inl h0⟩
  · refine ⟨hl, .inr ⟨g, cap, cur, rfl, hb, ?_, r⟩⟩
    rw [RowKit.Below.heap_setCell _ _ _ _ (by intro e; apply ha; simp [Value.ownBlock, e])]
    exact hh

/-- Behind the append of a step: the plate's head stands, and may be written; the map stands. -/
theorem PlateAt.stepped {B pb k sm nm n : Nat} {room : Int} {sv : Value} {xs : List Value} {w w' : World} (h : PlateAt B pb k sm nm n room sv xs w) (hg : w.grownBy w' sv.ownBlock) :
    ((∀ v, (w'.setCell ⟨pb, 4, none⟩ v).heap[pb]? = some (.cells #[.int .i64 room, .int .i64 (-1), .map (some sm), .map (some nm), v] 60 (0, 0))) ∧
      (∀ D, w.ownsMap Tryz.prog 9 asFile nm k D → ∀ v, (w'.setCell ⟨pb, 4, none⟩ v).ownsMap Tryz.prog 9 asFile nm k D)) ∧
    (w'.cell? ⟨pb, 4, none⟩ = some sv ∧ w'.frozen? ⟨pb, 4, none⟩ = false) ∧ w'.heap[pb]? = some (.cells #[.int .i64 room, .int .i64 (-1), .map (some sm), .map (some nm), sv] 60 (0, 0)) := by
  have hh : w'.heap[pb]? = some (.cells #[.int .i64 room, .int .i64 (-1), .map (some sm), .map (some nm), sv] 60 (0, 0)) := by
    rw [hg.block pb h.lt (row_tag h.steps h.head (by decide))]; exact h.head
  refine ⟨⟨fun v => head_set hh v, fun D hm v => ?_⟩, ⟨by simp [World.cell?, hh], by simp [World.frozen?, hh]⟩, hh⟩
  refine (hm.kept hg ?_).setCell h.ne _
  obtain ⟨es, c, hm0, _⟩ := hm
  exact row_map h.steps hm0

theorem lets_row {B pb k sm nm n : Nat} {room : Int} {sv : Value} {xs : List Value} {w w' : World} (hst : w.ownsRow B 73 2 sv n xs) (h : PlateAt B pb k sm nm n room sv xs w) (hg : w.grownBy w' sv.ownBlock) (v : Value) : Lets w (w'.setCell ⟨pb, 4, none⟩ v) := fun j cs T fr h0 hT1 hT2 => by
  have hne : j ≠ pb := by
    rintro rfl
    rw [h.head] at h0; cases h0; exact hT1 rfl
  rw [RowKit.Below.heap_setCell _ _ _ _ hne, hg.block j (Array.getElem?_eq_some_iff.1 h0).1 (row_tag hst h0 hT2)]
  exact h0

set_option maxHeartbeats 800000 in
theorem do_any {B pb k sm nm n : Nat} {room : Int} {sv : Value} {xs : List Value} (s : ByteArray) (f : Addr) (sp : Nat) (w : World) (h : PlateAt B pb k sm nm n room sv xs w) (hs : s.size ≤ maxLen) (hk : k < 4294967296) (hBw : B ≤ w.heap.size)
    (c0 : w.cell? ⟨sp, 0, none⟩ = some (.string s)) (c1 : w.cell? ⟨sp, 1, none⟩ = some (.pointer (some f))) :
    Calls Tryz.prog 41 #[.pointer (some ⟨pb, 0, none⟩), .slice (some ⟨sp, 0, none⟩) 1 1] w fun e w' => e = .returned (.tuple #[]) ∧ (∃ n' sv' xs', PlateAt B pb (k + 1) sm nm n' room sv' xs' w') ∧ Below B w w' ∧ Lets w w' := by
  obtain ⟨i0, hi, hz0, hz1, hz2⟩ := info_parts infoStep
  obtain ⟨D, hm⟩ := h.now
  obtain ⟨p0, p1, p2, p3, p4⟩ := h.cell
  go_enter Tryz.func41, Tryz.ntmps41
  go_wp2_with fail
  (with_reducible refine (take_any s f sp _ hs hk c0 c1 hm).mono ?_); rintro e w1 ⟨rfl, ⟨D1, hm1⟩, hg1⟩
  have h1 := h.grown hg1 (Nat.le_succ k) hm1
  have b1 : Below B w w1 := (Below.refl _ _).grown hg1 hBw (fun j e => by cases e; exact h.hn)
  have l1 := lets_map hm hg1
  have d0 := hg1.cell c0 (by intro e; cases e; obtain ⟨es, c, hmm, _⟩ := hm; simp [World.cell?, hmm] at c0)
  have d1 := hg1.cell c1 (by intro e; cases e; obtain ⟨es, c, hmm, _⟩ := hm; simp [World.cell?, hmm] at c0)
  obtain ⟨q0, q1, q2, q3, q4⟩ := h1.cell
  have fz := h1.free 4
  have hsteps := h1.steps
  have hk1 := h1.hk
  have hsz := b1.size
  go_wp2_with (at_builtin; refine wpList_append_own _ rfl _ _ 58 rfl B 73 i0 _ 2 24 Tryz.underlying58 hi hz0 hz1 hz2 rfl (by decide) _ _ _ rfl hsteps ⟨sp, 0, none⟩ 1 1 [.string s, .pointer (some f)] rfl rfl ?c1 ?c2 ?b1 ?b2 ?b3 ?_)
  case c1 => intro j u hu; match j, hu with
    | 0, hu => simp at hu; subst hu; simpa [Addr.add] using d0
    | 1, hu => simp at hu; subst hu; simpa [Addr.add] using d1
  case c2 => intro u hu; simp at hu; rcases hu with rfl | rfl <;> rfl
  case b1 => unfold maxLen; omega
  case b2 => omega
  case b3 => omega
  intro v' w2 hown2 hg2 hnil2
  obtain ⟨g, cap', rfl, hBg⟩ := row_form hown2 (by omega)
  have h2 := h1.stepped hg2
  obtain ⟨⟨hd, hmk⟩, ⟨r4, z4⟩, hh⟩ := h2
  go_wp2
  go_end0
  have b2 : Below B w1 w2 := (Below.refl _ _).grown hg2 (by omega) (fun j e => (hsteps.lt j e).1)
  refine ⟨rfl, ⟨n + 1, _, _, ⟨h.hB, h.hn, hd _, ⟨D1, hmk D1 hm1 _⟩, row_setCell hown2 (row_tag hown2 hh (by decide)) _, by have := h.hk; omega⟩⟩, (b1.trans b2).setCell h.hB _, l1.trans (lets_row hsteps h1 hg2 _)⟩

theorem wpS_region_draw {P : Program} {Q : Exit → Act → List Frame → World → Prop} {a : Act} {cs : List Frame} {w : World} {id : Nat} {ops : Array Oper}
    (h : ∀ t, wpOpsS P ops Q (Region.schedule (P.follows .mixedOrders) ops t) a cs { w with drawn := w.drawn + 1 }) : (Code.region id ops true).wpS P Q a cs w :=
  fun b k hb hr => let ⟨e, a', cs', w', q, r⟩ := wp_opsS _ a cs _ (h _) b k hb hr; ⟨e, a', cs', w', q, .of_steps (.one step_region_draw) r⟩

theorem go_step (md : Region.Mode) (ops : Array Oper) (fuel t : Nat) (listed : Array Bool) (acc : List Nat) :
    Region.linearise.go md ops (fuel + 1) t listed acc = match (Region.ready md ops listed)[t % (Region.ready md ops listed).length]? with
      | some i => Region.linearise.go md ops fuel (t / (Region.ready md ops listed).length) (listed.setIfInBounds i true) (i :: acc)
      | none => acc.reverse := rfl

theorem sched_two (md : Region.Mode) (ops : Array Oper) (h0 : Region.ready md ops #[false, false, false, false] = [0, 1]) (h1 : Region.ready md ops #[true, false, false, false] = [1])
    (h2 : Region.ready md ops #[false, true, false, false] = [0]) (h3 : Region.ready md ops #[true, true, false, false] = [2]) (h4 : Region.ready md ops #[true, true, true, false] = [3]) (t : Nat) :
    Region.linearise.go md ops 4 t #[false, false, false, false] [] = [0, 1, 2, 3] ∨ Region.linearise.go md ops 4 t #[false, false, false, false] [] = [1, 0, 2, 3] := by
  have m1 : ∀ x, x % 1 = 0 := Nat.mod_one
  have z : ∀ (t : Nat) (l : Array Bool) (acc : List Nat), Region.linearise.go md ops 0 t l acc = acc.reverse := fun _ _ _ => by simp [Region.linearise.go]
  rcases Nat.mod_two_eq_zero_or_one t with e | e
  · left
    rw [go_step, h0]; simp [e]
    rw [go_step, h1]; simp [m1]
    rw [go_step, h3]; simp [m1]
    rw [go_step, h4]; simp [m1]
    rw [z]; rfl
  · right
    rw [go_step, h0]; simp [e]
    rw [go_step, h2]; simp [m1]
    rw [go_step, h3]; simp [m1]
    rw [go_step, h4]; simp [m1]
    rw [z]; rfl

theorem wpS_two {P : Program} {Q : Exit → Act → List Frame → World → Prop} {a : Act} {cs : List Frame} {w : World} {id : Nat} {ops : Array Oper} (hm : P.follows .mixedOrders = true) (hs : ops.size = 4)
    (h0 : Region.ready .any ops #[false, false, false, false] = [0, 1]) (h1 : Region.ready .any ops #[true, false, false, false] = [1])
    (h2 : Region.ready .any ops #[false, true, false, false] = [0]) (h3 : Region.ready .any ops #[true, true, false, false] = [2]) (h4 : Region.ready .any ops #[true, true, true, false] = [3])
    (hA : wpOpsS P ops Q [0, 1, 2, 3] a cs w.drew) (hB : wpOpsS P ops Q [1, 0, 2, 3] a cs w.drew) : (Code.region id ops true).wpS P Q a cs w := by
  apply wpS_region_draw
  intro t
  simp only [Region.schedule, hm, Bool.true_or, if_true]
  have e : Region.linearise .any ops t = Region.linearise.go .any ops 4 t #[false, false, false, false] [] := by unfold Region.linearise; rw [hs]; rfl
  rw [e]
  rcases sched_two .any ops h0 h1 h2 h3 h4 t with e | e
  · rw [e]; exact hA
  · rw [e]; exact hB

theorem mixed : Tryz.prog.follows .mixedOrders = true := by kernel_rfl

theorem closure_idle (p : Addr) (x : Int) (w : World) (hc : w.cell? p = some (.int .i64 x)) (hz : w.frozen? p = false) :
    CallsD Tryz.prog 37 #[.pointer (some p)] .returning w fun e u' w' => e = .returned (.tuple #[]) ∧ u' = .returning ∧ w' = (w.setCell p (.int .i64 x)).drew := by
  refine callsD_of_wpS Tryz.func37 rfl fun c₀ cs hu => ?_
  refine wpS_two mixed rfl (by kernel_rfl) (by kernel_rfl) (by kernel_rfl) (by kernel_rfl) (by kernel_rfl) ?_ ?_
  · simp [wpOpsS, go_sem, recoverD, hu, hc, Tryz.ntmps37, Tryz.call38]
    refine (outcome_own x _).mono ?_
    rintro e w' ⟨rfl, rfl⟩
    cases c₀
    simp_all [go_sem, bodyPostS, results, Tryz.results37]
  · simp [wpOpsS, go_sem, recoverD, hu, hc, Tryz.ntmps37, Tryz.call38]
    refine (outcome_own x _).mono ?_
    rintro e w' ⟨rfl, rfl⟩
    cases c₀
    simp_all [go_sem, bodyPostS, results, Tryz.results37]

theorem grown_of_below {w w' : World} (h : Below w.heap.size w w') (row : Option Nat) : w.grownBy w' row := ⟨h.os, h.tape, h.output, h.size, fun k hk _ => h.block k hk⟩

theorem PlateAt.below {B pb k k' sm nm n : Nat} {room : Int} {sv : Value} {xs : List Value} {w w' : World} (h : PlateAt B pb k sm nm n room sv xs w) (hb : Below w.heap.size w w') (hk : k ≤ k') : PlateAt B pb k' sm nm n room sv xs w' := by
  obtain ⟨D, hm⟩ := h.now
  exact h.grown (grown_of_below hb _) hk ((hm.kept (grown_of_below hb none) (by simp)).mono hk)

theorem PlateAt.setCell {B pb k sm nm n : Nat} {room : Int} {sv : Value} {xs : List Value} {w : World} (h : PlateAt B pb k sm nm n room sv xs w) {j : Nat} {cs : Array Value} {fr : Nat × Nat}
    (hj : w.heap[j]? = some (.cells cs 25 fr)) (o : Nat) (v : Value) : PlateAt B pb k sm nm n room sv xs (w.setCell ⟨j, o, none⟩ v) := by
  obtain ⟨hB, hn, head, ⟨D, hm⟩, steps, hk⟩ := h
  have h1 : pb ≠ j := by
    rintro rfl
    rw [head] at hj; cases hj
  have h2 : nm ≠ j := by
    rintro rfl
    obtain ⟨es, c, hm0, _⟩ := hm
    rw [hm0] at hj; cases hj
  exact ⟨hB, hn, by rw [RowKit.Below.heap_setCell _ _ _ _ h1]; exact head, ⟨D, hm.setCell h2 _⟩, row_setCell steps (row_tag steps hj (by decide)) _, hk⟩

theorem PlateAt.drew {B pb k sm nm n : Nat} {room : Int} {sv : Value} {xs : List Value} {w : World} (h : PlateAt B pb k sm nm n room sv xs w) : PlateAt B pb k sm nm n room sv xs w.drew := ⟨h.hB, h.hn, h.head, h.now, h.steps, h.hk⟩

/-- A PLATE OF THE CALL's OWN. -/
def Plate (B pb k : Nat) (w : World) : Prop := ∃ sm nm n room sv xs, PlateAt B pb k sm nm n room sv xs w

theorem lets_below {w w' : World} (h : Below w.heap.size w w') : Lets w w' := fun j _ _ _ h0 _ _ => (h.block j (Array.getElem?_eq_some_iff.1 h0).1).trans h0
theorem Lets.setCell {a b : World} (h : Lets a b) {N o : Nat} (hN : a.heap.size ≤ N) (v : Value) : Lets a (b.setCell ⟨N, o, none⟩ v) := fun j cs T fr h0 h1 h2 => by
  have hj := (Array.getElem?_eq_some_iff.1 h0).1
  rw [RowKit.Below.heap_setCell _ _ _ _ (show j ≠ N by omega)]; exact h j cs T fr h0 h1 h2

theorem door_end {B pb k N : Nat} {x : Int} {l : List UInt8} {w : World} {tmps : Array Value} (W : World) (hc : W.cell? ⟨N, 0, none⟩ = some (.int .i64 x)) (hx : x = 1 ↔ M.name l = false) (hp : Plate B pb (k + 1) W) (hb : Below B w W) (hl : Lets w W) (ht : tmps[4]? = some (.pointer (some ⟨N, 0, none⟩))) :
    Leaves Tryz.prog Tryz.f31 tmps (fun e w' => (∃ x : Int, e = .returned (.int .i64 x) ∧ (x = 1 ↔ M.name l = false)) ∧ Plate B pb (k + 1) w' ∧ Below B w w' ∧ Lets w w') [] .returning W := by
  refine ⟨.int .i64 x, ?_, ⟨x, rfl, hx⟩, hp, hb, hl⟩
  have h4 : 4 < tmps.size := (Array.getElem?_eq_some_iff.1 ht).1
  have h4' : tmps[4] = .pointer (some ⟨N, 0, none⟩) := (Array.getElem?_eq_some_iff.1 ht).2
  simp [results, Tryz.results31, go_sem, h4, h4', hc]

set_option maxRecDepth 100000 in
set_option maxHeartbeats 1600000 in
theorem create_any {B pb k : Nat} (s : ByteArray) (w : World) (h : Plate B pb k w) (hs : s.size ≤ maxLen) (hk : k < 4294967295) (hBw : B ≤ w.heap.size) :
    Calls Tryz.prog 31 #[.pointer (some ⟨pb, 0, none⟩), .string s] w fun e w' => (∃ x : Int, e = .returned (.int .i64 x) ∧ (x = 1 ↔ M.name s.data.toList = false)) ∧ Plate B pb (k + 1) w' ∧ Below B w w' ∧ Lets w w' := by
  obtain ⟨sm, nm, n, room, sv, xs, h⟩ := h
  have hmf : ∀ (fn : Fn) (first cap : Array Value) (w : World), (Instr.makeFunc fn first cap).run Tryz.prog w = .ok (.func fn first cap) w := fun _ _ _ _ => rfl
  have hkey := WideMaps.keyOf_string_mk (P := Tryz.prog) Tryz.underlying9 hs
  obtain ⟨D, hm⟩ := h.now
  obtain ⟨p0, p1, p2, p3, p4⟩ := h.cell
  have hpl := h.lt
  go_enter_defers Tryz.func31, Tryz.ntmps31
  go_wp2_with fail
  (with_reducible refine (isName_any s _ hs).mono ?_); rintro e w1 ⟨rfl, rfl⟩
  cases hN : M.name s.data.toList
  · have hN' := Lib.hid hN
    clear hN
    go_wp2
    refine leaves_cons (f := 37) (args := #[.pointer (some ⟨w.heap.size, 0, none⟩)]) (by simp) (by simp [go_sem]) ?_
    refine (closure_idle ⟨w.heap.size, 0, none⟩ 1 _ (by simp [go_sem]) (by simp [go_sem])).mono ?_
    rintro e u' w'' ⟨rfl, rfl, rfl⟩
    refine door_end (N := w.heap.size) (x := 1) _ (by simp [go_sem]) (by rw [hN'.out]; simp) ?_ ?_ ?_ rfl
    · exact ⟨sm, nm, n, room, sv, xs, ((h.below ((Below.refl _ _).alloc (Nat.le_refl _) _) (Nat.le_succ k)).setCell (alloc_at _ _ rfl) _ _).drew⟩
    · exact (((Below.refl _ _).alloc hBw _).setCell hBw _).drew
    · exact (lets_below ((((Below.refl _ _).alloc (Nat.le_refl _) _).setCell (Nat.le_refl _) _).drew))
  · have hN' := Lib.hid hN
    clear hN
    go_wp2_with (at_lookup; refine wpList_lookup_own_file _ rfl _ _ 57 rfl 9 68 nameKey Tryz.underlying57 (zeroFile _) nm k D rfl (hm.alloc _) _ _ rfl hkey ?_)
    rintro (_ | p)
    · by_cases hd : 200 ≤ Maps.size D
      · go_wp2_with (at_len; refine wpList_len_own _ rfl _ 57 rfl 9 68 Tryz.underlying57 _ nm k D rfl (hm.alloc _) ?_)
        refine leaves_cons (f := 37) (args := #[.pointer (some ⟨w.heap.size, 0, none⟩)]) (by simp) (by simp [go_sem]) ?_
        refine (closure_idle ⟨w.heap.size, 0, none⟩ 12 _ (by simp [go_sem]) (by simp [go_sem])).mono ?_
        rintro e u' w'' ⟨rfl, rfl, rfl⟩
        refine door_end (N := w.heap.size) (x := 12) _ (by simp [go_sem]) (by rw [hN'.out]; simp) ?_ ?_ ?_ rfl
        · exact ⟨sm, nm, n, room, sv, xs, ((h.below ((Below.refl _ _).alloc (Nat.le_refl _) _) (Nat.le_succ k)).setCell (alloc_at _ _ rfl) _ _).drew⟩
        · exact (((Below.refl _ _).alloc hBw _).setCell hBw _).drew
        · exact (lets_below ((((Below.refl _ _).alloc (Nat.le_refl _) _).setCell (Nat.le_refl _) _).drew))
      · go_wp2_with (at_len; refine wpList_len_own _ rfl _ 57 rfl 9 68 Tryz.underlying57 _ nm k D rfl (hm.alloc _) ?_)
        have g1 := h.below ((Below.refl _ _).alloc (Nat.le_refl _) (.cells #[.int .i64 0] 25)) (Nat.le_refl k)
        (with_reducible refine (spend_any g1).mono ?_); rintro e w1 ⟨rfl, rfl⟩
        go_wp2_with fail
        obtain ⟨W, hW⟩ : ∃ W, W = ((w.alloc (.cells #[.int .i64 0] 25)).alloc (.cells #[.slice none 0 0, .int .i64 0] 71)).alloc (.cells #[.string s, .pointer (some ⟨w.heap.size + 1, 0, none⟩)] 73) := ⟨_, rfl⟩
        have bW : Below w.heap.size w W := by
          rw [hW]; exact (((Below.refl _ _).alloc (Nat.le_refl _) _).alloc (by simp) _).alloc (by simp; omega) _
        have gW := h.below bW (Nat.le_refl k)
        have eW : W.heap[w.heap.size]? = some (.cells #[.int .i64 0] 25 (0, 0)) := by
          rw [hW, Below.heap_alloc _ _ _ (by simp; omega), Below.heap_alloc _ _ _ (by simp)]
          exact alloc_at _ _ rfl
        have dW : W.cell? ⟨w.heap.size + 1 + 1, 0, none⟩ = some (.string s) ∧ W.cell? ⟨w.heap.size + 1 + 1, 1, none⟩ = some (.pointer (some ⟨w.heap.size + 1, 0, none⟩)) := by
          have : W.heap[w.heap.size + 1 + 1]? = some (.cells #[.string s, .pointer (some ⟨w.heap.size + 1, 0, none⟩)] 73 (0, 0)) := by rw [hW]; exact alloc_at _ _ (by simp)
          simp [World.cell?, this]
        have hWs := bW.size
        rw [← hW]
        clear hW
        (with_reducible refine (do_any s ⟨w.heap.size + 1, 0, none⟩ (w.heap.size + 1 + 1) W gW hs (by omega) (by omega) dW.1 dW.2).mono ?_); rintro e w3 ⟨rfl, ⟨n3, sv3, xs3, g3⟩, b3, l3⟩
        have e3 := l3 _ _ _ _ eW (by decide) (by decide)
        have c3 : w3.cell? ⟨w.heap.size, 0, none⟩ = some (.int .i64 0) := by simp [World.cell?, e3]
        have f3 : w3.frozen? ⟨w.heap.size, 0, none⟩ = false := by simp [World.frozen?, e3]
        go_wp2
        refine leaves_cons (f := 37) (args := #[.pointer (some ⟨w.heap.size, 0, none⟩)]) (by simp) (by simp [go_sem]) ?_
        have c4 : (w3.setCell ⟨w.heap.size, 0, none⟩ (.int .i64 0)).cell? ⟨w.heap.size, 0, none⟩ = some (.int .i64 0) := World.cell?_setCell_same _ _ _ c3
        refine (closure_idle ⟨w.heap.size, 0, none⟩ 0 _ c4 (by simpa using f3)).mono ?_
        rintro e u' w'' ⟨rfl, rfl, rfl⟩
        have e4 : (w3.setCell ⟨w.heap.size, 0, none⟩ (.int .i64 0)).heap[w.heap.size]? = some (.cells #[.int .i64 0] 25 (0, 0)) := by simp [World.setCell, Array.getElem?_modify, e3]
        refine door_end (N := w.heap.size) (x := 0) _ ?_ (by rw [hN'.out]; simp) ?_ ?_ ?_ rfl
        · exact World.cell?_setCell_same _ _ _ c4
        · exact ⟨sm, nm, n3, room, sv3, xs3, ((g3.setCell e3 _ _).setCell e4 _ _).drew⟩
        · exact ((((bW.mono hBw).trans b3).setCell hBw _).setCell hBw _).drew
        · exact ((((lets_below bW).trans l3).setCell (Nat.le_refl _) _).setCell (Nat.le_refl _) _).drew
    · go_wp2
      refine leaves_cons (f := 37) (args := #[.pointer (some ⟨w.heap.size, 0, none⟩)]) (by simp) (by simp [go_sem]) ?_
      refine (closure_idle ⟨w.heap.size, 0, none⟩ 11 _ (by simp [go_sem]) (by simp [go_sem])).mono ?_
      rintro e u' w'' ⟨rfl, rfl, rfl⟩
      refine door_end (N := w.heap.size) (x := 11) _ (by simp [go_sem]) (by rw [hN'.out]; simp) ?_ ?_ ?_ rfl
      · exact ⟨sm, nm, n, room, sv, xs, ((h.below ((Below.refl _ _).alloc (Nat.le_refl _) _) (Nat.le_succ k)).setCell (alloc_at _ _ rfl) _ _).drew⟩
      · exact (((Below.refl _ _).alloc hBw _).setCell hBw _).drew
      · exact (lets_below ((((Below.refl _ _).alloc (Nat.le_refl _) _).setCell (Nat.le_refl _) _).drew))

theorem isFile_any {B pb k : Nat} (s : ByteArray) (w : World) (h : Plate B pb k w) (hs : s.size ≤ maxLen) (hk : k < 4294967295) (hBw : B ≤ w.heap.size) :
    Calls Tryz.prog 24 #[.pointer (some ⟨pb, 0, none⟩), .string s] w fun e w' => e = .returned (.bool (M.name s.data.toList)) ∧ Plate B pb (k + 1) w' ∧ Below B w w' ∧ Lets w w' := by
  go_enter Tryz.func24, Tryz.ntmps24
  go_wp2_with fail
  (with_reducible refine (create_any s _ h hs hk hBw).mono ?_); rintro e w1 ⟨⟨x, rfl, hx⟩, hp, hb, hl⟩
  have hx := Lib.hid hx
  go_wp2
  go_ret
  refine ⟨ret_bool ?_, hp, hb, hl⟩
  have := hx.out
  cases hN : M.name s.data.toList <;> simp_all

theorem isNumber_any (n : Int) (w : World) : Calls Tryz.prog 12 #[.int .i64 n] w fun e w' => e = .returned (.bool (M.num n)) ∧ w = w' := by
  go_enter Tryz.func12, Tryz.ntmps12
  go_wp2
  all_goals go_ret
  all_goals refine ⟨ret_bool ?_, rfl⟩
  all_goals unfold M.num
  all_goals rw [Bool.eq_iff_iff]
  all_goals simp
  all_goals omega
end Go.Proofs.YtbfgniheagolgaaGreatDoor
