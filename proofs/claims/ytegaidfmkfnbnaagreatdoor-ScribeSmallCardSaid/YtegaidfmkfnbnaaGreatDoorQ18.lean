/-
  What is told of an element's tokens in memory: the contract's words.
  The stack of open elements in memory: each element's cells, what it made, which blocks that lies in.
  What is done with the stack: a kid more, characters more, an element begun, an element ended.
-/
import Derived.Test.YtegaidfmkfnbnaaGreatDoorQ13
import Derived.Test.YtegaidfmkfnbnaaGreatDoorQ01
import Derived.Test.YtegaidfmkfnbnaaGreatDoorQ02
import Derived.WalkSmall
namespace Go.Proofs.YtegaidfmkfnbnaaGreatDoor
open Go.RowKit

namespace Gv
theorem attrsGo_err {sc : List Pair} {e : Nat} : ∀ (l : List Pair) (acc : List Att), attrsGo sc acc l = .error e → e ≠ 0
  | [], acc, h => by unfold attrsGo at h; cases h
  | a :: l, acc, h => by
    unfold attrsGo at h
    split at h
    · cases h; omega
    · split at h
      · cases h; omega
      · exact attrsGo_err l _ h
theorem element_err {t : T.Tok} {scope : List Pair} {e : Nat} (h : element t scope = .error e) : e ≠ 0 := by
  unfold element at h
  split at h
  · cases h; omega
  · split at h
    · cases h; omega
    · split at h
      · cases h; omega
      · split at h
        · rename_i h2
          cases h
          exact attrsGo_err _ _ h2
        · cases h
theorem element_scope {t : T.Tok} {scope sc : List Pair} {sp nm : ByteArray} {as' : List Att} (h : element t scope = .ok ((sp, nm, as'), sc)) : sc.length ≤ scope.length + 50 := by
  unfold element at h
  split at h
  · cases h
  · rename_i h50
    split at h
    · cases h
    · rename_i more rest hd
      obtain ⟨hl, _⟩ := P.declGo_kept _ _ _ _ _ hd
      simp only [List.length_nil, List.length_map] at hl
      split at h
      · cases h
      · split at h
        · cases h
        · cases h
          rw [List.length_append]
          omega
end Gv

/-- THE ELEMENT'S TOKENS ARE TOLD: its node, in blocks that the call has laid, and how many tokens it has; or that there is no tree of what begins so. -/
def BodyTold (l : List T.Tok) (scope : List Pair) (depth : Nat) (w : World) (x : Ending) (w' : World) : Prop := Below w.heap.size w w' ∧
  ((∃ (c : List Value) (n : Gv.Node) (k : Nat), x = .returned (.tuple #[.agg c.toArray, .int .i64 (k : Int), .int .i64 0]) ∧ NodeAt (fun b => w.heap.size ≤ b) w' c n ∧ n.kind = 0 ∧ n.data = ByteArray.empty ∧
    ∀ (s : List Gv.Open) (r : Option Gv.Node), s.length + 1 = depth → Gv.scopeOf s = scope → (s ≠ [] ∨ r = none) → Gv.BodyOk s r l n k) ∨
  (∃ (k : Int) (e : Nat), x = .returned (.tuple #[.agg (nodeArr 0 ⟨#[]⟩ ⟨#[]⟩ (.slice none 0 0) (.slice none 0 0) ⟨#[]⟩), .int .i64 k, .int .i64 (e : Int)]) ∧ e ≠ 0 ∧
    ∀ (s : List Gv.Open) (r : Option Gv.Node), s.length + 1 = depth → Gv.scopeOf s = scope → (s ≠ [] ∨ r = none) → Gv.BodyBad s r l e))
theorem bodyTold_bad {l : List T.Tok} {scope : List Pair} {depth e : Nat} {k x : Int} {w w' : World} (hb : Below w.heap.size w w') (he : e ≠ 0) (hx : x = (e : Int))
    (h : ∀ (s : List Gv.Open) (r : Option Gv.Node), s.length + 1 = depth → Gv.scopeOf s = scope → (s ≠ [] ∨ r = none) → Gv.BodyBad s r l e) :
    BodyTold l scope depth w (.returned (.tuple #[.agg (nodeArr 0 ⟨#[]⟩ ⟨#[]⟩ (.slice none 0 0) (.slice none 0 0) ⟨#[]⟩), .int .i64 k, .int .i64 x])) w' := ⟨hb, .inr ⟨k, e, by rw [hx], he, h⟩⟩
theorem bodyTold_ok {l : List T.Tok} {scope : List Pair} {depth k : Nat} {x : Int} {w w' : World} {sp nm : ByteArray} {va vk : Value} {as' : List Gv.Att} {kids : List Gv.Node} (hb : Below w.heap.size w w') (hx : x = (k : Int))
    (ha : OwnsAtts w.heap.size va as' w') (hk : OwnsKids (fun b => w.heap.size ≤ b) w.heap.size vk kids w')
    (h : ∀ (s : List Gv.Open) (r : Option Gv.Node), s.length + 1 = depth → Gv.scopeOf s = scope → (s ≠ [] ∨ r = none) → Gv.BodyOk s r l (.mk 0 sp nm as' kids ByteArray.empty) k) :
    BodyTold l scope depth w (.returned (.tuple #[.agg (nodeArr 0 sp nm va vk ⟨#[]⟩), .int .i64 x, .int .i64 0])) w' :=
  ⟨hb, .inl ⟨[.int .i64 0, .string sp, .string nm, va, vk, .string ⟨#[]⟩], _, k, by rw [hx]; rfl, node_of_rows (k := 0) ha hk (fun _ h _ => h), rfl, rfl, h⟩⟩

/-- Tokens from one on lie in memory too. -/
theorem toks_from {w : World} {b off : Nat} {L : List (T.Tok × Value)} (h : ToksIn w (some ⟨b, off, none⟩) L) (i : Nat) : ToksIn w (some ⟨b, off + i * 5, none⟩) (L.drop i) := by
  intro j hj
  rw [List.length_drop] at hj
  obtain ⟨b', off', e, c, a⟩ := h (i + j) (by omega)
  cases e
  refine ⟨b, off + i * 5, rfl, fun k u hu => ?_, ?_⟩
  · rw [List.getElem_drop] at hu
    have := c k u hu
    rw [show off + i * 5 + j * 5 + k = off + (i + j) * 5 + k by omega]
    exact this
  · rw [List.getElem_drop]; exact a
end Go.Proofs.YtegaidfmkfnbnaaGreatDoor
namespace Go.Proofs.YtegaidfmkfnbnaaGreatDoor
open Go.RowKit

theorem st_apart {B n sz : Nat} {t : TypeId} {v : Value} {xs : List Value} {w : World} {k : Nat} {c : Array Value} {t2 : TypeId} {fr : Nat × Nat} (h : w.ownsRow B t sz v n xs) (hk : w.heap[k]? = some (.cells c t2 fr)) (hne : t2 ≠ t) : v.ownBlock = none ∨ v.ownBlock ≠ some k := by
  obtain ⟨_, ⟨rfl, _⟩ | ⟨g, cap, cur, rfl, hb, hh, _⟩⟩ := h
  · exact .inl rfl
  · right
    simp only [Value.ownBlock, ne_eq, Option.some.injEq]
    rintro rfl
    rw [hk] at hh
    cases hh
    exact hne rfl

/-- A scope in memory: a row of the call's, perhaps without its spare. -/
def ScopeAt (B : Nat) (v : Value) (l : List Pair) (w : World) : Prop := ∃ ao cap cap2, v = .slice ao l.length cap2 ∧ OwnsPairs B (.slice ao l.length cap) l w ∧ l.length ≤ cap2 ∧ (ao = none → cap2 = 0)
theorem scope_nil (B : Nat) (w : World) : ScopeAt B (.slice none 0 0) [] w := ⟨none, 0, 0, rfl, pairs_nil _ _, Nat.le_refl _, fun _ => rfl⟩
theorem ScopeAt.at' {B : Nat} {v : Value} {l : List Pair} {w : World} (h : ScopeAt B v l w) : ∃ ao cap, v = .slice ao l.length cap ∧ PairsIn w ao l ∧ l.length ≤ cap ∧ (ao = none → cap = 0) := by
  obtain ⟨ao, cap, cap2, rfl, h1, h2, h3⟩ := h
  obtain ⟨ao', cap', e, hp⟩ := pairs_of_owns h1
  cases e
  exact ⟨_, cap2, rfl, hp, h2, h3⟩
theorem ScopeAt.kept {B : Nat} {v : Value} {l : List Pair} {w w' : World} {row : Option Nat} (h : ScopeAt B v l w) (hg : w.grownBy w' row) (hr : ∀ g, row = some g → ∃ c t fr, w.heap[g]? = some (.cells c t fr) ∧ t ≠ 98) : ScopeAt B v l w' := by
  obtain ⟨ao, cap, cap2, rfl, h1, h2⟩ := h
  refine ⟨ao, cap, cap2, rfl, World.ownsRow.kept h1 hg ?_, h2⟩
  cases row with
  | none => cases ao <;> simp [Value.ownBlock]
  | some g =>
    obtain ⟨c, t, fr, hc, hne⟩ := hr g rfl
    exact st_apart h1 hc hne
theorem ScopeAt.base {B B' : Nat} {v : Value} {l : List Pair} {w : World} (h : ScopeAt B v l w) (hB : B' ≤ B) : ScopeAt B' v l w := by
  obtain ⟨ao, cap, cap2, rfl, h1, h2⟩ := h
  exact ⟨ao, cap, cap2, rfl, World.ownsRow.mono h1 hB, h2⟩
theorem ScopeAt.on {B : Nat} {v : Value} {l : List Pair} {w w' : World} (h : ScopeAt B v l w) (hb : Below w.heap.size w w') : ScopeAt B v l w' := h.kept (grown_of_below hb none) (fun g e => by cases e)

/-- An element that is open: what it is; from which block on lies what it made; its scope's, attributes' and kids' slices. -/
structure El where
  o : Gv.Open
  lo : Nat
  vs : Value
  va : Value
  vk : Value
def El.cells (e : El) : List Value := [.string ⟨e.o.tag.toArray⟩, e.vs, .int .i64 0, .string e.o.space, .string e.o.name, e.va, e.vk, .string ⟨#[]⟩]
/-- .. in memory: what it made lies below a bound, and not in the stack's own row. -/
structure ElAt (w : World) (B : Nat) (sb : Option Nat) (hi : Nat) (e : El) : Prop where
  low : B ≤ e.lo ∧ e.lo ≤ hi
  scope : ScopeAt B e.vs e.o.scope w
  atts : OwnsAtts e.lo e.va e.o.attrs w
  kids : OwnsKids (fun b => e.lo ≤ b ∧ b < hi ∧ some b ≠ sb) e.lo e.vk e.o.kids w
  far : ∀ g, e.vk.ownBlock = some g → g < hi
/-- A block that is none of an element's. -/
def Aloof (w : World) (B : Nat) (sb : Option Nat) (hi g : Nat) : Prop := (∃ c t fr, w.heap[g]? = some (.cells c t fr) ∧ t ≠ 98 ∧ t ≠ 40 ∧ (t = 25 → hi ≤ g)) ∧ (hi ≤ g ∨ some g = sb ∨ g < B)
theorem Aloof.lower {w : World} {B : Nat} {sb : Option Nat} {hi hi2 g : Nat} (h : Aloof w B sb hi g) (hle : hi2 ≤ hi) : Aloof w B sb hi2 g := by
  obtain ⟨⟨c, t, fr, h1, h2, h3, h4⟩, h5⟩ := h
  exact ⟨⟨c, t, fr, h1, h2, h3, fun e => by have := h4 e; omega⟩, by
    rcases h5 with h | h | h
    · exact .inl (by omega)
    · exact .inr (.inl h)
    · exact .inr (.inr h)⟩
theorem ElAt.frame {w w' : World} {B hi : Nat} {sb row : Option Nat} {e : El} (h : ElAt w B sb hi e) (hg : w.grownBy w' row) (hr : ∀ g, row = some g → Aloof w B sb hi g) : ElAt w' B sb hi e := by
  obtain ⟨css, h1, h2, h3⟩ := h.kids
  refine ⟨h.low, h.scope.kept hg (fun g e => by obtain ⟨⟨c, t, fr, a, b, _⟩, _⟩ := hr g e; exact ⟨c, t, fr, a, b⟩), World.ownsRow.kept h.atts hg ?_, ⟨css, h1, World.ownsRow.kept h2 hg ?_, fun j a b => (h3 j a b).stay (stay_grown hg ?_)⟩, h.far⟩
  · cases row with
    | none => cases e.va.ownBlock <;> simp
    | some g =>
      obtain ⟨⟨c, t, fr, a, _, b, _⟩, _⟩ := hr g rfl
      exact st_apart h.atts a b
  · cases row with
    | none => cases e.vk.ownBlock <;> simp
    | some g =>
      obtain ⟨⟨c, t, fr, a, _, _, b⟩, _⟩ := hr g rfl
      by_cases ht : t = 25
      · have := b ht
        right
        intro e
        have := h.far g e
        omega
      · exact st_apart h2 a ht
  · rintro g e ⟨⟨x1, x2, x3⟩, _⟩
    obtain ⟨_, y⟩ := hr g e
    have := h.low.1
    rcases y with y | y | y
    · omega
    · exact x3 y
    · omega
theorem ElAt.on {w w' : World} {B hi : Nat} {sb : Option Nat} {e : El} (h : ElAt w B sb hi e) (hb : Below w.heap.size w w') : ElAt w' B sb hi e := h.frame (grown_of_below hb none) (fun g e => by cases e)
theorem ElAt.wider {w : World} {B hi hi2 : Nat} {sb : Option Nat} {e : El} (h : ElAt w B sb hi e) (hle : hi ≤ hi2) : ElAt w B sb hi2 e :=
  ⟨⟨h.low.1, by have := h.low.2; omega⟩, h.scope, h.atts, h.kids.mono fun b hb _ => ⟨hb.1, by omega, hb.2.2⟩, fun g e => by have := h.far g e; omega⟩
theorem ElAt.moved {w : World} {B hi N : Nat} {sb sb2 : Option Nat} {e : El} (h : ElAt w B sb hi e) (hs : sb2 = sb ∨ sb2 = some N) (hN : hi ≤ N) : ElAt w B sb2 hi e :=
  ⟨h.low, h.scope, h.atts, h.kids.mono fun b hb _ => ⟨hb.1, hb.2.1, by
    rcases hs with e | e
    · rw [e]; exact hb.2.2
    · rw [e]; intro x; injection x; have := hb.2.1; omega⟩, h.far⟩

/-- THE OPEN ELEMENTS, the innermost first: each lies behind the outer ones. -/
def Stk (w : World) (B : Nat) (sb : Option Nat) : Nat → List El → Prop
  | _, [] => True
  | hi, e :: es => ElAt w B sb hi e ∧ Stk w B sb e.lo es
theorem Stk.frame {w w' : World} {B : Nat} {sb row : Option Nat} (hg : w.grownBy w' row) : ∀ {es : List El} {hi : Nat}, Stk w B sb hi es → (∀ g, row = some g → Aloof w B sb hi g) → Stk w' B sb hi es
  | [], _, _, _ => trivial
  | _ :: _, _, h, hr => ⟨h.1.frame hg hr, Stk.frame hg h.2 fun g e' => (hr g e').lower h.1.low.2⟩
theorem Stk.on {w w' : World} {B : Nat} {sb : Option Nat} {es : List El} {hi : Nat} (h : Stk w B sb hi es) (hb : Below w.heap.size w w') : Stk w' B sb hi es := h.frame (grown_of_below hb none) (fun g e => by cases e)
theorem Stk.wider {w : World} {B hi hi2 : Nat} {sb : Option Nat} {es : List El} (h : Stk w B sb hi es) (hle : hi ≤ hi2) : Stk w B sb hi2 es := by
  cases es with
  | nil => trivial
  | cons e es => exact ⟨h.1.wider hle, h.2⟩
theorem Stk.moved {w : World} {B N : Nat} {sb sb2 : Option Nat} (hs : sb2 = sb ∨ sb2 = some N) : ∀ {es : List El} {hi : Nat}, hi ≤ N → Stk w B sb hi es → Stk w B sb2 hi es
  | [], _, _, _ => trivial
  | _ :: _, _, hN, h => ⟨h.1.moved hs hN, Stk.moved hs (Nat.le_trans h.1.low.2 hN) h.2⟩

/-! ### the parser's box -/
def stkCells (es : List El) : List Value := es.reverse.flatMap El.cells
theorem stkCells_len (es : List El) : (stkCells es).length = es.length * 8 := by
  have : ∀ l : List El, (l.flatMap El.cells).length = l.length * 8 := by
    intro l
    induction l with
    | nil => rfl
    | cons x l ih => rw [List.flatMap_cons, List.length_append, ih]; simp [El.cells]; omega
  unfold stkCells
  rw [this, List.length_reverse]
theorem stkCells_cons (e : El) (es : List El) : stkCells (e :: es) = stkCells es ++ e.cells := by simp [stkCells]
def pArr (sv : Value) (k : Int) (sp nm d : ByteArray) (va vk : Value) (b : Bool) : Array Value := #[sv, .int .i64 k, .string sp, .string nm, va, vk, .string d, .bool b]
end Go.Proofs.YtegaidfmkfnbnaaGreatDoor
namespace Go.Proofs.YtegaidfmkfnbnaaGreatDoor
open Go.RowKit

theorem grown_put (w : World) (g j : Nat) (u : Value) : w.grownBy (w.setCell ⟨g, j, none⟩ u) (some g) := ⟨rfl, rfl, rfl, by simp, fun k _ hk => heap_setCell_other w ⟨g, j, none⟩ k u (fun e => hk (by simp [e]))⟩
theorem grown_six (w : World) (g o : Nat) (u0 u1 u2 u3 u4 u5 : Value) : w.grownBy (sixSet w g o u0 u1 u2 u3 u4 u5) (some g) :=
  (((((grown_put w g o u0).trans (grown_put _ g _ u1)).trans (grown_put _ g _ u2)).trans (grown_put _ g _ u3)).trans (grown_put _ g _ u4)).trans (grown_put _ g _ u5)
theorem setCell_swap (w : World) (a b : Addr) (u v : Value) (h : a.block ≠ b.block) : (w.setCell a u).setCell b v = (w.setCell b v).setCell a u := by
  unfold World.setCell
  congr 1
  apply Array.ext_getElem?
  intro i
  simp only [Array.getElem?_modify]
  by_cases h1 : b.block = i
  · have h2 : ¬ a.block = i := by omega
    simp [h1, h2]
  · simp [h1]
theorem setCell_id (w : World) (g j : Nat) (v : Value) (h : w.cell? ⟨g, j, none⟩ = some v) : w.setCell ⟨g, j, none⟩ v = w := by
  have hh : (w.setCell ⟨g, j, none⟩ v).heap = w.heap := by
    unfold World.setCell
    apply Array.ext_getElem?
    intro i
    simp only [Array.getElem?_modify]
    by_cases h1 : g = i
    · subst h1
      simp only [if_true]
      unfold World.cell? at h
      cases ho : w.heap[g]? with
      | none => rfl
      | some o =>
        rw [ho] at h
        cases o with
        | cells c t fr =>
          simp only [Option.map_some, Option.isSome_none, Bool.false_eq_true, if_false]
          congr 2
          have hc : c[j]? = some v := by simpa using h
          apply Array.ext_getElem?
          intro x
          rw [Array.getElem?_setIfInBounds]
          by_cases hx : j = x
          · subst hx
            rw [if_pos rfl, if_pos (Array.getElem?_eq_some_iff.1 hc).1]
            exact hc.symm
          · simp [hx]
        | _ => rfl
    · simp [h1]
  have : w.setCell ⟨g, j, none⟩ v = { w with heap := (w.setCell ⟨g, j, none⟩ v).heap } := rfl
  rw [this, hh]
theorem six_swap (w : World) (g g5 j o : Nat) (v u0 u1 u2 u3 u4 u5 : Value) (h : g ≠ g5) : sixSet (w.setCell ⟨g, j, none⟩ v) g5 o u0 u1 u2 u3 u4 u5 = (sixSet w g5 o u0 u1 u2 u3 u4 u5).setCell ⟨g, j, none⟩ v := by
  unfold sixSet
  rw [setCell_swap w _ _ _ _ h, setCell_swap _ ⟨g, j, none⟩ _ _ _ h, setCell_swap _ ⟨g, j, none⟩ _ _ _ h, setCell_swap _ ⟨g, j, none⟩ _ _ _ h, setCell_swap _ ⟨g, j, none⟩ _ _ _ h, setCell_swap _ ⟨g, j, none⟩ _ _ _ h]
/-- THE LAST ONE, which is nothing yet, is stored: a node. -/
theorem kids_put {S : Nat → Prop} {B g n cap : Nat} {w : World} {kids : List Gv.Node} {css : List (List Value)} {m : Gv.Node} {u0 u1 u2 u3 u4 u5 : Value} (hcl : css.length = kids.length) (hn : n = kids.length + 1) {zero : List Value} (hz : zero.length = 6)
    (hown : w.ownsRow B 25 6 (.slice (some ⟨g, 0, none⟩) n cap) n (css.flatten ++ zero))
    (hkd : ∀ j (h1 : j < css.length) (h2 : j < kids.length), NodeAt (fun b => S b ∧ b ≠ g) w css[j] kids[j]) (hm : NodeAt (fun b => S b ∧ b ≠ g) w [u0, u1, u2, u3, u4, u5] m) :
    OwnsKids S B (.slice (some ⟨g, 0, none⟩) (kids.length + 1) cap) (kids ++ [m]) (sixSet w g (kids.length * 6) u0 u1 u2 u3 u4 u5) := by
  have h6 : ∀ c ∈ css ++ [zero], c.length = 6 := fun c hc => by
    rcases List.mem_append.1 hc with hc | hc
    · obtain ⟨j, hj, rfl⟩ := List.mem_iff_getElem.1 hc
      exact (hkd j hj (by omega)).six
    · rw [List.mem_singleton.1 hc]; exact hz
  subst hn
  obtain ⟨ho, hg⟩ := row_six (css := css ++ [zero]) (q := kids.length) h6 (by simp [hcl]) (by simpa using hown) u0 u1 u2 u3 u4 u5
  rw [List.dropLast_concat] at ho
  have hstay : ∀ {c : List Value} {x : Gv.Node}, NodeAt (fun b => S b ∧ b ≠ g) w c x → NodeAt (fun b => S b ∧ some b ≠ (Value.slice (some ⟨g, 0, none⟩) (kids.length + 1) cap).ownBlock) (sixSet w g (kids.length * 6) u0 u1 u2 u3 u4 u5) c x := fun {c x} h =>
    (h.stay (stay_grown hg (fun g' e x => by injection e with e; exact x.2 e.symm))).mono fun b hb _ => ⟨hb.1, fun e => by simp only [Value.ownBlock] at e; injection e with e; exact hb.2 e⟩
  refine ⟨css ++ [[u0, u1, u2, u3, u4, u5]], by simp [hcl], by rw [List.length_append, List.length_singleton]; exact ho, fun j a b => ?_⟩
  by_cases hj : j < css.length
  · rw [List.getElem_append_left hj, List.getElem_append_left (by omega)]
    exact hstay (hkd j hj (by omega))
  · have hj2 : j = css.length := by simp at a; omega
    subst hj2
    rw [List.getElem_append_right (Nat.le_refl _), List.getElem_append_right (by omega)]
    simp only [hcl, Nat.sub_self, List.getElem_cons_zero]
    exact hstay hm

/-- CHARACTERS MORE in the last kid, a text. -/
theorem kids_join {S : Nat → Prop} {B g n cap q : Nat} {w : World} {kids : List Gv.Node} {d0 d : ByteArray} (hO : OwnsKids S B (.slice (some ⟨g, 0, none⟩) n cap) kids w) (hl : kids.length = q + 1) (hlast : kids.getLast? = some (Gv.text d0)) :
    w.cell? ⟨g, q * 6, none⟩ = some (.int .i64 1) ∧ w.cell? ⟨g, q * 6 + 5, none⟩ = some (.string d0) ∧ (∀ j, w.frozen? ⟨g, j, none⟩ = false) ∧ OwnsKids S B (.slice (some ⟨g, 0, none⟩) n cap) (kids.dropLast ++ [Gv.text (d0 ++ d)]) (w.setCell ⟨g, q * 6 + 5, none⟩ (.string (d0 ++ d))) := by
  obtain ⟨css, hcl, hown, hkd⟩ := hO
  have h6 : ∀ c ∈ css, c.length = 6 := fun c hc => by
    obtain ⟨j, hj, rfl⟩ := List.mem_iff_getElem.1 hc
    exact (hkd j hj (by omega)).six
  have hne : css ≠ [] := fun e => by rw [e] at hcl; simp at hcl; omega
  have hlc : css.getLast hne = css[css.length - 1]'(by omega) := List.getLast_eq_getElem hne
  have hlk : kids[css.length - 1]'(by omega) = Gv.text d0 := by
    have hk : kids ≠ [] := fun e => by rw [e] at hl; simp at hl
    rw [List.getLast?_eq_some_getLast hk] at hlast
    injection hlast with hlast
    rw [← hlast, List.getLast_eq_getElem hk]
    simp only [hcl]
  have hN := hkd (css.length - 1) (by omega) (by omega)
  rw [hlk, ← hlc] at hN
  obtain ⟨k0, sp0, nm0, dd, as0, kd0, ao2, bo2, ca2, cb2, cs2, e1, e2, hat, hrow, hnod, hz⟩ := hN.open'
  unfold Gv.text at e1
  cases e1
  have hdl : css.dropLast.flatten.length = q * 6 := by
    rw [flat_len _ (fun c hc => h6 c (List.dropLast_subset _ hc)), List.length_dropLast, hcl, hl]; rfl
  have hx : css.flatten = css.dropLast.flatten ++ css.getLast hne := calc
    css.flatten = (css.dropLast ++ [css.getLast hne]).flatten := by rw [List.dropLast_concat_getLast hne]
    _ = _ := by simp
  have hnn : n = kids.length := by
    rcases hown.2 with ⟨e, _⟩ | ⟨_, _, _, e, _⟩
    · cases e
    · injection e
  rw [e2] at hx
  subst hnn
  obtain ⟨ho, hg⟩ := hown.stored (q * 6 + 5) (.string (d0 ++ d))
  have hc := fun j u hu => World.ownsRow.cells hown (g := g) rfl j u hu
  refine ⟨?_, ?_, fun j => hown.frozenAt j, css.dropLast ++ [[.int .i64 1, .string ByteArray.empty, .string ByteArray.empty, .slice ao2 ([] : List Gv.Att).length ca2, .slice bo2 ([] : List Gv.Node).length cb2, .string (d0 ++ d)]], ?_, ?_, fun j a b => ?_⟩
  · have := hc (q * 6) (.int .i64 1) (by rw [hx, List.getElem?_append_right (by omega), hdl, Nat.sub_self]; rfl)
    rwa [add_at, Nat.zero_add] at this
  · have := hc (q * 6 + 5) (.string d0) (by rw [hx, List.getElem?_append_right (by omega), hdl, show q * 6 + 5 - q * 6 = 5 by omega]; rfl)
    rwa [add_at, Nat.zero_add] at this
  · simp [hcl]
  · have e3 : (kids.dropLast ++ [Gv.text (d0 ++ d)]).length = kids.length := by simp [hl]
    rw [e3]
    have e4 : (css.dropLast ++ [[Value.int .i64 1, .string ByteArray.empty, .string ByteArray.empty, .slice ao2 ([] : List Gv.Att).length ca2, .slice bo2 ([] : List Gv.Node).length cb2, .string (d0 ++ d)]]).flatten = css.flatten.set (q * 6 + 5) (.string (d0 ++ d)) := by
      rw [hx, List.flatten_append, List.set_append_right _ _ (by omega), hdl, show q * 6 + 5 - q * 6 = 5 by omega]
      rfl
    rw [e4]
    exact ho
  · have stay : ∀ {c : List Value} {x : Gv.Node}, NodeAt (fun b => S b ∧ some b ≠ (Value.slice (some ⟨g, 0, none⟩) kids.length cap).ownBlock) w c x → NodeAt (fun b => S b ∧ some b ≠ (Value.slice (some ⟨g, 0, none⟩) kids.length cap).ownBlock) (w.setCell ⟨g, q * 6 + 5, none⟩ (.string (d0 ++ d))) c x := fun {c x} h =>
      h.stay (stay_grown hg (fun g' e x => x.2 (by injection e with e; subst e; simp [Value.ownBlock])))
    by_cases hj : j < css.dropLast.length
    · have hj2 : j < kids.dropLast.length := by simp at hj ⊢; omega
      rw [List.getElem_append_left hj, List.getElem_append_left hj2, List.getElem_dropLast, List.getElem_dropLast]
      exact stay (hkd j _ _)
    · have hj2 : j = css.dropLast.length := by simp at a hj ⊢; omega
      subst hj2
      rw [List.getElem_append_right (Nat.le_refl _), List.getElem_append_right (by simp; omega)]
      simp only [Nat.sub_self, List.length_dropLast, hcl, List.getElem_cons_zero]
      refine stay ?_
      unfold Gv.text
      exact .mk cs2 ⟨by unfold maxLen; simp, by unfold maxLen; simp⟩ hat hrow hnod

/-! ### the parser's state -/
variable {pb : Nat} {es : List El} {e : El} {sv va vk : Value} {k : Int} {sp nm d : ByteArray} {root : Option Gv.Node} {w : World}

theorem kids_type {S : Nat → Prop} {B : Nat} {v : Value} {kids : List Gv.Node} {w : World} (h : OwnsKids S B v kids w) : ∀ g, v.ownBlock = some g → B ≤ g ∧ g < w.heap.size ∧ ∃ c fr, w.heap[g]? = some (.cells c 25 fr) := by
  intro g hg
  obtain ⟨css, _, h, _⟩ := h
  have hl := World.ownsRow.lt h g hg
  obtain ⟨_, ⟨rfl, _⟩ | ⟨g', cap, cur, rfl, hb, hh, _⟩⟩ := h
  · cases hg
  · simp only [Value.ownBlock, Option.some.injEq] at hg
    subst hg
    exact ⟨hl.1, hl.2, _, _, hh⟩
theorem el_cells (e : El) : e.cells = [.string ⟨e.o.tag.toArray⟩, e.vs, .int .i64 0, .string e.o.space, .string e.o.name, e.va, e.vk, .string ⟨#[]⟩] := rfl
/-- An element as a node. -/
theorem kids_rows {S : Nat → Prop} {B : Nat} {v : Value} {kids : List Gv.Node} {w : World} (h : OwnsKids S B v kids w) (hB : ∀ g, v.ownBlock = some g → S g) : ∃ cs : Nat → List Value, RowsAt S w v kids.length cs ∧ (∀ j (h : j < kids.length), NodeAt S w (cs j) kids[j]) ∧ kids.length ≤ maxLen := by
  obtain ⟨css, h1, h2, h3⟩ := h
  have h6 : ∀ c ∈ css, c.length = 6 := fun c hc => by
    obtain ⟨j, hj, rfl⟩ := List.mem_iff_getElem.1 hc
    exact (h3 j hj (by omega)).six
  have hc := fun g hg => World.ownsRow.cells h2 (g := g) hg
  obtain ⟨hl, ⟨rfl, h0⟩ | ⟨g, cap, cur, rfl, hb, hh, hk, hm, _⟩⟩ := h2
  · have hk0 : kids = [] := List.eq_nil_of_length_eq_zero h0
    subst hk0
    exact ⟨fun _ => [], ⟨none, 0, rfl, fun j hj => by simp at hj⟩, fun j hj => by simp at hj, by unfold maxLen; simp⟩
  · refine ⟨fun j => css[j]?.getD [], ⟨_, cap, rfl, fun j hj => ?_⟩, fun j hj => ?_, Nat.le_trans hk hm⟩
    · have hj2 : j < css.length := by omega
      have e : css[j]?.getD [] = css[j] := by simp [hj2]
      dsimp only
      rw [e]
      refine ⟨h6 _ (List.getElem_mem hj2), g, 0, rfl, hB g rfl, fun i u hu => ?_⟩
      have hi : i < 6 := by
        have := (List.getElem?_eq_some_iff.1 hu).1
        rwa [h6 _ (List.getElem_mem hj2)] at this
      have := hc g rfl (j * 6 + i) u (by rw [flat_at css h6 j i hj2 hi]; exact hu)
      rw [add_at, ← Nat.add_assoc] at this
      exact this
    · have hj2 : j < css.length := by omega
      have e : css[j]?.getD [] = css[j] := by simp [hj2]
      dsimp only
      rw [e]
      exact (h3 j hj2 hj).mono fun b hb _ => hb.1
theorem atts_len {B : Nat} {v : Value} {l : List Gv.Att} {w : World} (h : OwnsAtts B v l w) : l.length ≤ maxLen := by
  obtain ⟨_, ⟨h0, h1⟩ | ⟨g, cap, cur, h0, _, _, hk, hm, _⟩⟩ := h
  · rw [h1]; exact Nat.zero_le _
  · exact Nat.le_trans hk hm
end Go.Proofs.YtegaidfmkfnbnaaGreatDoor
