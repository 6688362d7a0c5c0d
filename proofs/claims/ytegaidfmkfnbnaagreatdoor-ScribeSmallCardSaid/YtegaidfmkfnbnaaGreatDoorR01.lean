/-
  A tree that grows in memory: a row of attributes and a row of kids, both its own.
  What the law's own Grown comes to: a tree in memory, that is small.
  ScribeSmall: what the law's own Grown makes is told as the document says, and parsed as that tree.
-/
import Derived.Test.YtegaidfmkfnbnaaGreatDoorQ19
import Derived.Test.YtegaidfmkfnbnaaGreatDoorP20
import Derived.Test.YtegaidfmkfnbnaaGreatDoorQ20
import Derived.Deep.RegionHeld3
import Derived.Deep.RegionLaw
import Derived.Deep.AppendLies
import Derived.BigRegion
import Derived.Test.YtegaidfmkfnbnaaGreatDoorP19
import Derived.Test.YtegaidfmkfnbnaaGreatDoorQ17
import Derived.Test.YtegaidfmkfnbnaaGreatDoorQ21
namespace Go.Proofs.YtegaidfmkfnbnaaGreatDoor
open Go.RowKit

/-- One node more in an own row; nothing else is written. -/
theorem wpList_append_node2 {S : Nat → Prop} {kids : List Gv.Node} {n : Gv.Node} {c : List Value} {ops : Array Oper} {rest : List Oper} {o : Oper} {a : Act} {Q : Exit → Act → World → Prop} {w : World} (hgd : o.guard = none) (s x : Operand)
    (ho : o.op = .call { callee := .builtin .append, args := #[s, x], argTypes := #[23, 23] }) (B : Nat) (v : Value) (hs : a.eval s = v) (hO : OwnsKids S B v kids w) (b cap : Nat) (hx : a.eval x = .slice (some ⟨b, 0, none⟩) 1 cap)
    (hc : ∀ i u, c[i]? = some u → w.cell? ⟨b, i, none⟩ = some u) (hn : NodeAt (fun g => S g ∧ some g ≠ v.ownBlock) w c n) (hlen : kids.length ≤ 1000000) (hB : B ≤ w.heap.size)
    (h : ∀ v' w', OwnsKids S B v' (kids ++ [n]) w' → Below B w w' → w.grownBy w' v.ownBlock → wpList Tryz.prog ops Q rest (a.put o.dst v') w') : wpList Tryz.prog ops Q (o :: rest) a w := by
  obtain ⟨i0, hi, hz0, hz1, hz2⟩ := info_parts infoNode
  obtain ⟨css, hcl, hown, hkd⟩ := hO
  refine wpList_append_own_at w hgd s x 23 ho B 25 i0 _ 6 104 Tryz.underlying23 hi hz0 hz1 hz2 rfl (by decide) v kids.length css.flatten hs hown ⟨b, 0, none⟩ 1 cap c hx (by rw [hn.six]) (fun j u hu => by rw [add_at, Nat.zero_add]; exact hc j u hu) (node_cells_one hn) (by unfold maxLen; omega) (by omega) hB ?_
  intro v' w' hown' hg _ hat
  exact h v' w' (kids_more hcl hkd hn hown' hg hat (Nat.le_refl _)) ((Below.refl _ _).grown hg hB (fun j e => (World.ownsRow.lt hown j e).1)) hg
theorem kids_kept2 {S : Nat → Prop} {B : Nat} {row : Option Nat} {v : Value} {kids : List Gv.Node} {w w' : World} (h : OwnsKids S B v kids w) (hg : w.grownBy w' row) (hv : v.ownBlock = none ∨ v.ownBlock ≠ row) (hS : ∀ g, row = some g → ¬ S g) : OwnsKids S B v kids w' := by
  obtain ⟨css, h1, h2, h3⟩ := h
  exact ⟨css, h1, World.ownsRow.kept h2 hg hv, fun j a b => (h3 j a b).stay (stay_grown hg (fun g e x => hS g e x.1))⟩
/-- A node of kids alone. -/
theorem node_of_kids {S : Nat → Prop} {B : Nat} {w : World} {vk : Value} {kids : List Gv.Node} {k : Int} {sp nm d : ByteArray} (hk : OwnsKids S B vk kids w) (hS : ∀ g, vk.ownBlock = some g → S g) : NodeAt S w [.int .i64 k, .string sp, .string nm, .slice none 0 0, vk, .string d] (.mk k sp nm [] kids d) := by
  obtain ⟨css, h1, h2, h3⟩ := hk
  have hr : ∃ (bo : Option Addr) (cb : Nat) (cs : Nat → List Value), vk = .slice bo kids.length cb ∧ RowsAt S w vk kids.length cs ∧ (∀ j (h : j < kids.length), NodeAt S w (cs j) kids[j]) ∧ kids.length ≤ maxLen := by
    have h6 : ∀ c ∈ css, c.length = 6 := fun c hc => by
      obtain ⟨j, hj, rfl⟩ := List.mem_iff_getElem.1 hc
      exact (h3 j hj (by omega)).six
    have hc := fun g hg => World.ownsRow.cells h2 (g := g) hg
    obtain ⟨hl, ⟨rfl, h0⟩ | ⟨g, cap, cur, rfl, hb, hh, hk, hm, _⟩⟩ := h2
    · have hk0 : kids = [] := List.eq_nil_of_length_eq_zero h0
      subst hk0
      exact ⟨none, 0, fun _ => [], rfl, ⟨none, 0, rfl, fun j hj => by simp at hj⟩, fun j hj => by simp at hj, by unfold maxLen; simp⟩
    · refine ⟨_, cap, fun j => css[j]?.getD [], rfl, ⟨_, cap, rfl, fun j hj => ?_⟩, fun j hj => ?_, Nat.le_trans hk hm⟩
      · have hj2 : j < css.length := by omega
        have e : css[j]?.getD [] = css[j] := by simp [hj2]
        dsimp only
        rw [e]
        refine ⟨h6 _ (List.getElem_mem hj2), g, 0, rfl, hS g (by simp [Value.ownBlock]), fun i u hu => ?_⟩
        have hi : i < 6 := by
          have := (List.getElem?_eq_some_iff.1 hu).1
          rwa [h6 _ (List.getElem_mem hj2)] at this
        have := hc g rfl (j * 6 + i) u (by rw [flat_at css h6 j i hj2 hi]; exact hu)
        rw [add_at, ← Nat.add_assoc] at this
        exact this
      · have hj2 : j < css.length := by omega
        have e : css[j]?.getD [] = css[j] := by simp [hj2]
        dsimp only
        rw [e]
        exact (h3 j hj2 hj).mono fun b hb _ => hb.1
  obtain ⟨bo, cb, cs, rfl, hr1, hn, hm⟩ := hr
  exact .mk (as' := []) cs ⟨by unfold maxLen; simp, hm⟩ ⟨none, 0, rfl, Nat.le_refl _, fun j hj => by simp at hj⟩ hr1 hn

/-- WHAT HAS GROWN, since its node was laid in the block behind w2. -/
structure GIn (w2 : World) (sp nm : ByteArray) (va vk : Value) (as' : List Gv.Att) (kids : List Gv.Node) (w : World) : Prop where
  n : Cells w w2.heap.size 25 (nodeArr 0 sp nm va vk ⟨#[]⟩)
  att : OwnsAtts (w2.heap.size + 1) va as' w
  kid : OwnsKids (fun b => w2.heap.size + 1 ≤ b ∧ some b ≠ va.ownBlock) (w2.heap.size + 1) vk kids w
  low : Below w2.heap.size w2 w
  sz : w2.heap.size + 1 ≤ w.heap.size
theorem GIn.on {w2 : World} {sp nm : ByteArray} {va vk : Value} {as' : List Gv.Att} {kids : List Gv.Node} {w w' : World} (h : GIn w2 sp nm va vk as' kids w) (hb : Below w.heap.size w w') : GIn w2 sp nm va vk as' kids w' :=
  ⟨h.n.on hb, row_on h.att hb, h.kid.on hb, h.low.trans (hb.mono h.low.size), Nat.le_trans h.sz hb.size⟩
theorem GIn.first (w2 : World) (sp nm : ByteArray) : GIn w2 sp nm (.slice none 0 0) (.slice none 0 0) [] [] (w2.alloc (.cells (nodeArr 0 sp nm (.slice none 0 0) (.slice none 0 0) ⟨#[]⟩) 25)) :=
  ⟨Cells.new _ _ _, atts_none _ _, kids_nil _ _ _, (Below.refl _ _).alloc (Nat.le_refl _) _, by simp⟩
theorem GIn.apart {w2 : World} {sp nm : ByteArray} {va vk : Value} {as' : List Gv.Att} {kids : List Gv.Node} {w : World} (h : GIn w2 sp nm va vk as' kids w) : ∀ g, vk.ownBlock = some g → w2.heap.size + 1 ≤ g ∧ some g ≠ va.ownBlock := fun g hg => by
  obtain ⟨css, _, h2, _⟩ := h.kid
  refine ⟨(World.ownsRow.lt h2 g hg).1, fun e => ?_⟩
  rcases rows_apart h2 h.att (by decide) with h3 | h3
  · rw [h3] at hg; cases hg
  · exact h3 (hg.trans e)
/-- A field of the node is set: the rows stay. -/
theorem GIn.put {w2 : World} {sp nm : ByteArray} {va vk : Value} {as' : List Gv.Att} {kids : List Gv.Node} {w : World} {A : Array Value} (hc : Cells w w2.heap.size 25 A) (ha : OwnsAtts (w2.heap.size + 1) va as' w) (hk : OwnsKids (fun b => w2.heap.size + 1 ≤ b ∧ some b ≠ va.ownBlock) (w2.heap.size + 1) vk kids w) (hl : Below w2.heap.size w2 w) (hs : w2.heap.size + 1 ≤ w.heap.size)
    (i : Nat) (u : Value) (hA : A.set! i u = nodeArr 0 sp nm va vk ⟨#[]⟩) : GIn w2 sp nm va vk as' kids (w.setCell ⟨w2.heap.size, i, none⟩ u) := by
  have hg := grown_put w w2.heap.size i u
  refine ⟨?_, set_apart ha hc (by decide) u, kids_kept2 hk hg ?_ (fun g e x => by injection e with e; subst e; omega), hl.setCell (p := ⟨w2.heap.size, i, none⟩) (Nat.le_refl _) _, by simp only [World.size_setCell]; omega⟩
  · have := hc.set i u
    simpa [← hA] using this
  · obtain ⟨css, _, h2, _⟩ := hk
    cases hv : vk.ownBlock with
    | none => exact .inl rfl
    | some g =>
      right
      intro e
      have := (World.ownsRow.lt h2 g hv).1
      injection e with e
      omega
/-- one node more. -/
theorem GIn.node {w2 : World} {sp nm : ByteArray} {va vk v' : Value} {as' : List Gv.Att} {kids : List Gv.Node} {n : Gv.Node} {w w' : World} (h : GIn w2 sp nm va vk as' kids w) (hk : OwnsKids (fun b => w2.heap.size + 1 ≤ b ∧ some b ≠ va.ownBlock) (w2.heap.size + 1) v' (kids ++ [n]) w') (hb : Below (w2.heap.size + 1) w w') (hg : w.grownBy w' vk.ownBlock) :
    GIn w2 sp nm va v' as' (kids ++ [n]) (w'.setCell ⟨w2.heap.size, 4, none⟩ v') := by
  have kn : Cells w' w2.heap.size 25 (nodeArr 0 sp nm va vk ⟨#[]⟩) := (hb.block w2.heap.size (by omega)).trans h.n
  have hs := h.sz
  have hz := hb.size
  obtain ⟨css, _, h2, _⟩ := h.kid
  exact GIn.put kn (World.ownsRow.kept h.att hg (rows_apart h.att h2 (by decide))) hk (h.low.trans (hb.mono (by omega))) (by omega) 4 v' (by simp [nodeArr])
/-- the kids are taken away. -/
theorem GIn.bare {w2 : World} {sp nm : ByteArray} {va vk : Value} {as' : List Gv.Att} {kids : List Gv.Node} {w : World} (h : GIn w2 sp nm va vk as' kids w) : GIn w2 sp nm va (.slice none 0 0) as' [] (w.setCell ⟨w2.heap.size, 4, none⟩ (.slice none 0 0)) :=
  GIn.put h.n h.att (kids_nil _ _ _) h.low h.sz 4 _ (by simp [nodeArr])
/-- one attribute more. -/
theorem GIn.attr {w2 : World} {sp nm : ByteArray} {va vk v' : Value} {as' : List Gv.Att} {kids : List Gv.Node} {a : Gv.Att} {w w' : World} (h : GIn w2 sp nm va vk as' kids w) (ho : w'.ownsRow (w2.heap.size + 1) 40 3 v' (as'.length + 1) (as'.flatMap attCells ++ attCells a)) (hg : w.grownBy w' va.ownBlock) (hat : v'.ownBlock = va.ownBlock ∨ v'.ownBlock = some w.heap.size) :
    GIn w2 sp nm v' vk (as' ++ [a]) kids (w'.setCell ⟨w2.heap.size, 3, none⟩ v') := by
  have hlt : ∀ g, va.ownBlock = some g → w2.heap.size + 1 ≤ g := fun g e => (World.ownsRow.lt h.att g e).1
  have hs := h.sz
  have hb : Below (w2.heap.size + 1) w w' := (Below.refl _ _).grown hg h.sz hlt
  have hz := hb.size
  have kn : Cells w' w2.heap.size 25 (nodeArr 0 sp nm va vk ⟨#[]⟩) := (hb.block w2.heap.size (by omega)).trans h.n
  have hap := h.apart
  have hk1 : OwnsKids (fun b => (w2.heap.size + 1 ≤ b ∧ some b ≠ va.ownBlock) ∧ some b ≠ v'.ownBlock) (w2.heap.size + 1) vk kids w := h.kid.mono fun b hb hl => ⟨hb, fun e => by
    rcases hat with h1 | h1
    · exact hb.2 (e.trans h1)
    · rw [h1] at e
      injection e with e
      omega⟩
  obtain ⟨css, _, h2, _⟩ := h.kid
  have hk2 := kids_kept2 hk1 hg (rows_apart h2 h.att (by decide)) (fun g e x => x.1.2 e.symm)
  have ha : OwnsAtts (w2.heap.size + 1) v' (as' ++ [a]) w' := by
    unfold OwnsAtts
    rw [List.length_append, List.length_singleton, List.flatMap_append]
    simpa using ho
  exact GIn.put kn ha (hk2.mono fun b hb _ => ⟨hb.1.1, hb.2⟩) (h.low.trans (hb.mono (by omega))) (by omega) 3 v' (by simp [nodeArr])
end Go.Proofs.YtegaidfmkfnbnaaGreatDoor
namespace Go.Proofs.YtegaidfmkfnbnaaGreatDoor
open Go.RowKit

/-- A TREE THAT HAS GROWN: in blocks that the call has laid, and small. -/
def GrownTold (w : World) (x : Ending) (w' : World) : Prop := Below w.heap.size w w' ∧ ∃ (c : List Value) (n : Gv.Node), x = .returned (.agg c.toArray) ∧ NodeAt (fun b => w.heap.size ≤ b) w' c n ∧ Gv.wt n ≤ 1000
theorem cell_end1 {F : Func} {R : Ending → World → Prop} {tmps : Array Value} {w : World} {rb i : Nat} {x : Int} {sp nm d : ByteArray} {va vk : Value} (hres : F.results = #[ResultVar.cell i 25])
    (h2 : tmps[i]? = some (.pointer (some ⟨rb, 0, none⟩))) (hc : Cells w rb 25 (nodeArr x sp nm va vk d))
    (hR : R (.returned (.agg (nodeArr x sp nm va vk d))) w) : bodyPost Tryz.prog F R .ret { tmps := tmps, defers := [] } w := by
  refine ⟨rfl, _, ?_, hR⟩
  have l2 : i < tmps.size := (Array.getElem?_eq_some_iff.1 h2).1
  have g2 : tmps[i] = .pointer (some ⟨rb, 0, none⟩) := (Array.getElem?_eq_some_iff.1 h2).2
  obtain ⟨x0, x1, x2, x3, x4, x5⟩ := node_open hc
  simp [results, hres, go_sem, l2, g2, x0, x1, x2, x3, x4, x5]
  rfl
/-- How much there is in the rows. -/
def rowsW (as' : List Gv.Att) (kids : List Gv.Node) : Nat := as'.length + (as'.map Gv.attW).sum + Gv.wts kids
theorem rowsW_node {as' : List Gv.Att} {kids : List Gv.Node} {n : Gv.Node} {i : Nat} (h : rowsW as' kids ≤ 64 * i) (hn : Gv.wt n ≤ 64) : rowsW as' (kids ++ [n]) ≤ 64 * (i + 1) := by
  unfold rowsW at *
  rw [Gv.wts_append]
  simp only [Gv.wts]
  omega
theorem rowsW_in {as' : List Gv.Att} {kids : List Gv.Node} {sp nm : ByteArray} {i : Nat} (h : rowsW as' kids ≤ 64 * i) (h1 : sp.size ≤ 20) (h2 : nm.size ≤ 20) : rowsW as' [.mk 0 sp nm [] kids ⟨#[]⟩] ≤ 64 * (i + 1) := by
  unfold rowsW at *
  have e : (⟨#[]⟩ : ByteArray).size = 0 := rfl
  simp only [Gv.wts, Gv.wt, List.length_nil, List.map_nil, List.sum_nil, e]
  omega
theorem rowsW_att {as' : List Gv.Att} {kids : List Gv.Node} {a : Gv.Att} {i : Nat} (h : rowsW as' kids ≤ 64 * i) (h1 : a.space.size ≤ 20) (h2 : a.name.size ≤ 20) (h3 : a.value.size ≤ 20) : rowsW (as' ++ [a]) kids ≤ 64 * (i + 1) := by
  unfold rowsW at *
  rw [List.length_append, List.map_append, List.sum_append]
  simp only [List.length_singleton, List.map_cons, List.map_nil, List.sum_cons, List.sum_nil, Gv.attW]
  omega
theorem rowsW_kids {as' : List Gv.Att} {kids : List Gv.Node} {i : Nat} (h : rowsW as' kids ≤ 64 * i) (hi : i ≤ 12) : kids.length ≤ 1000000 := by
  unfold rowsW at h
  have := Gv.wts_len kids
  omega
theorem rowsW_len {as' : List Gv.Att} {kids : List Gv.Node} {n : Gv.Node} {i : Nat} (h : rowsW as' (kids ++ [n]) ≤ 64 * i) (hi : i ≤ 13) : kids.length ≤ 1000000 := by
  unfold rowsW at h
  rw [Gv.wts_append] at h
  have := Gv.wts_len kids
  omega
theorem rowsW_top {as' : List Gv.Att} {kids : List Gv.Node} {sp : ByteArray} {i : Nat} (h : rowsW as' kids ≤ 64 * i) (hi : i ≤ 12) (h1 : sp.size ≤ 20) : Gv.wt (.mk 0 sp ⟨#[116, 111, 112]⟩ as' kids ⟨#[]⟩) ≤ 1000 := by
  unfold rowsW at h
  have e : (⟨#[]⟩ : ByteArray).size = 0 := rfl
  have e3 : (⟨#[116, 111, 112]⟩ : ByteArray).size = 3 := rfl
  simp only [Gv.wt, e, e3]
  omega
theorem rowsW_atts {as' : List Gv.Att} {kids : List Gv.Node} {i : Nat} (h : rowsW as' kids ≤ 64 * i) (hi : i ≤ 12) : as'.length ≤ 1000000 := by
  unfold rowsW at h
  omega
theorem att_new (W : World) (us uq : ByteArray) : ∀ j u, [Value.string us, .string uq, .string ⟨#[10, 60]⟩][j]? = some u → ((W.alloc (.cells #[.string us, .string uq, .string ⟨#[10, 60]⟩] 40)).drew).cell? ((⟨W.heap.size, 0, none⟩ : Addr).add j) = some u := by
  intro j u hu
  rw [add_at, Nat.zero_add]
  exact (Cells.new W 40 #[.string us, .string uq, .string ⟨#[10, 60]⟩]).cell (by rw [← Array.getElem?_toList]; exact hu)
theorem att_one (us uq : ByteArray) : ∀ u ∈ [Value.string us, .string uq, .string ⟨#[10, 60]⟩], u.oneCell' = true := by
  intro u hu
  simp at hu
  rcases hu with rfl | rfl | rfl <;> rfl
theorem GIn.attr_cell {w2 : World} {sp nm : ByteArray} {va vk : Value} {as' : List Gv.Att} {kids : List Gv.Node} {w w' : World} (h : GIn w2 sp nm va vk as' kids w) (hg : w.grownBy w' va.ownBlock) : w'.cell? ⟨w2.heap.size, 3, none⟩ = some va ∧ w'.frozen? ⟨w2.heap.size, 3, none⟩ = false := by
  have hlt : ∀ g, va.ownBlock = some g → w2.heap.size + 1 ≤ g := fun g e => (World.ownsRow.lt h.att g e).1
  have hb : Below (w2.heap.size + 1) w w' := (Below.refl _ _).grown hg h.sz hlt
  have kn : Cells w' w2.heap.size 25 (nodeArr 0 sp nm va vk ⟨#[]⟩) := (hb.block w2.heap.size (by omega)).trans h.n
  exact ⟨kn.cell (i := 3) rfl, kn.free 3⟩
theorem text_wt {k : Int} {d : ByteArray} (h : d.size ≤ 20) : Gv.wt (.mk k ByteArray.empty ByteArray.empty [] [] d) ≤ 64 := by
  have e : ByteArray.empty.size = 0 := rfl
  simp only [Gv.wts, Gv.wt, List.length_nil, List.map_nil, List.sum_nil, e]
  omega
/-- three strings in a block. -/
theorem three_at {w : World} {b : Nat} {t : TypeId} {x y z : ByteArray} (h : Cells w b t #[.string x, .string y, .string z]) (hx : x.size ≤ 20) (hy : y.size ≤ 20) (hz : z.size ≤ 20) (j : Nat) (hj : j < 3) : ∃ s : ByteArray, s.size ≤ 20 ∧ ∀ W, Below w.heap.size w W → W.cell? ⟨b, j, none⟩ = some (.string s) := by
  rcases (by omega : j = 0 ∨ j = 1 ∨ j = 2) with rfl | rfl | rfl
  · exact ⟨x, hx, fun W hb => (h.on hb).cell rfl⟩
  · exact ⟨y, hy, fun W hb => (h.on hb).cell rfl⟩
  · exact ⟨z, hz, fun W hb => (h.on hb).cell rfl⟩
theorem four_at {w : World} {b : Nat} {t : TypeId} {x y z u : ByteArray} (h : Cells w b t #[.string x, .string y, .string z, .string u]) (hx : x.size ≤ 20) (hy : y.size ≤ 20) (hz : z.size ≤ 20) (hu : u.size ≤ 20) (j : Nat) (hj : j < 4) : ∃ s : ByteArray, s.size ≤ 20 ∧ w.cell? ⟨b, j, none⟩ = some (.string s) := by
  rcases (by omega : j = 0 ∨ j = 1 ∨ j = 2 ∨ j = 3) with rfl | rfl | rfl | rfl
  · exact ⟨x, hx, h.cell rfl⟩
  · exact ⟨y, hy, h.cell rfl⟩
  · exact ⟨z, hz, h.cell rfl⟩
  · exact ⟨u, hu, h.cell rfl⟩

set_option maxRecDepth 100000 in
set_option maxHeartbeats 12800000 in
theorem grown_any {ao : Option Addr} {cap : Nat} (L : List UInt8) (w : World) (hL : BytesAt ao L w) (hz : L.length ≤ maxLen) :
    Calls Tryz.prog 14 #[.slice ao L.length cap] w (GrownTold w) := by
  unfold maxLen at hz
  have bR := (Below.refl w.heap.size w).alloc (Nat.le_refl _) (.cells (nodeArr 0 ⟨#[]⟩ ⟨#[]⟩ (.slice none 0 0) (.slice none 0 0) ⟨#[]⟩) 25)
  have kR := Cells.new w 25 (nodeArr 0 ⟨#[]⟩ ⟨#[]⟩ (.slice none 0 0) (.slice none 0 0) ⟨#[]⟩)
  unfold nodeArr at bR kR
  go_enter Tryz.func14, Tryz.ntmps14
  go_upto_region 2 with fail
  have b1 := (bR.alloc bR.size (.cells #[.string ⟨#[]⟩, .string ⟨#[117]⟩, .string ⟨#[118]⟩] 9)).alloc (by simp; omega) (.cells #[.string ⟨#[97]⟩, .string ⟨#[98]⟩, .string ⟨#[120, 109, 108, 110, 115]⟩] 9)
  have kR1 := (kR.alloc (.cells #[.string ⟨#[]⟩, .string ⟨#[117]⟩, .string ⟨#[118]⟩] 9)).alloc (.cells #[.string ⟨#[97]⟩, .string ⟨#[98]⟩, .string ⟨#[120, 109, 108, 110, 115]⟩] 9)
  have kA := (Cells.new (w.alloc (.cells #[.int .i64 0, .string ⟨#[]⟩, .string ⟨#[]⟩, .slice none 0 0, .slice none 0 0, .string ⟨#[]⟩] 25)) 9 #[.string ⟨#[]⟩, .string ⟨#[117]⟩, .string ⟨#[118]⟩]).alloc (.cells #[.string ⟨#[97]⟩, .string ⟨#[98]⟩, .string ⟨#[120, 109, 108, 110, 115]⟩] 9)
  have kB := Cells.new ((w.alloc (.cells #[.int .i64 0, .string ⟨#[]⟩, .string ⟨#[]⟩, .slice none 0 0, .slice none 0 0, .string ⟨#[]⟩] 25)).alloc (.cells #[.string ⟨#[]⟩, .string ⟨#[117]⟩, .string ⟨#[118]⟩] 9)) 9 #[.string ⟨#[97]⟩, .string ⟨#[98]⟩, .string ⟨#[120, 109, 108, 110, 115]⟩]
  have hsz2 : (((w.alloc (.cells #[.int .i64 0, .string ⟨#[]⟩, .string ⟨#[]⟩, .slice none 0 0, .slice none 0 0, .string ⟨#[]⟩] 25)).alloc (.cells #[.string ⟨#[]⟩, .string ⟨#[117]⟩, .string ⟨#[118]⟩] 9)).alloc (.cells #[.string ⟨#[97]⟩, .string ⟨#[98]⟩, .string ⟨#[120, 109, 108, 110, 115]⟩] 9)).heap.size = w.heap.size + 3 := by simp
  simp only [World.size_alloc] at kA kB
  generalize ((w.alloc (.cells #[.int .i64 0, .string ⟨#[]⟩, .string ⟨#[]⟩, .slice none 0 0, .slice none 0 0, .string ⟨#[]⟩] 25)).alloc (.cells #[.string ⟨#[]⟩, .string ⟨#[117]⟩, .string ⟨#[118]⟩] 9)).alloc (.cells #[.string ⟨#[97]⟩, .string ⟨#[98]⟩, .string ⟨#[120, 109, 108, 110, 115]⟩] 9) = w2 at *
  have hA := Lib.hid (three_at kA (by decide) (by decide) (by decide))
  have hB := Lib.hid (three_at kB (by decide) (by decide) (by decide))
  have hL2 := Lib.hid (hL.below b1)
  obtain ⟨j0, hj0, hj1⟩ : ∃ j0 : Nat, j0 < 3 ∧ (L.length : Int) % 3 = (j0 : Int) := ⟨L.length % 3, by omega, by omega⟩
  obtain ⟨s0, hs0, hcell0⟩ := hA.out j0 hj0
  have c0 := hcell0 w2 (Below.refl _ _)
  have hj2 : (j0 : Int) < 3 := by omega
  replace kR1 := Lib.hid kR1
  replace b1 := Lib.hid b1
  replace hsz2 := Lib.hid hsz2
  have hP := Lib.hid (GIn.first w2 s0 ⟨#[116, 111, 112]⟩)
  have hW0 := Lib.hid (show rowsW [] [] ≤ 64 * 0 by decide)
  clear hL bR kR kA kB hcell0
  go_wp2_with fail
  clear c0 hj1 hj2
  go_loopg [6, 7, 8] 12 (fun gg s6 _ _ wr => ∃ (i : Nat) (as' : List Gv.Att) (kids : List Gv.Node) (va vk : Value), i ≤ 12 ∧ 12 - i ≤ gg ∧ s6 = .int .i64 i ∧ Hid (rowsW as' kids ≤ 64 * i) ∧ Hid (GIn w2 s0 ⟨#[116, 111, 112]⟩ va vk as' kids wr))
  case atStart => exact ⟨0, [], [], _, _, by omega, by omega, rfl, hW0, hP⟩
  case round =>
    obtain ⟨i, as', kids, va, vk, hi, hg, rfl, hW, hJ⟩ := hrel
    clear hP hW0
    obtain ⟨vo, vcap, _, rfl, -, -, -, -⟩ := OwnsKids.rows (S := fun _ => True) (hJ.out.kid.mono fun _ _ _ => trivial) (fun _ _ _ => trivial)
    obtain ⟨wo, wcap, rfl, _⟩ := hJ.out.att.at'
    obtain ⟨n0, n1, n2, n3, n4, n5⟩ := node_open hJ.out.n
    by_cases hlt : i < L.length ∧ i < 12
    · obtain ⟨h1, h2⟩ := hlt
      have h1i : (i : Int) < (L.length : Int) := by omega
      have h2i : (i : Int) < 12 := by omega
      obtain ⟨b, off, rfl, cb⟩ := (hL2.out.below hJ.out.low) i h1
      obtain ⟨kn, hkn⟩ : ∃ kn : Nat, kn = L[i].toNat := ⟨_, rfl⟩
      have hk255 : kn ≤ 255 := by have := L[i].toNat_lt; omega
      rw [← hkn] at cb
      clear hkn
      obtain ⟨j1, hj1a, hj1b⟩ : ∃ j : Nat, j < 3 ∧ (kn : Int) / 5 % 3 = (j : Int) := ⟨kn / 5 % 3, by omega, by omega⟩
      obtain ⟨j2, hj2a, hj2b⟩ : ∃ j : Nat, j < 2 ∧ (kn : Int) / 15 % 2 = (j : Int) := ⟨kn / 15 % 2, by omega, by omega⟩
      obtain ⟨j3, hj3a, hj3b⟩ : ∃ j : Nat, j < 3 ∧ (kn : Int) / 15 % 3 = (j : Int) := ⟨kn / 15 % 3, by omega, by omega⟩
      obtain ⟨j4, hj4a, hj4b⟩ : ∃ j : Nat, j < 4 ∧ (kn : Int) / 5 % 4 = (j : Int) := ⟨kn / 5 % 4, by omega, by omega⟩
      obtain ⟨us, hus, cus⟩ := hA.out j1 hj1a
      obtain ⟨un, hun, cun⟩ := hB.out j2 (by omega)
      obtain ⟨uq, huq, cuq⟩ := hB.out j3 hj3a
      have bW := (Below.refl wr.heap.size wr).alloc (Nat.le_refl _) (.cells #[.int .i64 0, .string ⟨#[]⟩, .string ⟨#[]⟩, .slice none 0 0, .slice none 0 0, .string ⟨#[]⟩] 25)
      have kX := Cells.new wr 25 #[.int .i64 0, .string ⟨#[]⟩, .string ⟨#[]⟩, .slice none 0 0, .slice none 0 0, .string ⟨#[]⟩]
      have hne : ¬ wr.heap.size = w2.heap.size := by have := hJ.out.sz; omega
      have hne' : ¬ w2.heap.size = wr.heap.size := fun e => hne e.symm
      obtain ⟨r, hr5, hr⟩ : ∃ r : Nat, r < 5 ∧ (kn : Int) % 5 = (r : Int) := ⟨kn % 5, by omega, by omega⟩
      clear n0 n1 n2 n3 n4 n5
      go_upto_region 8 with fail
      have hJW := Lib.hid (hJ.out.on bW)
      have hbw := Lib.hid (hJ.out.low.trans (bW.mono hJ.out.low.size))
      generalize hWW : wr.alloc (.cells #[.int .i64 0, .string ⟨#[]⟩, .string ⟨#[]⟩, .slice none 0 0, .slice none 0 0, .string ⟨#[]⟩] 25) = W at *
      obtain ⟨n0, n1, n2, n3, n4, n5⟩ := node_open hJW.out.n
      have m3 := hJW.out.n.free 3
      have m4 := hJW.out.n.free 4
      obtain ⟨x0, x1, x2, x3, x4, x5⟩ := node_open kX
      have f0 := kX.free 0
      have f1 := kX.free 1
      have f2 := kX.free 2
      have f3 := kX.free 3
      have f4 := kX.free 4
      have f5 := kX.free 5
      have a1 := cus W hbw.out
      have a2 := cun W hbw.out
      have a3 := cuq W hbw.out
      replace bW := Lib.hid bW
      replace kX := Lib.hid kX
      clear hWW cb cus cun cuq
      have hcase : r = 0 ∨ r = 1 ∨ r = 2 ∨ r = 3 ∨ r = 4 := by omega
      rcases hcase with rfl | rfl | rfl | rfl | rfl
      case' inl =>
        have hr0 : (kn : Int) % 5 = 0 := by omega
        clear hr hr5 hj3b hj4b hj3a hj4a a3 n0 n1 n2 n5
        go_wp2_with fail
        go_region
        have bW2 : Below wr.heap.size wr (((((((W.setCell ⟨wr.heap.size, 0, none⟩ (.int .i64 0)).setCell ⟨wr.heap.size, 1, none⟩ (.string us)).setCell ⟨wr.heap.size, 2, none⟩ (.string un)).setCell ⟨wr.heap.size, 3, none⟩ (.slice none 0 0)).setCell ⟨wr.heap.size, 4, none⟩ (.slice vo kids.length vcap)).setCell ⟨wr.heap.size, 5, none⟩ (.string ⟨#[]⟩)).drew) := Cells.below_drewN (six_below bW.out (Nat.le_refl _) _ _ _ _ _ _) 1
        have hJ2 := Lib.hid (hJ.out.on bW2)
        have kX2 : Cells (((((((W.setCell ⟨wr.heap.size, 0, none⟩ (.int .i64 0)).setCell ⟨wr.heap.size, 1, none⟩ (.string us)).setCell ⟨wr.heap.size, 2, none⟩ (.string un)).setCell ⟨wr.heap.size, 3, none⟩ (.slice none 0 0)).setCell ⟨wr.heap.size, 4, none⟩ (.slice vo kids.length vcap)).setCell ⟨wr.heap.size, 5, none⟩ (.string ⟨#[]⟩)).drew) wr.heap.size 25 (nodeArr 0 us un (.slice none 0 0) (.slice vo kids.length vcap) ⟨#[]⟩) := (node_set rfl kX.out 0 us un ⟨#[]⟩ (.slice none 0 0) (.slice vo kids.length vcap)).drew
        have hw2 := Lib.hid (rowsW_in hW.out hus hun)
        clear n3 n4 m3 m4 x0 x1 x2 x3 x4 x5 f0 f1 f2 f3 f4 f5 a1 a2 hJW hbw bW kX bW2 hj1b hj2b hr0
        generalize ((((((W.setCell ⟨wr.heap.size, 0, none⟩ (.int .i64 0)).setCell ⟨wr.heap.size, 1, none⟩ (.string us)).setCell ⟨wr.heap.size, 2, none⟩ (.string un)).setCell ⟨wr.heap.size, 3, none⟩ (.slice none 0 0)).setCell ⟨wr.heap.size, 4, none⟩ (.slice vo kids.length vcap)).setCell ⟨wr.heap.size, 5, none⟩ (.string ⟨#[]⟩)).drew = W2 at *
        have n4 := hJ2.out.n.cell (i := 4) rfl
        have m4 := hJ2.out.n.free 4
        go_upto_region 18 with fail
        have kX3 := kX2.other 4 (.slice none 0 0) hne
        have hJ3 := Lib.hid hJ2.out.bare
        have hN3 : Hid (NodeAt (fun g => (w2.heap.size + 1 ≤ g ∧ some g ≠ (Value.slice wo as'.length wcap).ownBlock) ∧ some g ≠ (Value.slice none 0 0).ownBlock) (W2.setCell ⟨w2.heap.size, 4, none⟩ (.slice none 0 0)) [.int .i64 0, .string us, .string un, .slice none 0 0, (.slice vo kids.length vcap), .string ⟨#[]⟩] (.mk 0 us un [] kids ⟨#[]⟩)) :=
          Lib.hid (((node_of_kids hJ2.out.kid hJ2.out.apart).stay (stay_grown (grown_put W2 w2.heap.size 4 (.slice none 0 0)) (fun g e x => by injection e with e; subst e; have := x.1; omega))).mono (fun g hg _ => ⟨hg, by simp [Value.ownBlock]⟩))
        obtain ⟨kids3, vo3, vcap3, kx, spx, nmx, vxo, vxn, vxc, dx, node, kX4, hJ4, hN4, hW4⟩ : ∃ (kids3 : List Gv.Node) (vo3 : Option Addr) (vcap3 : Nat) (kx : Int) (spx nmx : ByteArray) (vxo : Option Addr) (vxn vxc : Nat) (dx : ByteArray) (node : Gv.Node), Hid (Cells (W2.setCell ⟨w2.heap.size, 4, none⟩ (.slice none 0 0)) wr.heap.size 25 (nodeArr kx spx nmx (.slice none 0 0) (.slice vxo vxn vxc) dx)) ∧
          Hid (GIn w2 s0 ⟨#[116, 111, 112]⟩ (.slice wo as'.length wcap) (.slice vo3 kids3.length vcap3) as' kids3 (W2.setCell ⟨w2.heap.size, 4, none⟩ (.slice none 0 0))) ∧ Hid (NodeAt (fun g => (w2.heap.size + 1 ≤ g ∧ some g ≠ (Value.slice wo as'.length wcap).ownBlock) ∧ some g ≠ (Value.slice vo3 kids3.length vcap3).ownBlock) (W2.setCell ⟨w2.heap.size, 4, none⟩ (.slice none 0 0)) [.int .i64 kx, .string spx, .string nmx, .slice none 0 0, .slice vxo vxn vxc, .string dx] node) ∧ Hid (rowsW as' (kids3 ++ [node]) ≤ 64 * (i + 1)) :=
          ⟨[], none, 0, 0, us, un, vo, kids.length, vcap, ⟨#[]⟩, _, Lib.hid kX3, hJ3, hN3, hw2⟩
        clear kX2 kX3 hJ2 hJ3 hN3 hw2 n4 m4
        generalize W2.setCell ⟨w2.heap.size, 4, none⟩ (.slice none 0 0) = W3 at *
      case' inr.inl =>
        have hr0 : (kn : Int) % 5 = 1 := by omega
        clear hr hr5 hj3b hj4b hj3a hj4a a3 n0 n1 n2 n5
        go_wp2_with fail
        go_region
        have bW2 : Below wr.heap.size wr (((((((W.setCell ⟨wr.heap.size, 0, none⟩ (.int .i64 0)).setCell ⟨wr.heap.size, 1, none⟩ (.string us)).setCell ⟨wr.heap.size, 2, none⟩ (.string un)).setCell ⟨wr.heap.size, 3, none⟩ (.slice none 0 0)).setCell ⟨wr.heap.size, 4, none⟩ (.slice vo kids.length vcap)).setCell ⟨wr.heap.size, 5, none⟩ (.string ⟨#[]⟩)).drew) := Cells.below_drewN (six_below bW.out (Nat.le_refl _) _ _ _ _ _ _) 1
        have hJ2 := Lib.hid (hJ.out.on bW2)
        have kX2 : Cells (((((((W.setCell ⟨wr.heap.size, 0, none⟩ (.int .i64 0)).setCell ⟨wr.heap.size, 1, none⟩ (.string us)).setCell ⟨wr.heap.size, 2, none⟩ (.string un)).setCell ⟨wr.heap.size, 3, none⟩ (.slice none 0 0)).setCell ⟨wr.heap.size, 4, none⟩ (.slice vo kids.length vcap)).setCell ⟨wr.heap.size, 5, none⟩ (.string ⟨#[]⟩)).drew) wr.heap.size 25 (nodeArr 0 us un (.slice none 0 0) (.slice vo kids.length vcap) ⟨#[]⟩) := (node_set rfl kX.out 0 us un ⟨#[]⟩ (.slice none 0 0) (.slice vo kids.length vcap)).drew
        have hw2 := Lib.hid (rowsW_in hW.out hus hun)
        clear n3 n4 m3 m4 x0 x1 x2 x3 x4 x5 f0 f1 f2 f3 f4 f5 a1 a2 hJW hbw bW kX bW2 hj1b hj2b hr0
        generalize ((((((W.setCell ⟨wr.heap.size, 0, none⟩ (.int .i64 0)).setCell ⟨wr.heap.size, 1, none⟩ (.string us)).setCell ⟨wr.heap.size, 2, none⟩ (.string un)).setCell ⟨wr.heap.size, 3, none⟩ (.slice none 0 0)).setCell ⟨wr.heap.size, 4, none⟩ (.slice vo kids.length vcap)).setCell ⟨wr.heap.size, 5, none⟩ (.string ⟨#[]⟩)).drew = W2 at *
        have n4 := hJ2.out.n.cell (i := 4) rfl
        have m4 := hJ2.out.n.free 4
        go_upto_region 18 with fail
        have kX3 := kX2.other 4 (.slice none 0 0) hne
        have hJ3 := Lib.hid hJ2.out.bare
        have hN3 : Hid (NodeAt (fun g => (w2.heap.size + 1 ≤ g ∧ some g ≠ (Value.slice wo as'.length wcap).ownBlock) ∧ some g ≠ (Value.slice none 0 0).ownBlock) (W2.setCell ⟨w2.heap.size, 4, none⟩ (.slice none 0 0)) [.int .i64 0, .string us, .string un, .slice none 0 0, (.slice vo kids.length vcap), .string ⟨#[]⟩] (.mk 0 us un [] kids ⟨#[]⟩)) :=
          Lib.hid (((node_of_kids hJ2.out.kid hJ2.out.apart).stay (stay_grown (grown_put W2 w2.heap.size 4 (.slice none 0 0)) (fun g e x => by injection e with e; subst e; have := x.1; omega))).mono (fun g hg _ => ⟨hg, by simp [Value.ownBlock]⟩))
        obtain ⟨kids3, vo3, vcap3, kx, spx, nmx, vxo, vxn, vxc, dx, node, kX4, hJ4, hN4, hW4⟩ : ∃ (kids3 : List Gv.Node) (vo3 : Option Addr) (vcap3 : Nat) (kx : Int) (spx nmx : ByteArray) (vxo : Option Addr) (vxn vxc : Nat) (dx : ByteArray) (node : Gv.Node), Hid (Cells (W2.setCell ⟨w2.heap.size, 4, none⟩ (.slice none 0 0)) wr.heap.size 25 (nodeArr kx spx nmx (.slice none 0 0) (.slice vxo vxn vxc) dx)) ∧
          Hid (GIn w2 s0 ⟨#[116, 111, 112]⟩ (.slice wo as'.length wcap) (.slice vo3 kids3.length vcap3) as' kids3 (W2.setCell ⟨w2.heap.size, 4, none⟩ (.slice none 0 0))) ∧ Hid (NodeAt (fun g => (w2.heap.size + 1 ≤ g ∧ some g ≠ (Value.slice wo as'.length wcap).ownBlock) ∧ some g ≠ (Value.slice vo3 kids3.length vcap3).ownBlock) (W2.setCell ⟨w2.heap.size, 4, none⟩ (.slice none 0 0)) [.int .i64 kx, .string spx, .string nmx, .slice none 0 0, .slice vxo vxn vxc, .string dx] node) ∧ Hid (rowsW as' (kids3 ++ [node]) ≤ 64 * (i + 1)) :=
          ⟨[], none, 0, 0, us, un, vo, kids.length, vcap, ⟨#[]⟩, _, Lib.hid kX3, hJ3, hN3, hw2⟩
        clear kX2 kX3 hJ2 hJ3 hN3 hw2 n4 m4
        generalize W2.setCell ⟨w2.heap.size, 4, none⟩ (.slice none 0 0) = W3 at *
      case' inr.inr.inl =>
        have hr0 : (kn : Int) % 5 = 2 := by omega
        have hne3 : ¬ wr.heap.size = W.heap.size := by have := kX.out.lt; omega
        obtain ⟨ud, hud, cud⟩ := four_at (Cells.new W 9 #[.string ⟨#[116]⟩, .string ⟨#[60, 38, 62]⟩, .string ⟨#[13, 10]⟩, .string ⟨#[]⟩]) (by decide) (by decide) (by decide) (by decide) j4 hj4a
        have hj4c : (j4 : Int) < 4 := by omega
        have kX5 := kX.out.alloc (.cells #[.string ⟨#[116]⟩, .string ⟨#[60, 38, 62]⟩, .string ⟨#[13, 10]⟩, .string ⟨#[]⟩] 9)
        clear x0 x1 x2 x3 x4 x5 f0 f1 f2 f3 f4 f5
        obtain ⟨x0, x1, x2, x3, x4, x5⟩ := node_open kX5
        have f0 := kX5.free 0
        have f1 := kX5.free 1
        have f2 := kX5.free 2
        have f3 := kX5.free 3
        have f4 := kX5.free 4
        have f5 := kX5.free 5
        clear hr hr5 hj3b hj1b hj2b hj3a hj1a hj2a a1 a2 a3 n0 n1 n2 n5 kX5
        go_upto_region 18 with fail
        have bW2 : Below wr.heap.size wr ((((((((W.alloc (.cells #[.string ⟨#[116]⟩, .string ⟨#[60, 38, 62]⟩, .string ⟨#[13, 10]⟩, .string ⟨#[]⟩] 9)).setCell ⟨wr.heap.size, 0, none⟩ (.int .i64 1)).setCell ⟨wr.heap.size, 1, none⟩ (.string ⟨#[]⟩)).setCell ⟨wr.heap.size, 2, none⟩ (.string ⟨#[]⟩)).setCell ⟨wr.heap.size, 3, none⟩ (.slice none 0 0)).setCell ⟨wr.heap.size, 4, none⟩ (.slice none 0 0)).setCell ⟨wr.heap.size, 5, none⟩ (.string ud))) := six_below (bW.out.alloc bW.out.size _) (Nat.le_refl _) _ _ _ _ _ _
        have hJ2 := Lib.hid (hJ.out.on bW2)
        have kX2 : Cells ((((((((W.alloc (.cells #[.string ⟨#[116]⟩, .string ⟨#[60, 38, 62]⟩, .string ⟨#[13, 10]⟩, .string ⟨#[]⟩] 9)).setCell ⟨wr.heap.size, 0, none⟩ (.int .i64 1)).setCell ⟨wr.heap.size, 1, none⟩ (.string ⟨#[]⟩)).setCell ⟨wr.heap.size, 2, none⟩ (.string ⟨#[]⟩)).setCell ⟨wr.heap.size, 3, none⟩ (.slice none 0 0)).setCell ⟨wr.heap.size, 4, none⟩ (.slice none 0 0)).setCell ⟨wr.heap.size, 5, none⟩ (.string ud))) wr.heap.size 25 (nodeArr 1 ⟨#[]⟩ ⟨#[]⟩ (.slice none 0 0) (.slice none 0 0) ud) := node_set rfl (kX.out.alloc _) 1 ⟨#[]⟩ ⟨#[]⟩ ud (.slice none 0 0) (.slice none 0 0)
        have hw2 := Lib.hid (rowsW_node hW.out (text_wt (k := 1) hud))
        obtain ⟨kids3, vo3, vcap3, kx, spx, nmx, vxo, vxn, vxc, dx, node, kX4, hJ4, hN4, hW4⟩ : ∃ (kids3 : List Gv.Node) (vo3 : Option Addr) (vcap3 : Nat) (kx : Int) (spx nmx : ByteArray) (vxo : Option Addr) (vxn vxc : Nat) (dx : ByteArray) (node : Gv.Node), Hid (Cells ((((((((W.alloc (.cells #[.string ⟨#[116]⟩, .string ⟨#[60, 38, 62]⟩, .string ⟨#[13, 10]⟩, .string ⟨#[]⟩] 9)).setCell ⟨wr.heap.size, 0, none⟩ (.int .i64 1)).setCell ⟨wr.heap.size, 1, none⟩ (.string ⟨#[]⟩)).setCell ⟨wr.heap.size, 2, none⟩ (.string ⟨#[]⟩)).setCell ⟨wr.heap.size, 3, none⟩ (.slice none 0 0)).setCell ⟨wr.heap.size, 4, none⟩ (.slice none 0 0)).setCell ⟨wr.heap.size, 5, none⟩ (.string ud))) wr.heap.size 25 (nodeArr kx spx nmx (.slice none 0 0) (.slice vxo vxn vxc) dx)) ∧
          Hid (GIn w2 s0 ⟨#[116, 111, 112]⟩ (.slice wo as'.length wcap) (.slice vo3 kids3.length vcap3) as' kids3 ((((((((W.alloc (.cells #[.string ⟨#[116]⟩, .string ⟨#[60, 38, 62]⟩, .string ⟨#[13, 10]⟩, .string ⟨#[]⟩] 9)).setCell ⟨wr.heap.size, 0, none⟩ (.int .i64 1)).setCell ⟨wr.heap.size, 1, none⟩ (.string ⟨#[]⟩)).setCell ⟨wr.heap.size, 2, none⟩ (.string ⟨#[]⟩)).setCell ⟨wr.heap.size, 3, none⟩ (.slice none 0 0)).setCell ⟨wr.heap.size, 4, none⟩ (.slice none 0 0)).setCell ⟨wr.heap.size, 5, none⟩ (.string ud)))) ∧ Hid (NodeAt (fun g => (w2.heap.size + 1 ≤ g ∧ some g ≠ (Value.slice wo as'.length wcap).ownBlock) ∧ some g ≠ (Value.slice vo3 kids3.length vcap3).ownBlock) ((((((((W.alloc (.cells #[.string ⟨#[116]⟩, .string ⟨#[60, 38, 62]⟩, .string ⟨#[13, 10]⟩, .string ⟨#[]⟩] 9)).setCell ⟨wr.heap.size, 0, none⟩ (.int .i64 1)).setCell ⟨wr.heap.size, 1, none⟩ (.string ⟨#[]⟩)).setCell ⟨wr.heap.size, 2, none⟩ (.string ⟨#[]⟩)).setCell ⟨wr.heap.size, 3, none⟩ (.slice none 0 0)).setCell ⟨wr.heap.size, 4, none⟩ (.slice none 0 0)).setCell ⟨wr.heap.size, 5, none⟩ (.string ud))) [.int .i64 kx, .string spx, .string nmx, .slice none 0 0, .slice vxo vxn vxc, .string dx] node) ∧ Hid (rowsW as' (kids3 ++ [node]) ≤ 64 * (i + 1)) :=
          ⟨kids, vo, vcap, 1, ⟨#[]⟩, ⟨#[]⟩, none, 0, 0, ud, _, Lib.hid kX2, hJ2, Lib.hid (node_plain _ _ 1 ⟨#[]⟩ ⟨#[]⟩ ud), hw2⟩
        clear kX2 hJ2 hw2 cud hJW hbw bW kX bW2 hj4b hr0 n3 n4 m3 m4 x0 x1 x2 x3 x4 x5 f0 f1 f2 f3 f4 f5
        generalize (((((((W.alloc (.cells #[.string ⟨#[116]⟩, .string ⟨#[60, 38, 62]⟩, .string ⟨#[13, 10]⟩, .string ⟨#[]⟩] 9)).setCell ⟨wr.heap.size, 0, none⟩ (.int .i64 1)).setCell ⟨wr.heap.size, 1, none⟩ (.string ⟨#[]⟩)).setCell ⟨wr.heap.size, 2, none⟩ (.string ⟨#[]⟩)).setCell ⟨wr.heap.size, 3, none⟩ (.slice none 0 0)).setCell ⟨wr.heap.size, 4, none⟩ (.slice none 0 0)).setCell ⟨wr.heap.size, 5, none⟩ (.string ud)) = W3 at *
      case' inr.inr.inr.inl =>
        have hr0 : (kn : Int) % 5 = 3 := by omega
        have hne3 : ¬ wr.heap.size = W.heap.size := by have := kX.out.lt; omega
        obtain ⟨ud, hud, cud⟩ := four_at (Cells.new W 9 #[.string ⟨#[99]⟩, .string ⟨#[97, 45, 98]⟩, .string ⟨#[120, 45]⟩, .string ⟨#[]⟩]) (by decide) (by decide) (by decide) (by decide) j4 hj4a
        have hj4c : (j4 : Int) < 4 := by omega
        have kX5 := kX.out.alloc (.cells #[.string ⟨#[99]⟩, .string ⟨#[97, 45, 98]⟩, .string ⟨#[120, 45]⟩, .string ⟨#[]⟩] 9)
        clear x0 x1 x2 x3 x4 x5 f0 f1 f2 f3 f4 f5
        obtain ⟨x0, x1, x2, x3, x4, x5⟩ := node_open kX5
        have f0 := kX5.free 0
        have f1 := kX5.free 1
        have f2 := kX5.free 2
        have f3 := kX5.free 3
        have f4 := kX5.free 4
        have f5 := kX5.free 5
        clear hr hr5 hj3b hj1b hj2b hj3a hj1a hj2a a1 a2 a3 n0 n1 n2 n5 kX5
        go_upto_region 18 with fail
        have bW2 : Below wr.heap.size wr ((((((((W.alloc (.cells #[.string ⟨#[99]⟩, .string ⟨#[97, 45, 98]⟩, .string ⟨#[120, 45]⟩, .string ⟨#[]⟩] 9)).setCell ⟨wr.heap.size, 0, none⟩ (.int .i64 2)).setCell ⟨wr.heap.size, 1, none⟩ (.string ⟨#[]⟩)).setCell ⟨wr.heap.size, 2, none⟩ (.string ⟨#[]⟩)).setCell ⟨wr.heap.size, 3, none⟩ (.slice none 0 0)).setCell ⟨wr.heap.size, 4, none⟩ (.slice none 0 0)).setCell ⟨wr.heap.size, 5, none⟩ (.string ud))) := six_below (bW.out.alloc bW.out.size _) (Nat.le_refl _) _ _ _ _ _ _
        have hJ2 := Lib.hid (hJ.out.on bW2)
        have kX2 : Cells ((((((((W.alloc (.cells #[.string ⟨#[99]⟩, .string ⟨#[97, 45, 98]⟩, .string ⟨#[120, 45]⟩, .string ⟨#[]⟩] 9)).setCell ⟨wr.heap.size, 0, none⟩ (.int .i64 2)).setCell ⟨wr.heap.size, 1, none⟩ (.string ⟨#[]⟩)).setCell ⟨wr.heap.size, 2, none⟩ (.string ⟨#[]⟩)).setCell ⟨wr.heap.size, 3, none⟩ (.slice none 0 0)).setCell ⟨wr.heap.size, 4, none⟩ (.slice none 0 0)).setCell ⟨wr.heap.size, 5, none⟩ (.string ud))) wr.heap.size 25 (nodeArr 2 ⟨#[]⟩ ⟨#[]⟩ (.slice none 0 0) (.slice none 0 0) ud) := node_set rfl (kX.out.alloc _) 2 ⟨#[]⟩ ⟨#[]⟩ ud (.slice none 0 0) (.slice none 0 0)
        have hw2 := Lib.hid (rowsW_node hW.out (text_wt (k := 2) hud))
        obtain ⟨kids3, vo3, vcap3, kx, spx, nmx, vxo, vxn, vxc, dx, node, kX4, hJ4, hN4, hW4⟩ : ∃ (kids3 : List Gv.Node) (vo3 : Option Addr) (vcap3 : Nat) (kx : Int) (spx nmx : ByteArray) (vxo : Option Addr) (vxn vxc : Nat) (dx : ByteArray) (node : Gv.Node), Hid (Cells ((((((((W.alloc (.cells #[.string ⟨#[99]⟩, .string ⟨#[97, 45, 98]⟩, .string ⟨#[120, 45]⟩, .string ⟨#[]⟩] 9)).setCell ⟨wr.heap.size, 0, none⟩ (.int .i64 2)).setCell ⟨wr.heap.size, 1, none⟩ (.string ⟨#[]⟩)).setCell ⟨wr.heap.size, 2, none⟩ (.string ⟨#[]⟩)).setCell ⟨wr.heap.size, 3, none⟩ (.slice none 0 0)).setCell ⟨wr.heap.size, 4, none⟩ (.slice none 0 0)).setCell ⟨wr.heap.size, 5, none⟩ (.string ud))) wr.heap.size 25 (nodeArr kx spx nmx (.slice none 0 0) (.slice vxo vxn vxc) dx)) ∧
          Hid (GIn w2 s0 ⟨#[116, 111, 112]⟩ (.slice wo as'.length wcap) (.slice vo3 kids3.length vcap3) as' kids3 ((((((((W.alloc (.cells #[.string ⟨#[99]⟩, .string ⟨#[97, 45, 98]⟩, .string ⟨#[120, 45]⟩, .string ⟨#[]⟩] 9)).setCell ⟨wr.heap.size, 0, none⟩ (.int .i64 2)).setCell ⟨wr.heap.size, 1, none⟩ (.string ⟨#[]⟩)).setCell ⟨wr.heap.size, 2, none⟩ (.string ⟨#[]⟩)).setCell ⟨wr.heap.size, 3, none⟩ (.slice none 0 0)).setCell ⟨wr.heap.size, 4, none⟩ (.slice none 0 0)).setCell ⟨wr.heap.size, 5, none⟩ (.string ud)))) ∧ Hid (NodeAt (fun g => (w2.heap.size + 1 ≤ g ∧ some g ≠ (Value.slice wo as'.length wcap).ownBlock) ∧ some g ≠ (Value.slice vo3 kids3.length vcap3).ownBlock) ((((((((W.alloc (.cells #[.string ⟨#[99]⟩, .string ⟨#[97, 45, 98]⟩, .string ⟨#[120, 45]⟩, .string ⟨#[]⟩] 9)).setCell ⟨wr.heap.size, 0, none⟩ (.int .i64 2)).setCell ⟨wr.heap.size, 1, none⟩ (.string ⟨#[]⟩)).setCell ⟨wr.heap.size, 2, none⟩ (.string ⟨#[]⟩)).setCell ⟨wr.heap.size, 3, none⟩ (.slice none 0 0)).setCell ⟨wr.heap.size, 4, none⟩ (.slice none 0 0)).setCell ⟨wr.heap.size, 5, none⟩ (.string ud))) [.int .i64 kx, .string spx, .string nmx, .slice none 0 0, .slice vxo vxn vxc, .string dx] node) ∧ Hid (rowsW as' (kids3 ++ [node]) ≤ 64 * (i + 1)) :=
          ⟨kids, vo, vcap, 2, ⟨#[]⟩, ⟨#[]⟩, none, 0, 0, ud, _, Lib.hid kX2, hJ2, Lib.hid (node_plain _ _ 2 ⟨#[]⟩ ⟨#[]⟩ ud), hw2⟩
        clear kX2 hJ2 hw2 cud hJW hbw bW kX bW2 hj4b hr0 n3 n4 m3 m4 x0 x1 x2 x3 x4 x5 f0 f1 f2 f3 f4 f5
        generalize (((((((W.alloc (.cells #[.string ⟨#[99]⟩, .string ⟨#[97, 45, 98]⟩, .string ⟨#[120, 45]⟩, .string ⟨#[]⟩] 9)).setCell ⟨wr.heap.size, 0, none⟩ (.int .i64 2)).setCell ⟨wr.heap.size, 1, none⟩ (.string ⟨#[]⟩)).setCell ⟨wr.heap.size, 2, none⟩ (.string ⟨#[]⟩)).setCell ⟨wr.heap.size, 3, none⟩ (.slice none 0 0)).setCell ⟨wr.heap.size, 4, none⟩ (.slice none 0 0)).setCell ⟨wr.heap.size, 5, none⟩ (.string ud)) = W3 at *
      case inr.inr.inr.inr =>
        have hr0 : (kn : Int) % 5 = 4 := by omega
        obtain ⟨i0, hi0, hz0, hz1, hz2⟩ := info_parts infoAtt
        have bD := Cells.below_drewN ((Below.refl W.heap.size W).alloc (Nat.le_refl _) (.cells #[.string us, .string uq, .string ⟨#[10, 60]⟩] 40)) 1
        have hJD := Lib.hid (hJW.out.on bD)
        have hla := rowsW_atts hW.out hi
        have hk1 : as'.length + 1 ≤ maxLen := by unfold maxLen; omega
        have hk2 : (as'.length + 1) * 48 ≤ 140737488355328 := by omega
        have hk3 : (as'.length : Int) < (as'.length : Int) + 1 := by omega
        have hlo := Lib.hid hJD.out.sz
        have hatt := Lib.hid hJD.out.att
        have hnew := Lib.hid (att_new W us uq)
        have hw9 := Lib.hid (rowsW_att (a := ⟨us, uq, ⟨#[10, 60]⟩⟩) hW.out hus huq (show (2 : Nat) ≤ 20 by decide))
        have hgw : Hid (∀ (g5 cap5 : Nat) (w5 : World), w5.ownsRow (w2.heap.size + 1) 40 3 (.slice (some ⟨g5, 0, none⟩) (as'.length + 1) cap5) (as'.length + 1) (as'.flatMap attCells ++ [.string us, .string uq, .string ⟨#[10, 60]⟩]) → ((W.alloc (.cells #[.string us, .string uq, .string ⟨#[10, 60]⟩] 40)).drew).grownBy w5 (Value.slice wo as'.length wcap).ownBlock → ((Value.slice wo as'.length wcap).ownBlock = some g5 ∨ g5 = W.heap.size + 1) →
            GIn w2 s0 ⟨#[116, 111, 112]⟩ (.slice (some ⟨g5, 0, none⟩) (as'.length + 1) cap5) (.slice vo kids.length vcap) (as' ++ [⟨us, uq, ⟨#[10, 60]⟩⟩]) kids (w5.setCell ⟨w2.heap.size, 3, none⟩ (.slice (some ⟨g5, 0, none⟩) (as'.length + 1) cap5)) ∧ w5.cell? ⟨w2.heap.size, 3, none⟩ = some (.slice wo as'.length wcap) ∧ w5.frozen? ⟨w2.heap.size, 3, none⟩ = false) :=
          Lib.hid (fun g5 cap5 w5 ho hg hat => ⟨hJD.out.attr ho hg (hat.imp (fun e => e.symm) (fun e => by rw [e]; simp [Value.ownBlock])), (hJD.out.attr_cell hg).1, (hJD.out.attr_cell hg).2⟩)
        have l1 := World.block_lt_of_cell? W _ a1
        have l3 := World.block_lt_of_cell? W _ a3
        have bD0 := (Below.refl W.heap.size W).alloc (Nat.le_refl _) (.cells #[.string us, .string uq, .string ⟨#[10, 60]⟩] 40)
        have z1 := (bD0.cell (p := ⟨w.heap.size + 1, j1, none⟩) l1).trans a1
        have z2 := (bD0.cell (p := ⟨w.heap.size + 1 + 1, j3, none⟩) l3).trans a3
        have z3 := (hJW.out.on bD0).n.cell (i := 3) (v := .slice wo as'.length wcap) rfl
        have o1 : ¬ w.heap.size + 1 = W.heap.size := fun e => by rw [← e] at l1; exact Nat.lt_irrefl _ l1
        have o2 : ¬ w.heap.size + 1 + 1 = W.heap.size := fun e => by rw [← e] at l3; exact Nat.lt_irrefl _ l3
        have o3 : ¬ w2.heap.size = W.heap.size := by have := hJW.out.sz; omega
        clear hr hr5 hj2b hj4b hj2a hj4a a2 n0 n1 n2 n4 n5 m4 l1 l3 bD0 x0 x1 x2 x3 x4 x5 f0 f1 f2 f3 f4 f5 hJW hbw bW kX bD hJD hJ hW
        go_wp2_with fail
        have e1 : IntKind.i64.wrap ((kn : Int) / 5) = (kn : Int) / 5 := IntWalk.i64_in _ (by omega)
        have e2 : ((kn : Int) / 5).tmod 3 = (j1 : Int) := by rw [Int.tmod_eq_emod_of_nonneg (by omega)]; exact hj1b
        have e3 : IntKind.i64.wrap ((kn : Int) / 15) = (kn : Int) / 15 := IntWalk.i64_in _ (by omega)
        have e4 : ((kn : Int) / 15).tmod 3 = (j3 : Int) := by rw [Int.tmod_eq_emod_of_nonneg (by omega)]; exact hj3b
        have e5 : (0 : Int) ≤ (j1 : Int) := by omega
        have e6 : (j1 : Int) < 3 := by omega
        have e7 : (0 : Int) ≤ (j3 : Int) := by omega
        have e8 : (j3 : Int) < 3 := by omega
        go_region_law (
          refine step_append_lies _ rfl _ _ 22 rfl (w2.heap.size + 1) 40 i0 _ 3 48 Tryz.underlying22 hi0 hz0 hz1 hz2 rfl (by decide) (.slice wo as'.length wcap) as'.length (as'.flatMap attCells) rfl hatt.out ⟨W.heap.size, 0, none⟩ 1 1 [.string us, .string uq, .string ⟨#[10, 60]⟩] rfl rfl hnew.out (att_one us uq) (by decide) hk1 hk2 hlo.out (W.heap.size + 1) (by simp) ?_
          intro g5 cap5 w5 hown5 hg5 hat5 hlt5
          obtain ⟨hJ9, y3, yf⟩ := hgw.out g5 cap5 w5 hown5 hg5 hat5
          replace hJ9 := Lib.hid hJ9)
        all_goals
          clear hown5 hg5 hgw hatt hnew hlo e1 e2 e3 e4 e5 e6 e7 e8
          go_wp2_with fail
          go_roundg (12 - (i + 1))
          case measure => omega
          case rel => exact ⟨i + 1, as' ++ [⟨us, uq, ⟨#[10, 60]⟩⟩], kids, _, _, by omega, by omega, by go_num, hw9, hJ9⟩
      all_goals
        have n4 := hJ4.out.n.cell (i := 4) rfl
        have bB := (Below.refl W3.heap.size W3).alloc (Nat.le_refl _) (.cells #[.int .i64 kx, .string spx, .string nmx, .slice none 0 0, .slice vxo vxn vxc, .string dx] 25)
        have kL := Lib.hid (Cells.new W3 25 #[.int .i64 kx, .string spx, .string nmx, .slice none 0 0, .slice vxo vxn vxc, .string dx])
        obtain ⟨x0, x1, x2, x3, x4, x5⟩ := node_open kX4.out
        have hJ5 := Lib.hid (hJ4.out.on bB)
        have hN5 := Lib.hid (hN4.out.on bB)
        have hlen := Lib.hid (rowsW_len hW4.out (by omega))
        have hBs := Lib.hid hJ5.out.sz
        clear bB kX4 hJ4 hN4 hJ hW
        go_wp2_with (at_builtin; refine wpList_append_node2 rfl _ _ rfl (w2.heap.size + 1) _ rfl hJ5.out.kid W3.heap.size 1 rfl (node_list kL.out) hN5.out hlen.out hBs.out ?_)
        intro v' w7 hO7 b7 g7
        obtain ⟨vo', vcap', _, rfl, -, -, -, -⟩ := OwnsKids.rows (S := fun _ => True) (hO7.mono fun _ _ _ => trivial) (fun _ _ _ => trivial)
        have hJ9 := hJ5.out.node hO7 b7 g7
        simp only [List.length_append, List.length_singleton] at hJ9
        replace hJ9 := Lib.hid hJ9
        have kn7 : Cells w7 w2.heap.size 25 (nodeArr 0 s0 ⟨#[116, 111, 112]⟩ (.slice wo as'.length wcap) (.slice vo3 kids3.length vcap3) ⟨#[]⟩) := (b7.block w2.heap.size (by omega)).trans hJ5.out.n
        have y4 := kn7.cell (i := 4) rfl
        have g4 := kn7.free 4
        clear kn7 hO7 b7 g7 hJ5 kL hN5 x0 x1 x2 x3 x4 x5 hBs hlen n4
        go_wp2_with fail
        go_roundg (12 - (i + 1))
        case measure => omega
        case rel => exact ⟨i + 1, as', kids3 ++ [node], _, _, by omega, by omega, by go_num, hW4, hJ9⟩
    · by_cases h1 : i < L.length
      · have h1i : (i : Int) < (L.length : Int) := by omega
        have h2i : ¬ (i : Int) < 12 := by omega
        have h2b : decide ((i : Int) < 12) = false := by simpa using h2i
        have kR5 := kR1.out.on hJ.out.low
        have e0 := kR5.free 0
        have e1 := kR5.free 1
        have e2 := kR5.free 2
        have e3 := kR5.free 3
        have e4 := kR5.free 4
        have e5 := kR5.free 5
        obtain ⟨y0, y1, y2, y3, y4, y5⟩ := node_open kR5
        have kR8 := Lib.hid (node_set rfl kR5 0 s0 ⟨#[116, 111, 112]⟩ ⟨#[]⟩ (.slice wo as'.length wcap) (.slice vo kids.length vcap))
        have c8 := Lib.hid (six_below (b1.out.trans (hJ.out.low.mono b1.out.size)) (Nat.le_refl w.heap.size) (.int .i64 0) (.string s0) (.string ⟨#[116, 111, 112]⟩) (.slice wo as'.length wcap) (.slice vo kids.length vcap) (.string ⟨#[]⟩))
        have hwt := Lib.hid (rowsW_top (sp := s0) hW.out hi hs0)
        have hN := Lib.hid (((node_of_rows (S := fun b => w.heap.size + 1 ≤ b) (k := 0) (sp := s0) (nm := ⟨#[116, 111, 112]⟩) (d := ⟨#[]⟩) hJ.out.att (hJ.out.kid.mono (fun b hb _ => by have := hsz2.out; omega)) (fun b hb _ => by have := hsz2.out; omega)).stay (stay_grown (grown_six wr w.heap.size 0 (.int .i64 0) (.string s0) (.string ⟨#[116, 111, 112]⟩) (.slice wo as'.length wcap) (.slice vo kids.length vcap) (.string ⟨#[]⟩)) (fun g e x => by injection e with e; subst e; omega))).mono (S' := fun b => w.heap.size ≤ b) (fun b hb _ => by omega))
        clear kR5 hJ hW hlt
        go_wp2_with fail
        exact cell_end1 (rb := w.heap.size) rfl rfl kR8.out ⟨c8.out, _, _, rfl, hN.out, hwt.out⟩
      · have h1i : ¬ (i : Int) < (L.length : Int) := by omega
        have h1b : decide ((i : Int) < (L.length : Int)) = false := by simpa using h1i
        have kR5 := kR1.out.on hJ.out.low
        have e0 := kR5.free 0
        have e1 := kR5.free 1
        have e2 := kR5.free 2
        have e3 := kR5.free 3
        have e4 := kR5.free 4
        have e5 := kR5.free 5
        obtain ⟨y0, y1, y2, y3, y4, y5⟩ := node_open kR5
        have kR8 := Lib.hid (node_set rfl kR5 0 s0 ⟨#[116, 111, 112]⟩ ⟨#[]⟩ (.slice wo as'.length wcap) (.slice vo kids.length vcap))
        have c8 := Lib.hid (six_below (b1.out.trans (hJ.out.low.mono b1.out.size)) (Nat.le_refl w.heap.size) (.int .i64 0) (.string s0) (.string ⟨#[116, 111, 112]⟩) (.slice wo as'.length wcap) (.slice vo kids.length vcap) (.string ⟨#[]⟩))
        have hwt := Lib.hid (rowsW_top (sp := s0) hW.out hi hs0)
        have hN := Lib.hid (((node_of_rows (S := fun b => w.heap.size + 1 ≤ b) (k := 0) (sp := s0) (nm := ⟨#[116, 111, 112]⟩) (d := ⟨#[]⟩) hJ.out.att (hJ.out.kid.mono (fun b hb _ => by have := hsz2.out; omega)) (fun b hb _ => by have := hsz2.out; omega)).stay (stay_grown (grown_six wr w.heap.size 0 (.int .i64 0) (.string s0) (.string ⟨#[116, 111, 112]⟩) (.slice wo as'.length wcap) (.slice vo kids.length vcap) (.string ⟨#[]⟩)) (fun g e x => by injection e with e; subst e; omega))).mono (S' := fun b => w.heap.size ≤ b) (fun b hb _ => by omega))
        clear kR5 hJ hW hlt
        go_wp2_with fail
        exact cell_end1 (rb := w.heap.size) rfl rfl kR8.out ⟨c8.out, _, _, rfl, hN.out, hwt.out⟩
end Go.Proofs.YtegaidfmkfnbnaaGreatDoor
namespace Go.Proofs.YtegaidfmkfnbnaaGreatDoor
open Go.RowKit

set_option maxRecDepth 100000 in
set_option maxHeartbeats 12800000 in
theorem small_any {ao : Option Addr} {cap : Nat} (L : List UInt8) (w : World) (hL : BytesAt ao L w) (hz : L.length ≤ maxLen) (hE : Env w) :
    Calls Tryz.prog 6 #[.slice ao L.length cap] w fun e w' => e = .returned (.bool true) ∧ Below w.heap.size w w' := by
  have c1 := Lib.hid (grown_any (cap := cap) L w hL hz)
  unfold GrownTold at c1
  replace hE := Lib.hid hE
  clear hL hz
  go_enter Tryz.func6, Tryz.ntmps6
  go_wp2_with fail
  (with_reducible refine c1.out.mono ?_); rintro e w1 ⟨b1, c, n, rfl, hN0, hwt⟩
  have hN := hN0.mono (S' := fun _ => True) (fun _ _ _ => trivial)
  obtain ⟨k, sp, nm, d, as', kids, ao', bo', ca, cb, cs, -, ec, -, -, -, -, -⟩ := hN.open'
  have hc : c.toArray = nodeArr k sp nm (.slice ao' as'.length ca) (.slice bo' kids.length cb) d := by rw [ec]; rfl
  have hE1 := hE.out.on b1
  have hz1 : Gv.wt n ≤ 1000000 := by omega
  have bA := (Below.refl w1.heap.size w1).alloc (Nat.le_refl _) (.cells (nodeArr k sp nm (.slice ao' as'.length ca) (.slice bo' kids.length cb) d) 25)
  have kA := Cells.new w1 25 (nodeArr k sp nm (.slice ao' as'.length ca) (.slice bo' kids.length cb) d)
  have c0 := fun W (hb : Below w1.heap.size w1 W) => awake_any W (hE1.on hb)
  have c3 := fun W (hb : Below w1.heap.size w1 W) => sPrint_any c n W (hN.on hb) (fits_of_wt n hz1) (hE1.on hb)
  have c4 := fun W (hb : Below w1.heap.size w1 W) => refPrint_any c n W (hN.on hb) hz1
  have c5 := fun W (hb : Below w1.heap.size w1 W) c' (hM : NodeAt (fun _ => True) W c' n) => refSameNode_any hN W hb (fun _ => True) c' n hM
  rw [hc] at c3 c4 c5
  rw [hc]
  have hca := Lib.hid (fun W hb => node_open (kA.on (w' := W) hb))
  obtain ⟨x0, x1, x2, x3, x4, x5⟩ := node_open kA
  replace kA := Lib.hid kA
  replace c0 := Lib.hid c0
  replace c3 := Lib.hid c3
  replace c4 := Lib.hid c4
  replace c5 := Lib.hid c5
  clear hN hN0 hE ec hc c1 hE1 hwt hz1
  unfold SameTold nodeArr at *
  go_wp2_with fail
  (with_reducible refine (c3.out _ bA).mono ?_); rintro e w2 ⟨rfl, b2⟩
  have g2 := bA.trans (b2.mono bA.size)
  have f2 := b2
  clear x0 x1 x2 x3 x4 x5 c3 b2
  obtain ⟨x0, x1, x2, x3, x4, x5⟩ := hca.out _ f2
  go_wp2_with fail
  (with_reducible refine (c4.out _ g2).mono ?_); rintro e w3 ⟨rfl, b3⟩
  have f3 := f2.trans (b3.mono f2.size)
  have g3 := g2.trans (b3.mono g2.size)
  clear x0 x1 x2 x3 x4 x5 c4 b3 f2 g2 bA
  have hzero : (⟨#[]⟩ : ByteArray) = ByteArray.empty := rfl
  rcases Sc.pr_cases n with ⟨e1, e2, e3, e4⟩ | ⟨e1, e2, e3⟩ | ⟨e1, e2, e3⟩
  · have hp := Lib.hid (Sc.parse_str e2 e3)
    have hsz : (Gv.str (Sc.text n)).size ≤ 1000000 := by rw [Sc.str_size]; omega
    rw [e1, e4]
    generalize Gv.str (Sc.text n) = t at *
    have c6 := fun W => refParse_any t W hsz
    replace c6 := Lib.hid c6
    clear e1 e2 e3 e4 hsz hzero
    go_wp2_with fail
    (with_reducible refine (c6.out _).mono ?_)
    rintro x w5 ⟨b5, ⟨c', m, rfl, hpm, hM⟩ | ⟨e, rfl, he0, hpm⟩⟩
    case inr => rw [hp.out] at hpm; cases hpm
    obtain rfl : n = m := by
      have := hp.out.symm.trans hpm
      injection this
    obtain ⟨k', sp', nm', d', as2, kids', ao2, bo2, ca', cb', cs', -, ec', -, -, -, -, -⟩ := hM.open'
    have hM2 := hM.mono (S' := fun _ => True) (fun _ _ _ => trivial)
    have f5 := f3.trans (b5.mono f3.size)
    have g5 := g3.trans (b5.mono g3.size)
    subst ec'
    clear b5 f3 g3 hpm hp hM c6
    have bB := (Below.refl w5.heap.size w5).alloc (Nat.le_refl _) (.cells #[.int .i64 k', .string sp', .string nm', .slice ao2 as2.length ca', .slice bo2 kids'.length cb', .string d'] 25)
    have kB := Cells.new w5 25 #[.int .i64 k', .string sp', .string nm', .slice ao2 as2.length ca', .slice bo2 kids'.length cb', .string d']
    have g6 := g5.trans (bB.mono g5.size)
    have f6 := f5.trans (bB.mono f5.size)
    have hM3 := hM2.on bB
    replace hca := Lib.hid (fun W hb => hca.out W (f6.trans (Below.mono hb f6.size)))
    have hcb := Lib.hid (fun W (hb : Below _ _ W) => node_open (kB.on (w' := W) hb))
    clear kB bB f5 g5 f6 hM2
    go_wp2_with fail
    (with_reducible refine (c0.out _ g6).mono ?_); rintro e w6 ⟨rfl, b6⟩
    have g7 := g6.trans (b6.mono g6.size)
    have c7 := Lib.hid (c5.out _ g7 _ (hM3.on b6))
    obtain ⟨x0, x1, x2, x3, x4, x5⟩ := hca.out _ b6
    obtain ⟨y0, y1, y2, y3, y4, y5⟩ := hcb.out _ b6
    clear c5 hM3 hca hcb b6 g6
    go_wp2_with fail
    (with_reducible refine c7.out.mono ?_); rintro e w7 ⟨⟨r, rfl, hr⟩, b7⟩
    obtain rfl : r = true := hr.2 trivial
    clear hr
    have g8 := b1.trans ((g7.trans (b7.mono g7.size)).mono b1.size)
    go_wp2_with fail
    go_ret
    exact ⟨rfl, g8⟩
  all_goals
    rw [e1, e2]
    have c6 := Lib.hid (fun W => refParse_any ByteArray.empty W (by decide))
    clear e1 e2 e3 c5 hzero
    go_wp2_with fail
    (with_reducible refine (c6.out _).mono ?_)
    rintro x w5 ⟨b5, hx⟩
    have g5 := g3.trans (b5.mono g3.size)
    obtain ⟨k', sp', nm', d', va', vk', gi, rfl⟩ : ∃ (k' : Int) (sp' nm' d' : ByteArray) (va' vk' : Option Addr × Nat × Nat) (gi : Int), x = .returned (.tuple #[.agg #[.int .i64 k', .string sp', .string nm', .slice va'.1 va'.2.1 va'.2.2, .slice vk'.1 vk'.2.1 vk'.2.2, .string d'], .int .i64 gi]) := by
      rcases hx with ⟨c', m, rfl, hpm, hM⟩ | ⟨e, rfl, he0, hpm⟩
      · obtain ⟨k', sp', nm', d', as2, kids', ao2, bo2, ca', cb', cs', -, ec', -, -, -, -, -⟩ := hM.open'
        exact ⟨k', sp', nm', d', (ao2, as2.length, ca'), (bo2, kids'.length, cb'), 0, by rw [ec']⟩
      · exact ⟨0, _, _, _, (none, 0, 0), (none, 0, 0), e, rfl⟩
    have bB := (Below.refl w5.heap.size w5).alloc (Nat.le_refl _) (.cells #[.int .i64 k', .string sp', .string nm', .slice va'.1 va'.2.1 va'.2.2, .slice vk'.1 vk'.2.1 vk'.2.2, .string d'] 25)
    have g6 := g5.trans (bB.mono g5.size)
    clear b5 g5 bB c6 hx g3 f3 hca
    go_wp2_with fail
    (with_reducible refine (c0.out _ g6).mono ?_); rintro e w6 ⟨rfl, b6⟩
    have g8 := b1.trans ((g6.trans (b6.mono g6.size)).mono b1.size)
    go_wp2_with fail
    go_ret
    exact ⟨rfl, g8⟩
end Go.Proofs.YtegaidfmkfnbnaaGreatDoor
