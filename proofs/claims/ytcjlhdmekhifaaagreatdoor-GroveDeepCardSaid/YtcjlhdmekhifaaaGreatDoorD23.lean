/-
  What the parser's own words of its stack come to: top.
  What the parser's own words of its stack come to: add.
-/
import Derived.Test.YtcjlhdmekhifaaaGreatDoorD20
import Derived.BigQuiet
import Derived.Deep.AppendLies
import Derived.Deep.RegionLaw
namespace Go.Proofs.YtcjlhdmekhifaaaGreatDoor
open Go.RowKit

set_option maxRecDepth 100000 in
set_option maxHeartbeats 1600000 in
theorem top_nil {pb : Nat} {ao : Option Addr} {cap : Nat} (w : World) (h0 : w.cell? ⟨pb, 0, none⟩ = some (.slice ao 0 cap)) :
    Calls Tryz.prog 39 #[.pointer (some ⟨pb, 0, none⟩)] w fun x w' => x = .returned (.pointer none) ∧ w' = w := by
  go_enter Tryz.func39, Tryz.ntmps39
  go_wp2_with fail
  go_ret
  exact ⟨rfl, rfl⟩
set_option maxRecDepth 100000 in
set_option maxHeartbeats 1600000 in
theorem top_cons {pb g q cap : Nat} (w : World) (h0 : w.cell? ⟨pb, 0, none⟩ = some (.slice (some ⟨g, 0, none⟩) (q + 1) cap)) (hq : q ≤ 100) :
    Calls Tryz.prog 39 #[.pointer (some ⟨pb, 0, none⟩)] w fun x w' => x = .returned (.pointer (some ⟨g, q * 8, none⟩)) ∧ ∃ n, w' = w.drewN n := by
  have h1 : ¬ ((q : Int) + 1 = 0) := by omega
  have h2 : IntKind.i64.wrap ((q : Int) + 1 - 1) = (q : Int) := by rw [IntWalk.i64_in _ (by omega)]; omega
  have h3 : (q : Int) < (q : Int) + 1 := by omega
  go_enter Tryz.func39, Tryz.ntmps39
  go_wp2_with fail
  go_quiet (fail)
  go_wp2_with fail
  go_ret
  exact ⟨by simp, _, rfl⟩
end Go.Proofs.YtcjlhdmekhifaaaGreatDoor
namespace Go.Proofs.YtcjlhdmekhifaaaGreatDoor
open Go.RowKit

set_option maxRecDepth 100000 in
set_option maxHeartbeats 1600000 in
theorem add_nil {pb : Nat} {ao : Option Addr} {cap : Nat} {c0 c1 c2 c3 c4 c5 : Value} (w : World) (h0 : w.cell? ⟨pb, 0, none⟩ = some (.slice ao 0 cap)) :
    Calls Tryz.prog 21 #[.pointer (some ⟨pb, 0, none⟩), .agg #[c0, c1, c2, c3, c4, c5]] w fun x w' => x = .returned (.tuple #[]) ∧ Below w.heap.size w w' := by
  have hl : pb < w.heap.size := World.block_lt_of_cell? w _ h0
  have b1 := (Below.refl w.heap.size w).alloc (Nat.le_refl _) (.cells #[c0, c1, c2, c3, c4, c5] 26)
  have h1 := (b1.cell (p := ⟨pb, 0, none⟩) hl).trans h0
  go_enter Tryz.func21, Tryz.ntmps21
  go_wp2_with fail
  (with_reducible refine (top_nil _ h1).mono ?_); rintro e w2 ⟨rfl, rfl⟩
  go_wp2_with fail
  go_end0
  exact ⟨rfl, b1⟩

theorem zero_new (w : World) : ∀ j u, [Value.int .i64 0, .string ⟨#[]⟩, .string ⟨#[]⟩, .slice none 0 0, .slice none 0 0, .string ⟨#[]⟩][j]? = some u → (w.alloc (.cells #[.int .i64 0, .string ⟨#[]⟩, .string ⟨#[]⟩, .slice none 0 0, .slice none 0 0, .string ⟨#[]⟩] 26)).drew.cell? ((⟨w.heap.size, 0, none⟩ : Addr).add j) = some u := by
  intro j u hu
  rw [add_at, Nat.zero_add]
  exact (Cells.new w 26 #[.int .i64 0, .string ⟨#[]⟩, .string ⟨#[]⟩, .slice none 0 0, .slice none 0 0, .string ⟨#[]⟩]).cell (by rw [← Array.getElem?_toList]; exact hu)
theorem zero_one : ∀ u ∈ [Value.int .i64 0, .string ⟨#[]⟩, .string ⟨#[]⟩, .slice none 0 0, .slice none 0 0, .string ⟨#[]⟩], u.oneCell' = true := by
  intro u hu
  simp at hu
  rcases hu with rfl | rfl | rfl | rfl <;> rfl
theorem zero_size {lo : Nat} (w : World) (h : lo ≤ w.heap.size) : lo ≤ (w.alloc (.cells #[.int .i64 0, .string ⟨#[]⟩, .string ⟨#[]⟩, .slice none 0 0, .slice none 0 0, .string ⟨#[]⟩] 26)).drew.heap.size := by
  show lo ≤ (w.alloc _).heap.size
  rw [World.size_alloc]; omega
theorem put_cells {w : World} {B g kl cap : Nat} {css : List (List Value)} {kids : List Gv.Node} (hcl : kids.length = css.length) (hk : kl = kids.length) (h6 : ∀ c ∈ css, c.length = 6) (ho : w.ownsRow B 26 6 (.slice (some ⟨g, 0, none⟩) (kl + 1) cap) (kl + 1) (css.flatten ++ [.int .i64 0, .string ⟨#[]⟩, .string ⟨#[]⟩, .slice none 0 0, .slice none 0 0, .string ⟨#[]⟩])) :
    w.cell? ⟨g, kl * 6, none⟩ = some (.int .i64 0) ∧ w.cell? ⟨g, kl * 6 + 1, none⟩ = some (.string ⟨#[]⟩) ∧ w.cell? ⟨g, kl * 6 + 2, none⟩ = some (.string ⟨#[]⟩) ∧ w.cell? ⟨g, kl * 6 + 3, none⟩ = some (.slice none 0 0) ∧ w.cell? ⟨g, kl * 6 + 4, none⟩ = some (.slice none 0 0) ∧ w.cell? ⟨g, kl * 6 + 5, none⟩ = some (.string ⟨#[]⟩) := by
  have hl : css.flatten.length = kl * 6 := by rw [flat_len css h6, ← hcl, hk]
  have hc := fun j u hu => World.ownsRow.cells ho (g := g) rfl j u hu
  have go := fun (i : Nat) u (hu : [Value.int .i64 0, .string ⟨#[]⟩, .string ⟨#[]⟩, .slice none 0 0, .slice none 0 0, .string ⟨#[]⟩][i]? = some u) => (show w.cell? ⟨g, kl * 6 + i, none⟩ = some u by
    have := hc (kl * 6 + i) u (by rw [List.getElem?_append_right (by omega), hl, Nat.add_sub_cancel_left]; exact hu)
    rwa [add_at, Nat.zero_add] at this)
  exact ⟨go 0 _ rfl, go 1 _ rfl, go 2 _ rfl, go 3 _ rfl, go 4 _ rfl, go 5 _ rfl⟩

theorem grown_new {w w' : World} {o : Obj} {row : Option Nat} (h : (w.alloc o).drew.grownBy w' row) : w.grownBy w' row := (World.grownBy_alloc w o row).trans ⟨h.os, h.tape, h.output, h.size, h.block⟩
/-- What stands behind the append. -/
theorem put_facts {w w' : World} {g g5 H off : Nat} {v u : Value} (hg : w.grownBy w' v.ownBlock) (hgv : v.ownBlock ≠ some g) (hat : v.ownBlock = some g5 ∨ g5 = H) (hH : g < H) (hgl : g < w.heap.size) (hc : w.cell? ⟨g, off, none⟩ = some u) (hf : w.frozen? ⟨g, off, none⟩ = false) :
    ¬ g = g5 ∧ w'.cell? ⟨g, off, none⟩ = some u ∧ w'.frozen? ⟨g, off, none⟩ = false := by
  have hb := hg.block g hgl (fun x => hgv x.symm)
  refine ⟨?_, (World.cell?_of_block (a := ⟨g, off, none⟩) hb).trans hc, (World.frozen?_of_block (a := ⟨g, off, none⟩) hb).trans hf⟩
  rcases hat with e | e
  · exact fun x => hgv (by rw [e, x])
  · omega

/-- What is told of the parser then. -/
def Fin (pb : Nat) (w0 : World) (es : List El) (e : El) (m : Gv.Node) (g cap : Nat) (k : Int) (sp nm d : ByteArray) (va vk : Value) (root : Option Gv.Node) (w' : World) : Prop := Below pb w0 w' ∧
  ∃ vk2, PSt pb ({ e with o := { e.o with kids := e.o.kids ++ [m] }, vk := vk2 } :: es) (.slice (some ⟨g, 0, none⟩) (es.length + 1) cap) k sp nm d va vk root w'
/-- THE END of an append of a node to the innermost element's kids. -/
theorem add_end {pb g cap g5 cap5 kl : Nat} {k : Int} {es : List El} {e : El} {sp nm d : ByteArray} {va vk u0 u1 u2 u3 u4 u5 : Value} {root : Option Gv.Node} {m : Gv.Node} {css : List (List Value)} {w0 w w5 : World} {ko : Option Addr} {kcap : Nat}
    (b2 : Below w0.heap.size w0 w) (h : PSt pb (e :: es) (.slice (some ⟨g, 0, none⟩) (es.length + 1) cap) k sp nm d va vk root w) (hkl : kl = e.o.kids.length) (hvk : e.vk = .slice ko kl kcap) (hcl : css.length = e.o.kids.length) (hm : NodeAt (fun b => e.lo ≤ b ∧ b ≠ g ∧ some b ≠ e.vk.ownBlock) w [u0, u1, u2, u3, u4, u5] m)
    (hkd : ∀ (j : Nat) (h1 : j < css.length) (h2 : j < e.o.kids.length), NodeAt (fun b => (e.lo ≤ b ∧ b < w.heap.size ∧ some b ≠ (Value.slice (some ⟨g, 0, none⟩) (es.length + 1) cap).ownBlock) ∧ some b ≠ e.vk.ownBlock) w css[j] e.o.kids[j]) (hpb : pb < w0.heap.size)
    (hown : w5.ownsRow e.lo 26 6 (.slice (some ⟨g5, 0, none⟩) (kl + 1) cap5) (kl + 1) (css.flatten ++ [.int .i64 0, .string ⟨#[]⟩, .string ⟨#[]⟩, .slice none 0 0, .slice none 0 0, .string ⟨#[]⟩])) (hg : w.grownBy w5 (Value.slice ko kl kcap).ownBlock)
    (hat : (Value.slice ko kl kcap).ownBlock = some g5 ∨ g5 = w.heap.size + 1) :
    Below pb w0 ((sixSet w5 g5 (kl * 6) u0 u1 u2 u3 u4 u5).setCell ⟨g, es.length * 8 + 6, none⟩ (.slice (some ⟨g5, 0, none⟩) (kl + 1) cap5)) ∧
    ∃ vk2, PSt pb ({ e with o := { e.o with kids := e.o.kids ++ [m] }, vk := vk2 } :: es) (.slice (some ⟨g, 0, none⟩) (es.length + 1) cap) k sp nm d va vk root ((sixSet w5 g5 (kl * 6) u0 u1 u2 u3 u4 u5).setCell ⟨g, es.length * 8 + 6, none⟩ (.slice (some ⟨g5, 0, none⟩) (kl + 1) cap5)) := by
  subst hkl
  have hlow := h.stk.1.low
  have hgp := (World.ownsRow.lt h.row g rfl).1
  have hg5 := (World.ownsRow.lt hown g5 rfl).1
  have hsz := hg.size
  have stay : ∀ {c : List Value} {x : Gv.Node}, NodeAt (fun b => e.lo ≤ b ∧ b ≠ g ∧ some b ≠ e.vk.ownBlock) w c x → NodeAt (fun b => (e.lo ≤ b ∧ some b ≠ (some g : Option Nat)) ∧ b ≠ g5) w5 c x := fun {c x} hx => by
    have h' : NodeAt (fun b => (e.lo ≤ b ∧ b ≠ g ∧ some b ≠ e.vk.ownBlock) ∧ b ≠ g5) w c x := hx.mono fun b hb hl => ⟨hb, by
      rcases hat with e1 | e1
      · intro x; exact hb.2.2 (by rw [hvk, e1, x])
      · omega⟩
    exact (h'.stay (stay_grown hg (fun x e1 y => y.1.2.2 (by rw [hvk, e1])))).mono fun b hb _ => ⟨⟨hb.1.1, fun x => by injection x with x; exact hb.1.2.1 x⟩, hb.2⟩
  have hO : OwnsKids (fun b => e.lo ≤ b ∧ some b ≠ (some g : Option Nat)) e.lo (.slice (some ⟨g5, 0, none⟩) (e.o.kids.length + 1) cap5) (e.o.kids ++ [m]) (sixSet w5 g5 (e.o.kids.length * 6) u0 u1 u2 u3 u4 u5) :=
    kids_put (S := fun b => e.lo ≤ b ∧ some b ≠ (some g : Option Nat)) hcl rfl rfl hown (fun j h1 h2 => stay ((hkd j h1 h2).mono fun b hb _ => ⟨hb.1.1, fun x => hb.1.2.2 (by rw [x]; rfl), hb.2⟩)) (stay hm)
  have hg6 : w.grownBy (sixSet w5 g5 (e.o.kids.length * 6) u0 u1 u2 u3 u4 u5) e.vk.ownBlock := by
    rw [hvk]
    refine hg.andThen (grown_six w5 g5 _ u0 u1 u2 u3 u4 u5) (fun j ej => ?_)
    injection ej with ej
    subst ej
    rcases hat with e1 | e1
    · exact .inr e1
    · exact .inl (by omega)
  refine ⟨?_, _, h.kids hg6 hO⟩
  have h3 := b2.mono (Nat.le_of_lt hpb)
  have h4 := h3.grown hg6 (by have := b2.size; omega) (fun j ej => by have := kids_type h.stk.1.kids j ej; omega)
  exact h4.setCell (p := ⟨g, es.length * 8 + 6, none⟩) (by show pb ≤ g; omega) _

set_option maxRecDepth 100000 in
set_option maxHeartbeats 12800000 in
theorem add_cons {pb g n cap : Nat} {k : Int} {es : List El} {e : El} {sp nm d : ByteArray} {va vk : Value} {root : Option Gv.Node} {m : Gv.Node} {k2 : Int} {sp2 nm2 d2 : ByteArray} {ao2 bo2 : Option Addr} {m1 cp1 m2 cp2 : Nat} (w : World)
    (h : PSt pb (e :: es) (.slice (some ⟨g, 0, none⟩) n cap) k sp nm d va vk root w) (hes : es.length ≤ 100) (hkl : e.o.kids.length ≤ 1000000)
    (hm : NodeAt (fun b => e.lo ≤ b ∧ b ≠ g ∧ some b ≠ e.vk.ownBlock) w [.int .i64 k2, .string sp2, .string nm2, .slice ao2 m1 cp1, .slice bo2 m2 cp2, .string d2] m) :
    Calls Tryz.prog 21 #[.pointer (some ⟨pb, 0, none⟩), .agg #[.int .i64 k2, .string sp2, .string nm2, .slice ao2 m1 cp1, .slice bo2 m2 cp2, .string d2]] w fun x w' => x = .returned (.tuple #[]) ∧ Fin pb w es e m g cap k sp nm d va vk root w' := by
  obtain ⟨i0, hi, hz0, hz1, hz2⟩ := info_parts infoNode
  have hnn : n = es.length + 1 := by
    rcases h.row.2 with ⟨e, _⟩ | ⟨_, _, _, e, _⟩
    · cases e
    · injection e
  subst hnn
  have b1 := (Below.refl w.heap.size w).alloc (Nat.le_refl _) (.cells #[.int .i64 k2, .string sp2, .string nm2, .slice ao2 m1 cp1, .slice bo2 m2 cp2, .string d2] 26)
  have h1 := h.on b1
  have hm1 := hm.on b1
  have p0 : (w.alloc (.cells #[.int .i64 k2, .string sp2, .string nm2, .slice ao2 m1 cp1, .slice bo2 m2 cp2, .string d2] 26)).cell? ⟨pb, 0, none⟩ = some (.slice (some ⟨g, 0, none⟩) (es.length + 1) cap) := h1.box.cell rfl
  have kB := Cells.new w 26 #[.int .i64 k2, .string sp2, .string nm2, .slice ao2 m1 cp1, .slice bo2 m2 cp2, .string d2]
  have h0box : pb < w.heap.size := h.box.lt
  replace h := Lib.hid h
  replace hm := Lib.hid hm
  replace h1 := Lib.hid h1
  replace hm1 := Lib.hid hm1
  go_enter Tryz.func21, Tryz.ntmps21
  go_wp2_with fail
  (with_reducible refine (top_cons _ p0 hes).mono ?_); rintro x w2 ⟨rfl, nq, rfl⟩
  have b2 := Cells.below_drewN b1 nq
  have h2 := h1.out.on (Cells.below_drewN (Below.refl _ _) nq)
  have hm2 := hm1.out.on (Cells.below_drewN (Below.refl _ _) nq)
  have kB2 := kB.drewN nq
  generalize hW : (w.alloc (.cells #[.int .i64 k2, .string sp2, .string nm2, .slice ao2 m1 cp1, .slice bo2 m2 cp2, .string d2] 26)).drewN nq = w2 at *
  clear hW h1 hm1 kB b1 p0 h hm
  obtain ⟨css, hcl, hown, hkd⟩ := h2.stk.1.kids
  obtain ⟨ko, kcap, hvk⟩ : ∃ ko kcap, e.vk = .slice ko e.o.kids.length kcap := by
    rcases hown.2 with ⟨e1, e2⟩ | ⟨g', cap', _, e1, _⟩
    · exact ⟨none, 0, by rw [e1, e2]⟩
    · exact ⟨_, cap', e1⟩
  have t6 := h2.top 6 e.vk rfl
  rw [hvk] at t6 hown
  go_wp2_with fail
  obtain ⟨x0, x1, x2, x3, x4, x5⟩ : _ ∧ _ ∧ _ ∧ _ ∧ _ ∧ _ := ⟨kB2.cell (i := 0) (v := .int .i64 k2) rfl, kB2.cell (i := 1) (v := .string sp2) rfl, kB2.cell (i := 2) (v := .string nm2) rfl, kB2.cell (i := 3) (v := .slice ao2 m1 cp1) rfl, kB2.cell (i := 4) (v := .slice bo2 m2 cp2) rfl, kB2.cell (i := 5) (v := .string d2) rfl⟩
  obtain ⟨kl, hkl0⟩ : ∃ kl, kl = e.o.kids.length := ⟨_, rfl⟩
  rw [← hkl0] at t6 hown hvk
  have hlo : e.lo ≤ w2.heap.size := h2.stk.1.low.2
  have hko : ko = none ∨ ∃ gk, ko = some ⟨gk, 0, none⟩ := by
    rcases hown.2 with ⟨e1, _⟩ | ⟨g', _, _, e1, _⟩
    · injection e1 with e1; exact .inl e1
    · injection e1 with e1; exact .inr ⟨g', e1⟩
  have hgk : (Value.slice ko kl kcap).ownBlock ≠ some g := by
    obtain ⟨c, fr, hc⟩ := stk_type h2.row g rfl
    rcases st_apart hown hc (by decide) with x | x
    · rw [x]; simp
    · exact x
  have hgl : g < w2.heap.size := (World.ownsRow.lt h2.row g rfl).2
  have hpb : pb < w.heap.size := h0box
  have hgH : g < w2.heap.size + 1 := by omega
  have hbl : w.heap.size < w2.heap.size := kB2.lt
  have hb0 : ¬ w.heap.size = w2.heap.size := by omega
  have hg0 : ¬ g = w2.heap.size := by omega
  have tf := h2.row.frozenAt (es.length * 8 + 6)
  have hown' := Lib.hid hown
  have hk1 : kl + 1 ≤ maxLen := by unfold maxLen; omega
  have hk2 : (kl + 1) * 104 ≤ 140737488355328 := by omega
  have hk3 : (kl : Int) < (kl : Int) + 1 := by omega
  replace hkl0 := Lib.hid hkl0
  replace h2 := Lib.hid h2
  replace hm2 := Lib.hid hm2
  have h6 : Hid (∀ c ∈ css, c.length = 6) := Lib.hid (fun c hc => by
    obtain ⟨j, hj, rfl⟩ := List.mem_iff_getElem.1 hc
    exact (hkd j hj (by omega)).six)
  replace hkd := Lib.hid hkd
  replace hcl := Lib.hid hcl
  replace hvk := Lib.hid hvk
  go_region_law (
    refine step_append_lies _ rfl _ _ 24 rfl e.lo 26 i0 _ 6 104 Tryz.underlying24 hi hz0 hz1 hz2 rfl (by decide) (.slice ko kl kcap) kl css.flatten rfl (show ((w2.alloc (.cells #[.int .i64 0, .string ⟨#[]⟩, .string ⟨#[]⟩, .slice none 0 0, .slice none 0 0, .string ⟨#[]⟩] 26)).drew).ownsRow _ _ _ _ _ _ from World.ownsRow.alloc hown _) ⟨w2.heap.size, 0, none⟩ 1 1 [.int .i64 0, .string ⟨#[]⟩, .string ⟨#[]⟩, .slice none 0 0, .slice none 0 0, .string ⟨#[]⟩] rfl rfl (zero_new w2) (zero_one) (by decide) hk1 hk2 (zero_size w2 hlo) (w2.heap.size + 1) (by simp) ?_
    intro g5 cap5 w5 hown5 hg5 hat5 hlt5
    obtain ⟨y0, y1, y2, y3, y4, y5⟩ := put_cells hcl.out.symm hkl0.out h6.out hown5
    have yf := fun j => hown5.frozenAt j
    have hga := grown_new hg5
    obtain ⟨hgg, z6, zf⟩ := put_facts (off := es.length * 8 + 2 + 4) hga hgk hat5 hgH hgl t6 tf)
  all_goals
    have fin := add_end b2 h2.out hkl0.out hvk.out hcl.out hm2.out hkd.out hpb hown5 hga hat5
    have fin1 : Hid (Fin pb w es e m g cap k sp nm d va vk root  (((((((w5.setCell ⟨g5, kl * 6, none⟩ (.int .i64 k2)).setCell ⟨g5, kl * 6 + 1, none⟩ (.string sp2)).setCell ⟨g5, kl * 6 + 2, none⟩ (.string nm2)).setCell ⟨g5, kl * 6 + 3, none⟩ (.slice ao2 m1 cp1)).setCell ⟨g5, kl * 6 + 4, none⟩ (.slice bo2 m2 cp2)).setCell ⟨g5, kl * 6 + 5, none⟩ (.string d2)).setCell ⟨g, es.length * 8 + 2 + 4, none⟩ (.slice (some ⟨g5, 0, none⟩) (kl + 1) cap5))) := Lib.hid fin
    have fin2 : Hid (Fin pb w es e m g cap k sp nm d va vk root (((((((w5.setCell ⟨g, es.length * 8 + 2 + 4, none⟩ (.slice (some ⟨g5, 0, none⟩) (kl + 1) cap5)).setCell ⟨g5, kl * 6, none⟩ (.int .i64 k2)).setCell ⟨g5, kl * 6 + 1, none⟩ (.string sp2)).setCell ⟨g5, kl * 6 + 2, none⟩ (.string nm2)).setCell ⟨g5, kl * 6 + 3, none⟩ (.slice ao2 m1 cp1)).setCell ⟨g5, kl * 6 + 4, none⟩ (.slice bo2 m2 cp2)).setCell ⟨g5, kl * 6 + 5, none⟩ (.string d2))) := Lib.hid (by
      have f : Fin pb w es e m g cap k sp nm d va vk root (((((((w5.setCell ⟨g5, kl * 6, none⟩ (.int .i64 k2)).setCell ⟨g5, kl * 6 + 1, none⟩ (.string sp2)).setCell ⟨g5, kl * 6 + 2, none⟩ (.string nm2)).setCell ⟨g5, kl * 6 + 3, none⟩ (.slice ao2 m1 cp1)).setCell ⟨g5, kl * 6 + 4, none⟩ (.slice bo2 m2 cp2)).setCell ⟨g5, kl * 6 + 5, none⟩ (.string d2)).setCell ⟨g, es.length * 8 + 2 + 4, none⟩ (.slice (some ⟨g5, 0, none⟩) (kl + 1) cap5)) := fin
      have e := six_swap w5 g g5 (es.length * 8 + 6) (kl * 6) (.slice (some ⟨g5, 0, none⟩) (kl + 1) cap5) (.int .i64 k2) (.string sp2) (.string nm2) (.slice ao2 m1 cp1) (.slice bo2 m2 cp2) (.string d2) hgg
      unfold sixSet at e
      rw [e]
      exact f)
    clear fin y0 y1 y2 y3 y4 y5 yf z6 zf hga hown5 hg5
    go_wp2_with fail
    go_end0
    refine ⟨rfl, ?_⟩
    first
      | with_reducible exact fin1.out
      | with_reducible exact fin2.out
end Go.Proofs.YtcjlhdmekhifaaaGreatDoor
