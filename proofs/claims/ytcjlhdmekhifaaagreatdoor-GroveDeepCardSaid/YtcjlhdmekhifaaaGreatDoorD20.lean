/-
  What the document's own Grown comes to: nodes and one more.
  Documents as trees, in plain Lean: comments, instructions and space about the element, in texts.
  Documents as trees, in plain Lean: an element put into another one is its kid, as it was.
  What is done with the stack: a kid more, characters more, an element begun, an element ended.
-/
import Derived.Test.YtcjlhdmekhifaaaGreatDoorD06
import Derived.Laws.AppendOwnNone
import Derived.Laws.OwnMore
import Derived.Maps.AppendAt
import Derived.Test.YtcjlhdmekhifaaaGreatDoorD03
import Derived.Test.YtcjlhdmekhifaaaGreatDoorD19
import Derived.WalkSmall
namespace Go.Proofs.YtcjlhdmekhifaaaGreatDoor
open Go.RowKit

def kidList (m : Nat) (cs : Nat → List Value) : List (List Value) := (List.range m).map cs
theorem kidList_len (m : Nat) (cs : Nat → List Value) : (kidList m cs).length = m := by simp [kidList]
theorem kidList_at (m : Nat) (cs : Nat → List Value) {j : Nat} (h : j < (kidList m cs).length) : (kidList m cs)[j] = cs j := by simp [kidList]
theorem kidList_six {S : Nat → Prop} {w : World} {v : Value} {m : Nat} {cs : Nat → List Value} (h : RowsAt S w v m cs) : ∀ c ∈ kidList m cs, c.length = 6 := by
  obtain ⟨ao, cap, _, c⟩ := h
  intro x hx
  unfold kidList at hx
  obtain ⟨j, hj, rfl⟩ := List.mem_map.1 hx
  exact (c j (List.mem_range.1 hj)).1
theorem flat_len : ∀ (css : List (List Value)), (∀ c ∈ css, c.length = 6) → css.flatten.length = css.length * 6
  | [], _ => rfl
  | c :: css, h => by
    have := flat_len css (fun x hx => h x (by simp [hx]))
    have h6 := h c (by simp)
    simp only [List.flatten_cons, List.length_append, List.length_cons]
    omega
theorem rows_news {S : Nat → Prop} {w : World} {ad : Addr} {m cap : Nat} {cs : Nat → List Value} (h : RowsAt S w (.slice (some ad) m cap) m cs) :
    (kidList m cs).flatten.length = m * 6 ∧ ∀ j u, (kidList m cs).flatten[j]? = some u → w.cell? (ad.add j) = some u := by
  have h6 := kidList_six h
  have hl : (kidList m cs).flatten.length = m * 6 := by rw [flat_len _ h6, kidList_len]
  refine ⟨hl, fun j u hu => ?_⟩
  have hj : j < (kidList m cs).flatten.length := (List.getElem?_eq_some_iff.1 hu).1
  rw [hl] at hj
  obtain ⟨ao, cap', e0, c⟩ := h
  cases e0
  obtain ⟨_, b, off, e1, _, e3⟩ := c (j / 6) (by omega)
  cases e1
  have a : (⟨b, off, none⟩ : Addr).add j = ⟨b, off + j, none⟩ := by unfold Addr.add; split <;> simp_all
  rw [a]
  have e2 : j = j / 6 * 6 + j % 6 := by omega
  have hjl : j / 6 < (kidList m cs).length := by rw [kidList_len]; omega
  rw [e2, flat_at _ h6 (j / 6) (j % 6) hjl (by omega), kidList_at] at hu
  have := e3 (j % 6) u hu
  rw [← this]
  congr 2
  omega
theorem node_cells_one {S : Nat → Prop} {w : World} {c : List Value} {n : Gv.Node} (h : NodeAt S w c n) : ∀ u ∈ c, u.oneCell' = true := by
  obtain ⟨k, sp, nm, d, as', kids, ao, bo, ca, cb, cs, _, rfl, _⟩ := h.open'
  intro u hu
  simp at hu
  rcases hu with rfl | rfl | rfl | rfl | rfl | rfl <;> rfl
theorem kidList_one {S : Nat → Prop} {w : World} {kids : List Gv.Node} {cs : Nat → List Value} (hk : ∀ j (h : j < kids.length), NodeAt S w (cs j) kids[j]) : ∀ u ∈ (kidList kids.length cs).flatten, u.oneCell' = true := by
  intro u hu
  obtain ⟨c, hc, hu⟩ := List.mem_flatten.1 hu
  unfold kidList at hc
  obtain ⟨j, hj, rfl⟩ := List.mem_map.1 hc
  exact node_cells_one (hk j (List.mem_range.1 hj)) u hu
/-- A copy of kids is a row that the call owns. -/
theorem kids_copied {S : Nat → Prop} {B : Nat} {w w' : World} {kids : List Gv.Node} {cs : Nat → List Value} {v' : Value} {N : Nat} (hk : ∀ j (h : j < kids.length), NodeAt S w (cs j) kids[j]) (hr : w'.ownsRow B 26 6 v' kids.length (kidList kids.length cs).flatten) (hg : w.grownBy w' none)
    (hat : v'.ownBlock = none ∨ v'.ownBlock = some N) (hN : w.heap.size ≤ N) : OwnsKids S B v' kids w' := by
  refine ⟨kidList kids.length cs, kidList_len _ _, hr, fun j h1 h2 => ?_⟩
  rw [kidList_at]
  have h' : NodeAt (fun b => S b ∧ some b ≠ v'.ownBlock) w (cs j) kids[j] := (hk j h2).mono fun b hb hl => ⟨hb, by
    rcases hat with e | e
    · rw [e]; simp
    · rw [e]; intro x; injection x with x; omega⟩
  exact h'.stay (stay_grown hg (fun g e => by cases e))

namespace Gv
theorem grown_skip {l : List Node} {k : Int} {sp nm d : ByteArray} {as' : List Att} {kd : List Node} (h1 : k = 1) (h2 : d = ByteArray.empty) : grown l (.mk k sp nm as' kd d) = l := by
  unfold grown; rw [if_pos ⟨h1, h2⟩]
theorem grown_add {l : List Node} {n : Node} (h : ¬ (n.kind = 1 ∧ n.data = ByteArray.empty)) (h2 : n.kind ≠ 1 ∨ l = [] ∨ ∃ m, l.getLast? = some m ∧ m.kind ≠ 1) : grown l n = l ++ [n] := by
  unfold grown
  rw [if_neg h]
  cases hl : l.getLast? with
  | none => rw [List.getLast?_eq_none_iff.1 hl]; rfl
  | some m =>
    simp only
    rw [if_neg]
    rintro ⟨a, b⟩
    rcases h2 with h2 | h2 | ⟨m', e, h2⟩
    · exact h2 a
    · rw [h2] at hl; cases hl
    · rw [hl] at e; cases e; exact h2 b
theorem grown_join {l : List Node} {n m : Node} (h : ¬ (n.kind = 1 ∧ n.data = ByteArray.empty)) (h1 : n.kind = 1) (hl : l.getLast? = some m) (h2 : m.kind = 1) : grown l n = l.dropLast ++ [text (m.data ++ n.data)] := by
  unfold grown
  rw [if_neg h, hl]
  simp only
  rw [if_pos ⟨h1, h2⟩]
end Gv

/-- KIDS COPIED behind nothing: a row that the call owns. -/
theorem wpList_copy_kids {S : Nat → Prop} {kids : List Gv.Node} {ao : Option Addr} {cap : Nat} {cs : Nat → List Value} {ops : Array Oper} {rest : List Oper} {o : Oper} {a : Act} {Q : Exit → Act → World → Prop} {w : World} (hgd : o.guard = none) (s x : Operand)
    (ho : o.op = .call { callee := .builtin .append, args := #[s, x], argTypes := #[24, 24] }) (B : Nat) (hs : a.eval s = .slice none 0 0) (hx : a.eval x = .slice ao kids.length cap)
    (hrow : RowsAt S w (.slice ao kids.length cap) kids.length cs) (hkids : ∀ j (h : j < kids.length), NodeAt S w (cs j) kids[j]) (hcap : ao = none → cap = 0) (hlen : kids.length ≤ 1000000) (hB : B ≤ w.heap.size)
    (h : ∀ v' w', OwnsKids S B v' kids w' → Below w.heap.size w w' → wpList Tryz.prog ops Q rest (a.put o.dst v') w') : wpList Tryz.prog ops Q (o :: rest) a w := by
  obtain ⟨i0, hi, hz0, hz1, hz2⟩ := info_parts infoNode
  cases ao with
  | none =>
    obtain rfl : cap = 0 := hcap rfl
    have hk0 : kids = [] := by
      cases kids with
      | nil => rfl
      | cons y l =>
        obtain ⟨_, _, e0, c0⟩ := hrow
        cases e0
        obtain ⟨_, _, _, e1, _⟩ := c0 0 (by simp)
        cases e1
    subst hk0
    exact wpList_append_own_none hgd s x 24 ho B 26 i0 6 Tryz.underlying24 hi (.slice none 0 0) 0 [] hs (World.ownsRow_nil _ _ _ _) hx (h _ _ (kids_nil _ _ _) (Below.refl _ _))
  | some ad =>
    obtain ⟨hl, hnews⟩ := rows_news hrow
    refine wpList_append_own_at w hgd s x 24 ho B 26 i0 _ 6 104 Tryz.underlying24 hi hz0 hz1 hz2 rfl (by decide) (.slice none 0 0) 0 [] hs (World.ownsRow_nil _ _ _ _) ad kids.length cap (kidList kids.length cs).flatten hx hl hnews (kidList_one hkids) (by unfold maxLen; omega) (by omega) hB ?_
    intro v' w' hown hg _ hat
    have hg0 : w.grownBy w' none := hg
    exact h v' w' (kids_copied hkids (by simpa using hown) hg0 hat (Nat.le_refl _)) ((Below.refl _ _).grown hg0 (Nat.le_refl _) (fun j e => by cases e))
/-- ONE NODE MORE in a row that the call owns. -/
theorem wpList_append_node {S : Nat → Prop} {kids : List Gv.Node} {n : Gv.Node} {c : List Value} {ops : Array Oper} {rest : List Oper} {o : Oper} {a : Act} {Q : Exit → Act → World → Prop} {w : World} (hgd : o.guard = none) (s x : Operand)
    (ho : o.op = .call { callee := .builtin .append, args := #[s, x], argTypes := #[24, 24] }) (B : Nat) (v : Value) (hs : a.eval s = v) (hO : OwnsKids S B v kids w) (b cap : Nat) (hx : a.eval x = .slice (some ⟨b, 0, none⟩) 1 cap)
    (hc : ∀ i u, c[i]? = some u → w.cell? ⟨b, i, none⟩ = some u) (hn : NodeAt (fun g => S g ∧ some g ≠ v.ownBlock) w c n) (hlen : kids.length ≤ 1000000) (hB : B ≤ w.heap.size)
    (h : ∀ v' w', OwnsKids S B v' (kids ++ [n]) w' → Below B w w' → wpList Tryz.prog ops Q rest (a.put o.dst v') w') : wpList Tryz.prog ops Q (o :: rest) a w := by
  obtain ⟨i0, hi, hz0, hz1, hz2⟩ := info_parts infoNode
  obtain ⟨css, hcl, hown, hkd⟩ := hO
  refine wpList_append_own_at w hgd s x 24 ho B 26 i0 _ 6 104 Tryz.underlying24 hi hz0 hz1 hz2 rfl (by decide) v kids.length css.flatten hs hown ⟨b, 0, none⟩ 1 cap c hx (by rw [hn.six]) (fun j u hu => by rw [add_at, Nat.zero_add]; exact hc j u hu) (node_cells_one hn) (by unfold maxLen; omega) (by omega) hB ?_
  intro v' w' hown' hg _ hat
  exact h v' w' (kids_more hcl hkd hn hown' hg hat (Nat.le_refl _)) ((Below.refl _ _).grown hg hB (fun j e => (World.ownsRow.lt hown j e).1))
theorem node_list {w : World} {b : Nat} {k : Int} {sp nm d : ByteArray} {va vk : Value} (h : Cells w b 26 (nodeArr k sp nm va vk d)) : ∀ i u, [Value.int .i64 k, .string sp, .string nm, va, vk, .string d][i]? = some u → w.cell? ⟨b, i, none⟩ = some u :=
  fun i u hu => h.cell (by rw [← Array.getElem?_toList]; exact hu)
theorem set_six (A : List Value) (a0 a1 a2 a3 a4 a5 u0 u1 u2 u3 u4 u5 : Value) :
    ((((((A ++ [a0, a1, a2, a3, a4, a5]).set A.length u0).set (A.length + 1) u1).set (A.length + 2) u2).set (A.length + 3) u3).set (A.length + 4) u4).set (A.length + 5) u5 = A ++ [u0, u1, u2, u3, u4, u5] := by
  simp [List.set_append_right]
def sixSet (w : World) (g o : Nat) (u0 u1 u2 u3 u4 u5 : Value) : World := (((((w.setCell ⟨g, o, none⟩ u0).setCell ⟨g, o + 1, none⟩ u1).setCell ⟨g, o + 2, none⟩ u2).setCell ⟨g, o + 3, none⟩ u3).setCell ⟨g, o + 4, none⟩ u4).setCell ⟨g, o + 5, none⟩ u5
theorem list_six {c : List Value} (h : c.length = 6) : ∃ a0 a1 a2 a3 a4 a5, c = [a0, a1, a2, a3, a4, a5] := by
  match c, h with
  | [a0, a1, a2, a3, a4, a5], _ => exact ⟨_, _, _, _, _, _, rfl⟩
theorem row_six {w : World} {B g n cap q : Nat} {e : TypeId} {css : List (List Value)} (h6 : ∀ c ∈ css, c.length = 6) (hl : css.length = q + 1) (hown : w.ownsRow B e 6 (.slice (some ⟨g, 0, none⟩) n cap) n css.flatten) (u0 u1 u2 u3 u4 u5 : Value) :
    (sixSet w g (q * 6) u0 u1 u2 u3 u4 u5).ownsRow B e 6 (.slice (some ⟨g, 0, none⟩) n cap) n (css.dropLast ++ [[u0, u1, u2, u3, u4, u5]]).flatten ∧ w.grownBy (sixSet w g (q * 6) u0 u1 u2 u3 u4 u5) (some g) := by
  have hne : css ≠ [] := fun e => by rw [e] at hl; simp at hl
  obtain ⟨a0, a1, a2, a3, a4, a5, hc⟩ := list_six (h6 _ (List.getLast_mem hne))
  have hA : css.dropLast.flatten.length = q * 6 := by
    rw [flat_len _ (fun c hc => h6 c (List.dropLast_subset _ hc)), List.length_dropLast, hl]; rfl
  have hx : css.flatten = css.dropLast.flatten ++ [a0, a1, a2, a3, a4, a5] := calc
    css.flatten = (css.dropLast ++ [css.getLast hne]).flatten := by rw [List.dropLast_concat_getLast hne]
    _ = _ := by rw [hc]; simp
  obtain ⟨o0, g0⟩ := hown.stored (q * 6) u0
  obtain ⟨o1, g1⟩ := o0.stored (q * 6 + 1) u1
  obtain ⟨o2, g2⟩ := o1.stored (q * 6 + 2) u2
  obtain ⟨o3, g3⟩ := o2.stored (q * 6 + 3) u3
  obtain ⟨o4, g4⟩ := o3.stored (q * 6 + 4) u4
  obtain ⟨o5, g5⟩ := o4.stored (q * 6 + 5) u5
  refine ⟨?_, ((((g0.trans g1).trans g2).trans g3).trans g4).trans g5⟩
  have : (css.dropLast ++ [[u0, u1, u2, u3, u4, u5]]).flatten = css.dropLast.flatten ++ [u0, u1, u2, u3, u4, u5] := by simp
  rw [this, ← set_six _ a0 a1 a2 a3 a4 a5, hA, ← hx]
  exact o5
/-- THE LAST ONE STORED ANEW: a text. -/
theorem kids_last {S : Nat → Prop} {B g n cap q : Nat} {w : World} {kids : List Gv.Node} {css : List (List Value)} (hcl : css.length = kids.length) (hl : kids.length = q + 1) (hn : n = kids.length)
    (hown : w.ownsRow B 26 6 (.slice (some ⟨g, 0, none⟩) n cap) n css.flatten)
    (hkd : ∀ j (h1 : j < css.length) (h2 : j < kids.length), NodeAt (fun b => S b ∧ some b ≠ (Value.slice (some ⟨g, 0, none⟩) n cap).ownBlock) w css[j] kids[j]) (d : ByteArray) :
    OwnsKids S B (.slice (some ⟨g, 0, none⟩) n cap) (kids.dropLast ++ [Gv.text d]) (sixSet w g (q * 6) (.int .i64 1) (.string ⟨#[]⟩) (.string ⟨#[]⟩) (.slice none 0 0) (.slice none 0 0) (.string d)) ∧ w.grownBy (sixSet w g (q * 6) (.int .i64 1) (.string ⟨#[]⟩) (.string ⟨#[]⟩) (.slice none 0 0) (.slice none 0 0) (.string d)) (some g) := by
  have h6 : ∀ c ∈ css, c.length = 6 := fun c hc => by
    obtain ⟨j, hj, rfl⟩ := List.mem_iff_getElem.1 hc
    exact (hkd j hj (by omega)).six
  obtain ⟨ho, hg⟩ := row_six h6 (hcl.trans hl) hown (.int .i64 1) (.string ⟨#[]⟩) (.string ⟨#[]⟩) (.slice none 0 0) (.slice none 0 0) (.string d)
  have hlen : (kids.dropLast ++ [Gv.text d]).length = kids.length := by simp [hl]
  refine ⟨⟨css.dropLast ++ [[.int .i64 1, .string ⟨#[]⟩, .string ⟨#[]⟩, .slice none 0 0, .slice none 0 0, .string d]], ?_, ?_, fun j a b => ?_⟩, hg⟩
  · simp [hcl]
  · rw [hlen, ← hn]; exact ho
  · by_cases hj : j < css.dropLast.length
    · have hj2 : j < kids.dropLast.length := by simp at hj ⊢; omega
      rw [List.getElem_append_left hj, List.getElem_append_left hj2, List.getElem_dropLast, List.getElem_dropLast]
      exact (hkd j _ _).stay (stay_grown hg (fun g' e x => x.2 (by injection e with e; subst e; simp [Value.ownBlock])))
    · have hj2 : j = css.dropLast.length := by simp at a hj ⊢; omega
      subst hj2
      rw [List.getElem_append_right (Nat.le_refl _), List.getElem_append_right (by simp; omega)]
      simp only [Nat.sub_self, List.length_dropLast, hcl, List.getElem_cons_zero]
      exact node_plain _ _ 1 ⟨#[]⟩ ⟨#[]⟩ d
theorem last_at' {l : List Gv.Node} (h : l ≠ []) : ∃ m, l.getLast? = some m ∧ ∃ (hj : l.length - 1 < l.length), l[l.length - 1] = m := by
  have hl : 0 < l.length := List.length_pos_iff.2 h
  exact ⟨l.getLast h, List.getLast?_eq_some_getLast h, by omega, (List.getLast_eq_getElem h).symm⟩

set_option maxRecDepth 100000 in
set_option maxHeartbeats 12800000 in
theorem refGrown_any {S : Nat → Prop} {kids : List Gv.Node} {ao : Option Addr} {cap : Nat} {cs : Nat → List Value} {c : List Value} {n : Gv.Node} (w : World) (hrow : RowsAt S w (.slice ao kids.length cap) kids.length cs) (hkids : ∀ j (h : j < kids.length), NodeAt S w (cs j) kids[j]) (hcap : ao = none → cap = 0)
    (hlen : kids.length ≤ 1000000) (hn : NodeAt S w c n) (hsum : ∀ m, kids.getLast? = some m → m.data.size + n.data.size ≤ 4611686018427387904) :
    Calls Tryz.prog 29 #[.slice ao kids.length cap, .agg c.toArray] w fun x w' => ∃ v', x = .returned v' ∧ OwnsKids S w.heap.size v' (Gv.grown kids n) w' ∧ Below w.heap.size w w' := by
  obtain ⟨i0, hi, hz0, hz1, hz2⟩ := info_parts infoNode
  obtain ⟨k, sp, nm, d, as', kd, ao2, bo2, ca2, cb2, cs2, rfl, rfl, ha2, hk2, hr2, -, -⟩ := hn.open'
  have hn6 := Lib.hid (show NodeAt (fun b => S b ∧ b < w.heap.size) w _ _ from hn.mono fun b hb hl => ⟨hb, hl⟩)
  clear hn ha2 hk2 hr2
  go_enter Tryz.func29, Tryz.ntmps29
  have b1 := (Below.refl w.heap.size w).alloc (Nat.le_refl _) (.cells (nodeArr k sp nm (.slice ao2 as'.length ca2) (.slice bo2 kd.length cb2) d) 26)
  have kA := Cells.new w 26 (nodeArr k sp nm (.slice ao2 as'.length ca2) (.slice bo2 kd.length cb2) d)
  have hrow1 := hrow.stay (stay_below b1)
  have hkids1 := fun j h => (hkids j h).on b1
  have hn1 := hn6.out.on b1
  replace hn1 := Lib.hid hn1
  clear hn6 hrow hkids
  clear kA
  have kA := Cells.new w 26 (nodeArr k sp nm (.slice ao2 as'.length ca2) (.slice bo2 kd.length cb2) d)
  replace kA := Lib.hid kA
  replace hkids1 := Lib.hid hkids1
  go_wp2_with (at_builtin; refine wpList_copy_kids rfl _ _ rfl w.heap.size rfl rfl hrow1 hkids1.out hcap hlen (by simp) ?_)
  intro v' w2 hO b2'
  have b2 : Below (w.heap.size + 1) (w.alloc (.cells (nodeArr k sp nm (.slice ao2 as'.length ca2) (.slice bo2 kd.length cb2) d) 26)) w2 := b2'
  rw [← World.size_alloc w (.cells (nodeArr k sp nm (.slice ao2 as'.length ca2) (.slice bo2 kd.length cb2) d) 26)] at b2
  clear b2'
  have c2 := b1.trans (b2.mono b1.size)
  have kB := kA.out.on b2
  have hn2 := Lib.hid (hn1.out.on b2)
  obtain ⟨x0, x1, x2, x3, x4, x5⟩ := node_open kB
  replace kB := Lib.hid kB
  clear hrow1 hkids1 hn1 kA b1 b2
  have hOh := Lib.hid hO
  obtain ⟨css, hcl, hown, hkd⟩ := hO
  by_cases hk1 : k = 1
  · subst hk1
    by_cases hd : d = ByteArray.empty
    · have hd2 : d.toList.isEmpty = true := by rw [hd, ByteArray.toList_eq]; rfl
      have hgr := Lib.hid (Gv.grown_skip (l := kids) (k := 1) (sp := sp) (nm := nm) (as' := as') (kd := kd) rfl hd)
      clear hd hkd hown
      go_wp2_with fail
      go_ret
      exact ⟨_, rfl, by rw [hgr.out]; exact hOh.out, c2⟩
    · have hd2 : d.toList.isEmpty = false := ne_empty (by rw [Nat.pos_iff_ne_zero]; exact fun e => hd (ByteArray.size_eq_zero_iff.1 e))
      have hnv := Lib.hid (hn2.out.mono (S' := fun g => S g ∧ some g ≠ v'.ownBlock) fun b hb _ => ⟨hb.1, fun e => by have := (World.ownsRow.lt hown b e.symm).1; omega⟩)
      obtain ⟨ao3, cap3, cs3, rfl, hr3, hk3, hl3, hc3⟩ := OwnsKids.rows (S := fun _ => True) (hOh.out.mono fun _ _ _ => trivial) (fun _ _ _ => trivial)
      clear hn2 hc3
      replace hlen := Lib.hid hlen
      replace hsum := Lib.hid hsum
      by_cases h0 : kids = []
      · have hgr := Lib.hid (Gv.grown_add (l := kids) (n := .mk 1 sp nm as' kd d) (fun e => hd e.2) (.inr (.inl h0)))
        have hl0 : kids.length = 0 := by rw [h0]; rfl
        replace h0 := Lib.hid h0
        replace hl3 := Lib.hid hl3
        have hw1 : IntKind.i64.wrap ((kids.length : Int) - 1) = -1 := by rw [hl0]; rfl
        replace hl0 := Lib.hid hl0
        clear hd hkd hown hr3 hk3
        have knew := Lib.hid (Cells.new w2 26 (nodeArr 1 sp nm (.slice ao2 as'.length ca2) (.slice bo2 kd.length cb2) d))
        have hO3 := Lib.hid (hOh.out.on ((Below.refl _ _).alloc (Nat.le_refl _) (.cells (nodeArr 1 sp nm (.slice ao2 as'.length ca2) (.slice bo2 kd.length cb2) d) 26)))
        have hn3 := Lib.hid (hnv.out.on ((Below.refl _ _).alloc (Nat.le_refl _) (.cells (nodeArr 1 sp nm (.slice ao2 as'.length ca2) (.slice bo2 kd.length cb2) d) 26)))
        have c3 := Lib.hid (c2.alloc c2.size (.cells (nodeArr 1 sp nm (.slice ao2 as'.length ca2) (.slice bo2 kd.length cb2) d) 26))
        have hB3 := Lib.hid c3.out.size
        clear hOh hnv c2 kB
        go_wp2_with (at_builtin; refine wpList_append_node rfl _ _ rfl w.heap.size _ rfl hO3.out w2.heap.size 1 rfl (node_list knew.out) hn3.out hlen.out hB3.out ?_)
        intro v' w4 hO4 b4
        go_wp2_with fail
        go_ret
        exact ⟨_, rfl, by rw [hgr.out]; exact hO4, c3.out.trans b4⟩
      · obtain ⟨m, hm, hj, hmj⟩ := last_at' h0
        have hN := hk3 (kids.length - 1) hj
        rw [hmj] at hN
        obtain ⟨km, sm, nmm, dm, am, kdm, aom, bom, cam, cbm, csm, rfl, hcm, -, -, -, -, -⟩ := hN.open'
        obtain ⟨b, off, rfl, p0, p1, p2, p3, p4, p5⟩ := hr3.cells hj hcm
        obtain ⟨q, hq⟩ : ∃ q, q = kids.length - 1 := ⟨_, rfl⟩
        have hq1 : IntKind.i64.wrap ((kids.length : Int) - 1) = (q : Int) := by
          have : kids.length ≤ 1000000 := hlen.out
          rw [IntWalk.i64_in _ (by omega)]
          omega
        have hq2 : (q : Int) < (kids.length : Int) := by omega
        rw [← hq] at p0 p1 p2 p3 p4 p5
        replace hq := Lib.hid hq
        replace hj := Lib.hid hj
        replace hm := Lib.hid hm
        replace hmj := Lib.hid hmj
        replace hcm := Lib.hid hcm
        replace hl3 := Lib.hid hl3
        replace h0 := Lib.hid h0
        by_cases hkm : km = 1
        · subst hkm
          have hgr := Lib.hid (Gv.grown_join (l := kids) (n := .mk 1 sp nm as' kd d) (fun e => hd e.2) rfl hm.out rfl)
          have hoff : off = 0 := by
            rcases hown.2 with ⟨e, _⟩ | ⟨_, _, _, e, _⟩
            · injection e with e; cases e
            · injection e with e; cases e; rfl
          subst hoff
          have fz := fun j => hown.frozenAt j
          have hbl := (World.ownsRow.lt hown b rfl)
          rw [Nat.zero_add] at p0 p1 p2 p3 p4 p5
          have hsm : ¬ 9223372036854775807 < dm.size + d.size := by
            have := hsum.out _ hm.out
            have : dm.size + d.size ≤ 4611686018427387904 := this
            omega
          have hlq : kids.length = q + 1 := by have := hj.out; have := hq.out; omega
          obtain ⟨hO5, hg5⟩ := kids_last (S := S) hcl hlq rfl hown hkd (dm ++ d)
          replace hO5 := Lib.hid hO5
          replace hg5 := Lib.hid ((c2.grown hg5 c2.size (fun j e => by cases e; exact hbl.1)).drew)
          replace hlq := Lib.hid hlq
          clear hd hr3 hk3 hN
          go_wp2_with fail
          go_region
          go_wp2_with fail
          go_ret
          exact ⟨_, rfl, by rw [hgr.out]; exact hO5.out.on (Below.refl _ _).drew, hg5.out⟩
        · have hgr := Lib.hid (Gv.grown_add (l := kids) (n := .mk 1 sp nm as' kd d) (fun e => hd e.2) (.inr (.inr ⟨_, hm.out, hkm⟩)))
          have hkmi : ¬ (km : Int) = 1 := by omega
          clear hkm hd hkd hown hr3 hk3 hN
          have knew := Lib.hid (Cells.new w2 26 (nodeArr 1 sp nm (.slice ao2 as'.length ca2) (.slice bo2 kd.length cb2) d))
          have hO3 := Lib.hid (hOh.out.on ((Below.refl _ _).alloc (Nat.le_refl _) (.cells (nodeArr 1 sp nm (.slice ao2 as'.length ca2) (.slice bo2 kd.length cb2) d) 26)))
          have hn3 := Lib.hid (hnv.out.on ((Below.refl _ _).alloc (Nat.le_refl _) (.cells (nodeArr 1 sp nm (.slice ao2 as'.length ca2) (.slice bo2 kd.length cb2) d) 26)))
          have c3 := Lib.hid (c2.alloc c2.size (.cells (nodeArr 1 sp nm (.slice ao2 as'.length ca2) (.slice bo2 kd.length cb2) d) 26))
          have hB3 := Lib.hid c3.out.size
          clear hOh hnv c2 kB
          go_wp2_with (at_builtin; refine wpList_append_node rfl _ _ rfl w.heap.size _ rfl hO3.out w2.heap.size 1 rfl (node_list knew.out) hn3.out hlen.out hB3.out ?_)
          intro v' w4 hO4 b4
          go_wp2_with fail
          go_ret
          exact ⟨_, rfl, by rw [hgr.out]; exact hO4, c3.out.trans b4⟩
  · have hgr := Lib.hid (Gv.grown_add (l := kids) (n := .mk k sp nm as' kd d) (fun e => hk1 e.1) (.inl hk1))
    have hk1i : ¬ (k : Int) = 1 := by omega
    have hnv := Lib.hid (hn2.out.mono (S' := fun g => S g ∧ some g ≠ v'.ownBlock) fun b hb _ => ⟨hb.1, fun e => by have := (World.ownsRow.lt hown b e.symm).1; omega⟩)
    obtain ⟨ao3, cap3, cs3, rfl, hr3, hk3, hl3, hc3⟩ := OwnsKids.rows (S := fun _ => True) (hOh.out.mono fun _ _ _ => trivial) (fun _ _ _ => trivial)
    clear hk1 hkd hown hr3 hk3 hl3 hc3 hn2
    replace hlen := Lib.hid hlen
    replace hsum := Lib.hid hsum
    have knew := Lib.hid (Cells.new w2 26 (nodeArr k sp nm (.slice ao2 as'.length ca2) (.slice bo2 kd.length cb2) d))
    have hO3 := Lib.hid (hOh.out.on ((Below.refl _ _).alloc (Nat.le_refl _) (.cells (nodeArr k sp nm (.slice ao2 as'.length ca2) (.slice bo2 kd.length cb2) d) 26)))
    have hn3 := Lib.hid (hnv.out.on ((Below.refl _ _).alloc (Nat.le_refl _) (.cells (nodeArr k sp nm (.slice ao2 as'.length ca2) (.slice bo2 kd.length cb2) d) 26)))
    have c3 := Lib.hid (c2.alloc c2.size (.cells (nodeArr k sp nm (.slice ao2 as'.length ca2) (.slice bo2 kd.length cb2) d) 26))
    have hB3 := Lib.hid c3.out.size
    clear hOh hnv c2 kB
    go_wp2_with (at_builtin; refine wpList_append_node rfl _ _ rfl w.heap.size _ rfl hO3.out w2.heap.size 1 rfl (node_list knew.out) hn3.out hlen.out hB3.out ?_)
    intro v' w4 hO4 b4
    go_wp2_with fail
    go_ret
    exact ⟨_, rfl, by rw [hgr.out]; exact hO4, c3.out.trans b4⟩
end Go.Proofs.YtcjlhdmekhifaaaGreatDoor
namespace Go.Proofs.YtcjlhdmekhifaaaGreatDoor
namespace Gv
open T (Tok)

/-- What the law puts behind a text. -/
def behind : List UInt8 := [60, 33, 45, 45, 120, 45, 45, 62, 32, 60, 63, 112, 63, 62, 10]
/-- .. and ahead of it. -/
def ahead : List UInt8 := [60, 63, 120, 109, 108, 32, 118, 101, 114, 115, 105, 111, 110, 61, 34, 49, 46, 49, 34, 63, 62, 9, 60, 33, 45, 45, 121, 45, 45, 62]
end Gv
end Go.Proofs.YtcjlhdmekhifaaaGreatDoor
namespace Go.Proofs.YtcjlhdmekhifaaaGreatDoor
namespace Gv
open T (Tok)

end Gv
end Go.Proofs.YtcjlhdmekhifaaaGreatDoor
namespace Go.Proofs.YtcjlhdmekhifaaaGreatDoor
open Go.RowKit

theorem grown_put (w : World) (g j : Nat) (u : Value) : w.grownBy (w.setCell ⟨g, j, none⟩ u) (some g) := ⟨rfl, rfl, rfl, by simp, fun k _ hk => heap_setCell_other w ⟨g, j, none⟩ k u (fun e => hk (by simp [e]))⟩
theorem grown_six (w : World) (g o : Nat) (u0 u1 u2 u3 u4 u5 : Value) : w.grownBy (sixSet w g o u0 u1 u2 u3 u4 u5) (some g) :=
  (((((grown_put w g o u0).trans (grown_put _ g _ u1)).trans (grown_put _ g _ u2)).trans (grown_put _ g _ u3)).trans (grown_put _ g _ u4)).trans (grown_put _ g _ u5)
theorem setCell_swap (w : World) (a b : Addr) (u v : Value) (h : a.block ≠ b.block) : (w.setCell a u).setCell b v = (w.setCell b v).setCell a u := by
  unfold World.setCell
  congr 1
  apply Array.ext_getElem?
  intro i
  simp only [Array.getElem?_modify]
  by_cases h1 : b.block = i
  · have h2 : ¬ a.block = i := by omega
    simp [h1, h2]
  · simp [h1]
theorem setCell_id (w : World) (g j : Nat) (v : Value) (h : w.cell? ⟨g, j, none⟩ = some v) : w.setCell ⟨g, j, none⟩ v = w := by
  have hh : (w.setCell ⟨g, j, none⟩ v).heap = w.heap := by
    unfold World.setCell
    apply Array.ext_getElem?
    intro i
    simp only [Array.getElem?_modify]
    by_cases h1 : g = i
    · subst h1
      simp only [if_true]
      unfold World.cell? at h
      cases ho : w.heap[g]? with
      | none => rfl
      | some o =>
        rw [ho] at h
        cases o with
        | cells c t fr =>
          simp only [Option.map_some, Option.isSome_none, Bool.false_eq_true, if_false]
          congr 2
          have hc : c[j]? = some v := by simpa using h
          apply Array.ext_getElem?
          intro x
          rw [Array.getElem?_setIfInBounds]
          by_cases hx : j = x
          · subst hx
            rw [if_pos rfl, if_pos (Array.getElem?_eq_some_iff.1 hc).1]
            exact hc.symm
          · simp [hx]
        | _ => rfl
    · simp [h1]
  have : w.setCell ⟨g, j, none⟩ v = { w with heap := (w.setCell ⟨g, j, none⟩ v).heap } := rfl
  rw [this, hh]
theorem six_swap (w : World) (g g5 j o : Nat) (v u0 u1 u2 u3 u4 u5 : Value) (h : g ≠ g5) : sixSet (w.setCell ⟨g, j, none⟩ v) g5 o u0 u1 u2 u3 u4 u5 = (sixSet w g5 o u0 u1 u2 u3 u4 u5).setCell ⟨g, j, none⟩ v := by
  unfold sixSet
  rw [setCell_swap w _ _ _ _ h, setCell_swap _ ⟨g, j, none⟩ _ _ _ h, setCell_swap _ ⟨g, j, none⟩ _ _ _ h, setCell_swap _ ⟨g, j, none⟩ _ _ _ h, setCell_swap _ ⟨g, j, none⟩ _ _ _ h, setCell_swap _ ⟨g, j, none⟩ _ _ _ h]
/-- THE LAST ONE, which is nothing yet, is stored: a node. -/
theorem kids_put {S : Nat → Prop} {B g n cap : Nat} {w : World} {kids : List Gv.Node} {css : List (List Value)} {m : Gv.Node} {u0 u1 u2 u3 u4 u5 : Value} (hcl : css.length = kids.length) (hn : n = kids.length + 1) {zero : List Value} (hz : zero.length = 6)
    (hown : w.ownsRow B 26 6 (.slice (some ⟨g, 0, none⟩) n cap) n (css.flatten ++ zero))
    (hkd : ∀ j (h1 : j < css.length) (h2 : j < kids.length), NodeAt (fun b => S b ∧ b ≠ g) w css[j] kids[j]) (hm : NodeAt (fun b => S b ∧ b ≠ g) w [u0, u1, u2, u3, u4, u5] m) :
    OwnsKids S B (.slice (some ⟨g, 0, none⟩) (kids.length + 1) cap) (kids ++ [m]) (sixSet w g (kids.length * 6) u0 u1 u2 u3 u4 u5) := by
  have h6 : ∀ c ∈ css ++ [zero], c.length = 6 := fun c hc => by
    rcases List.mem_append.1 hc with hc | hc
    · obtain ⟨j, hj, rfl⟩ := List.mem_iff_getElem.1 hc
      exact (hkd j hj (by omega)).six
    · rw [List.mem_singleton.1 hc]; exact hz
  subst hn
  obtain ⟨ho, hg⟩ := row_six (css := css ++ [zero]) (q := kids.length) h6 (by simp [hcl]) (by simpa using hown) u0 u1 u2 u3 u4 u5
  rw [List.dropLast_concat] at ho
  have hstay : ∀ {c : List Value} {x : Gv.Node}, NodeAt (fun b => S b ∧ b ≠ g) w c x → NodeAt (fun b => S b ∧ some b ≠ (Value.slice (some ⟨g, 0, none⟩) (kids.length + 1) cap).ownBlock) (sixSet w g (kids.length * 6) u0 u1 u2 u3 u4 u5) c x := fun {c x} h =>
    (h.stay (stay_grown hg (fun g' e x => by injection e with e; exact x.2 e.symm))).mono fun b hb _ => ⟨hb.1, fun e => by simp only [Value.ownBlock] at e; injection e with e; exact hb.2 e⟩
  refine ⟨css ++ [[u0, u1, u2, u3, u4, u5]], by simp [hcl], by rw [List.length_append, List.length_singleton]; exact ho, fun j a b => ?_⟩
  by_cases hj : j < css.length
  · rw [List.getElem_append_left hj, List.getElem_append_left (by omega)]
    exact hstay (hkd j hj (by omega))
  · have hj2 : j = css.length := by simp at a; omega
    subst hj2
    rw [List.getElem_append_right (Nat.le_refl _), List.getElem_append_right (by omega)]
    simp only [hcl, Nat.sub_self, List.getElem_cons_zero]
    exact hstay hm

/-- CHARACTERS MORE in the last kid, a text. -/
theorem kids_join {S : Nat → Prop} {B g n cap q : Nat} {w : World} {kids : List Gv.Node} {d0 d : ByteArray} (hO : OwnsKids S B (.slice (some ⟨g, 0, none⟩) n cap) kids w) (hl : kids.length = q + 1) (hlast : kids.getLast? = some (Gv.text d0)) :
    w.cell? ⟨g, q * 6, none⟩ = some (.int .i64 1) ∧ w.cell? ⟨g, q * 6 + 5, none⟩ = some (.string d0) ∧ (∀ j, w.frozen? ⟨g, j, none⟩ = false) ∧ OwnsKids S B (.slice (some ⟨g, 0, none⟩) n cap) (kids.dropLast ++ [Gv.text (d0 ++ d)]) (w.setCell ⟨g, q * 6 + 5, none⟩ (.string (d0 ++ d))) := by
  obtain ⟨css, hcl, hown, hkd⟩ := hO
  have h6 : ∀ c ∈ css, c.length = 6 := fun c hc => by
    obtain ⟨j, hj, rfl⟩ := List.mem_iff_getElem.1 hc
    exact (hkd j hj (by omega)).six
  have hne : css ≠ [] := fun e => by rw [e] at hcl; simp at hcl; omega
  have hlc : css.getLast hne = css[css.length - 1]'(by omega) := List.getLast_eq_getElem hne
  have hlk : kids[css.length - 1]'(by omega) = Gv.text d0 := by
    have hk : kids ≠ [] := fun e => by rw [e] at hl; simp at hl
    rw [List.getLast?_eq_some_getLast hk] at hlast
    injection hlast with hlast
    rw [← hlast, List.getLast_eq_getElem hk]
    simp only [hcl]
  have hN := hkd (css.length - 1) (by omega) (by omega)
  rw [hlk, ← hlc] at hN
  obtain ⟨k0, sp0, nm0, dd, as0, kd0, ao2, bo2, ca2, cb2, cs2, e1, e2, hat, hrow, hnod, hz⟩ := hN.open'
  unfold Gv.text at e1
  cases e1
  have hdl : css.dropLast.flatten.length = q * 6 := by
    rw [flat_len _ (fun c hc => h6 c (List.dropLast_subset _ hc)), List.length_dropLast, hcl, hl]; rfl
  have hx : css.flatten = css.dropLast.flatten ++ css.getLast hne := calc
    css.flatten = (css.dropLast ++ [css.getLast hne]).flatten := by rw [List.dropLast_concat_getLast hne]
    _ = _ := by simp
  have hnn : n = kids.length := by
    rcases hown.2 with ⟨e, _⟩ | ⟨_, _, _, e, _⟩
    · cases e
    · injection e
  rw [e2] at hx
  subst hnn
  obtain ⟨ho, hg⟩ := hown.stored (q * 6 + 5) (.string (d0 ++ d))
  have hc := fun j u hu => World.ownsRow.cells hown (g := g) rfl j u hu
  refine ⟨?_, ?_, fun j => hown.frozenAt j, css.dropLast ++ [[.int .i64 1, .string ByteArray.empty, .string ByteArray.empty, .slice ao2 ([] : List Gv.Att).length ca2, .slice bo2 ([] : List Gv.Node).length cb2, .string (d0 ++ d)]], ?_, ?_, fun j a b => ?_⟩
  · have := hc (q * 6) (.int .i64 1) (by rw [hx, List.getElem?_append_right (by omega), hdl, Nat.sub_self]; rfl)
    rwa [add_at, Nat.zero_add] at this
  · have := hc (q * 6 + 5) (.string d0) (by rw [hx, List.getElem?_append_right (by omega), hdl, show q * 6 + 5 - q * 6 = 5 by omega]; rfl)
    rwa [add_at, Nat.zero_add] at this
  · simp [hcl]
  · have e3 : (kids.dropLast ++ [Gv.text (d0 ++ d)]).length = kids.length := by simp [hl]
    rw [e3]
    have e4 : (css.dropLast ++ [[Value.int .i64 1, .string ByteArray.empty, .string ByteArray.empty, .slice ao2 ([] : List Gv.Att).length ca2, .slice bo2 ([] : List Gv.Node).length cb2, .string (d0 ++ d)]]).flatten = css.flatten.set (q * 6 + 5) (.string (d0 ++ d)) := by
      rw [hx, List.flatten_append, List.set_append_right _ _ (by omega), hdl, show q * 6 + 5 - q * 6 = 5 by omega]
      rfl
    rw [e4]
    exact ho
  · have stay : ∀ {c : List Value} {x : Gv.Node}, NodeAt (fun b => S b ∧ some b ≠ (Value.slice (some ⟨g, 0, none⟩) kids.length cap).ownBlock) w c x → NodeAt (fun b => S b ∧ some b ≠ (Value.slice (some ⟨g, 0, none⟩) kids.length cap).ownBlock) (w.setCell ⟨g, q * 6 + 5, none⟩ (.string (d0 ++ d))) c x := fun {c x} h =>
      h.stay (stay_grown hg (fun g' e x => x.2 (by injection e with e; subst e; simp [Value.ownBlock])))
    by_cases hj : j < css.dropLast.length
    · have hj2 : j < kids.dropLast.length := by simp at hj ⊢; omega
      rw [List.getElem_append_left hj, List.getElem_append_left hj2, List.getElem_dropLast, List.getElem_dropLast]
      exact stay (hkd j _ _)
    · have hj2 : j = css.dropLast.length := by simp at a hj ⊢; omega
      subst hj2
      rw [List.getElem_append_right (Nat.le_refl _), List.getElem_append_right (by simp; omega)]
      simp only [Nat.sub_self, List.length_dropLast, hcl, List.getElem_cons_zero]
      refine stay ?_
      unfold Gv.text
      exact .mk cs2 ⟨by unfold maxLen; simp, by unfold maxLen; simp⟩ hat hrow hnod

/-! ### the parser's state -/
variable {pb : Nat} {es : List El} {e : El} {sv va vk : Value} {k : Int} {sp nm d : ByteArray} {root : Option Gv.Node} {w : World}

theorem stk_type {B n : Nat} {xs : List Value} {w : World} {sv : Value} (h : w.ownsRow B 71 8 sv n xs) : ∀ g, sv.ownBlock = some g → ∃ c fr, w.heap[g]? = some (.cells c 71 fr) := by
  intro g hg
  obtain ⟨_, ⟨rfl, _⟩ | ⟨g', cap, cur, rfl, hb, hh, _⟩⟩ := h
  · cases hg
  · simp only [Value.ownBlock, Option.some.injEq] at hg
    subst hg
    exact ⟨_, _, hh⟩
theorem stk_aloof {B n hi : Nat} {xs : List Value} {w : World} {sv : Value} (h : w.ownsRow B 71 8 sv n xs) : ∀ g, sv.ownBlock = some g → Aloof w B sv.ownBlock hi g := by
  intro g hg
  obtain ⟨c, fr, hc⟩ := stk_type h g hg
  exact ⟨⟨c, _, fr, hc, by decide, by decide, fun e => absurd e (by decide)⟩, .inr (.inl hg.symm)⟩
theorem box_aloof {w : World} {B hi b : Nat} {sb : Option Nat} {A : Array Value} (h : Cells w b 38 A) (hb : b < B) : Aloof w B sb hi b :=
  ⟨⟨_, _, _, h, by decide, by decide, fun e => absurd e (by decide)⟩, .inr (.inr hb)⟩
theorem kids_type {S : Nat → Prop} {B : Nat} {v : Value} {kids : List Gv.Node} {w : World} (h : OwnsKids S B v kids w) : ∀ g, v.ownBlock = some g → B ≤ g ∧ g < w.heap.size ∧ ∃ c fr, w.heap[g]? = some (.cells c 26 fr) := by
  intro g hg
  obtain ⟨css, _, h, _⟩ := h
  have hl := World.ownsRow.lt h g hg
  obtain ⟨_, ⟨rfl, _⟩ | ⟨g', cap, cur, rfl, hb, hh, _⟩⟩ := h
  · cases hg
  · simp only [Value.ownBlock, Option.some.injEq] at hg
    subst hg
    exact ⟨hl.1, hl.2, _, _, hh⟩
/-- The stack's row has an own block where it is not empty. -/
theorem PSt.svAt (h : PSt pb (e :: es) sv k sp nm d va vk root w) : ∃ g cap, sv = .slice (some ⟨g, 0, none⟩) (es.length + 1) cap ∧ pb + 1 ≤ g ∧ g < w.heap.size := by
  have hr := h.row
  have hlt := World.ownsRow.lt hr
  obtain ⟨_, ⟨_, h0⟩ | ⟨g, cap, cur, rfl, hb, hh, _⟩⟩ := hr
  · simp at h0
  · exact ⟨g, cap, rfl, hb, (hlt g rfl).2⟩
/-- the innermost element's cells. -/
theorem PSt.top {g cap n : Nat} (h : PSt pb (e :: es) (.slice (some ⟨g, 0, none⟩) n cap) k sp nm d va vk root w) : ∀ i u, e.cells[i]? = some u → w.cell? ⟨g, es.length * 8 + i, none⟩ = some u := by
  intro i u hu
  have hc := World.ownsRow.cells h.row (g := g) rfl (es.length * 8 + i) u (by
    rw [stkCells_cons, List.getElem?_append_right (by rw [stkCells_len]; omega), stkCells_len, Nat.add_sub_cancel_left]
    exact hu)
  rwa [add_at, Nat.zero_add] at hc

/-- THE INNERMOST ELEMENT HAS OTHER KIDS: its row was written, its slice is stored. -/
theorem PSt.kids {g cap n : Nat} {w1 : World} {vk2 : Value} {kids2 : List Gv.Node} (h : PSt pb (e :: es) (.slice (some ⟨g, 0, none⟩) n cap) k sp nm d va vk root w) (hg : w.grownBy w1 e.vk.ownBlock)
    (hk : OwnsKids (fun b => e.lo ≤ b ∧ some b ≠ (some g : Option Nat)) e.lo vk2 kids2 w1) :
    PSt pb ({ e with o := { e.o with kids := kids2 }, vk := vk2 } :: es) (.slice (some ⟨g, 0, none⟩) n cap) k sp nm d va vk root (w1.setCell ⟨g, es.length * 8 + 6, none⟩ vk2) := by
  have hty := kids_type h.stk.1.kids
  have htl : ∀ x, e.vk.ownBlock = some x → Aloof w (pb + 1) (some g) e.lo x := fun x hx => by
    obtain ⟨a, _, c, fr, b⟩ := hty x hx
    exact ⟨⟨c, _, fr, b, by decide, by decide, fun _ => a⟩, .inl a⟩
  have hrow1 : w1.ownsRow (pb + 1) 71 8 (.slice (some ⟨g, 0, none⟩) n cap) (e :: es).length (stkCells (e :: es)) := World.ownsRow.kept h.row hg (by
    cases hv : e.vk.ownBlock with
    | none => right; simp [Value.ownBlock]
    | some x =>
      obtain ⟨_, _, c, fr, b⟩ := hty x hv
      exact st_apart h.row b (by decide))
  have hbox1 : Cells w1 pb 38 (pArr (.slice (some ⟨g, 0, none⟩) n cap) (k : Int) sp nm d va vk root.isSome) := (hg.block pb h.box.lt (fun x => by
    have := hty pb x.symm
    have := h.stk.1.low.1
    omega)).trans h.box
  have hnn : n = (e :: es).length := by
    rcases h.row.2 with ⟨e, _⟩ | ⟨_, _, _, e, _⟩
    · cases e
    · injection e
  subst hnn
  obtain ⟨ho, hg2⟩ := hrow1.stored (es.length * 8 + 6) vk2
  have hpg : pb ≠ g := by have := (World.ownsRow.lt h.row g rfl).1; omega
  have hal : ∀ hi x, some g = some x → Aloof w1 (pb + 1) (some g) hi x := fun hi x e => stk_aloof hrow1 x e
  have hrt : root = none := h.alone (by simp)
  have htop := h.stk.1
  have hsz1 : w.heap.size ≤ w1.heap.size := hg.size
  have hgl : g < w1.heap.size := (World.ownsRow.lt hrow1 g rfl).2
  refine ⟨hbox1.other _ _ hpg, ?_, ⟨⟨⟨htop.low.1, by rw [World.size_setCell]; have := htop.low.2; show e.lo ≤ _; omega⟩, ?_, ?_, ?_, ?_⟩, ?_⟩, fun n e => (by rw [hrt] at e; cases e), fun _ => hrt⟩
  · have e4 : stkCells ({ e with o := { e.o with kids := kids2 }, vk := vk2 } :: es) = (stkCells (e :: es)).set (es.length * 8 + 6) vk2 := by
      rw [stkCells_cons, stkCells_cons, List.set_append_right _ _ (by rw [stkCells_len]; omega), stkCells_len, Nat.add_sub_cancel_left]
      rfl
    rw [e4]
    exact ho
  · exact ((htop.scope.kept hg (fun x hx => by obtain ⟨_, _, c, fr, b⟩ := hty x hx; exact ⟨c, _, fr, b, by decide⟩))).kept hg2 (fun x e => by
      obtain ⟨⟨c, t, fr, a, b, _⟩, _⟩ := hal 0 x e
      exact ⟨c, t, fr, a, b⟩)
  · refine World.ownsRow.kept (World.ownsRow.kept htop.atts hg ?_) hg2 ?_
    · cases hv : e.vk.ownBlock with
      | none => cases e.va.ownBlock <;> simp
      | some x =>
        obtain ⟨_, _, c, fr, b⟩ := hty x hv
        exact st_apart htop.atts b (by decide)
    · obtain ⟨c, fr, b⟩ := stk_type hrow1 g rfl
      have hat1 : w1.ownsRow e.lo 47 3 e.va e.o.attrs.length (e.o.attrs.flatMap attCells) := World.ownsRow.kept htop.atts hg (by
        cases hv : e.vk.ownBlock with
        | none => cases e.va.ownBlock <;> simp
        | some x =>
          obtain ⟨_, _, c, fr, b⟩ := hty x hv
          exact st_apart htop.atts b (by decide))
      exact st_apart hat1 b (by decide)
  · obtain ⟨css, h1, h2, h3⟩ := hk
    obtain ⟨c, fr, b⟩ := stk_type hrow1 g rfl
    refine ⟨css, h1, World.ownsRow.kept h2 hg2 (st_apart h2 b (by decide)), fun j a b => ((h3 j a b).stay (stay_grown hg2 (fun x e y => y.1.2 (by rw [← e])))).mono fun b hb hl => ⟨⟨hb.1.1, by rw [World.size_setCell] at hl ⊢; exact hl, hb.1.2⟩, hb.2⟩⟩
  · intro x hx
    have := (kids_type hk x hx).2.1
    rw [World.size_setCell]
    exact this
  · exact (h.stk.2.frame hg htl).frame hg2 (fun x e => hal _ x e)

/-- An element as a node. -/
theorem kids_rows {S : Nat → Prop} {B : Nat} {v : Value} {kids : List Gv.Node} {w : World} (h : OwnsKids S B v kids w) (hB : ∀ g, v.ownBlock = some g → S g) : ∃ cs : Nat → List Value, RowsAt S w v kids.length cs ∧ (∀ j (h : j < kids.length), NodeAt S w (cs j) kids[j]) ∧ kids.length ≤ maxLen := by
  obtain ⟨css, h1, h2, h3⟩ := h
  have h6 : ∀ c ∈ css, c.length = 6 := fun c hc => by
    obtain ⟨j, hj, rfl⟩ := List.mem_iff_getElem.1 hc
    exact (h3 j hj (by omega)).six
  have hc := fun g hg => World.ownsRow.cells h2 (g := g) hg
  obtain ⟨hl, ⟨rfl, h0⟩ | ⟨g, cap, cur, rfl, hb, hh, hk, hm, _⟩⟩ := h2
  · have hk0 : kids = [] := List.eq_nil_of_length_eq_zero h0
    subst hk0
    exact ⟨fun _ => [], ⟨none, 0, rfl, fun j hj => by simp at hj⟩, fun j hj => by simp at hj, by unfold maxLen; simp⟩
  · refine ⟨fun j => css[j]?.getD [], ⟨_, cap, rfl, fun j hj => ?_⟩, fun j hj => ?_, Nat.le_trans hk hm⟩
    · have hj2 : j < css.length := by omega
      have e : css[j]?.getD [] = css[j] := by simp [hj2]
      dsimp only
      rw [e]
      refine ⟨h6 _ (List.getElem_mem hj2), g, 0, rfl, hB g rfl, fun i u hu => ?_⟩
      have hi : i < 6 := by
        have := (List.getElem?_eq_some_iff.1 hu).1
        rwa [h6 _ (List.getElem_mem hj2)] at this
      have := hc g rfl (j * 6 + i) u (by rw [flat_at css h6 j i hj2 hi]; exact hu)
      rw [add_at, ← Nat.add_assoc] at this
      exact this
    · have hj2 : j < css.length := by omega
      have e : css[j]?.getD [] = css[j] := by simp [hj2]
      dsimp only
      rw [e]
      exact (h3 j hj2 hj).mono fun b hb _ => hb.1
theorem atts_len {B : Nat} {v : Value} {l : List Gv.Att} {w : World} (h : OwnsAtts B v l w) : l.length ≤ maxLen := by
  obtain ⟨_, ⟨h0, h1⟩ | ⟨g, cap, cur, h0, _, _, hk, hm, _⟩⟩ := h
  · rw [h1]; exact Nat.zero_le _
  · exact Nat.le_trans hk hm
theorem node_ofEl (h : PSt pb (e :: es) sv k sp nm d va vk root w) : NodeAt (fun b => e.lo ≤ b ∧ some b ≠ sv.ownBlock) w [.int .i64 ((0 : Nat) : Int), .string e.o.space, .string e.o.name, e.va, e.vk, .string ByteArray.empty] e.o.node := by
  have ne : ∀ {B : Nat} {t : TypeId} {n sz : Nat} {v : Value} {xs : List Value}, w.ownsRow B t sz v n xs → t ≠ 71 → ∀ g, v.ownBlock = some g → B ≤ g ∧ some g ≠ sv.ownBlock := fun {B t n sz v xs} h2 ht g hg => by
    refine ⟨(World.ownsRow.lt h2 g hg).1, fun e => ?_⟩
    obtain ⟨c, fr, b⟩ := stk_type h.row g e.symm
    rcases st_apart h2 b (Ne.symm ht) with x | x
    · rw [x] at hg; cases hg
    · exact x hg
  obtain ⟨css, h1, h2, h3⟩ := h.stk.1.kids
  obtain ⟨cs, hr, hn, hm⟩ := kids_rows (S := fun b => e.lo ≤ b ∧ (some b ≠ sv.ownBlock)) (h.stk.1.kids.mono fun b hb _ => ⟨hb.1, hb.2.2⟩) (fun g hg => ne h2 (by decide) g hg)
  obtain ⟨ao, ca, hva, hat⟩ := h.stk.1.atts.at'
  exact .mk cs ⟨atts_len h.stk.1.atts, hm⟩ (hat.mono fun b hb hl => ne h.stk.1.atts (by decide) b hb.2.symm) hr hn

/-- THE INNERMOST ELEMENT IS TAKEN OFF. -/
theorem PSt.pop {g cap n : Nat} (h : PSt pb (e :: es) (.slice (some ⟨g, 0, none⟩) n cap) k sp nm d va vk root w) : PSt pb es (.slice (some ⟨g, 0, none⟩) es.length cap) k sp nm d va vk root (w.setCell ⟨pb, 0, none⟩ (.slice (some ⟨g, 0, none⟩) es.length cap)) ∧
    Stay (fun b => e.lo ≤ b ∧ some b ≠ (some g : Option Nat)) w (w.setCell ⟨pb, 0, none⟩ (.slice (some ⟨g, 0, none⟩) es.length cap)) := by
  have hnn : n = es.length + 1 := by
    rcases h.row.2 with ⟨e, _⟩ | ⟨_, _, _, e, _⟩
    · cases e
    · injection e
  subst hnn
  have hg := grown_put w pb 0 (.slice (some ⟨g, 0, none⟩) es.length cap)
  have hpg : (Value.slice (some ⟨g, 0, none⟩) es.length cap).ownBlock ≠ some pb := by
    have := (World.ownsRow.lt h.row g rfl).1
    simp only [Value.ownBlock]
    intro e
    injection e
    omega
  have hrt : root = none := h.alone (by simp)
  refine ⟨⟨?_, World.ownsRow.kept (ownsRow_pop (stkCells_len es) (by have := h.row; rw [stkCells_cons] at this; exact this)) hg (.inr hpg), ?_, fun n e => (by rw [hrt] at e; cases e), fun _ => hrt⟩, stay_grown hg (fun x e y => by injection e; have := h.stk.1.low.1; omega)⟩
  · have := h.box.set 0 (.slice (some ⟨g, 0, none⟩) es.length cap)
    simpa [pArr] using this
  · exact (h.stk.2.wider (Nat.le_trans h.stk.1.low.2 (by rw [World.size_setCell]; exact Nat.le_refl _))).frame hg (fun x e => by injection e with e; subst e; exact box_aloof h.box (Nat.lt_succ_self _))

/-- THE ONE ELEMENT HAS ENDED. -/
theorem PSt.done {k2 : Int} {sp2 nm2 d2 : ByteArray} {va2 vk2 : Value} {m : Gv.Node} (h : PSt pb [] sv k sp nm d va vk none w) (hm : NodeAt (fun b => pb < b) w [.int .i64 (k2 : Int), .string sp2, .string nm2, va2, vk2, .string d2] m) :
    PSt pb [] sv k2 sp2 nm2 d2 va2 vk2 (some m) ((sixSet w pb 1 (.int .i64 (k2 : Int)) (.string sp2) (.string nm2) va2 vk2 (.string d2)).setCell ⟨pb, 7, none⟩ (.bool true)) := by
  have hg := (grown_six w pb 1 (.int .i64 (k2 : Int)) (.string sp2) (.string nm2) va2 vk2 (.string d2)).trans (grown_put _ pb 7 (.bool true))
  refine ⟨?_, World.ownsRow.kept h.row hg ?_, trivial, fun n e => ?_, fun e => absurd rfl e⟩
  · have := ((((((h.box.set 1 (.int .i64 (k2 : Int))).set 2 (.string sp2)).set 3 (.string nm2)).set 4 va2).set 5 vk2).set 6 (.string d2)).set 7 (.bool true)
    simpa [pArr, sixSet] using this
  · right
    intro e
    have := (World.ownsRow.lt h.row pb e).1
    omega
  · have hmn : m = n := Option.some.inj e
    rw [← hmn]
    clear e hmn
    have hs : Stay (fun b => pb < b) w _ := stay_grown hg (fun x e y => by
      have hx : pb = x := Option.some.inj e
      have hy : pb < x := y
      omega)
    exact NodeAt.stay hm hs

/-- AN ELEMENT IS BEGUN: its eight cells are behind the others'. -/
theorem PSt.push {N : Nat} {w1 : World} {g cap : Nat} (h : PSt pb es sv k sp nm d va vk none w) (he : e.lo ≤ w.heap.size ∧ pb + 1 ≤ e.lo) (hsc : ScopeAt (pb + 1) e.vs e.o.scope w) (hat : OwnsAtts e.lo e.va e.o.attrs w) (hkd : e.o.kids = [] ∧ e.vk = .slice none 0 0)
    (hstk0 : Stk w (pb + 1) sv.ownBlock e.lo es)
    (ho : w1.ownsRow (pb + 1) 71 8 (.slice (some ⟨g, 0, none⟩) (es.length + 1) cap) (es.length + 1) (stkCells (e :: es))) (hg : w.grownBy w1 sv.ownBlock) (hat2 : sv.ownBlock = some g ∨ g = N) (hN : w.heap.size ≤ N) :
    PSt pb (e :: es) (.slice (some ⟨g, 0, none⟩) (es.length + 1) cap) k sp nm d va vk none (w1.setCell ⟨pb, 0, none⟩ (.slice (some ⟨g, 0, none⟩) (es.length + 1) cap)) := by
  have hs : (some g : Option Nat) = sv.ownBlock ∨ (some g : Option Nat) = some N := by
    rcases hat2 with e | e
    · exact .inl e.symm
    · exact .inr (by rw [e])
  have hbox1 : Cells w1 pb 38 (pArr sv (k : Int) sp nm d va vk false) := (hg.block pb h.box.lt (fun x => by
    have := (World.ownsRow.lt h.row pb x.symm).1
    omega)).trans h.box
  have hal : ∀ hi x, sv.ownBlock = some x → Aloof w (pb + 1) sv.ownBlock hi x := fun hi x e => stk_aloof h.row x e
  have hg2 := grown_put w1 pb 0 (.slice (some ⟨g, 0, none⟩) (es.length + 1) cap)
  have hpg := (World.ownsRow.lt ho g rfl).1
  -- the new one, as an element of its own
  have hel : ElAt w (pb + 1) sv.ownBlock w.heap.size e := ⟨⟨he.2, he.1⟩, hsc, hat, by rw [hkd.1, hkd.2]; exact kids_nil _ _ _, fun g hg => by rw [hkd.2] at hg; cases hg⟩
  have hstk : Stk w (pb + 1) sv.ownBlock w.heap.size (e :: es) := ⟨hel, hstk0⟩
  have h3 : Stk w1 (pb + 1) (some g) w.heap.size (e :: es) := (hstk.frame hg (hal _)).moved hs hN
  refine ⟨?_, World.ownsRow.kept ho hg2 (.inr (by simp only [Value.ownBlock]; intro e; injection e; omega)), (h3.wider (by rw [World.size_setCell]; exact hg.size)).frame hg2 (fun x e => by injection e with e; subst e; exact box_aloof hbox1 (Nat.lt_succ_self _)), fun n e => (by cases e), fun _ => rfl⟩
  have := hbox1.set 0 (.slice (some ⟨g, 0, none⟩) (es.length + 1) cap)
  simpa [pArr] using this
end Go.Proofs.YtcjlhdmekhifaaaGreatDoor
