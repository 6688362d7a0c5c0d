/-
  What the document's own Grown comes to: nodes and one more.
  What the document's own words of prefixes come to: contracts of Split, bound.
  What the document's own words of prefixes come to: contracts of bound, Resolve.
  What the document's own words of prefixes come to: contract of Declare.
-/
import Derived.Test.YtegaidfmkfnbnaaGreatDoorQ01
import Derived.Laws.AppendOwnNone
import Derived.Laws.OwnMore
import Derived.Maps.AppendAt
import Derived.Test.YtegaidfmkfnbnaaGreatDoorP08
import Derived.Test.YtegaidfmkfnbnaaGreatDoorP06
import Derived.Deep.DeepCutAuto
import Derived.Deep.RegionHeld3
import Derived.Deep.QuietTactic
import Derived.BigQuiet
import Derived.Laws.Cover1
namespace Go.Proofs.YtegaidfmkfnbnaaGreatDoor
open Go.RowKit

def kidList (m : Nat) (cs : Nat → List Value) : List (List Value) := (List.range m).map cs
theorem kidList_len (m : Nat) (cs : Nat → List Value) : (kidList m cs).length = m := by simp [kidList]
theorem kidList_at (m : Nat) (cs : Nat → List Value) {j : Nat} (h : j < (kidList m cs).length) : (kidList m cs)[j] = cs j := by simp [kidList]
theorem kidList_six {S : Nat → Prop} {w : World} {v : Value} {m : Nat} {cs : Nat → List Value} (h : RowsAt S w v m cs) : ∀ c ∈ kidList m cs, c.length = 6 := by
  obtain ⟨ao, cap, _, c⟩ := h
  intro x hx
  unfold kidList at hx
  obtain ⟨j, hj, rfl⟩ := List.mem_map.1 hx
  exact (c j (List.mem_range.1 hj)).1
theorem flat_len : ∀ (css : List (List Value)), (∀ c ∈ css, c.length = 6) → css.flatten.length = css.length * 6
  | [], _ => rfl
  | c :: css, h => by
    have := flat_len css (fun x hx => h x (by simp [hx]))
    have h6 := h c (by simp)
    simp only [List.flatten_cons, List.length_append, List.length_cons]
    omega
theorem rows_news {S : Nat → Prop} {w : World} {ad : Addr} {m cap : Nat} {cs : Nat → List Value} (h : RowsAt S w (.slice (some ad) m cap) m cs) :
    (kidList m cs).flatten.length = m * 6 ∧ ∀ j u, (kidList m cs).flatten[j]? = some u → w.cell? (ad.add j) = some u := by
  have h6 := kidList_six h
  have hl : (kidList m cs).flatten.length = m * 6 := by rw [flat_len _ h6, kidList_len]
  refine ⟨hl, fun j u hu => ?_⟩
  have hj : j < (kidList m cs).flatten.length := (List.getElem?_eq_some_iff.1 hu).1
  rw [hl] at hj
  obtain ⟨ao, cap', e0, c⟩ := h
  cases e0
  obtain ⟨_, b, off, e1, _, e3⟩ := c (j / 6) (by omega)
  cases e1
  have a : (⟨b, off, none⟩ : Addr).add j = ⟨b, off + j, none⟩ := by unfold Addr.add; split <;> simp_all
  rw [a]
  have e2 : j = j / 6 * 6 + j % 6 := by omega
  have hjl : j / 6 < (kidList m cs).length := by rw [kidList_len]; omega
  rw [e2, flat_at _ h6 (j / 6) (j % 6) hjl (by omega), kidList_at] at hu
  have := e3 (j % 6) u hu
  rw [← this]
  congr 2
  omega
theorem node_cells_one {S : Nat → Prop} {w : World} {c : List Value} {n : Gv.Node} (h : NodeAt S w c n) : ∀ u ∈ c, u.oneCell' = true := by
  obtain ⟨k, sp, nm, d, as', kids, ao, bo, ca, cb, cs, _, rfl, _⟩ := h.open'
  intro u hu
  simp at hu
  rcases hu with rfl | rfl | rfl | rfl | rfl | rfl <;> rfl
theorem kidList_one {S : Nat → Prop} {w : World} {kids : List Gv.Node} {cs : Nat → List Value} (hk : ∀ j (h : j < kids.length), NodeAt S w (cs j) kids[j]) : ∀ u ∈ (kidList kids.length cs).flatten, u.oneCell' = true := by
  intro u hu
  obtain ⟨c, hc, hu⟩ := List.mem_flatten.1 hu
  unfold kidList at hc
  obtain ⟨j, hj, rfl⟩ := List.mem_map.1 hc
  exact node_cells_one (hk j (List.mem_range.1 hj)) u hu
/-- A copy of kids is a row that the call owns. -/
theorem kids_copied {S : Nat → Prop} {B : Nat} {w w' : World} {kids : List Gv.Node} {cs : Nat → List Value} {v' : Value} {N : Nat} (hk : ∀ j (h : j < kids.length), NodeAt S w (cs j) kids[j]) (hr : w'.ownsRow B 25 6 v' kids.length (kidList kids.length cs).flatten) (hg : w.grownBy w' none)
    (hat : v'.ownBlock = none ∨ v'.ownBlock = some N) (hN : w.heap.size ≤ N) : OwnsKids S B v' kids w' := by
  refine ⟨kidList kids.length cs, kidList_len _ _, hr, fun j h1 h2 => ?_⟩
  rw [kidList_at]
  have h' : NodeAt (fun b => S b ∧ some b ≠ v'.ownBlock) w (cs j) kids[j] := (hk j h2).mono fun b hb hl => ⟨hb, by
    rcases hat with e | e
    · rw [e]; simp
    · rw [e]; intro x; injection x with x; omega⟩
  exact h'.stay (stay_grown hg (fun g e => by cases e))

namespace Gv
theorem grown_skip {l : List Node} {k : Int} {sp nm d : ByteArray} {as' : List Att} {kd : List Node} (h1 : k = 1) (h2 : d = ByteArray.empty) : grown l (.mk k sp nm as' kd d) = l := by
  unfold grown; rw [if_pos ⟨h1, h2⟩]
theorem grown_add {l : List Node} {n : Node} (h : ¬ (n.kind = 1 ∧ n.data = ByteArray.empty)) (h2 : n.kind ≠ 1 ∨ l = [] ∨ ∃ m, l.getLast? = some m ∧ m.kind ≠ 1) : grown l n = l ++ [n] := by
  unfold grown
  rw [if_neg h]
  cases hl : l.getLast? with
  | none => rw [List.getLast?_eq_none_iff.1 hl]; rfl
  | some m =>
    simp only
    rw [if_neg]
    rintro ⟨a, b⟩
    rcases h2 with h2 | h2 | ⟨m', e, h2⟩
    · exact h2 a
    · rw [h2] at hl; cases hl
    · rw [hl] at e; cases e; exact h2 b
theorem grown_join {l : List Node} {n m : Node} (h : ¬ (n.kind = 1 ∧ n.data = ByteArray.empty)) (h1 : n.kind = 1) (hl : l.getLast? = some m) (h2 : m.kind = 1) : grown l n = l.dropLast ++ [text (m.data ++ n.data)] := by
  unfold grown
  rw [if_neg h, hl]
  simp only
  rw [if_pos ⟨h1, h2⟩]
end Gv

/-- KIDS COPIED behind nothing: a row that the call owns. -/
theorem wpList_copy_kids {S : Nat → Prop} {kids : List Gv.Node} {ao : Option Addr} {cap : Nat} {cs : Nat → List Value} {ops : Array Oper} {rest : List Oper} {o : Oper} {a : Act} {Q : Exit → Act → World → Prop} {w : World} (hgd : o.guard = none) (s x : Operand)
    (ho : o.op = .call { callee := .builtin .append, args := #[s, x], argTypes := #[23, 23] }) (B : Nat) (hs : a.eval s = .slice none 0 0) (hx : a.eval x = .slice ao kids.length cap)
    (hrow : RowsAt S w (.slice ao kids.length cap) kids.length cs) (hkids : ∀ j (h : j < kids.length), NodeAt S w (cs j) kids[j]) (hcap : ao = none → cap = 0) (hlen : kids.length ≤ 1000000) (hB : B ≤ w.heap.size)
    (h : ∀ v' w', OwnsKids S B v' kids w' → Below w.heap.size w w' → wpList Tryz.prog ops Q rest (a.put o.dst v') w') : wpList Tryz.prog ops Q (o :: rest) a w := by
  obtain ⟨i0, hi, hz0, hz1, hz2⟩ := info_parts infoNode
  cases ao with
  | none =>
    obtain rfl : cap = 0 := hcap rfl
    have hk0 : kids = [] := by
      cases kids with
      | nil => rfl
      | cons y l =>
        obtain ⟨_, _, e0, c0⟩ := hrow
        cases e0
        obtain ⟨_, _, _, e1, _⟩ := c0 0 (by simp)
        cases e1
    subst hk0
    exact wpList_append_own_none hgd s x 23 ho B 25 i0 6 Tryz.underlying23 hi (.slice none 0 0) 0 [] hs (World.ownsRow_nil _ _ _ _) hx (h _ _ (kids_nil _ _ _) (Below.refl _ _))
  | some ad =>
    obtain ⟨hl, hnews⟩ := rows_news hrow
    refine wpList_append_own_at w hgd s x 23 ho B 25 i0 _ 6 104 Tryz.underlying23 hi hz0 hz1 hz2 rfl (by decide) (.slice none 0 0) 0 [] hs (World.ownsRow_nil _ _ _ _) ad kids.length cap (kidList kids.length cs).flatten hx hl hnews (kidList_one hkids) (by unfold maxLen; omega) (by omega) hB ?_
    intro v' w' hown hg _ hat
    have hg0 : w.grownBy w' none := hg
    exact h v' w' (kids_copied hkids (by simpa using hown) hg0 hat (Nat.le_refl _)) ((Below.refl _ _).grown hg0 (Nat.le_refl _) (fun j e => by cases e))
/-- ONE NODE MORE in a row that the call owns. -/
theorem wpList_append_node {S : Nat → Prop} {kids : List Gv.Node} {n : Gv.Node} {c : List Value} {ops : Array Oper} {rest : List Oper} {o : Oper} {a : Act} {Q : Exit → Act → World → Prop} {w : World} (hgd : o.guard = none) (s x : Operand)
    (ho : o.op = .call { callee := .builtin .append, args := #[s, x], argTypes := #[23, 23] }) (B : Nat) (v : Value) (hs : a.eval s = v) (hO : OwnsKids S B v kids w) (b cap : Nat) (hx : a.eval x = .slice (some ⟨b, 0, none⟩) 1 cap)
    (hc : ∀ i u, c[i]? = some u → w.cell? ⟨b, i, none⟩ = some u) (hn : NodeAt (fun g => S g ∧ some g ≠ v.ownBlock) w c n) (hlen : kids.length ≤ 1000000) (hB : B ≤ w.heap.size)
    (h : ∀ v' w', OwnsKids S B v' (kids ++ [n]) w' → Below B w w' → wpList Tryz.prog ops Q rest (a.put o.dst v') w') : wpList Tryz.prog ops Q (o :: rest) a w := by
  obtain ⟨i0, hi, hz0, hz1, hz2⟩ := info_parts infoNode
  obtain ⟨css, hcl, hown, hkd⟩ := hO
  refine wpList_append_own_at w hgd s x 23 ho B 25 i0 _ 6 104 Tryz.underlying23 hi hz0 hz1 hz2 rfl (by decide) v kids.length css.flatten hs hown ⟨b, 0, none⟩ 1 cap c hx (by rw [hn.six]) (fun j u hu => by rw [add_at, Nat.zero_add]; exact hc j u hu) (node_cells_one hn) (by unfold maxLen; omega) (by omega) hB ?_
  intro v' w' hown' hg _ hat
  exact h v' w' (kids_more hcl hkd hn hown' hg hat (Nat.le_refl _)) ((Below.refl _ _).grown hg hB (fun j e => (World.ownsRow.lt hown j e).1))
theorem node_list {w : World} {b : Nat} {k : Int} {sp nm d : ByteArray} {va vk : Value} (h : Cells w b 25 (nodeArr k sp nm va vk d)) : ∀ i u, [Value.int .i64 k, .string sp, .string nm, va, vk, .string d][i]? = some u → w.cell? ⟨b, i, none⟩ = some u :=
  fun i u hu => h.cell (by rw [← Array.getElem?_toList]; exact hu)
theorem set_six (A : List Value) (a0 a1 a2 a3 a4 a5 u0 u1 u2 u3 u4 u5 : Value) :
    ((((((A ++ [a0, a1, a2, a3, a4, a5]).set A.length u0).set (A.length + 1) u1).set (A.length + 2) u2).set (A.length + 3) u3).set (A.length + 4) u4).set (A.length + 5) u5 = A ++ [u0, u1, u2, u3, u4, u5] := by
  simp [List.set_append_right]
def sixSet (w : World) (g o : Nat) (u0 u1 u2 u3 u4 u5 : Value) : World := (((((w.setCell ⟨g, o, none⟩ u0).setCell ⟨g, o + 1, none⟩ u1).setCell ⟨g, o + 2, none⟩ u2).setCell ⟨g, o + 3, none⟩ u3).setCell ⟨g, o + 4, none⟩ u4).setCell ⟨g, o + 5, none⟩ u5
theorem list_six {c : List Value} (h : c.length = 6) : ∃ a0 a1 a2 a3 a4 a5, c = [a0, a1, a2, a3, a4, a5] := by
  match c, h with
  | [a0, a1, a2, a3, a4, a5], _ => exact ⟨_, _, _, _, _, _, rfl⟩
theorem row_six {w : World} {B g n cap q : Nat} {e : TypeId} {css : List (List Value)} (h6 : ∀ c ∈ css, c.length = 6) (hl : css.length = q + 1) (hown : w.ownsRow B e 6 (.slice (some ⟨g, 0, none⟩) n cap) n css.flatten) (u0 u1 u2 u3 u4 u5 : Value) :
    (sixSet w g (q * 6) u0 u1 u2 u3 u4 u5).ownsRow B e 6 (.slice (some ⟨g, 0, none⟩) n cap) n (css.dropLast ++ [[u0, u1, u2, u3, u4, u5]]).flatten ∧ w.grownBy (sixSet w g (q * 6) u0 u1 u2 u3 u4 u5) (some g) := by
  have hne : css ≠ [] := fun e => by rw [e] at hl; simp at hl
  obtain ⟨a0, a1, a2, a3, a4, a5, hc⟩ := list_six (h6 _ (List.getLast_mem hne))
  have hA : css.dropLast.flatten.length = q * 6 := by
    rw [flat_len _ (fun c hc => h6 c (List.dropLast_subset _ hc)), List.length_dropLast, hl]; rfl
  have hx : css.flatten = css.dropLast.flatten ++ [a0, a1, a2, a3, a4, a5] := calc
    css.flatten = (css.dropLast ++ [css.getLast hne]).flatten := by rw [List.dropLast_concat_getLast hne]
    _ = _ := by rw [hc]; simp
  obtain ⟨o0, g0⟩ := hown.stored (q * 6) u0
  obtain ⟨o1, g1⟩ := o0.stored (q * 6 + 1) u1
  obtain ⟨o2, g2⟩ := o1.stored (q * 6 + 2) u2
  obtain ⟨o3, g3⟩ := o2.stored (q * 6 + 3) u3
  obtain ⟨o4, g4⟩ := o3.stored (q * 6 + 4) u4
  obtain ⟨o5, g5⟩ := o4.stored (q * 6 + 5) u5
  refine ⟨?_, ((((g0.trans g1).trans g2).trans g3).trans g4).trans g5⟩
  have : (css.dropLast ++ [[u0, u1, u2, u3, u4, u5]]).flatten = css.dropLast.flatten ++ [u0, u1, u2, u3, u4, u5] := by simp
  rw [this, ← set_six _ a0 a1 a2 a3 a4 a5, hA, ← hx]
  exact o5
/-- THE LAST ONE STORED ANEW: a text. -/
theorem kids_last {S : Nat → Prop} {B g n cap q : Nat} {w : World} {kids : List Gv.Node} {css : List (List Value)} (hcl : css.length = kids.length) (hl : kids.length = q + 1) (hn : n = kids.length)
    (hown : w.ownsRow B 25 6 (.slice (some ⟨g, 0, none⟩) n cap) n css.flatten)
    (hkd : ∀ j (h1 : j < css.length) (h2 : j < kids.length), NodeAt (fun b => S b ∧ some b ≠ (Value.slice (some ⟨g, 0, none⟩) n cap).ownBlock) w css[j] kids[j]) (d : ByteArray) :
    OwnsKids S B (.slice (some ⟨g, 0, none⟩) n cap) (kids.dropLast ++ [Gv.text d]) (sixSet w g (q * 6) (.int .i64 1) (.string ⟨#[]⟩) (.string ⟨#[]⟩) (.slice none 0 0) (.slice none 0 0) (.string d)) ∧ w.grownBy (sixSet w g (q * 6) (.int .i64 1) (.string ⟨#[]⟩) (.string ⟨#[]⟩) (.slice none 0 0) (.slice none 0 0) (.string d)) (some g) := by
  have h6 : ∀ c ∈ css, c.length = 6 := fun c hc => by
    obtain ⟨j, hj, rfl⟩ := List.mem_iff_getElem.1 hc
    exact (hkd j hj (by omega)).six
  obtain ⟨ho, hg⟩ := row_six h6 (hcl.trans hl) hown (.int .i64 1) (.string ⟨#[]⟩) (.string ⟨#[]⟩) (.slice none 0 0) (.slice none 0 0) (.string d)
  have hlen : (kids.dropLast ++ [Gv.text d]).length = kids.length := by simp [hl]
  refine ⟨⟨css.dropLast ++ [[.int .i64 1, .string ⟨#[]⟩, .string ⟨#[]⟩, .slice none 0 0, .slice none 0 0, .string d]], ?_, ?_, fun j a b => ?_⟩, hg⟩
  · simp [hcl]
  · rw [hlen, ← hn]; exact ho
  · by_cases hj : j < css.dropLast.length
    · have hj2 : j < kids.dropLast.length := by simp at hj ⊢; omega
      rw [List.getElem_append_left hj, List.getElem_append_left hj2, List.getElem_dropLast, List.getElem_dropLast]
      exact (hkd j _ _).stay (stay_grown hg (fun g' e x => x.2 (by injection e with e; subst e; simp [Value.ownBlock])))
    · have hj2 : j = css.dropLast.length := by simp at a hj ⊢; omega
      subst hj2
      rw [List.getElem_append_right (Nat.le_refl _), List.getElem_append_right (by simp; omega)]
      simp only [Nat.sub_self, List.length_dropLast, hcl, List.getElem_cons_zero]
      exact node_plain _ _ 1 ⟨#[]⟩ ⟨#[]⟩ d
theorem last_at' {l : List Gv.Node} (h : l ≠ []) : ∃ m, l.getLast? = some m ∧ ∃ (hj : l.length - 1 < l.length), l[l.length - 1] = m := by
  have hl : 0 < l.length := List.length_pos_iff.2 h
  exact ⟨l.getLast h, List.getLast?_eq_some_getLast h, by omega, (List.getLast_eq_getElem h).symm⟩

set_option maxRecDepth 100000 in
set_option maxHeartbeats 12800000 in
theorem refGrown_any {S : Nat → Prop} {kids : List Gv.Node} {ao : Option Addr} {cap : Nat} {cs : Nat → List Value} {c : List Value} {n : Gv.Node} (w : World) (hrow : RowsAt S w (.slice ao kids.length cap) kids.length cs) (hkids : ∀ j (h : j < kids.length), NodeAt S w (cs j) kids[j]) (hcap : ao = none → cap = 0)
    (hlen : kids.length ≤ 1000000) (hn : NodeAt S w c n) (hsum : ∀ m, kids.getLast? = some m → m.data.size + n.data.size ≤ 4611686018427387904) :
    Calls Tryz.prog 46 #[.slice ao kids.length cap, .agg c.toArray] w fun x w' => ∃ v', x = .returned v' ∧ OwnsKids S w.heap.size v' (Gv.grown kids n) w' ∧ Below w.heap.size w w' := by
  obtain ⟨i0, hi, hz0, hz1, hz2⟩ := info_parts infoNode
  obtain ⟨k, sp, nm, d, as', kd, ao2, bo2, ca2, cb2, cs2, rfl, rfl, ha2, hk2, hr2, -, -⟩ := hn.open'
  have hn6 := Lib.hid (show NodeAt (fun b => S b ∧ b < w.heap.size) w _ _ from hn.mono fun b hb hl => ⟨hb, hl⟩)
  clear hn ha2 hk2 hr2
  go_enter Tryz.func46, Tryz.ntmps46
  have b1 := (Below.refl w.heap.size w).alloc (Nat.le_refl _) (.cells (nodeArr k sp nm (.slice ao2 as'.length ca2) (.slice bo2 kd.length cb2) d) 25)
  have kA := Cells.new w 25 (nodeArr k sp nm (.slice ao2 as'.length ca2) (.slice bo2 kd.length cb2) d)
  have hrow1 := hrow.stay (stay_below b1)
  have hkids1 := fun j h => (hkids j h).on b1
  have hn1 := hn6.out.on b1
  replace hn1 := Lib.hid hn1
  clear hn6 hrow hkids
  clear kA
  have kA := Cells.new w 25 (nodeArr k sp nm (.slice ao2 as'.length ca2) (.slice bo2 kd.length cb2) d)
  replace kA := Lib.hid kA
  replace hkids1 := Lib.hid hkids1
  go_wp2_with (at_builtin; refine wpList_copy_kids rfl _ _ rfl w.heap.size rfl rfl hrow1 hkids1.out hcap hlen (by simp) ?_)
  intro v' w2 hO b2'
  have b2 : Below (w.heap.size + 1) (w.alloc (.cells (nodeArr k sp nm (.slice ao2 as'.length ca2) (.slice bo2 kd.length cb2) d) 25)) w2 := b2'
  rw [← World.size_alloc w (.cells (nodeArr k sp nm (.slice ao2 as'.length ca2) (.slice bo2 kd.length cb2) d) 25)] at b2
  clear b2'
  have c2 := b1.trans (b2.mono b1.size)
  have kB := kA.out.on b2
  have hn2 := Lib.hid (hn1.out.on b2)
  obtain ⟨x0, x1, x2, x3, x4, x5⟩ := node_open kB
  replace kB := Lib.hid kB
  clear hrow1 hkids1 hn1 kA b1 b2
  have hOh := Lib.hid hO
  obtain ⟨css, hcl, hown, hkd⟩ := hO
  by_cases hk1 : k = 1
  · subst hk1
    by_cases hd : d = ByteArray.empty
    · have hd2 : d.toList.isEmpty = true := by rw [hd, ByteArray.toList_eq]; rfl
      have hgr := Lib.hid (Gv.grown_skip (l := kids) (k := 1) (sp := sp) (nm := nm) (as' := as') (kd := kd) rfl hd)
      clear hd hkd hown
      go_wp2_with fail
      go_ret
      exact ⟨_, rfl, by rw [hgr.out]; exact hOh.out, c2⟩
    · have hd2 : d.toList.isEmpty = false := ne_empty (by rw [Nat.pos_iff_ne_zero]; exact fun e => hd (ByteArray.size_eq_zero_iff.1 e))
      have hnv := Lib.hid (hn2.out.mono (S' := fun g => S g ∧ some g ≠ v'.ownBlock) fun b hb _ => ⟨hb.1, fun e => by have := (World.ownsRow.lt hown b e.symm).1; omega⟩)
      obtain ⟨ao3, cap3, cs3, rfl, hr3, hk3, hl3, hc3⟩ := OwnsKids.rows (S := fun _ => True) (hOh.out.mono fun _ _ _ => trivial) (fun _ _ _ => trivial)
      clear hn2 hc3
      replace hlen := Lib.hid hlen
      replace hsum := Lib.hid hsum
      by_cases h0 : kids = []
      · have hgr := Lib.hid (Gv.grown_add (l := kids) (n := .mk 1 sp nm as' kd d) (fun e => hd e.2) (.inr (.inl h0)))
        have hl0 : kids.length = 0 := by rw [h0]; rfl
        replace h0 := Lib.hid h0
        replace hl3 := Lib.hid hl3
        have hw1 : IntKind.i64.wrap ((kids.length : Int) - 1) = -1 := by rw [hl0]; rfl
        replace hl0 := Lib.hid hl0
        clear hd hkd hown hr3 hk3
        have knew := Lib.hid (Cells.new w2 25 (nodeArr 1 sp nm (.slice ao2 as'.length ca2) (.slice bo2 kd.length cb2) d))
        have hO3 := Lib.hid (hOh.out.on ((Below.refl _ _).alloc (Nat.le_refl _) (.cells (nodeArr 1 sp nm (.slice ao2 as'.length ca2) (.slice bo2 kd.length cb2) d) 25)))
        have hn3 := Lib.hid (hnv.out.on ((Below.refl _ _).alloc (Nat.le_refl _) (.cells (nodeArr 1 sp nm (.slice ao2 as'.length ca2) (.slice bo2 kd.length cb2) d) 25)))
        have c3 := Lib.hid (c2.alloc c2.size (.cells (nodeArr 1 sp nm (.slice ao2 as'.length ca2) (.slice bo2 kd.length cb2) d) 25))
        have hB3 := Lib.hid c3.out.size
        clear hOh hnv c2 kB
        go_wp2_with (at_builtin; refine wpList_append_node rfl _ _ rfl w.heap.size _ rfl hO3.out w2.heap.size 1 rfl (node_list knew.out) hn3.out hlen.out hB3.out ?_)
        intro v' w4 hO4 b4
        go_wp2_with fail
        go_ret
        exact ⟨_, rfl, by rw [hgr.out]; exact hO4, c3.out.trans b4⟩
      · obtain ⟨m, hm, hj, hmj⟩ := last_at' h0
        have hN := hk3 (kids.length - 1) hj
        rw [hmj] at hN
        obtain ⟨km, sm, nmm, dm, am, kdm, aom, bom, cam, cbm, csm, rfl, hcm, -, -, -, -, -⟩ := hN.open'
        obtain ⟨b, off, rfl, p0, p1, p2, p3, p4, p5⟩ := hr3.cells hj hcm
        obtain ⟨q, hq⟩ : ∃ q, q = kids.length - 1 := ⟨_, rfl⟩
        have hq1 : IntKind.i64.wrap ((kids.length : Int) - 1) = (q : Int) := by
          have : kids.length ≤ 1000000 := hlen.out
          rw [IntWalk.i64_in _ (by omega)]
          omega
        have hq2 : (q : Int) < (kids.length : Int) := by omega
        rw [← hq] at p0 p1 p2 p3 p4 p5
        replace hq := Lib.hid hq
        replace hj := Lib.hid hj
        replace hm := Lib.hid hm
        replace hmj := Lib.hid hmj
        replace hcm := Lib.hid hcm
        replace hl3 := Lib.hid hl3
        replace h0 := Lib.hid h0
        by_cases hkm : km = 1
        · subst hkm
          have hgr := Lib.hid (Gv.grown_join (l := kids) (n := .mk 1 sp nm as' kd d) (fun e => hd e.2) rfl hm.out rfl)
          have hoff : off = 0 := by
            rcases hown.2 with ⟨e, _⟩ | ⟨_, _, _, e, _⟩
            · injection e with e; cases e
            · injection e with e; cases e; rfl
          subst hoff
          have fz := fun j => hown.frozenAt j
          have hbl := (World.ownsRow.lt hown b rfl)
          rw [Nat.zero_add] at p0 p1 p2 p3 p4 p5
          have hsm : ¬ 9223372036854775807 < dm.size + d.size := by
            have := hsum.out _ hm.out
            have : dm.size + d.size ≤ 4611686018427387904 := this
            omega
          have hlq : kids.length = q + 1 := by have := hj.out; have := hq.out; omega
          obtain ⟨hO5, hg5⟩ := kids_last (S := S) hcl hlq rfl hown hkd (dm ++ d)
          replace hO5 := Lib.hid hO5
          replace hg5 := Lib.hid ((c2.grown hg5 c2.size (fun j e => by cases e; exact hbl.1)).drew)
          replace hlq := Lib.hid hlq
          clear hd hr3 hk3 hN
          go_wp2_with fail
          go_region
          go_wp2_with fail
          go_ret
          exact ⟨_, rfl, by rw [hgr.out]; exact hO5.out.on (Below.refl _ _).drew, hg5.out⟩
        · have hgr := Lib.hid (Gv.grown_add (l := kids) (n := .mk 1 sp nm as' kd d) (fun e => hd e.2) (.inr (.inr ⟨_, hm.out, hkm⟩)))
          have hkmi : ¬ (km : Int) = 1 := by omega
          clear hkm hd hkd hown hr3 hk3 hN
          have knew := Lib.hid (Cells.new w2 25 (nodeArr 1 sp nm (.slice ao2 as'.length ca2) (.slice bo2 kd.length cb2) d))
          have hO3 := Lib.hid (hOh.out.on ((Below.refl _ _).alloc (Nat.le_refl _) (.cells (nodeArr 1 sp nm (.slice ao2 as'.length ca2) (.slice bo2 kd.length cb2) d) 25)))
          have hn3 := Lib.hid (hnv.out.on ((Below.refl _ _).alloc (Nat.le_refl _) (.cells (nodeArr 1 sp nm (.slice ao2 as'.length ca2) (.slice bo2 kd.length cb2) d) 25)))
          have c3 := Lib.hid (c2.alloc c2.size (.cells (nodeArr 1 sp nm (.slice ao2 as'.length ca2) (.slice bo2 kd.length cb2) d) 25))
          have hB3 := Lib.hid c3.out.size
          clear hOh hnv c2 kB
          go_wp2_with (at_builtin; refine wpList_append_node rfl _ _ rfl w.heap.size _ rfl hO3.out w2.heap.size 1 rfl (node_list knew.out) hn3.out hlen.out hB3.out ?_)
          intro v' w4 hO4 b4
          go_wp2_with fail
          go_ret
          exact ⟨_, rfl, by rw [hgr.out]; exact hO4, c3.out.trans b4⟩
  · have hgr := Lib.hid (Gv.grown_add (l := kids) (n := .mk k sp nm as' kd d) (fun e => hk1 e.1) (.inl hk1))
    have hk1i : ¬ (k : Int) = 1 := by omega
    have hnv := Lib.hid (hn2.out.mono (S' := fun g => S g ∧ some g ≠ v'.ownBlock) fun b hb _ => ⟨hb.1, fun e => by have := (World.ownsRow.lt hown b e.symm).1; omega⟩)
    obtain ⟨ao3, cap3, cs3, rfl, hr3, hk3, hl3, hc3⟩ := OwnsKids.rows (S := fun _ => True) (hOh.out.mono fun _ _ _ => trivial) (fun _ _ _ => trivial)
    clear hk1 hkd hown hr3 hk3 hl3 hc3 hn2
    replace hlen := Lib.hid hlen
    replace hsum := Lib.hid hsum
    have knew := Lib.hid (Cells.new w2 25 (nodeArr k sp nm (.slice ao2 as'.length ca2) (.slice bo2 kd.length cb2) d))
    have hO3 := Lib.hid (hOh.out.on ((Below.refl _ _).alloc (Nat.le_refl _) (.cells (nodeArr k sp nm (.slice ao2 as'.length ca2) (.slice bo2 kd.length cb2) d) 25)))
    have hn3 := Lib.hid (hnv.out.on ((Below.refl _ _).alloc (Nat.le_refl _) (.cells (nodeArr k sp nm (.slice ao2 as'.length ca2) (.slice bo2 kd.length cb2) d) 25)))
    have c3 := Lib.hid (c2.alloc c2.size (.cells (nodeArr k sp nm (.slice ao2 as'.length ca2) (.slice bo2 kd.length cb2) d) 25))
    have hB3 := Lib.hid c3.out.size
    clear hOh hnv c2 kB
    go_wp2_with (at_builtin; refine wpList_append_node rfl _ _ rfl w.heap.size _ rfl hO3.out w2.heap.size 1 rfl (node_list knew.out) hn3.out hlen.out hB3.out ?_)
    intro v' w4 hO4 b4
    go_wp2_with fail
    go_ret
    exact ⟨_, rfl, by rw [hgr.out]; exact hO4, c3.out.trans b4⟩
end Go.Proofs.YtegaidfmkfnbnaaGreatDoor
namespace Go.Proofs.YtegaidfmkfnbnaaGreatDoor
open Go.RowKit

namespace P
/-- Split's answers. -/
def spA (s : ByteArray) : ByteArray := match split s with | some x => x.1 | none => ByteArray.empty
def spB (s : ByteArray) : ByteArray := match split s with | some x => x.2 | none => ByteArray.empty
def spE (s : ByteArray) : Int := match split s with | some _ => 0 | none => 80
theorem sp_none {s : ByteArray} (h : split s = none) : spA s = ByteArray.empty ∧ spB s = ByteArray.empty ∧ spE s = 80 := by unfold spA spB spE; rw [h]; exact ⟨rfl, rfl, rfl⟩
theorem sp_some {s p n : ByteArray} (h : split s = some (p, n)) : spA s = p ∧ spB s = n ∧ spE s = 0 := by unfold spA spB spE; rw [h]; exact ⟨rfl, rfl, rfl⟩

theorem colon_at (s : ByteArray) (k : Nat) (hk : k < s.size) (h : (s[k]).toNat = 58) (hall : (s.data.toList.take k).all (fun b => decide (b ≠ 58)) = true) : colon s.data.toList = k := by
  have e : s.data.toList = s.data.toList.take k ++ 58 :: s.data.toList.drop (k + 1) := by
    have := drop_cons s k hk
    rw [byte_is (b := s[k]) (c := 58) h] at this
    rw [← this, List.take_append_drop]
  rw [e, colon_mk _ _ (fun x hx => by simpa using List.all_eq_true.1 hall x hx), List.length_take, list_len]; omega
theorem colon_end (s : ByteArray) (hall : s.data.toList.all (fun b => decide (b ≠ 58)) = true) : colon s.data.toList = s.size := by
  rw [colon_no _ (fun x hx => by simpa using List.all_eq_true.1 hall x hx), list_len]
end P

theorem pre_drewN {B : Nat} (w : World) (n : Nat) : Below B w (w.drewN n) := ⟨rfl, rfl, rfl, Nat.le_refl _, fun _ _ => rfl⟩

theorem ret_three {a b a' b' : ByteArray} {e e' : Int} (h1 : a = a') (h2 : b = b') (h3 : e = e') : Ending.returned (.tuple #[.string a, .string b, .int .i64 e]) = .returned (.tuple #[.string a', .string b', .int .i64 e']) := by rw [h1, h2, h3]

set_option maxRecDepth 100000 in
set_option maxHeartbeats 3200000 in
theorem refSplit_any (s : ByteArray) (w : World) (hs : s.size ≤ maxLen) :
    Calls Tryz.prog 101 #[.string s] w fun e w' => e = .returned (.tuple #[.string (P.spA s), .string (P.spB s), .int .i64 (P.spE s)]) ∧ Below w.heap.size w w' := by
  have hsm : s.size ≤ 9223372036854775807 := hs
  go_enter Tryz.func101, Tryz.ntmps101
  go_wp2_with fail
  go_loop [5] (fun i => ∃ k : Nat, k ≤ s.size ∧ i = .int .i64 k ∧ Hid ((s.data.toList.take k).all (fun b => decide (b ≠ 58)) = true)) (fun i => s.size - (intOf i).toNat)
  case atStart => exact ⟨0, Nat.zero_le _, rfl, Lib.hid (by simp)⟩
  case round =>
    obtain ⟨k, hk, rfl, hall⟩ := hrel
    by_cases hlt : k < s.size
    · by_cases hq : (s[k]).toNat = 58
      · have hqi : ((s[k]).toNat : Int) = 58 := by omega
        have hcol := P.colon_at s k hlt hq hall.out
        have hS : P.split s = if P.plainB (s.extract 0 k) && P.plainB (s.extract (k + 1) s.size) then some (s.extract 0 k, s.extract (k + 1) s.size) else none := by
          unfold P.split; rw [hcol, if_pos hlt]
        clear hcol hall hq
        have z1 : (s.extract 0 k).size ≤ maxLen := by simp; unfold maxLen at *; omega
        have z2 : (s.extract (k + 1) s.size).size ≤ maxLen := by simp; unfold maxLen at *; omega
        have hS := Lib.hid hS
        go_wp2_with fail
        (with_reducible refine (refPlain_any (s.extract 0 k) _ z1).mono ?_); rintro e w1 ⟨rfl, b1⟩
        cases hp1 : G.plain (s.extract 0 k).data.toList
        · obtain ⟨r1, r2, r3⟩ := P.sp_none (hS.out.trans (by unfold P.plainB; rw [hp1]; rfl))
          clear hp1
          replace r1 := Lib.hid r1
          replace r2 := Lib.hid r2
          replace r3 := Lib.hid r3
          go_wp2
          go_ret3
          exact ⟨ret_three r1.out.symm r2.out.symm r3.out.symm, b1⟩
        · go_wp2_with fail
          (with_reducible refine (refPlain_any (s.extract (k + 1) s.size) _ z2).mono ?_); rintro e w2 ⟨rfl, b2⟩
          have b3 := b1.trans (b2.mono b1.size)
          cases hp2 : G.plain (s.extract (k + 1) s.size).data.toList
          · obtain ⟨r1, r2, r3⟩ := P.sp_none (hS.out.trans (by unfold P.plainB; rw [hp1, hp2]; rfl))
            clear hp1 hp2
            replace r1 := Lib.hid r1
            replace r2 := Lib.hid r2
            replace r3 := Lib.hid r3
            go_wp2
            go_ret3
            exact ⟨ret_three r1.out.symm r2.out.symm r3.out.symm, b3⟩
          · obtain ⟨r1, r2, r3⟩ := P.sp_some (hS.out.trans (by unfold P.plainB; rw [hp1, hp2]; rfl))
            clear hp1 hp2
            replace r1 := Lib.hid r1
            replace r2 := Lib.hid r2
            replace r3 := Lib.hid r3
            have hk1 : (k : Int) + 1 ≤ (s.size : Int) := by omega
            go_wp2_with fail
            go_quiet (fail)
            go_wp2_with fail
            go_ret3
            exact ⟨ret_three r1.out.symm r2.out.symm r3.out.symm, b3.trans (pre_drewN _ _)⟩
      · have hst := Lib.hid (all_take (fun b => decide (b ≠ 58)) s.data.toList k (by rw [list_len]; exact hlt))
        have hgk : s.data.toList[k]'(by rw [list_len]; exact hlt) = s[k] := rfl
        rw [hgk] at hst
        clear hgk
        have hr := Lib.hid (hst.out.trans (show _ = true by rw [hall.out]; simp; exact fun e => hq (by rw [e]; rfl)))
        have hqi : ¬ ((s[k]).toNat : Int) = 58 := by omega
        clear hst hall hq
        go_wp2
        go_round
        case rel => exact ⟨k + 1, by omega, by go_num, hr⟩
        case measure => simp [intOf]; omega
    · have hfull : s.data.toList.take k = s.data.toList := List.take_of_length_le (by rw [list_len]; omega)
      rw [hfull] at hall
      clear hfull
      have hS : P.split s = if P.plainB s then some (ByteArray.empty, s) else none := by
        unfold P.split; rw [P.colon_end s hall.out, if_neg (by omega)]
      have hS := Lib.hid hS
      clear hall
      go_wp2_with fail
      (with_reducible refine (refPlain_any s _ hs).mono ?_); rintro e w1 ⟨rfl, b1⟩
      cases hp1 : G.plain s.data.toList
      · obtain ⟨r1, r2, r3⟩ := P.sp_none (hS.out.trans (by unfold P.plainB; rw [hp1]; rfl))
        clear hp1
        replace r1 := Lib.hid r1
        replace r2 := Lib.hid r2
        replace r3 := Lib.hid r3
        go_wp2
        go_ret3
        exact ⟨ret_three r1.out.symm r2.out.symm r3.out.symm, b1⟩
      · obtain ⟨r1, r2, r3⟩ := P.sp_some (hS.out.trans (by unfold P.plainB; rw [hp1]; rfl))
        clear hp1
        replace r1 := Lib.hid r1
        replace r2 := Lib.hid r2
        replace r3 := Lib.hid r3
        go_wp2
        go_ret3
        exact ⟨ret_three r1.out.symm r2.out.symm r3.out.symm, b1⟩
end Go.Proofs.YtegaidfmkfnbnaaGreatDoor
namespace Go.Proofs.YtegaidfmkfnbnaaGreatDoor
open Go.RowKit

theorem var_ne {a b : ByteArray} (h : ¬ a = b) : (a.toList == b.toList) = false := by
  rw [ByteArray.toList_eq, ByteArray.toList_eq]
  exact beq_false_of_ne (fun e => h (bytes_eq e))
theorem pempty_is : ByteArray.empty.toList.isEmpty = true := by rw [ByteArray.toList_eq]; rfl
theorem empty_no {s : ByteArray} (h : ¬ s = ByteArray.empty) : s.toList.isEmpty = false := ne_empty (by
  rw [Nat.pos_iff_ne_zero]
  exact fun e => h (ByteArray.size_eq_zero_iff.1 e))

set_option maxRecDepth 100000 in
set_option maxHeartbeats 3200000 in
theorem refBound_any (p v : ByteArray) (w : World) :
    Calls Tryz.prog 102 #[.string p, .string v] w fun e w' => e = .returned (.bool (P.bound p v)) ∧ w = w' := by
  go_enter Tryz.func102, Tryz.ntmps102
  by_cases h1 : p = P.xmlns
  · have hr := Lib.hid (show P.bound p v = false by unfold P.bound; rw [if_pos h1])
    have n1 : (p.toList == [120, 109, 108, 110, 115]) = true := str_is (by rw [h1]; rfl)
    clear h1
    go_wp2
    go_ret
    exact ⟨ret_bool hr.out.symm, rfl⟩
  have n1 : (p.toList == [120, 109, 108, 110, 115]) = false := str_ne (fun e => h1 (bytes_eq e))
  by_cases h2 : p = P.xml
  · have n2 : (p.toList == [120, 109, 108]) = true := str_is (by rw [h2]; rfl)
    have hb : P.bound p v = decide (v = P.xmlS) := by unfold P.bound; rw [if_neg h1, if_pos h2]
    clear h1 h2
    by_cases hv : v = P.xmlS
    · have m1 : (v.toList == [104, 116, 116, 112, 58, 47, 47, 119, 119, 119, 46, 119, 51, 46, 111, 114, 103, 47, 88, 77, 76, 47, 49, 57, 57, 56, 47, 110, 97, 109, 101, 115, 112, 97, 99, 101]) = true := str_is (by rw [hv]; rfl)
      have hr := Lib.hid (hb.trans (decide_eq_true hv))
      clear hb hv
      go_wp2
      go_ret
      exact ⟨ret_bool hr.out.symm, rfl⟩
    · have m1 : (v.toList == [104, 116, 116, 112, 58, 47, 47, 119, 119, 119, 46, 119, 51, 46, 111, 114, 103, 47, 88, 77, 76, 47, 49, 57, 57, 56, 47, 110, 97, 109, 101, 115, 112, 97, 99, 101]) = false := str_ne (fun e => hv (bytes_eq e))
      have hr := Lib.hid (hb.trans (decide_eq_false hv))
      clear hb hv
      go_wp2
      go_ret
      exact ⟨ret_bool hr.out.symm, rfl⟩
  have n2 : (p.toList == [120, 109, 108]) = false := str_ne (fun e => h2 (bytes_eq e))
  have key : ∃ x y z : Bool, (v.toList == [104, 116, 116, 112, 58, 47, 47, 119, 119, 119, 46, 119, 51, 46, 111, 114, 103, 47, 88, 77, 76, 47, 49, 57, 57, 56, 47, 110, 97, 109, 101, 115, 112, 97, 99, 101]) = x ∧
      (v.toList == [104, 116, 116, 112, 58, 47, 47, 119, 119, 119, 46, 119, 51, 46, 111, 114, 103, 47, 50, 48, 48, 48, 47, 120, 109, 108, 110, 115, 47]) = y ∧ v.toList.isEmpty = z ∧
      decide (v ≠ P.xmlS) = !x ∧ decide (v ≠ P.xmlnsS) = !y ∧ decide (v ≠ ByteArray.empty) = !z := by
    have a : ∀ (t : ByteArray) (l : List UInt8), t.data.toList = l → ∃ x : Bool, (v.toList == l) = x ∧ decide (v ≠ t) = !x := fun t l ht => by
      by_cases h : v = t
      · exact ⟨true, str_is (by rw [h, ht]), by simp [h]⟩
      · exact ⟨false, str_ne (fun e => h (bytes_eq (by rw [e, ht]))), by simp [h]⟩
    obtain ⟨x, x1, x2⟩ := a P.xmlS _ rfl
    obtain ⟨y, y1, y2⟩ := a P.xmlnsS _ rfl
    by_cases h : v = ByteArray.empty
    · exact ⟨x, y, true, x1, y1, by rw [h]; exact pempty_is, x2, y2, by simp [h]⟩
    · exact ⟨x, y, false, x1, y1, empty_no h, x2, y2, by simp [h]⟩
  obtain ⟨x, y, z, m1, m2, m3, d1, d2, d3⟩ := key
  by_cases h3 : p = ByteArray.empty
  · have hb : P.bound p v = (!x && !y) := by unfold P.bound; rw [if_neg h1, if_neg h2, if_pos h3, d1, d2]
    have n3 : p.toList.isEmpty = true := by rw [h3]; exact pempty_is
    have hr := Lib.hid hb
    clear h1 h2 h3 hb d1 d2 d3 m3
    cases x <;> cases y <;> go_wp2 <;> go_ret <;> exact ⟨ret_bool (by rw [hr.out]; rfl), rfl⟩
  · have hb : P.bound p v = (!z && !x && !y) := by unfold P.bound; rw [if_neg h1, if_neg h2, if_neg h3, d1, d2, d3]
    have n3 : p.toList.isEmpty = false := empty_no h3
    have hr := Lib.hid hb
    clear h1 h2 h3 hb d1 d2 d3
    cases x <;> cases y <;> cases z <;> go_wp2 <;> go_ret <;> exact ⟨ret_bool (by rw [hr.out]; rfl), rfl⟩

namespace P
/-- Resolve's answers. -/
def reA (l : List Pair) (s : ByteArray) (attr : Bool) : ByteArray := match resolve l s attr with | some x => x.1 | none => ByteArray.empty
def reB (l : List Pair) (s : ByteArray) (attr : Bool) : ByteArray := match resolve l s attr with | some x => x.2 | none => ByteArray.empty
def reE (l : List Pair) (s : ByteArray) (attr : Bool) : Int := match resolve l s attr with | some _ => 0 | none => 80
theorem re_none {l : List Pair} {s : ByteArray} {attr : Bool} (h : resolve l s attr = none) : reA l s attr = ByteArray.empty ∧ reB l s attr = ByteArray.empty ∧ reE l s attr = 80 := by unfold reA reB reE; rw [h]; exact ⟨rfl, rfl, rfl⟩
theorem re_some {l : List Pair} {s p n : ByteArray} {attr : Bool} (h : resolve l s attr = some (p, n)) : reA l s attr = p ∧ reB l s attr = n ∧ reE l s attr = 0 := by unfold reA reB reE; rw [h]; exact ⟨rfl, rfl, rfl⟩
theorem resolve_of {l : List Pair} {s p n : ByteArray} {attr : Bool} (h : split s = some (p, n)) : resolve l s attr =
    if p = xml then some (xmlS, n) else if p = xmlns then none else if p = ByteArray.empty ∧ attr = true then some (ByteArray.empty, n)
    else match last p l with
      | some v => if p ≠ ByteArray.empty ∧ v = ByteArray.empty then none else some (v, n)
      | none => if p ≠ ByteArray.empty then none else some (ByteArray.empty, n) := by unfold resolve; rw [h]; rfl
theorem last_drop {p : ByteArray} {l : List Pair} {k : Nat} (hk : k < l.length) (h : last p (l.drop (k + 1)) = none) : last p (l.drop k) = if l[k].name = p then some l[k].value else none := by
  rw [List.drop_eq_getElem_cons hk]
  simp only [last, h]
theorem last_found {p : ByteArray} {l : List Pair} {k : Nat} (hk : k < l.length) (h : last p (l.drop (k + 1)) = none) (hn : l[k].name = p) : last p l = some l[k].value := by
  have e : l.take k ++ l.drop k = l := List.take_append_drop k l
  have := last_append p (l.take k) (l.drop k)
  rw [e, last_drop hk h, if_pos hn] at this
  exact this
end P

set_option maxRecDepth 100000 in
set_option maxHeartbeats 6400000 in
theorem refResolve_any {ao : Option Addr} {cap n : Nat} (l : List Pair) (s : ByteArray) (attr : Bool) (w : World) (hl : PairsIn w ao l) (hn : l.length = n) (hnl : n ≤ 1000000) (hs : s.size ≤ maxLen) :
    Calls Tryz.prog 80 #[.slice ao n cap, .string s, .bool attr] w fun e w' => e = .returned (.tuple #[.string (P.reA l s attr), .string (P.reB l s attr), .int .i64 (P.reE l s attr)]) ∧ Below w.heap.size w w' := by
  have hn := Lib.hid hn
  go_enter Tryz.func80, Tryz.ntmps80
  go_wp2_with fail
  (with_reducible refine (refSplit_any s _ hs).mono ?_); rintro e w1 ⟨rfl, b1⟩
  cases hsp : P.split s with
  | none =>
    obtain ⟨e1, e2, e3⟩ := P.sp_none hsp
    obtain ⟨r1, r2, r3⟩ := P.re_none (l := l) (s := s) (attr := attr) (by unfold P.resolve; rw [hsp])
    rw [e1, e2, e3]
    clear e1 e2 e3 hl hsp
    replace r1 := Lib.hid r1
    replace r2 := Lib.hid r2
    replace r3 := Lib.hid r3
    go_wp2
    go_ret3
    exact ⟨ret_three r1.out.symm r2.out.symm r3.out.symm, b1⟩
  | some x =>
    obtain ⟨p, m⟩ := x
    obtain ⟨e1, e2, e3⟩ := P.sp_some hsp
    have hR := P.resolve_of (l := l) (attr := attr) hsp
    rw [e1, e2, e3]
    clear e1 e2 e3 hsp
    by_cases h1 : p = P.xml
    · rw [if_pos h1] at hR
      obtain ⟨r1, r2, r3⟩ := P.re_some hR
      have n1 : (p.toList == [120, 109, 108]) = true := str_is (by rw [h1]; rfl)
      clear hR h1 hl
      replace r1 := Lib.hid r1
      replace r2 := Lib.hid r2
      replace r3 := Lib.hid r3
      go_wp2
      go_ret3
      exact ⟨ret_three r1.out.symm r2.out.symm r3.out.symm, b1⟩
    have n1 : (p.toList == [120, 109, 108]) = false := str_ne (fun e => h1 (bytes_eq e))
    rw [if_neg h1] at hR
    by_cases h2 : p = P.xmlns
    · rw [if_pos h2] at hR
      obtain ⟨r1, r2, r3⟩ := P.re_none hR
      have n2 : (p.toList == [120, 109, 108, 110, 115]) = true := str_is (by rw [h2]; rfl)
      clear hR h1 h2 hl
      replace r1 := Lib.hid r1
      replace r2 := Lib.hid r2
      replace r3 := Lib.hid r3
      go_wp2
      go_ret3
      exact ⟨ret_three r1.out.symm r2.out.symm r3.out.symm, b1⟩
    have n2 : (p.toList == [120, 109, 108, 110, 115]) = false := str_ne (fun e => h2 (bytes_eq e))
    rw [if_neg h2] at hR
    clear h1 h2
    by_cases h3 : p = ByteArray.empty ∧ attr = true
    · rw [if_pos h3] at hR
      obtain ⟨rfl, rfl⟩ := h3
      obtain ⟨r1, r2, r3⟩ := P.re_some hR
      have n3 := pempty_is
      clear hR hl
      replace r1 := Lib.hid r1
      replace r2 := Lib.hid r2
      replace r3 := Lib.hid r3
      go_wp2
      go_ret3
      exact ⟨ret_three r1.out.symm r2.out.symm r3.out.symm, b1⟩
    rw [if_neg h3] at hR
    have hR := Lib.hid hR
    have hcase : (∃ z, p.toList.isEmpty = z ∧ (z = true → attr = false)) := by
      by_cases he : p = ByteArray.empty
      · refine ⟨true, by rw [he]; exact pempty_is, fun _ => ?_⟩
        cases attr
        · rfl
        · exact absurd ⟨he, rfl⟩ h3
      · exact ⟨false, empty_no he, fun e => by cases e⟩
    obtain ⟨z, n3, hz⟩ := hcase
    have hpz : Hid ((p = ByteArray.empty) ↔ z = true) := Lib.hid (by
      constructor
      · rintro rfl; rw [← n3]; exact pempty_is
      · intro e
        by_cases he : p = ByteArray.empty
        · exact he
        · rw [empty_no he] at n3; rw [← n3] at e; cases e)
    clear h3
    have entry : (z = true ∧ attr = false) ∨ z = false := by
      cases z
      · exact .inr rfl
      · exact .inl ⟨rfl, hz rfl⟩
    clear hz
    rcases entry with ⟨rfl, rfl⟩ | rfl
    · go_wp2_with fail
      go_loopw [12] (fun i wr => ∃ k : Nat, k ≤ n ∧ i = .int .i64 ((k : Int) - 1) ∧ Hid (P.last p (l.drop k) = none) ∧ Below w.heap.size w wr) (fun i _ => (intOf i + 1).toNat)
      case atStart => exact ⟨n, Nat.le_refl _, by go_num, Lib.hid (by rw [List.drop_of_length_le (by rw [hn.out]; exact Nat.le_refl _)]; rfl), b1⟩
      case round =>
        obtain ⟨k, hk, rfl, hL, bw⟩ := hrel
        cases k with
        | zero =>
          have hL0 := hL.out
          rw [List.drop_zero] at hL0
          have hR2 := hR.out
          rw [hL0] at hR2
          simp only at hR2
          rw [if_neg (fun c => c (hpz.out.2 trivial))] at hR2
          obtain ⟨r1, r2, r3⟩ := P.re_some hR2
          clear hR2 hL0 hl
          replace r1 := Lib.hid r1
          replace r2 := Lib.hid r2
          replace r3 := Lib.hid r3
          go_wp2
          go_ret3
          exact ⟨ret_three r1.out.symm r2.out.symm r3.out.symm, bw⟩
        | succ k =>
          obtain ⟨b, off, rfl, c0, c1⟩ := (hl.below bw) k (by rw [hn.out]; omega)
          have hkl : k < l.length := by rw [hn.out]; omega
          have hfd := P.last_found hkl hL.out
          have hdr := P.last_drop hkl hL.out
          have hi : ((k + 1 : Nat) : Int) - 1 = (k : Int) := by omega
          have hkn : (k : Int) < (n : Int) := by omega
          rw [hi]
          generalize l[k].name = x at *
          generalize l[k].value = v at *
          by_cases hx : x = p
          · have hR2 := hR.out
            rw [hfd hx] at hR2
            simp only at hR2
            subst hx
            rw [if_neg (fun c => c.1 (hpz.out.2 trivial))] at hR2
            obtain ⟨r1, r2, r3⟩ := P.re_some hR2
            clear hR2 hfd hdr hL hl hi
            replace r1 := Lib.hid r1
            replace r2 := Lib.hid r2
            replace r3 := Lib.hid r3
            go_wp2
            go_ret3
            exact ⟨ret_three r1.out.symm r2.out.symm r3.out.symm, bw⟩
          · rw [if_neg hx] at hdr
            have q1 := var_ne hx
            have hdr := Lib.hid hdr
            clear hfd hL hi hx
            go_wp2
            go_roundw
            case rel => exact ⟨k, by omega, by go_num, hdr, bw⟩
            case measure => simp [intOf] <;> omega
    · go_wp2_with fail
      go_loopw [12] (fun i wr => ∃ k : Nat, k ≤ n ∧ i = .int .i64 ((k : Int) - 1) ∧ Hid (P.last p (l.drop k) = none) ∧ Below w.heap.size w wr) (fun i _ => (intOf i + 1).toNat)
      case atStart => exact ⟨n, Nat.le_refl _, by go_num, Lib.hid (by rw [List.drop_of_length_le (by rw [hn.out]; exact Nat.le_refl _)]; rfl), b1⟩
      case round =>
        obtain ⟨k, hk, rfl, hL, bw⟩ := hrel
        cases k with
        | zero =>
          have hL0 := hL.out
          rw [List.drop_zero] at hL0
          have hR2 := hR.out
          rw [hL0] at hR2
          simp only at hR2
          rw [if_pos (fun c => (by have := hpz.out.1 c; cases this))] at hR2
          obtain ⟨r1, r2, r3⟩ := P.re_none hR2
          clear hR2 hL0 hl
          replace r1 := Lib.hid r1
          replace r2 := Lib.hid r2
          replace r3 := Lib.hid r3
          go_wp2
          go_ret3
          exact ⟨ret_three r1.out.symm r2.out.symm r3.out.symm, bw⟩
        | succ k =>
          obtain ⟨b, off, rfl, c0, c1⟩ := (hl.below bw) k (by rw [hn.out]; omega)
          have hkl : k < l.length := by rw [hn.out]; omega
          have hfd := P.last_found hkl hL.out
          have hdr := P.last_drop hkl hL.out
          have hi : ((k + 1 : Nat) : Int) - 1 = (k : Int) := by omega
          have hkn : (k : Int) < (n : Int) := by omega
          rw [hi]
          generalize l[k].name = x at *
          generalize l[k].value = v at *
          by_cases hx : x = p
          · have hR2 := hR.out
            rw [hfd hx] at hR2
            simp only at hR2
            subst hx
            by_cases hv : v = ByteArray.empty
            · rw [if_pos ⟨fun c => (by have := hpz.out.1 c; cases this), hv⟩] at hR2
              obtain ⟨r1, r2, r3⟩ := P.re_none hR2
              have n4 : v.toList.isEmpty = true := by rw [hv]; exact pempty_is
              clear hR2 hfd hdr hL hl hi hv
              replace r1 := Lib.hid r1
              replace r2 := Lib.hid r2
              replace r3 := Lib.hid r3
              go_wp2
              go_ret3
              exact ⟨ret_three r1.out.symm r2.out.symm r3.out.symm, bw⟩
            · rw [if_neg (fun c => hv c.2)] at hR2
              obtain ⟨r1, r2, r3⟩ := P.re_some hR2
              have n4 := empty_no hv
              clear hR2 hfd hdr hL hl hi hv
              replace r1 := Lib.hid r1
              replace r2 := Lib.hid r2
              replace r3 := Lib.hid r3
              go_wp2
              go_ret3
              exact ⟨ret_three r1.out.symm r2.out.symm r3.out.symm, bw⟩
          · rw [if_neg hx] at hdr
            have q1 := var_ne hx
            have hdr := Lib.hid hdr
            clear hfd hL hi hx
            go_wp2
            go_roundw
            case rel => exact ⟨k, by omega, by go_num, hdr, bw⟩
            case measure => simp [intOf] <;> omega
end Go.Proofs.YtegaidfmkfnbnaaGreatDoor
namespace Go.Proofs.YtegaidfmkfnbnaaGreatDoor
open Go.RowKit

namespace P
/-- Declare's answers. -/
def deA (l : List Pair) : List Pair := match declare l with | some x => x.1 | none => []
def deB (l : List Pair) : List Pair := match declare l with | some x => x.2 | none => []
def deE (l : List Pair) : Int := match declare l with | some _ => 0 | none => 80
theorem de_none {l : List Pair} (h : declare l = none) : deA l = [] ∧ deB l = [] ∧ deE l = 80 := by unfold deA deB deE; rw [h]; exact ⟨rfl, rfl, rfl⟩
theorem de_some {l a b : List Pair} (h : declare l = some (a, b)) : deA l = a ∧ deB l = b ∧ deE l = 0 := by unfold deA deB deE; rw [h]; exact ⟨rfl, rfl, rfl⟩

theorem decl_no {l sc re t : List Pair} {a : Pair} (h : declare l = declGo sc re (a :: t)) (hs : split a.name = none) : declare l = none := by
  rw [h]; unfold declGo; rw [hs]
theorem decl_rest {l sc re t : List Pair} {a : Pair} {p n : ByteArray} (h : declare l = declGo sc re (a :: t)) (hs : split a.name = some (p, n)) (hc : p ≠ xmlns ∧ (p ≠ ByteArray.empty ∨ n ≠ xmlns)) : declare l = declGo sc (re ++ [a]) t := by
  rw [h]; conv => lhs; unfold declGo
  rw [hs]; simp only; rw [if_pos hc]
theorem decl_bad {l sc re t : List Pair} {a : Pair} {p n : ByteArray} (h : declare l = declGo sc re (a :: t)) (hs : split a.name = some (p, n)) (hc : ¬ (p ≠ xmlns ∧ (p ≠ ByteArray.empty ∨ n ≠ xmlns))) (hb : bound (key p n) a.value = false) : declare l = none := by
  rw [h]; unfold declGo; rw [hs]; simp only; rw [if_neg hc, hb]; rfl
theorem decl_scope {l sc re t : List Pair} {a : Pair} {p n : ByteArray} (h : declare l = declGo sc re (a :: t)) (hs : split a.name = some (p, n)) (hc : ¬ (p ≠ xmlns ∧ (p ≠ ByteArray.empty ∨ n ≠ xmlns))) (hb : bound (key p n) a.value = true) :
    declare l = declGo (sc ++ [⟨key p n, a.value⟩]) re t := by
  rw [h]; conv => lhs; unfold declGo
  rw [hs]; simp only; rw [if_neg hc, hb]; rfl
end P

theorem Apart.symm {v u : Value} (h : Apart v u) : Apart u v := by
  rcases h with h | h | h
  · exact .inr (.inl h)
  · exact .inl h
  · exact .inr (.inr (Ne.symm h))

/-- Behind an append to the one row the other one stands, and they are apart. -/
theorem beside {B N : Nat} {v u v' : Value} {l : List Pair} {w w' : World} (h : OwnsPairs B u l w) (ha : Apart v u) (hg : w.grownBy w' v.ownBlock) (hat : v'.ownBlock = v.ownBlock ∨ v'.ownBlock = some N) (hN : w.heap.size ≤ N) :
    OwnsPairs B u l w' ∧ Apart v' u := by
  have hlt := fun j e => (World.ownsRow.lt h j e).2
  refine ⟨World.ownsRow.kept h hg ?_, ?_⟩
  · rcases ha with ha | ha | ha
    · rw [ha]
      cases hu : u.ownBlock with
      | none => exact .inl rfl
      | some g => exact .inr (by simp)
    · exact .inl ha
    · exact .inr (Ne.symm ha)
  · rcases hat with e | e
    · unfold Apart; rw [e]; exact ha
    · unfold Apart
      cases hu : u.ownBlock with
      | none => exact .inr (.inl rfl)
      | some g =>
        have := hlt g hu
        exact .inr (.inr (by rw [e]; simp; omega))

set_option maxRecDepth 100000 in
set_option maxHeartbeats 6400000 in
theorem refDeclare_any {ao : Option Addr} {cap n : Nat} (l : List Pair) (w : World) (hl : PairsIn w ao l) (hn : l.length = n) (hnl : n ≤ 1000000) (hz : ∀ a ∈ l, a.name.size ≤ maxLen) :
    Calls Tryz.prog 79 #[.slice ao n cap] w fun e w' => ∃ v1 v2, e = .returned (.tuple #[v1, v2, .int .i64 (P.deE l)]) ∧ OwnsPairs w.heap.size v1 (P.deA l) w' ∧ OwnsPairs w.heap.size v2 (P.deB l) w' ∧ Below w.heap.size w w' := by
  obtain ⟨i0, hi, hz0, hz1, hz2⟩ := info_parts infoPair
  have hn := Lib.hid hn
  go_enter Tryz.func79, Tryz.ntmps79
  go_wp2_with fail
  go_loopw [5, 6, 7, 8, 9, 10] (fun v5 v6 i _ _ _ wr => ∃ (k : Nat) (sc re : List Pair), k ≤ n ∧ i = .int .i64 (k : Int) ∧ OwnsPairs w.heap.size v5 sc wr ∧ OwnsPairs w.heap.size v6 re wr ∧ Apart v5 v6 ∧ Hid (P.declare l = P.declGo sc re (l.drop k)) ∧ sc.length + re.length ≤ k ∧ Below w.heap.size w wr) (fun _ _ i _ _ _ _ => n - (intOf i).toNat)
  case atStart => exact ⟨0, [], [], Nat.zero_le _, rfl, pairs_nil _ _, pairs_nil _ _, .inl rfl, Lib.hid rfl, by simp, Below.refl _ _⟩
  case round =>
    obtain ⟨k, sc, re, hk, rfl, o5, o6, hap, hD, hlen, bw⟩ := hrel
    by_cases hlt : k < n
    · obtain ⟨b, off, rfl, c0, c1⟩ := (hl.below bw) k (by rw [hn.out]; exact hlt)
      have hkl : k < l.length := by rw [hn.out]; exact hlt
      have hD1 := hD.out
      rw [List.drop_eq_getElem_cons hkl] at hD1
      have hza := hz l[k] (List.getElem_mem hkl)
      generalize l[k] = a at *
      obtain ⟨an, av⟩ := a
      dsimp only at *
      go_wp2_with fail
      (with_reducible refine (refSplit_any an _ hza).mono ?_); rintro e w1 ⟨rfl, b1⟩
      have t1 := bw.trans (b1.mono bw.size)
      have d0 := (b1.cell (World.block_lt_of_cell? wr _ c0)).trans c0
      have d1 := (b1.cell (World.block_lt_of_cell? wr _ c1)).trans c1
      have p5 := pairs_below o5 b1
      have p6 := pairs_below o6 b1
      cases hsp : P.split an with
      | none =>
        obtain ⟨e1, e2, e3⟩ := P.sp_none hsp
        obtain ⟨r1, r2, r3⟩ := P.de_none (P.decl_no hD1 hsp)
        rw [e1, e2, e3]
        clear e1 e2 e3 hD1 hD hl hz hsp
        replace r1 := Lib.hid r1
        replace r2 := Lib.hid r2
        replace r3 := Lib.hid r3
        go_wp2
        go_ret3
        exact ⟨_, _, by rw [r3.out]; rfl, by rw [r1.out]; exact pairs_nil _ _, by rw [r2.out]; exact pairs_nil _ _, t1⟩
      | some x =>
        obtain ⟨p, m⟩ := x
        obtain ⟨e1, e2, e3⟩ := P.sp_some hsp
        rw [e1, e2, e3]
        clear e1 e2 e3
        by_cases hc : p ≠ P.xmlns ∧ (p ≠ ByteArray.empty ∨ m ≠ P.xmlns)
        · have hr := Lib.hid (P.decl_rest hD1 hsp hc)
          have n1 : (p.toList == [120, 109, 108, 110, 115]) = false := str_ne (fun e => hc.1 (bytes_eq e))
          clear hD1 hD hsp hl hz
          by_cases he : p = ByteArray.empty
          · have n2 : p.toList.isEmpty = true := by rw [he]; exact pempty_is
            have n3 : (m.toList == [120, 109, 108, 110, 115]) = false := str_ne (fun e => (hc.2.resolve_left (fun c => c he)) (bytes_eq e))
            clear hc he
            go_wp2_with (at_builtin; refine wpList_append_own_at _ rfl _ _ 53 rfl w.heap.size 98 i0 _ 2 32 Tryz.underlying53 hi hz0 hz1 hz2 rfl (by decide) _ _ _ rfl (pairs_alloc p6 _) ⟨w1.heap.size, 0, none⟩ 1 1 [.string an, .string av] rfl rfl (cells_two _ _ _ _) (fun u hu => by simp at hu; rcases hu with rfl | rfl <;> rfl) (by unfold maxLen; omega) (by omega) (by have := t1.size; simp; omega) ?_)
            intro v6 w2 hown2 hg2 _ hat
            have hga : w1.grownBy w2 u6.ownBlock := (World.grownBy_alloc w1 _ _).trans hg2
            have b2 : Below w.heap.size w1 w2 := (Below.refl _ _).grown hga t1.size (fun j e => (World.ownsRow.lt p6 j e).1)
            obtain ⟨q5, ap2⟩ := beside p5 hap.symm hga hat (by simp)
            have q6 : OwnsPairs w.heap.size v6 (re ++ [⟨an, av⟩]) w2 := by unfold OwnsPairs; simpa [pairCells] using hown2
            clear hown2 hat hg2 hga p5 p6 o5 o6
            go_wp2_with fail
            go_roundw
            case rel => exact ⟨k + 1, sc, re ++ [⟨an, av⟩], by omega, by go_num, q5, q6, ap2.symm, hr, by simp; omega, t1.trans b2⟩
            case measure => simp [intOf] <;> omega
          · have n2 := empty_no he
            clear hc he
            go_wp2_with (at_builtin; refine wpList_append_own_at _ rfl _ _ 53 rfl w.heap.size 98 i0 _ 2 32 Tryz.underlying53 hi hz0 hz1 hz2 rfl (by decide) _ _ _ rfl (pairs_alloc p6 _) ⟨w1.heap.size, 0, none⟩ 1 1 [.string an, .string av] rfl rfl (cells_two _ _ _ _) (fun u hu => by simp at hu; rcases hu with rfl | rfl <;> rfl) (by unfold maxLen; omega) (by omega) (by have := t1.size; simp; omega) ?_)
            intro v6 w2 hown2 hg2 _ hat
            have hga : w1.grownBy w2 u6.ownBlock := (World.grownBy_alloc w1 _ _).trans hg2
            have b2 : Below w.heap.size w1 w2 := (Below.refl _ _).grown hga t1.size (fun j e => (World.ownsRow.lt p6 j e).1)
            obtain ⟨q5, ap2⟩ := beside p5 hap.symm hga hat (by simp)
            have q6 : OwnsPairs w.heap.size v6 (re ++ [⟨an, av⟩]) w2 := by unfold OwnsPairs; simpa [pairCells] using hown2
            clear hown2 hat hg2 hga p5 p6 o5 o6
            go_wp2_with fail
            go_roundw
            case rel => exact ⟨k + 1, sc, re ++ [⟨an, av⟩], by omega, by go_num, q5, q6, ap2.symm, hr, by simp; omega, t1.trans b2⟩
            case measure => simp [intOf] <;> omega
        · by_cases hx : p = P.xmlns
          · have n1 : (p.toList == [120, 109, 108, 110, 115]) = true := str_is (by rw [hx]; rfl)
            have n2 : p.toList.isEmpty = false := empty_no (by rw [hx]; decide)
            have hkey : P.key p m = m := by unfold P.key; rw [if_neg (by rw [hx]; decide)]
            clear hx
            go_wp2_with fail
            (with_reducible refine (refBound_any m av _).mono ?_); rintro e w2 ⟨rfl, rfl⟩
            cases hb : P.bound m av
            · obtain ⟨r1, r2, r3⟩ := P.de_none (P.decl_bad hD1 hsp hc (by rw [hkey]; exact hb))
              clear hD1 hD hl hz hsp hc hb
              replace r1 := Lib.hid r1
              replace r2 := Lib.hid r2
              replace r3 := Lib.hid r3
              go_wp2
              go_ret3
              exact ⟨_, _, by rw [r3.out]; rfl, by rw [r1.out]; exact pairs_nil _ _, by rw [r2.out]; exact pairs_nil _ _, t1⟩
            · have hr := P.decl_scope hD1 hsp hc (by rw [hkey]; exact hb)
              rw [hkey] at hr
              replace hr := Lib.hid hr
              clear hD1 hD hl hz hsp hc hb
              go_wp2_with (at_builtin; refine wpList_append_own_at _ rfl _ _ 53 rfl w.heap.size 98 i0 _ 2 32 Tryz.underlying53 hi hz0 hz1 hz2 rfl (by decide) _ _ _ rfl (pairs_alloc p5 _) ⟨w1.heap.size, 0, none⟩ 1 1 [.string m, .string av] rfl rfl (cells_two _ _ _ _) (fun u hu => by simp at hu; rcases hu with rfl | rfl <;> rfl) (by unfold maxLen; omega) (by omega) (by have := t1.size; simp; omega) ?_)
              intro v5 w2 hown2 hg2 _ hat
              have hga : w1.grownBy w2 u5.ownBlock := (World.grownBy_alloc w1 _ _).trans hg2
              have b2 : Below w.heap.size w1 w2 := (Below.refl _ _).grown hga t1.size (fun j e => (World.ownsRow.lt p5 j e).1)
              obtain ⟨q6, ap2⟩ := beside p6 hap hga hat (by simp)
              have q5 : OwnsPairs w.heap.size v5 (sc ++ [⟨m, av⟩]) w2 := by unfold OwnsPairs; simpa [pairCells] using hown2
              clear hown2 hat hg2 hga p5 p6 o5 o6
              go_wp2_with fail
              go_roundw
              case rel => exact ⟨k + 1, sc ++ [⟨m, av⟩], re, by omega, by go_num, q5, q6, ap2, hr, by simp; omega, t1.trans b2⟩
              case measure => simp [intOf] <;> omega
          · have hy : p = ByteArray.empty ∧ m = P.xmlns := by
              by_cases h1 : p = ByteArray.empty
              · by_cases h2 : m = P.xmlns
                · exact ⟨h1, h2⟩
                · exact absurd ⟨hx, .inr h2⟩ hc
              · exact absurd ⟨hx, .inl h1⟩ hc
            obtain ⟨hy1, hy2⟩ := hy
            have n1 : (p.toList == [120, 109, 108, 110, 115]) = false := str_ne (fun e => hx (bytes_eq e))
            have n2 : p.toList.isEmpty = true := by rw [hy1]; exact pempty_is
            have n3 : (m.toList == [120, 109, 108, 110, 115]) = true := str_is (by rw [hy2]; rfl)
            have hkey : P.key p m = ⟨#[]⟩ := by unfold P.key; rw [if_pos hy1]; rfl
            clear hx hy1 hy2
            go_wp2_with fail
            (with_reducible refine (refBound_any ⟨#[]⟩ av _).mono ?_); rintro e w2 ⟨rfl, rfl⟩
            cases hb : P.bound ⟨#[]⟩ av
            · obtain ⟨r1, r2, r3⟩ := P.de_none (P.decl_bad hD1 hsp hc (by rw [hkey]; exact hb))
              clear hD1 hD hl hz hsp hc hb
              replace r1 := Lib.hid r1
              replace r2 := Lib.hid r2
              replace r3 := Lib.hid r3
              go_wp2
              go_ret3
              exact ⟨_, _, by rw [r3.out]; rfl, by rw [r1.out]; exact pairs_nil _ _, by rw [r2.out]; exact pairs_nil _ _, t1⟩
            · have hr := P.decl_scope hD1 hsp hc (by rw [hkey]; exact hb)
              rw [hkey] at hr
              replace hr := Lib.hid hr
              clear hD1 hD hl hz hsp hc hb
              go_wp2_with (at_builtin; refine wpList_append_own_at _ rfl _ _ 53 rfl w.heap.size 98 i0 _ 2 32 Tryz.underlying53 hi hz0 hz1 hz2 rfl (by decide) _ _ _ rfl (pairs_alloc p5 _) ⟨w1.heap.size, 0, none⟩ 1 1 [.string ⟨#[]⟩, .string av] rfl rfl (cells_two _ _ _ _) (fun u hu => by simp at hu; rcases hu with rfl | rfl <;> rfl) (by unfold maxLen; omega) (by omega) (by have := t1.size; simp; omega) ?_)
              intro v5 w2 hown2 hg2 _ hat
              have hga : w1.grownBy w2 u5.ownBlock := (World.grownBy_alloc w1 _ _).trans hg2
              have b2 : Below w.heap.size w1 w2 := (Below.refl _ _).grown hga t1.size (fun j e => (World.ownsRow.lt p5 j e).1)
              obtain ⟨q6, ap2⟩ := beside p6 hap hga hat (by simp)
              have q5 : OwnsPairs w.heap.size v5 (sc ++ [⟨⟨#[]⟩, av⟩]) w2 := by unfold OwnsPairs; simpa [pairCells] using hown2
              clear hown2 hat hg2 hga p5 p6 o5 o6
              go_wp2_with fail
              go_roundw
              case rel => exact ⟨k + 1, sc ++ [⟨⟨#[]⟩, av⟩], re, by omega, by go_num, q5, q6, ap2, hr, by simp; omega, t1.trans b2⟩
              case measure => simp [intOf] <;> omega
    · have hnil : l.drop k = [] := List.drop_of_length_le (by rw [hn.out]; omega)
      have hD1 := hD.out
      rw [hnil] at hD1
      obtain ⟨r1, r2, r3⟩ := P.de_some (a := sc) (b := re) (hD1.trans rfl)
      clear hD1 hD hl hz hnil
      replace r1 := Lib.hid r1
      replace r2 := Lib.hid r2
      replace r3 := Lib.hid r3
      go_wp2
      go_ret3
      exact ⟨_, _, by rw [r3.out]; rfl, by rw [r1.out]; exact o5, by rw [r2.out]; exact o6, bw⟩
end Go.Proofs.YtegaidfmkfnbnaaGreatDoor
