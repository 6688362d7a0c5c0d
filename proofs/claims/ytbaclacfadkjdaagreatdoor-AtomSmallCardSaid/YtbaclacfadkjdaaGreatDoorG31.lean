/-
  A kid under way: some attributes, some kids, of a bulk; what a step more makes of it.
-/
import Derived.Test.YtbaclacfadkjdaaGreatDoorG30
import Derived.Deep.AppendLies
import Derived.Deep.DeepCutAuto
namespace Go.Proofs.YtbaclacfadkjdaaGreatDoor
open Go.RowKit
def amSp : ByteArray := ⟨#[104, 116, 116, 112, 58, 47, 47, 119, 119, 119, 46, 119, 51, 46, 111, 114, 103, 47, 50, 48, 48, 53, 47, 65, 116, 111, 109]⟩
def KSt (w1 : World) (rb : Nat) (nm : ByteArray) (k : Nat) (w : World) : Prop := ∃ va vk as' kids, KIn w1.heap.size rb w1 amSp nm va vk as' kids w ∧ Gv.wt (.mk 0 amSp nm as' kids ⟨#[]⟩) ≤ k
theorem KIn.same {B rb rb' : Nat} {w0 : World} {sp nm sp' nm' : ByteArray} {va vk va' vk' : Value} {as' as2 : List Gv.Att} {kids kids' : List Gv.Node} {W W' : World} {k : Nat} {t : TypeId} {cs : Array Value} (g : KIn B rb w0 sp nm va vk as' kids W) (g' : KIn B rb' w0 sp' nm' va' vk' as2 kids' W') (hk : k < B) (c : Cells W k t cs) : Cells W' k t cs :=
  (g'.low.block k hk).trans ((g.low.block k hk).symm.trans c)
theorem KSt.open' {w1 w : World} {rb k : Nat} {nm : ByteArray} (h : KSt w1 rb nm k w) : ∃ ao ca bo cb as' kids, KIn w1.heap.size rb w1 amSp nm (.slice ao as'.length ca) (.slice bo kids.length cb) as' kids w ∧ Gv.wt (.mk 0 amSp nm as' kids ⟨#[]⟩) ≤ k ∧ as'.length ≤ k ∧ kids.length ≤ k := by
  obtain ⟨va, vk, as', kids, g, hz⟩ := h
  obtain ⟨ao, ca, rfl, _⟩ := g.att.at'
  obtain ⟨bo, cb, cs, rfl, _⟩ := (g.kid.mono (S' := fun b => w1.heap.size ≤ b) (fun b hb _ => hb.1.1)).rows (fun b hb _ => hb)
  have h2 : Gv.wt (.mk 0 amSp nm as' kids ⟨#[]⟩) ≤ k := hz
  have h3 := Am.kids_wt (.mk 0 amSp nm as' kids ⟨#[]⟩)
  rw [Gv.wt_mk] at hz
  exact ⟨ao, ca, bo, cb, as', kids, g, h2, by omega, Nat.le_trans h3 h2⟩
theorem attW_small {a : Gv.Att} (h : a.space.size + a.name.size + a.value.size ≤ 120) : Gv.attW a ≤ 125 := by unfold Gv.attW; omega
theorem wt_atts {sp nm : ByteArray} {as' : List Gv.Att} {kids : List Gv.Node} {a : Gv.Att} {k : Nat} (h : Gv.wt (.mk 0 sp nm as' kids ⟨#[]⟩) ≤ k) (ha : a.space.size + a.name.size + a.value.size ≤ 120) : Gv.wt (.mk 0 sp nm (as' ++ [a]) kids ⟨#[]⟩) ≤ k + 126 := by
  rw [Gv.wt_mk] at h ⊢
  have e := attW_small ha
  simp only [List.length_append, List.length_singleton, List.map_append, List.sum_append, List.map_cons, List.map_nil, List.sum_cons, List.sum_nil]
  omega
theorem wts_append : ∀ (l m : List Gv.Node), Gv.wts (l ++ m) = Gv.wts l + Gv.wts m
  | [], m => by simp [Gv.wts]
  | n :: l, m => by
    have := wts_append l m
    simp only [List.cons_append, Gv.wts]
    omega
theorem wt_kids {sp nm : ByteArray} {as' : List Gv.Att} {kids more : List Gv.Node} {k j : Nat} (h : Gv.wt (.mk 0 sp nm as' kids ⟨#[]⟩) ≤ k) (hm : Gv.wts more ≤ j) : Gv.wt (.mk 0 sp nm as' (kids ++ more) ⟨#[]⟩) ≤ k + j := by
  rw [Gv.wt_mk] at h ⊢
  rw [wts_append]
  omega
theorem att_new {B : Nat} (W : World) (nm v : ByteArray) (hB : B ≤ W.heap.size) : OwnsAtts B (.slice (some ⟨W.heap.size, 0, none⟩) 1 1) [⟨⟨#[]⟩, nm, v⟩] (W.alloc (.cells #[.string ⟨#[]⟩, .string nm, .string v] 41)) :=
  ⟨rfl, .inr ⟨W.heap.size, 1, #[.string ⟨#[]⟩, .string nm, .string v], rfl, hB, Cells.new W _ _, Nat.le_refl _, by unfold maxLen; simp, by rfl, by rfl⟩⟩
theorem KSt.newAtts {w1 W V : World} {rb k b : Nat} {nm an v : ByteArray} {vk : Value} {kids : List Gv.Node} (g : KIn w1.heap.size rb w1 amSp nm (.slice none 0 0) vk [] kids W) (hz : Gv.wt (.mk 0 amSp nm [] kids ⟨#[]⟩) ≤ k) (hs : an.size + v.size ≤ 120)
    (hA : OwnsAtts w1.heap.size (.slice (some ⟨b, 0, none⟩) 1 1) [⟨⟨#[]⟩, an, v⟩] V) (hg : W.grownBy V (Value.slice none 0 0).ownBlock) (hb : W.heap.size ≤ b) :
    KSt w1 rb nm (k + 126) (V.setCell ⟨rb, 3, none⟩ (.slice (some ⟨b, 0, none⟩) 1 1)) := by
  refine ⟨_, _, _, _, g.atts hA hg (.inr (.inr ⟨_, rfl, hb⟩)), ?_⟩
  have := wt_atts (a := ⟨⟨#[]⟩, an, v⟩) hz (by show ByteArray.size ⟨#[]⟩ + an.size + v.size ≤ 120; have e1 : ByteArray.size ⟨#[]⟩ = 0 := rfl; omega)
  simpa using this
theorem KSt.le {w1 w : World} {rb k j : Nat} {nm : ByteArray} (h : KSt w1 rb nm k w) (hj : k ≤ j) : KSt w1 rb nm j w := by
  obtain ⟨va, vk, as', kids, g, hz⟩ := h
  exact ⟨va, vk, as', kids, g, Nat.le_trans hz hj⟩
theorem KSt.moreAtts {w1 W w6 : World} {rb k H : Nat} {nm an v : ByteArray} {va v' vk : Value} {as' : List Gv.Att} {kids : List Gv.Node} (g : KIn w1.heap.size rb w1 amSp nm va vk as' kids W) (hz : Gv.wt (.mk 0 amSp nm as' kids ⟨#[]⟩) ≤ k) (hs : an.size + v.size ≤ 120)
    (ho : w6.ownsRow w1.heap.size 41 3 v' (as'.length + 1) (as'.flatMap attCells ++ [.string ⟨#[]⟩, .string an, .string v])) (hg : W.grownBy w6 va.ownBlock) (hat : v'.ownBlock = va.ownBlock ∨ v'.ownBlock = some H) (hH : W.heap.size ≤ H) :
    KSt w1 rb nm (k + 126) (w6.setCell ⟨rb, 3, none⟩ v') := by
  have an1 : OwnsAtts w1.heap.size v' (as' ++ [⟨⟨#[]⟩, an, v⟩]) w6 := by
    unfold OwnsAtts
    rw [List.length_append, List.flatMap_append]
    exact ho
  refine ⟨_, _, _, _, g.atts an1 hg ?_, ?_⟩
  · rcases hat with h | h
    · exact .inl h
    · exact .inr (.inr ⟨H, h, hH⟩)
  · exact wt_atts (a := ⟨⟨#[]⟩, an, v⟩) hz (by show ByteArray.size ⟨#[]⟩ + an.size + v.size ≤ 120; have e1 : ByteArray.size ⟨#[]⟩ = 0 := rfl; omega)
theorem kids_two {S : Nat → Prop} {B N : Nat} {v v' : Value} {kids : List Gv.Node} {css : List (List Value)} {w w' : World} {c d : List Value} {n m : Gv.Node} (h1 : css.length = kids.length)
    (h3 : ∀ j (h1 : j < css.length) (h2 : j < kids.length), NodeAt (fun b => S b ∧ some b ≠ v.ownBlock) w css[j] kids[j]) (hn : NodeAt (fun b => S b ∧ some b ≠ v.ownBlock) w c n) (hm : NodeAt (fun b => S b ∧ some b ≠ v.ownBlock) w d m)
    (hr : w'.ownsRow B 25 6 v' (kids.length + 2) (css.flatten ++ (c ++ d))) (hg : w.grownBy w' v.ownBlock) (hat : v'.ownBlock = v.ownBlock ∨ v'.ownBlock = some N) (hN : w.heap.size ≤ N) : OwnsKids S B v' (kids ++ [n, m]) w' := by
  have step : ∀ {c : List Value} {n : Gv.Node}, NodeAt (fun b => S b ∧ some b ≠ v.ownBlock) w c n → NodeAt (fun b => S b ∧ some b ≠ v'.ownBlock) w' c n := fun {c n} h => by
    have h' : NodeAt (fun b => (S b ∧ some b ≠ v.ownBlock) ∧ some b ≠ v'.ownBlock) w c n := h.mono fun b hb hl => ⟨hb, by
      rcases hat with e | e
      · rw [e]; exact hb.2
      · rw [e]; intro x; injection x with x; omega⟩
    exact (h'.stay (stay_grown hg (fun g e x => x.1.2 e.symm))).mono fun b hb _ => ⟨hb.1.1, hb.2⟩
  refine ⟨css ++ [c, d], by simp [h1], by rw [List.length_append, List.flatten_append]; simpa using hr, fun j a b => ?_⟩
  by_cases hj : j < css.length
  · rw [List.getElem_append_left hj, List.getElem_append_left (by omega)]
    exact step (h3 j hj (by omega))
  · have hj2 : j = css.length ∨ j = css.length + 1 := by simp at a; omega
    rcases hj2 with rfl | rfl
    · rw [List.getElem_append_right (Nat.le_refl _), List.getElem_append_right (by omega)]
      simp only [h1, Nat.sub_self, List.getElem_cons_zero]
      exact step hn
    · rw [List.getElem_append_right (by omega), List.getElem_append_right (by omega)]
      simp only [h1, Nat.add_sub_cancel_left, List.getElem_cons_succ, List.getElem_cons_zero]
      exact step hm
theorem kid_new {w1 W V : World} {rb k : Nat} {va vk : Value} {sp nm : ByteArray} {as' : List Gv.Att} {kids : List Gv.Node} {c : List Value} {n : Gv.Node} (g : KIn w1.heap.size rb w1 sp nm va vk as' kids V) (h : NodeAt (fun b => k ≤ b) W c n) (hk : V.heap.size ≤ k) :
    NodeAt (fun b => ((w1.heap.size ≤ b ∧ b ≠ rb) ∧ some b ≠ va.ownBlock) ∧ some b ≠ vk.ownBlock) W c n := by
  have hlt := g.n.lt
  have hlb := g.lb
  have ha : ∀ j, va.ownBlock = some j → j < V.heap.size := fun j e => (World.ownsRow.lt g.att j e).2
  have hv : ∀ j, vk.ownBlock = some j → j < V.heap.size := fun j e => by
    obtain ⟨css, _, h2, _⟩ := g.kid
    exact (World.ownsRow.lt h2 j e).2
  refine h.mono fun b hb _ => ⟨⟨⟨by omega, by omega⟩, fun e => ?_⟩, fun e => ?_⟩
  · have := ha b e.symm; omega
  · have := hv b e.symm; omega
theorem KSt.moreKid {w1 W w6 : World} {rb k j : Nat} {nm : ByteArray} {va v' vk : Value} {as' : List Gv.Att} {kids : List Gv.Node} {c : List Value} {n : Gv.Node} {css : List (List Value)} (g : KIn w1.heap.size rb w1 amSp nm va vk as' kids W) (hz : Gv.wt (.mk 0 amSp nm as' kids ⟨#[]⟩) ≤ k) (hj : Gv.wt n ≤ j)
    (h1 : css.length = kids.length) (h3 : ∀ j (h1 : j < css.length) (h2 : j < kids.length), NodeAt (fun b => ((w1.heap.size ≤ b ∧ b ≠ rb) ∧ some b ≠ va.ownBlock) ∧ some b ≠ vk.ownBlock) W css[j] kids[j])
    (hn : NodeAt (fun b => ((w1.heap.size ≤ b ∧ b ≠ rb) ∧ some b ≠ va.ownBlock) ∧ some b ≠ vk.ownBlock) W c n)
    (ho : w6.ownsRow w1.heap.size 25 6 v' (kids.length + 1) (css.flatten ++ c)) (hg : W.grownBy w6 vk.ownBlock) (hat : v'.ownBlock = vk.ownBlock ∨ v'.ownBlock = some W.heap.size) :
    KSt w1 rb nm (k + (j + 1)) (w6.setCell ⟨rb, 4, none⟩ v') :=
  ⟨_, _, _, _, g.more (kids_more h1 h3 hn ho hg hat (Nat.le_refl _)) hg hat, wt_kids hz (by simp only [Gv.wts]; omega)⟩
theorem KSt.moreKids {w1 W w6 : World} {rb k j : Nat} {nm : ByteArray} {va v' vk : Value} {as' : List Gv.Att} {kids : List Gv.Node} {c d : List Value} {n m : Gv.Node} {css : List (List Value)} (g : KIn w1.heap.size rb w1 amSp nm va vk as' kids W) (hz : Gv.wt (.mk 0 amSp nm as' kids ⟨#[]⟩) ≤ k) (hj : Gv.wt n + Gv.wt m ≤ j)
    (h1 : css.length = kids.length) (h3 : ∀ j (h1 : j < css.length) (h2 : j < kids.length), NodeAt (fun b => ((w1.heap.size ≤ b ∧ b ≠ rb) ∧ some b ≠ va.ownBlock) ∧ some b ≠ vk.ownBlock) W css[j] kids[j])
    (hn : NodeAt (fun b => ((w1.heap.size ≤ b ∧ b ≠ rb) ∧ some b ≠ va.ownBlock) ∧ some b ≠ vk.ownBlock) W c n) (hm : NodeAt (fun b => ((w1.heap.size ≤ b ∧ b ≠ rb) ∧ some b ≠ va.ownBlock) ∧ some b ≠ vk.ownBlock) W d m)
    (ho : w6.ownsRow w1.heap.size 25 6 v' (kids.length + 2) (css.flatten ++ (c ++ d))) (hg : W.grownBy w6 vk.ownBlock) (hat : v'.ownBlock = vk.ownBlock ∨ v'.ownBlock = some W.heap.size) :
    KSt w1 rb nm (k + (j + 2)) (w6.setCell ⟨rb, 4, none⟩ v') :=
  ⟨_, _, _, _, g.more (kids_two h1 h3 hn hm ho hg hat (Nat.le_refl _)) hg hat, wt_kids hz (by simp only [Gv.wts]; omega)⟩
end Go.Proofs.YtbaclacfadkjdaaGreatDoor
