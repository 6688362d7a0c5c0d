/-
  What the document's own Check of entries comes to.
-/
import Derived.Test.YtbaclacfadkjdaaGreatDoorG25
import Derived.Deep.RegionHeld3
import Derived.Deep.RegionWith
namespace Go.Proofs.YtbaclacfadkjdaaGreatDoor
open Go.RowKit
theorem am_lit_entry : Am.lit "entry" = [101, 110, 116, 114, 121] := by decide +kernel
def Am.names : List ByteArray := [⟨#[97, 117, 116, 104, 111, 114]⟩, ⟨#[99, 111, 110, 116, 114, 105, 98, 117, 116, 111, 114]⟩, ⟨#[117, 112, 100, 97, 116, 101, 100]⟩, ⟨#[112, 117, 98, 108, 105, 115, 104, 101, 100]⟩, ⟨#[116, 105, 116, 108, 101]⟩, ⟨#[115, 117, 109, 109, 97, 114, 121]⟩, ⟨#[114, 105, 103, 104, 116, 115]⟩, ⟨#[105, 100]⟩, ⟨#[108, 105, 110, 107]⟩, ⟨#[99, 97, 116, 101, 103, 111, 114, 121]⟩, ⟨#[99, 111, 110, 116, 101, 110, 116]⟩]
def Am.multi : List Bool := [true, true, false, false, false, false, false, false, true, true, false]
def Am.rules2 : List (Gv.Node → Bool) := [(Am.person Am.onD), (Am.person Am.onD), (Am.momentOk Am.onD), (Am.momentOk Am.onD), Am.textOk, Am.textOk, Am.textOk, Am.idOk, (Am.link Am.onD), Am.catOk, (Am.content Am.onD)]
theorem Am.rules_at (i : Nat) (h : i < 11) : (Am.rules Am.onD)[i]? = some (Am.names[i].data.toList, Am.multi[i]'h, Am.rules2[i]'h) := by
  match i, h with
  | 0, _ => exact congrArg (fun a => some (a, _, _)) am_lit_author
  | 1, _ => exact congrArg (fun a => some (a, _, _)) am_lit_contributor
  | 2, _ => exact congrArg (fun a => some (a, _, _)) am_lit_updated
  | 3, _ => exact congrArg (fun a => some (a, _, _)) am_lit_published
  | 4, _ => exact congrArg (fun a => some (a, _, _)) am_lit_title
  | 5, _ => exact congrArg (fun a => some (a, _, _)) am_lit_summary
  | 6, _ => exact congrArg (fun a => some (a, _, _)) am_lit_rights
  | 7, _ => exact congrArg (fun a => some (a, _, _)) am_lit_id
  | 8, _ => exact congrArg (fun a => some (a, _, _)) am_lit_link
  | 9, _ => exact congrArg (fun a => some (a, _, _)) am_lit_category
  | 10, _ => exact congrArg (fun a => some (a, _, _)) am_lit_content
theorem Am.multi_at (i : Nat) (h : i < 11) : Am.multi[i]'h = ((Am.names[i].data.toList == [97, 117, 116, 104, 111, 114]) || (Am.names[i].data.toList == [99, 111, 110, 116, 114, 105, 98, 117, 116, 111, 114]) || (Am.names[i].data.toList == [108, 105, 110, 107]) || (Am.names[i].data.toList == [99, 97, 116, 101, 103, 111, 114, 121])) := by
  match i, h with
  | 0, _ => rfl
  | 1, _ => rfl
  | 2, _ => rfl
  | 3, _ => rfl
  | 4, _ => rfl
  | 5, _ => rfl
  | 6, _ => rfl
  | 7, _ => rfl
  | 8, _ => rfl
  | 9, _ => rfl
  | 10, _ => rfl
theorem nd_each (n : Gv.Node) {A : Array Value} (i : Nat) (hi : i < 11) (w : World) (h : Nd w A n) (hz : Gv.wt n ≤ 100000) :
    Calls Tryz.prog 23 #[.agg A, .string (Am.names[i])] w fun e w' => e = .returned (.bool ((Am.all n (Am.names[i]).data.toList).all (Am.rules2[i]'hi))) ∧ Below w.heap.size w w' := by
  have hd : ∀ {s : ByteArray} {l m : List UInt8}, s.data.toList = m → (s.toList == l) = (m == l) := fun h => by rw [ByteArray.toList_eq, h]
  match i, hi with
  | 0, _ => exact nd_each0 n ⟨#[97, 117, 116, 104, 111, 114]⟩ w h hz ((hd (m := [97, 117, 116, 104, 111, 114]) rfl).trans rfl)
  | 1, _ => exact nd_each1 n ⟨#[99, 111, 110, 116, 114, 105, 98, 117, 116, 111, 114]⟩ w h hz ((hd (m := [99, 111, 110, 116, 114, 105, 98, 117, 116, 111, 114]) rfl).trans rfl) ((hd (m := [99, 111, 110, 116, 114, 105, 98, 117, 116, 111, 114]) rfl).trans rfl)
  | 2, _ => exact nd_each2 n ⟨#[117, 112, 100, 97, 116, 101, 100]⟩ w h hz ((hd (m := [117, 112, 100, 97, 116, 101, 100]) rfl).trans rfl) ((hd (m := [117, 112, 100, 97, 116, 101, 100]) rfl).trans rfl) ((hd (m := [117, 112, 100, 97, 116, 101, 100]) rfl).trans rfl)
  | 3, _ => exact nd_each3 n ⟨#[112, 117, 98, 108, 105, 115, 104, 101, 100]⟩ w h hz ((hd (m := [112, 117, 98, 108, 105, 115, 104, 101, 100]) rfl).trans rfl) ((hd (m := [112, 117, 98, 108, 105, 115, 104, 101, 100]) rfl).trans rfl) ((hd (m := [112, 117, 98, 108, 105, 115, 104, 101, 100]) rfl).trans rfl) ((hd (m := [112, 117, 98, 108, 105, 115, 104, 101, 100]) rfl).trans rfl)
  | 4, _ => exact nd_each4 n ⟨#[116, 105, 116, 108, 101]⟩ w h hz ((hd (m := [116, 105, 116, 108, 101]) rfl).trans rfl) ((hd (m := [116, 105, 116, 108, 101]) rfl).trans rfl) ((hd (m := [116, 105, 116, 108, 101]) rfl).trans rfl) ((hd (m := [116, 105, 116, 108, 101]) rfl).trans rfl) ((hd (m := [116, 105, 116, 108, 101]) rfl).trans rfl)
  | 5, _ => exact nd_each5 n ⟨#[115, 117, 109, 109, 97, 114, 121]⟩ w h hz ((hd (m := [115, 117, 109, 109, 97, 114, 121]) rfl).trans rfl) ((hd (m := [115, 117, 109, 109, 97, 114, 121]) rfl).trans rfl) ((hd (m := [115, 117, 109, 109, 97, 114, 121]) rfl).trans rfl) ((hd (m := [115, 117, 109, 109, 97, 114, 121]) rfl).trans rfl) ((hd (m := [115, 117, 109, 109, 97, 114, 121]) rfl).trans rfl) ((hd (m := [115, 117, 109, 109, 97, 114, 121]) rfl).trans rfl)
  | 6, _ => exact nd_each6 n ⟨#[114, 105, 103, 104, 116, 115]⟩ w h hz ((hd (m := [114, 105, 103, 104, 116, 115]) rfl).trans rfl) ((hd (m := [114, 105, 103, 104, 116, 115]) rfl).trans rfl) ((hd (m := [114, 105, 103, 104, 116, 115]) rfl).trans rfl) ((hd (m := [114, 105, 103, 104, 116, 115]) rfl).trans rfl) ((hd (m := [114, 105, 103, 104, 116, 115]) rfl).trans rfl) ((hd (m := [114, 105, 103, 104, 116, 115]) rfl).trans rfl) ((hd (m := [114, 105, 103, 104, 116, 115]) rfl).trans rfl)
  | 7, _ => exact nd_each7 n ⟨#[105, 100]⟩ w h hz ((hd (m := [105, 100]) rfl).trans rfl) ((hd (m := [105, 100]) rfl).trans rfl) ((hd (m := [105, 100]) rfl).trans rfl) ((hd (m := [105, 100]) rfl).trans rfl) ((hd (m := [105, 100]) rfl).trans rfl) ((hd (m := [105, 100]) rfl).trans rfl) ((hd (m := [105, 100]) rfl).trans rfl) ((hd (m := [105, 100]) rfl).trans rfl)
  | 8, _ => exact nd_each8 n ⟨#[108, 105, 110, 107]⟩ w h hz ((hd (m := [108, 105, 110, 107]) rfl).trans rfl) ((hd (m := [108, 105, 110, 107]) rfl).trans rfl) ((hd (m := [108, 105, 110, 107]) rfl).trans rfl) ((hd (m := [108, 105, 110, 107]) rfl).trans rfl) ((hd (m := [108, 105, 110, 107]) rfl).trans rfl) ((hd (m := [108, 105, 110, 107]) rfl).trans rfl) ((hd (m := [108, 105, 110, 107]) rfl).trans rfl) ((hd (m := [108, 105, 110, 107]) rfl).trans rfl) ((hd (m := [108, 105, 110, 107]) rfl).trans rfl)
  | 9, _ => exact nd_each9 n ⟨#[99, 97, 116, 101, 103, 111, 114, 121]⟩ w h hz ((hd (m := [99, 97, 116, 101, 103, 111, 114, 121]) rfl).trans rfl) ((hd (m := [99, 97, 116, 101, 103, 111, 114, 121]) rfl).trans rfl) ((hd (m := [99, 97, 116, 101, 103, 111, 114, 121]) rfl).trans rfl) ((hd (m := [99, 97, 116, 101, 103, 111, 114, 121]) rfl).trans rfl) ((hd (m := [99, 97, 116, 101, 103, 111, 114, 121]) rfl).trans rfl) ((hd (m := [99, 97, 116, 101, 103, 111, 114, 121]) rfl).trans rfl) ((hd (m := [99, 97, 116, 101, 103, 111, 114, 121]) rfl).trans rfl) ((hd (m := [99, 97, 116, 101, 103, 111, 114, 121]) rfl).trans rfl) ((hd (m := [99, 97, 116, 101, 103, 111, 114, 121]) rfl).trans rfl) ((hd (m := [99, 97, 116, 101, 103, 111, 114, 121]) rfl).trans rfl)
  | 10, _ => exact nd_each10 n ⟨#[99, 111, 110, 116, 101, 110, 116]⟩ w h hz ((hd (m := [99, 111, 110, 116, 101, 110, 116]) rfl).trans rfl) ((hd (m := [99, 111, 110, 116, 101, 110, 116]) rfl).trans rfl) ((hd (m := [99, 111, 110, 116, 101, 110, 116]) rfl).trans rfl) ((hd (m := [99, 111, 110, 116, 101, 110, 116]) rfl).trans rfl) ((hd (m := [99, 111, 110, 116, 101, 110, 116]) rfl).trans rfl) ((hd (m := [99, 111, 110, 116, 101, 110, 116]) rfl).trans rfl) ((hd (m := [99, 111, 110, 116, 101, 110, 116]) rfl).trans rfl) ((hd (m := [99, 111, 110, 116, 101, 110, 116]) rfl).trans rfl) ((hd (m := [99, 111, 110, 116, 101, 110, 116]) rfl).trans rfl) ((hd (m := [99, 111, 110, 116, 101, 110, 116]) rfl).trans rfl) ((hd (m := [99, 111, 110, 116, 101, 110, 116]) rfl).trans rfl)
def Am.okIn (l : List Gv.Node) (i : Nat) : Bool := match (Am.rules Am.onD)[i]? with
  | some r => Am.ruled l r
  | none => true
theorem Am.okIn_at {n : Gv.Node} (i : Nat) (h : i < 11) : Am.okIn (Am.kidsOf n) i = ((Am.all n (Am.names[i]).data.toList).all (Am.rules2[i]'h) && (Am.multi[i]'h || decide ((Am.all n (Am.names[i]).data.toList).length ≤ 1))) := by
  unfold Am.okIn
  rw [Am.rules_at i h]
  rfl
def ckE (n : Gv.Node) (stored : Bool) : Int := if Am.check Am.onD n stored = true then 0 else 150
theorem ck_no {n : Gv.Node} {stored : Bool} (h : Am.check Am.onD n stored = false) : ckE n stored = 150 := by
  unfold ckE; rw [h]; rfl
theorem ck_yes {n : Gv.Node} {stored : Bool} (h : Am.check Am.onD n stored = true) : ckE n stored = 0 := by
  unfold ckE; rw [h]; rfl
theorem Am.check_is (n : Gv.Node) (stored : Bool) : Am.check Am.onD n stored = (Am.isEl n Am.atomS (Am.lit "entry") && ((List.range 11).all (Am.okIn (Am.kidsOf n)) && decide ((Am.all n (Am.lit "author")).length ≠ 0) && decide ((Am.all n (Am.lit "title")).length ≠ 0) && (!stored || (decide ((Am.all n (Am.lit "id")).length ≠ 0) && decide ((Am.all n (Am.lit "updated")).length ≠ 0))) && decide ((Am.all n (Am.lit "link")).Pairwise fun a b => Am.alike Am.onD a b = false))) := rfl
theorem range_bad {p : Nat → Bool} {k m : Nat} (h : k < m) (hp : p k = false) : (List.range m).all p = false := by
  rw [← Bool.not_eq_true, List.all_eq_true]
  intro e
  have := e k (List.mem_range.2 h)
  rw [hp] at this; cases this
theorem range_more {p : Nat → Bool} {k : Nat} (h : (List.range k).all p = true) (hp : p k = true) : (List.range (k + 1)).all p = true := by
  rw [List.range_succ, List.all_append, h, List.all_cons, hp]; rfl
def Am.Far (L : List Gv.Node) (i : Nat) : Prop := ∀ a b (hb : b < L.length) (ha : a < b), b < i → Am.alike Am.onD L[b] (L[a]'(by omega)) = false
theorem Am.far_all {L : List Gv.Node} (h : Am.Far L L.length) : L.Pairwise fun a b => Am.alike Am.onD a b = false := by
  rw [List.pairwise_iff_getElem]
  intro a b ha hb hab
  rw [Am.alike_symm]
  exact h a b hb hab hb
theorem Am.far_not {L : List Gv.Node} {i k : Nat} (hi : i < L.length) (hk : k < i) (h : Am.alike Am.onD L[i] (L[k]'(by omega)) = true) : ¬ L.Pairwise fun a b => Am.alike Am.onD a b = false := by
  intro hp
  rw [List.pairwise_iff_getElem] at hp
  have := hp k i (by omega) hi hk
  rw [Am.alike_symm, h] at this
  cases this
end Go.Proofs.YtbaclacfadkjdaaGreatDoor
