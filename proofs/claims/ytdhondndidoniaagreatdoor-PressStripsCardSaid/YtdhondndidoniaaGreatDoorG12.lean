/-
  What the document's own maker of an element with a text comes to: El of layer 16.
  The program's own word of texts side by side: joined.
  Owned kids stay under an append to another row.
  Two rows of nodes under way in two variables' boxes, in a round of a range over a function.
  A region whose last operation waits for all others and stores: the store is put off, so that what is held needs not bear it.
  A region that draws its order, in a round of a range over a function: walked as everywhere, what is held beside it.
-/
import Derived.Test.YtdhondndidoniaaGreatDoorG10
import Derived.Test.YtdhondndidoniaaGreatDoorG01
import Derived.Test.YtdhondndidoniaaGreatDoorG11
import Derived.Test.YtdhondndidoniaaGreatDoorG09
import Derived.RangeFuncNested
import Derived.RangeFuncBox
import Derived.Maps.AppendAt
import Derived.Deep.RegionHeld3
import Derived.StillTail
import Derived.OrdersIn
import Derived.RangeFuncCalls
namespace Go.Proofs.YtdhondndidoniaaGreatDoor
open Go.RowKit

/-- Two attributes that lie in a block of their own. -/
theorem atts_two {S : Nat → Prop} {w : World} {g : Nat} {a0 a1 a2 b0 b1 b2 : ByteArray} (hc : Cells w g 49 #[.string a0, .string a1, .string a2, .string b0, .string b1, .string b2]) (hg : S g) : AttsAt S w (.slice (some ⟨g, 0, none⟩) 2 2) [⟨a0, a1, a2⟩, ⟨b0, b1, b2⟩] := by
  refine ⟨_, _, rfl, Nat.le_refl _, fun j hj => ⟨g, 0, rfl, hg, fun i u hu => ?_⟩⟩
  have hj2 : j < 2 := hj
  match j, hj2 with
  | 0, _ =>
    match i with
    | 0 => exact (hc.cell (i := 0) rfl).trans hu
    | 1 => exact (hc.cell (i := 1) rfl).trans hu
    | 2 => exact (hc.cell (i := 2) rfl).trans hu
    | i + 3 => simp [attCells] at hu
  | 1, _ =>
    match i with
    | 0 => exact (hc.cell (i := 3) rfl).trans hu
    | 1 => exact (hc.cell (i := 4) rfl).trans hu
    | 2 => exact (hc.cell (i := 5) rfl).trans hu
    | i + 3 => simp [attCells] at hu
theorem Pr.lit_atom : "http://www.w3.org/2005/Atom".toUTF8 = ⟨#[104, 116, 116, 112, 58, 47, 47, 119, 119, 119, 46, 119, 51, 46, 111, 114, 103, 47, 50, 48, 48, 53, 47, 65, 116, 111, 109]⟩ := by decide +kernel
theorem Pr.lit_app : "http://www.w3.org/2007/app".toUTF8 = ⟨#[104, 116, 116, 112, 58, 47, 47, 119, 119, 119, 46, 119, 51, 46, 111, 114, 103, 47, 50, 48, 48, 55, 47, 97, 112, 112]⟩ := by decide +kernel
theorem Pr.lit_id : "id".toUTF8 = ⟨#[105, 100]⟩ := by decide +kernel
theorem Pr.lit_upd : "updated".toUTF8 = ⟨#[117, 112, 100, 97, 116, 101, 100]⟩ := by decide +kernel
theorem Pr.lit_ed : "edited".toUTF8 = ⟨#[101, 100, 105, 116, 101, 100]⟩ := by decide +kernel
theorem Pr.lit_link : "link".toUTF8 = ⟨#[108, 105, 110, 107]⟩ := by decide +kernel
theorem Pr.lit_rel : "rel".toUTF8 = ⟨#[114, 101, 108]⟩ := by decide +kernel
theorem Pr.lit_edit : "edit".toUTF8 = ⟨#[101, 100, 105, 116]⟩ := by decide +kernel
theorem Pr.lit_href : "href".toUTF8 = ⟨#[104, 114, 101, 102]⟩ := by decide +kernel
theorem Pr.id_lit (t : ByteArray) : Pr.el ⟨#[104, 116, 116, 112, 58, 47, 47, 119, 119, 119, 46, 119, 51, 46, 111, 114, 103, 47, 50, 48, 48, 53, 47, 65, 116, 111, 109]⟩ ⟨#[105, 100]⟩ t = Pr.idEl t := by unfold Pr.idEl; rw [Pr.lit_atom, Pr.lit_id]
theorem Pr.upd_lit (t : ByteArray) : Pr.el ⟨#[104, 116, 116, 112, 58, 47, 47, 119, 119, 119, 46, 119, 51, 46, 111, 114, 103, 47, 50, 48, 48, 53, 47, 65, 116, 111, 109]⟩ ⟨#[117, 112, 100, 97, 116, 101, 100]⟩ t = Pr.updEl t := by unfold Pr.updEl; rw [Pr.lit_atom, Pr.lit_upd]
theorem Pr.ed_lit (t : ByteArray) : Pr.el ⟨#[104, 116, 116, 112, 58, 47, 47, 119, 119, 119, 46, 119, 51, 46, 111, 114, 103, 47, 50, 48, 48, 55, 47, 97, 112, 112]⟩ ⟨#[101, 100, 105, 116, 101, 100]⟩ t = Pr.edEl t := by unfold Pr.edEl; rw [Pr.lit_app, Pr.lit_ed]
theorem Pr.link_lit (t : ByteArray) : (.mk 0 ⟨#[104, 116, 116, 112, 58, 47, 47, 119, 119, 119, 46, 119, 51, 46, 111, 114, 103, 47, 50, 48, 48, 53, 47, 65, 116, 111, 109]⟩ ⟨#[108, 105, 110, 107]⟩ [⟨⟨#[]⟩, ⟨#[114, 101, 108]⟩, ⟨#[101, 100, 105, 116]⟩⟩, ⟨⟨#[]⟩, ⟨#[104, 114, 101, 102]⟩, t⟩] [] ⟨#[]⟩ : Gv.Node) = Pr.linkEl t := by unfold Pr.linkEl; rw [Pr.lit_atom, Pr.lit_link, Pr.lit_rel, Pr.lit_edit, Pr.lit_href]; rfl
theorem link_at {S : Nat → Prop} {w : World} {g : Nat} {t : ByteArray} (hc : Cells w g 49 #[.string ⟨#[]⟩, .string ⟨#[114, 101, 108]⟩, .string ⟨#[101, 100, 105, 116]⟩, .string ⟨#[]⟩, .string ⟨#[104, 114, 101, 102]⟩, .string t]) (hg : S g) :
    NodeAt S w [.int .i64 0, .string ⟨#[104, 116, 116, 112, 58, 47, 47, 119, 119, 119, 46, 119, 51, 46, 111, 114, 103, 47, 50, 48, 48, 53, 47, 65, 116, 111, 109]⟩, .string ⟨#[108, 105, 110, 107]⟩, .slice (some ⟨g, 0, none⟩) 2 2, .slice none 0 0, .string ⟨#[]⟩] (Pr.linkEl t) := by
  rw [← Pr.link_lit]
  exact nd_mk (atts_two hc hg) ⟨fun _ => [], ⟨none, 0, rfl, fun j hj => by simp at hj⟩, fun j hj => by simp at hj⟩ (by unfold maxLen; simp) (by unfold maxLen; simp)
end Go.Proofs.YtdhondndidoniaaGreatDoor
namespace Go.Proofs.YtdhondndidoniaaGreatDoor
open Go.RowKit
set_option linter.unusedVariables false
set_option linter.unusedSimpArgs false

theorem node_row {S : Nat → Prop} {w : World} {g : Nat} {c : List Value} {n : Gv.Node} (hc : Cells w g 27 c.toArray) (hn : NodeAt S w c n) : RowsAt (fun _ => True) w (.slice (some ⟨g, 0, none⟩) 1 1) 1 (fun _ => c) := by
  refine ⟨_, _, rfl, fun j hj => ⟨hn.six, g, 0, rfl, trivial, fun i u hu => ?_⟩⟩
  have hj0 : j = 0 := by omega
  subst hj0
  rw [Nat.zero_mul, Nat.zero_add]
  exact hc.cell (by rw [List.getElem?_toArray]; exact hu)

set_option maxRecDepth 100000 in
set_option maxHeartbeats 3200000 in
theorem ppJoin_any {S : Nat → Prop} {T : List Gv.Node} {ao : Option Addr} {cap : Nat} {cs : Nat → List Value} (w : World) (hrow : RowsAt (fun _ => True) w (.slice ao T.length cap) T.length cs) (hk : ∀ j (h : j < T.length), NodeAt S w (cs j) T[j]) (hno : ao = none → T.length = 0 ∧ cap = 0) (hl : T.length ≤ 1000000) (hz : Gv.wts T ≤ 90000000000) :
    Calls Tryz.prog 61 #[.slice ao T.length cap] w fun e w' => ∃ (bo : Option Addr) (cb : Nat) (cs2 : Nat → List Value), e = .returned (.slice bo (Pr.one T).length cb) ∧ RowsAt (fun _ => True) w' (.slice bo (Pr.one T).length cb) (Pr.one T).length cs2 ∧ (∀ j (h : j < (Pr.one T).length), NodeAt S w' (cs2 j) (Pr.one T)[j]) ∧ (bo = none → (Pr.one T).length = 0 ∧ cb = 0) ∧ Below w.heap.size w w' := by
  by_cases hlt : T.length < 2
  case pos =>
    have h1 : (T.length : Int) < 2 := by omega
    have e : Pr.one T = T := if_pos hlt
    have hR : Hid (∃ (bo : Option Addr) (cb : Nat) (cs2 : Nat → List Value), Ending.returned (.slice ao T.length cap) = .returned (.slice bo (Pr.one T).length cb) ∧ RowsAt (fun _ => True) w (.slice bo (Pr.one T).length cb) (Pr.one T).length cs2 ∧ (∀ j (h : j < (Pr.one T).length), NodeAt S w (cs2 j) (Pr.one T)[j]) ∧ (bo = none → (Pr.one T).length = 0 ∧ cb = 0) ∧ Below w.heap.size w w) := Lib.hid (by rw [e]; exact ⟨ao, cap, cs, rfl, hrow, hk, hno, Below.refl _ _⟩)
    clear e hrow hk hno hlt hz
    go_enter Tryz.func61, Tryz.ntmps61
    go_wp2_with fail
    go_ret
    exact hR.out
  case neg =>
    have h1 : ¬ (T.length : Int) < 2 := by omega
    have he := Lib.hid (Pr.one_long hlt)
    have cT := Lib.hid (pText_any (.mk 0 ⟨#[]⟩ ⟨#[]⟩ [] T ⟨#[]⟩) (A := #[.int .i64 0, .string ⟨#[]⟩, .string ⟨#[]⟩, .slice none 0 0, .slice ao T.length cap, .string ⟨#[]⟩]) w ⟨fun _ => True, nd_mk (atts_nil _ _) ⟨cs, hrow, fun j h => (hk j h).mono fun _ _ _ => trivial⟩ (by unfold maxLen; simp) (by unfold maxLen; omega)⟩ (by rw [Gv.wt_mk]; simp [ByteArray.size]; omega))
    clear hrow hk hno hlt hz hl
    generalize txS (.mk 0 ⟨#[]⟩ ⟨#[]⟩ [] T ⟨#[]⟩) = tx at *
    go_enter Tryz.func61, Tryz.ntmps61
    go_wp2_with fail
    (refine cT.out.mono ?_); rintro e w1 ⟨rfl, b1⟩
    have K := Lib.hid (Cells.new w1 27 #[.int .i64 1, .string ⟨#[]⟩, .string ⟨#[]⟩, .slice none 0 0, .slice none 0 0, .string tx])
    have b2 := Lib.hid (b1.alloc b1.size (.cells #[.int .i64 1, .string ⟨#[]⟩, .string ⟨#[]⟩, .slice none 0 0, .slice none 0 0, .string tx] 27))
    clear b1 cT
    go_wp2_with fail
    go_ret
    rw [he.out]
    exact ⟨some ⟨w1.heap.size, 0, none⟩, 1, fun _ => [.int .i64 1, .string ⟨#[]⟩, .string ⟨#[]⟩, .slice none 0 0, .slice none 0 0, .string tx], rfl, node_row K.out (node_plain (fun _ => True) _ 1 ⟨#[]⟩ ⟨#[]⟩ tx), fun j hj => by
      have hj0 : j = 0 := by simp at hj; exact hj
      subst hj0
      exact node_plain _ _ 1 ⟨#[]⟩ ⟨#[]⟩ tx, fun e => (by cases e), b2.out⟩
end Go.Proofs.YtdhondndidoniaaGreatDoor
namespace Go.Proofs.YtdhondndidoniaaGreatDoor
open Go.RowKit

/-- Owned kids, behind an append to another row. -/
theorem OwnsKids.far {S : Nat → Prop} {B : Nat} {v : Value} {kids : List Gv.Node} {w w' : World} {row : Option Nat} (h : OwnsKids S B v kids w) (hg : w.grownBy w' row) (hS : ∀ g, row = some g → ¬ S g) (hne : v.ownBlock = none ∨ v.ownBlock ≠ row) : OwnsKids S B v kids w' := by
  obtain ⟨css, h1, h2, h3⟩ := h
  exact ⟨css, h1, World.ownsRow.kept h2 hg hne, fun j a b => (h3 j a b).stay (stay_grown hg (fun g e x => hS g e x.1))⟩
end Go.Proofs.YtdhondndidoniaaGreatDoor
namespace Go.Proofs.YtdhondndidoniaaGreatDoor
open Go.RowKit
set_option linter.unusedVariables false

theorem kids_app16 {S : Nat → Prop} {B N : Nat} {v v' : Value} {kids K2 : List Gv.Node} {css : List (List Value)} {w w' : World} {cs2 : Nat → List Value} (h1 : css.length = kids.length)
    (h3 : ∀ j (h1 : j < css.length) (h2 : j < kids.length), NodeAt (fun b => S b ∧ some b ≠ v.ownBlock) w css[j] kids[j]) (hk : ∀ j (h : j < K2.length), NodeAt (fun b => S b ∧ some b ≠ v.ownBlock) w (cs2 j) K2[j])
    (hr : w'.ownsRow B 27 6 v' (kids.length + K2.length) (css.flatten ++ (kidList K2.length cs2).flatten)) (hg : w.grownBy w' v.ownBlock) (hat : v'.ownBlock = v.ownBlock ∨ v'.ownBlock = some N) (hN : w.heap.size ≤ N) : OwnsKids S B v' (kids ++ K2) w' := by
  have step : ∀ {c : List Value} {n : Gv.Node}, NodeAt (fun b => S b ∧ some b ≠ v.ownBlock) w c n → NodeAt (fun b => S b ∧ some b ≠ v'.ownBlock) w' c n := fun {c n} h => by
    have h' : NodeAt (fun b => (S b ∧ some b ≠ v.ownBlock) ∧ some b ≠ v'.ownBlock) w c n := h.mono fun b hb hl => ⟨hb, by
      rcases hat with e | e
      · rw [e]; exact hb.2
      · rw [e]; intro x; injection x with x; omega⟩
    exact (h'.stay (stay_grown hg (fun g e x => x.1.2 e.symm))).mono fun b hb _ => ⟨hb.1.1, hb.2⟩
  refine ⟨css ++ kidList K2.length cs2, by simp [h1, kidList_len], by rw [List.length_append, List.flatten_append]; exact hr, fun j a b => ?_⟩
  by_cases hj : j < css.length
  · rw [List.getElem_append_left hj, List.getElem_append_left (by omega)]
    exact step (h3 j hj (by omega))
  · have hj2 : j - kids.length < K2.length := by rw [List.length_append] at b; omega
    rw [List.getElem_append_right (by omega), List.getElem_append_right (by omega), kidList_at]
    simp only [h1]
    exact step (hk _ hj2)
/-- KIDS APPENDED to a row that the call owns: a row of nodes, or none. -/
theorem wp_app_more {S S2 : Nat → Prop} {B : Nat} {K1 K2 : List Gv.Node} {v : Value} {bo : Option Addr} {m cb : Nat} {cs2 : Nat → List Value} {o : Oper} {a : Act} {K : Act → World → Prop} {Q : Exit → Act → World → Prop} {w : World} (s x : Operand)
    (ho : o.op = .call { callee := .builtin .append, args := #[s, x], argTypes := #[25, 25] }) (hs : a.eval s = v) (hO : OwnsKids S B v K1 w) (hx : a.eval x = .slice bo m cb) (hrow : RowsAt S2 w (.slice bo m cb) m cs2) (hm : K2.length = m) (hk : ∀ j (h : j < K2.length), NodeAt (fun b => S b ∧ some b ≠ v.ownBlock) w (cs2 j) K2[j]) (hbo : bo = none → m = 0 ∧ cb = 0) (hlen : K1.length + m ≤ 1000001) (hB : B ≤ w.heap.size)
    (h : ∀ v' w', OwnsKids S B v' (K1 ++ K2) w' → w.grownBy w' v.ownBlock → (v'.ownBlock = v.ownBlock ∨ v'.ownBlock = some w.heap.size) → K (a.put o.dst v') w') : Oper.wp Tryz.prog o a w K Q := by
  obtain ⟨i0, hi, hz0, hz1, hz2⟩ := info_parts infoNode
  obtain ⟨css, hcl, hown, hkd⟩ := id hO
  cases bo with
  | none =>
    obtain ⟨rfl, rfl⟩ := hbo rfl
    have hr := run_append_owned_none (P := Tryz.prog) (w := w) B 25 o.type 27 i0 6 Tryz.underlying25 hi v K1.length css.flatten hown
    obtain rfl : K2 = [] := List.eq_nil_of_length_eq_zero hm
    unfold Oper.wp execOp
    simp only [ho, resolve, invoke, builtin, Sem.run_bind, Sem.run_pure, Result.andThen_ok, List.map_toArray, List.map_cons, List.map_nil, hs, hx, hr]
    exact h _ _ (by rw [List.append_nil]; exact hO) (grown_of_below (Below.refl _ _) _) (.inl rfl)
  | some ad =>
    subst hm
    obtain ⟨hl, hnews⟩ := rows_news hrow
    obtain ⟨v', w', hr, h2, h3, h4, h5⟩ := run_append_own_at (P := Tryz.prog) w B 25 o.type 27 i0 _ 6 104 Tryz.underlying25 hi hz0 hz1 hz2 rfl (by decide) v K1.length css.flatten hown ad K2.length cb (kidList K2.length cs2).flatten hl hnews (kidList_one hk) (by unfold maxLen; omega) (by omega) hB
    unfold Oper.wp execOp
    simp only [ho, resolve, invoke, builtin, Sem.run_bind, Sem.run_pure, Result.andThen_ok, List.map_toArray, List.map_cons, List.map_nil, hs, hx, hr]
    exact h _ _ (kids_app16 hcl hkd hk h2 h3 h5 (Nat.le_refl _)) h3 h5
theorem OwnsKids.full {S : Nat → Prop} {B : Nat} {v : Value} {kids : List Gv.Node} {w : World} (h : OwnsKids S B v kids w) (hne : kids ≠ []) : ∃ g cap, v = .slice (some ⟨g, 0, none⟩) kids.length cap := by
  obtain ⟨css, _, h2, _⟩ := h
  rcases h2.2 with ⟨_, h0⟩ | ⟨g, cap, _, rfl, _⟩
  · exact absurd (List.eq_nil_of_length_eq_zero h0) hne
  · exact ⟨g, cap, rfl⟩
theorem OwnsKids.parts2 {S : Nat → Prop} {B : Nat} {v : Value} {kids : List Gv.Node} {w : World} (h : OwnsKids S B v kids w) : ∃ (ao : Option Addr) (cap : Nat) (cs : Nat → List Value), v = .slice ao kids.length cap ∧ RowsAt (fun _ => True) w v kids.length cs ∧ (∀ j (h : j < kids.length), NodeAt S w (cs j) kids[j]) ∧ (ao = none → kids.length = 0 ∧ cap = 0) := by
  obtain ⟨ao, cap, cs, e, h1, h2⟩ := h.parts
  refine ⟨ao, cap, cs, e, h1, h2, fun e0 => ?_⟩
  obtain ⟨css, _, hown, _⟩ := h
  rcases hown.2 with ⟨e2, h0⟩ | ⟨g, cap', cur, e2, _⟩
  · rw [e2] at e
    injection e with _ _ e3
    exact ⟨h0, e3.symm⟩
  · rw [e2] at e
    injection e with e3
    rw [e0] at e3
    cases e3
theorem Boxed.same {W : World} {B : Nat} {t : TypeId} {v u : Value} (h : Boxed W B t v) (k : Boxed W B t u) : v = u := by
  have e := (show W.heap[B]? = _ from h).symm.trans k
  simpa using e
/-- The last node stored anew. -/
theorem kids_put {S : Nat → Prop} {B g n cap q : Nat} {w : World} {T : List Gv.Node} {z x : Gv.Node} {u0 u1 u2 u3 u4 u5 : Value} (hO : OwnsKids S B (.slice (some ⟨g, 0, none⟩) n cap) (T ++ [z]) w) (hq : T.length = q) (hn : n = q + 1)
    (hx : NodeAt (fun b => S b ∧ some b ≠ (Value.slice (some ⟨g, 0, none⟩) n cap).ownBlock) w [u0, u1, u2, u3, u4, u5] x) :
    OwnsKids S B (.slice (some ⟨g, 0, none⟩) n cap) (T ++ [x]) (sixSet w g (q * 6) u0 u1 u2 u3 u4 u5) ∧ w.grownBy (sixSet w g (q * 6) u0 u1 u2 u3 u4 u5) (some g) := by
  obtain ⟨css, hcl, hown, hkd⟩ := hO
  have hl : (T ++ [z]).length = q + 1 := by simp [hq]
  have h6 : ∀ c ∈ css, c.length = 6 := fun c hc => by
    obtain ⟨j, hj, rfl⟩ := List.mem_iff_getElem.1 hc
    exact (hkd j hj (by omega)).six
  have hnl : n = (T ++ [z]).length := by omega
  rw [hnl] at hown
  obtain ⟨ho, hg⟩ := row_six h6 (hcl.trans hl) hown u0 u1 u2 u3 u4 u5
  rw [← hnl] at ho
  have st : Stay (fun b => S b ∧ some b ≠ (Value.slice (some ⟨g, 0, none⟩) n cap).ownBlock) w (sixSet w g (q * 6) u0 u1 u2 u3 u4 u5) := stay_grown hg (fun g' e x => x.2 (by injection e with e; subst e; simp [Value.ownBlock]))
  refine ⟨⟨css.dropLast ++ [[u0, u1, u2, u3, u4, u5]], ?_, ?_, fun j a b => ?_⟩, hg⟩
  · simp [hcl]
  · rw [show (T ++ [x]).length = n by simp; omega]; exact ho
  · have hd : css.dropLast.length = q := by rw [List.length_dropLast, hcl, hl]; rfl
    by_cases hj : j < css.dropLast.length
    · rw [List.getElem_append_left hj, List.getElem_append_left (by omega), List.getElem_dropLast]
      have := (hkd j (by omega) (by omega)).stay st
      rwa [List.getElem_append_left (by omega)] at this
    · have hj2 : j = css.dropLast.length := by simp at a hj ⊢; omega
      subst hj2
      rw [List.getElem_append_right (Nat.le_refl _), List.getElem_append_right (by omega)]
      simp only [Nat.sub_self, hd, hq, List.getElem_cons_zero]
      exact hx.stay st

/-- TWO ROWS UNDER WAY: what their variables' boxes hold, and what the rows are. -/
structure StA (S : Nat → Prop) (n₀ Bl Bt : Nat) (Wr : World) (xl xt vl vt : Value) (L T : List Gv.Node) (W : World) : Prop where
  bl : Boxed W Bl 25 xl
  bt : Boxed W Bt 25 xt
  ol : OwnsKids S n₀ vl L W
  ot : OwnsKids S n₀ vt T W
  ne : vl.ownBlock = none ∨ vl.ownBlock ≠ vt.ownBlock
  l1 : n₀ ≤ Bl
  l2 : n₀ ≤ Bt
  lt : Bl ≠ Bt
  kb : Below n₀ Wr W
  ko : KeepsOthers Wr W
  hS : ∀ b, S b → b < n₀

theorem boxed_not_own {S : Nat → Prop} {n₀ B : Nat} {x v : Value} {kids : List Gv.Node} {W : World} (hb : Boxed W B 25 x) (h : OwnsKids S n₀ v kids W) : some B ≠ v.ownBlock := by
  obtain ⟨css, _, hr, _⟩ := h
  exact hb.not_row (by decide) hr
theorem own_cells {S : Nat → Prop} {n₀ : Nat} {v : Value} {kids : List Gv.Node} {W : World} (h : OwnsKids S n₀ v kids W) {j : Nat} (e : v.ownBlock = some j) : n₀ ≤ j ∧ j < W.heap.size ∧ ∀ o : Obj, W.heap[j]? = some o → o.isCells = true := by
  obtain ⟨css, _, hr, _⟩ := h
  have h1 := World.ownsRow.lt hr j e
  refine ⟨h1.1, h1.2, fun o ho => ?_⟩
  rcases hr.2 with ⟨rfl, _⟩ | ⟨g, cap, cur, rfl, _, hgb, _⟩
  · cases e
  · obtain rfl : g = j := by simpa [Value.ownBlock] using e
    rw [hgb] at ho; cases ho; rfl
section
variable {S : Nat → Prop} {n₀ Bl Bt : Nat} {Wr : World} {xl xt vl vt : Value} {L T : List Gv.Node} {W W' : World}
theorem StA.low (h : StA S n₀ Bl Bt Wr xl xt vl vt L T W) : n₀ ≤ W.heap.size := Nat.le_trans h.l1 (Nat.le_of_lt h.bl.lt)
/-- What neither row nor box turns. -/
theorem StA.far (h : StA S n₀ Bl Bt Wr xl xt vl vt L T W) {row : Option Nat} (hg : W.grownBy W' row) (hr : ∀ r, row = some r → n₀ ≤ r ∧ r ≠ Bl ∧ r ≠ Bt ∧ some r ≠ vl.ownBlock ∧ some r ≠ vt.ownBlock) (hc : ∀ (j : Nat) (o : Obj), row = some j → W.heap[j]? = some o → o.isCells = true) : StA S n₀ Bl Bt Wr xl xt vl vt L T W' where
  bl := h.bl.kept hg (fun e => (hr _ e.symm).2.1 rfl)
  bt := h.bt.kept hg (fun e => (hr _ e.symm).2.2.1 rfl)
  ol := h.ol.far hg (fun g e x => by have := (hr g e).1; have := h.hS g x; omega) (by
    cases row with
    | none => cases hv : vl.ownBlock with
      | none => exact .inl rfl
      | some r => exact .inr (by simp)
    | some r => exact .inr fun e => (hr r rfl).2.2.2.1 e.symm)
  ot := h.ot.far hg (fun g e x => by have := (hr g e).1; have := h.hS g x; omega) (by
    cases row with
    | none => cases hv : vt.ownBlock with
      | none => exact .inl rfl
      | some r => exact .inr (by simp)
    | some r => exact .inr fun e => (hr r rfl).2.2.2.2 e.symm)
  ne := h.ne
  l1 := h.l1
  l2 := h.l2
  lt := h.lt
  kb := h.kb.grown hg h.low (fun k e => (hr k e).1)
  ko := h.ko.trans (KeepsOthers.of_grownBy hg hc)
  hS := h.hS
theorem StA.on (h : StA S n₀ Bl Bt Wr xl xt vl vt L T W) (hb : Below W.heap.size W W') : StA S n₀ Bl Bt Wr xl xt vl vt L T W' :=
  h.far (grown_of_below hb none) (fun _ e => by cases e) (fun _ _ e => by cases e)
/-- The first row longer. -/
theorem StA.appL (h : StA S n₀ Bl Bt Wr xl xt vl vt L T W) {vl' : Value} {L' : List Gv.Node} (ho : OwnsKids S n₀ vl' L' W') (hg : W.grownBy W' vl.ownBlock) (hat : vl'.ownBlock = vl.ownBlock ∨ vl'.ownBlock = some W.heap.size) : StA S n₀ Bl Bt Wr xl xt vl' vt L' T W' where
  bl := h.bl.kept hg (boxed_not_own h.bl h.ol)
  bt := h.bt.kept hg (boxed_not_own h.bt h.ol)
  ol := ho
  ot := h.ot.far hg (fun g e x => by have := (own_cells h.ol e).1; have := h.hS g x; omega) (by
    rcases h.ne with e | e
    · rw [e]; cases hv : vt.ownBlock with
      | none => exact .inl rfl
      | some r => exact .inr (by simp)
    · exact .inr fun x => e x.symm)
  ne := by
    rcases hat with e | e
    · rw [e]; exact h.ne
    · rw [e]; exact .inr fun x => by have := (own_cells h.ot x.symm).2.1; omega
  l1 := h.l1
  l2 := h.l2
  lt := h.lt
  kb := h.kb.grown hg h.low (fun k e => (own_cells h.ol e).1)
  ko := h.ko.trans (KeepsOthers.of_grownBy hg (fun j o e => (own_cells h.ol e).2.2 o))
  hS := h.hS
/-- The second row longer. -/
theorem StA.appT (h : StA S n₀ Bl Bt Wr xl xt vl vt L T W) {vt' : Value} {T' : List Gv.Node} (ho : OwnsKids S n₀ vt' T' W') (hg : W.grownBy W' vt.ownBlock) (hat : vt'.ownBlock = vt.ownBlock ∨ vt'.ownBlock = some W.heap.size) : StA S n₀ Bl Bt Wr xl xt vl vt' L T' W' where
  bl := h.bl.kept hg (boxed_not_own h.bl h.ot)
  bt := h.bt.kept hg (boxed_not_own h.bt h.ot)
  ol := h.ol.far hg (fun g e x => by have := (own_cells h.ot e).1; have := h.hS g x; omega) h.ne
  ot := ho
  ne := by
    rcases hat with e | e
    · rw [e]; exact h.ne
    · rw [e]
      cases hv : vl.ownBlock with
      | none => exact .inl rfl
      | some r => exact .inr fun x => by have := (own_cells h.ol hv).2.1; injection x with x; omega
  l1 := h.l1
  l2 := h.l2
  lt := h.lt
  kb := h.kb.grown hg h.low (fun k e => (own_cells h.ot e).1)
  ko := h.ko.trans (KeepsOthers.of_grownBy hg (fun j o e => (own_cells h.ot e).2.2 o))
  hS := h.hS
theorem StA.setL (h : StA S n₀ Bl Bt Wr xl xt vl vt L T W) (y : Value) : StA S n₀ Bl Bt Wr y xt vl vt L T (W.setCell ⟨Bl, 0, none⟩ y) where
  bl := h.bl.set y
  bt := h.bt.other (fun e => h.lt e.symm) y
  ol := h.ol.far (grownBy_setCell' W Bl y) (fun g e x => by injection e with e; have := h.l1; have := h.hS g x; omega) (.inr fun e => boxed_not_own h.bl h.ol e.symm)
  ot := h.ot.far (grownBy_setCell' W Bl y) (fun g e x => by injection e with e; have := h.l1; have := h.hS g x; omega) (.inr fun e => boxed_not_own h.bl h.ot e.symm)
  ne := h.ne
  l1 := h.l1
  l2 := h.l2
  lt := h.lt
  kb := h.kb.setCell (p := ⟨Bl, 0, none⟩) h.l1 y
  ko := h.ko.trans (KeepsOthers.setCell _ _ _)
  hS := h.hS
theorem StA.setT (h : StA S n₀ Bl Bt Wr xl xt vl vt L T W) (y : Value) : StA S n₀ Bl Bt Wr xl y vl vt L T (W.setCell ⟨Bt, 0, none⟩ y) where
  bl := h.bl.other h.lt y
  bt := h.bt.set y
  ol := h.ol.far (grownBy_setCell' W Bt y) (fun g e x => by injection e with e; have := h.l2; have := h.hS g x; omega) (.inr fun e => boxed_not_own h.bt h.ol e.symm)
  ot := h.ot.far (grownBy_setCell' W Bt y) (fun g e x => by injection e with e; have := h.l2; have := h.hS g x; omega) (.inr fun e => boxed_not_own h.bt h.ot e.symm)
  ne := h.ne
  l1 := h.l1
  l2 := h.l2
  lt := h.lt
  kb := h.kb.setCell (p := ⟨Bt, 0, none⟩) h.l2 y
  ko := h.ko.trans (KeepsOthers.setCell _ _ _)
  hS := h.hS
/-- The second row anew: nothing. -/
theorem StA.nilT (h : StA S n₀ Bl Bt Wr xl xt vl vt L T W) : StA S n₀ Bl Bt Wr xl xt vl (.slice none 0 0) L [] W where
  bl := h.bl
  bt := h.bt
  ol := h.ol
  ot := kids_nil _ _ _
  ne := by
    cases hv : vl.ownBlock with
    | none => exact .inl rfl
    | some r => exact .inr (by simp [Value.ownBlock])
  l1 := h.l1
  l2 := h.l2
  lt := h.lt
  kb := h.kb
  ko := h.ko
  hS := h.hS
/-- The second row's last node stored. -/
theorem StA.putT {g n cap q : Nat} {z x : Gv.Node} {u0 u1 u2 u3 u4 u5 : Value} (h : StA S n₀ Bl Bt Wr xl xt vl (.slice (some ⟨g, 0, none⟩) n cap) L (T ++ [z]) W) (hq : T.length = q) (hn : n = q + 1) (hx : NodeAt S W [u0, u1, u2, u3, u4, u5] x) :
    StA S n₀ Bl Bt Wr xl xt vl (.slice (some ⟨g, 0, none⟩) n cap) L (T ++ [x]) (sixSet W g (q * 6) u0 u1 u2 u3 u4 u5) := by
  have hlo := (own_cells h.ot (j := g) rfl).1
  obtain ⟨ho, hg⟩ := kids_put h.ot hq hn (hx.mono fun b hb _ => ⟨hb, by have := h.hS b hb; simp [Value.ownBlock]; omega⟩)
  exact h.appT ho hg (.inl rfl)
/-- Told anew from another world on. -/
theorem StA.from (h : StA S n₀ Bl Bt Wr xl xt vl vt L T W) (W1 : World) (hb : Below n₀ W1 W) (hk : KeepsOthers W1 W) : StA S n₀ Bl Bt W1 xl xt vl vt L T W := { h with kb := hb, ko := hk }
end
theorem step_app_more {S S2 : Nat → Prop} {B : Nat} {K1 K2 : List Gv.Node} {v : Value} {bo : Option Addr} {m cb : Nat} {cs2 : Nat → List Value} {ops : Array Oper} {o : Oper} {a : Act} {K : Act → World → Prop} {Q : Exit → Act → World → Prop} {E : Prop} {w : World} (hgd : o.guard = none) (s x : Operand)
    (ho : o.op = .call { callee := .builtin .append, args := #[s, x], argTypes := #[25, 25] }) (hs : a.eval s = v) (hO : OwnsKids S B v K1 w) (hx : a.eval x = .slice bo m cb) (hrow : RowsAt S2 w (.slice bo m cb) m cs2) (hm : K2.length = m) (hk : ∀ j (h : j < K2.length), NodeAt (fun b => S b ∧ some b ≠ v.ownBlock) w (cs2 j) K2[j]) (hbo : bo = none → m = 0 ∧ cb = 0) (hlen : K1.length + m ≤ 1000001) (hB : B ≤ w.heap.size)
    (h : ∀ v' w', OwnsKids S B v' (K1 ++ K2) w' → w.grownBy w' v.ownBlock → (v'.ownBlock = v.ownBlock ∨ v'.ownBlock = some w.heap.size) → K (a.put o.dst v') w') : if Region.wanted o (yielded ops a.tmps) = true then Oper.wp Tryz.prog o a w K Q else E := by
  rw [if_pos (by simp [Region.wanted, hgd])]
  exact wp_app_more s x ho hs hO hx hrow hm hk hbo hlen hB h
/-- The last node's cells, and that they may be written. -/
theorem last_cells {S : Nat → Prop} {B g n cap q : Nat} {w : World} {T : List Gv.Node} {x : Gv.Node} (h : OwnsKids S B (.slice (some ⟨g, 0, none⟩) n cap) (T ++ [x]) w) (hq : T.length = q) :
    (∃ y0 y1 y2 y3 y4 y5, w.cell? ⟨g, q * 6, none⟩ = some y0 ∧ w.cell? ⟨g, q * 6 + 1, none⟩ = some y1 ∧ w.cell? ⟨g, q * 6 + 2, none⟩ = some y2 ∧ w.cell? ⟨g, q * 6 + 3, none⟩ = some y3 ∧ w.cell? ⟨g, q * 6 + 4, none⟩ = some y4 ∧ w.cell? ⟨g, q * 6 + 5, none⟩ = some y5) ∧ ∀ j, w.frozen? ⟨g, j, none⟩ = false := by
  obtain ⟨_, _, e0⟩ := h.full (by simp)
  injection e0 with _ e0 _
  subst e0
  have h1 := h.mono (S' := fun _ => True) fun _ _ _ => trivial
  obtain ⟨ao, cap', cs, e, hr, hn, -, -⟩ := h1.rows fun _ _ _ => trivial
  obtain ⟨css, _, hown, _⟩ := h
  refine ⟨?_, fun j => hown.frozenAt j⟩
  injection e with e1 e2 e3
  subst e1
  have hj : q < (T ++ [x]).length := by simp [hq]
  obtain ⟨k, sp, nm, d, as', kd, ao2, bo2, ca2, cb2, cs2, -, hce, -, -, -, -, -⟩ := (hn q hj).open'
  obtain ⟨b, off, e4, p0, p1, p2, p3, p4, p5⟩ := hr.cells hj hce
  injection e4 with e5
  injection e5 with e6 e7
  subst e6
  subst e7
  rw [Nat.zero_add] at p0 p1 p2 p3 p4 p5
  exact ⟨_, _, _, _, _, _, p0, p1, p2, p3, p4, p5⟩

/-- .. and a node's box beside them. -/
structure StX (S : Nat → Prop) (n₀ Bl Bt Bx : Nat) (A : Array Value) (Wr : World) (xl xt vl vt : Value) (L T : List Gv.Node) (W : World) : Prop where
  st : StA S n₀ Bl Bt Wr xl xt vl vt L T W
  cx : Cells W Bx 27 A
  nl : some Bx ≠ vl.ownBlock
  nt : some Bx ≠ vt.ownBlock
  n1 : Bx ≠ Bl
  n2 : Bx ≠ Bt
section
variable {S : Nat → Prop} {n₀ Bl Bt Bx : Nat} {A : Array Value} {Wr : World} {xl xt vl vt : Value} {L T : List Gv.Node} {W W' : World}
theorem StX.on (h : StX S n₀ Bl Bt Bx A Wr xl xt vl vt L T W) (hb : Below W.heap.size W W') : StX S n₀ Bl Bt Bx A Wr xl xt vl vt L T W' := ⟨h.st.on hb, h.cx.on hb, h.nl, h.nt, h.n1, h.n2⟩
theorem StX.appL (h : StX S n₀ Bl Bt Bx A Wr xl xt vl vt L T W) {vl' : Value} {L' : List Gv.Node} (ho : OwnsKids S n₀ vl' L' W') (hg : W.grownBy W' vl.ownBlock) (hat : vl'.ownBlock = vl.ownBlock ∨ vl'.ownBlock = some W.heap.size) : StX S n₀ Bl Bt Bx A Wr xl xt vl' vt L' T W' :=
  ⟨h.st.appL ho hg hat, (hg.block Bx h.cx.lt h.nl).trans h.cx, by
    rcases hat with e | e
    · rw [e]; exact h.nl
    · rw [e]; intro x; injection x with x; have := h.cx.lt; omega, h.nt, h.n1, h.n2⟩
theorem StX.appT (h : StX S n₀ Bl Bt Bx A Wr xl xt vl vt L T W) {vt' : Value} {T' : List Gv.Node} (ho : OwnsKids S n₀ vt' T' W') (hg : W.grownBy W' vt.ownBlock) (hat : vt'.ownBlock = vt.ownBlock ∨ vt'.ownBlock = some W.heap.size) : StX S n₀ Bl Bt Bx A Wr xl xt vl vt' L T' W' :=
  ⟨h.st.appT ho hg hat, (hg.block Bx h.cx.lt h.nt).trans h.cx, h.nl, by
    rcases hat with e | e
    · rw [e]; exact h.nt
    · rw [e]; intro x; injection x with x; have := h.cx.lt; omega, h.n1, h.n2⟩
theorem StX.setL (h : StX S n₀ Bl Bt Bx A Wr xl xt vl vt L T W) (y : Value) : StX S n₀ Bl Bt Bx A Wr y xt vl vt L T (W.setCell ⟨Bl, 0, none⟩ y) := ⟨h.st.setL y, h.cx.other 0 y h.n1, h.nl, h.nt, h.n1, h.n2⟩
theorem StX.setT (h : StX S n₀ Bl Bt Bx A Wr xl xt vl vt L T W) (y : Value) : StX S n₀ Bl Bt Bx A Wr xl y vl vt L T (W.setCell ⟨Bt, 0, none⟩ y) := ⟨h.st.setT y, h.cx.other 0 y h.n2, h.nl, h.nt, h.n1, h.n2⟩
theorem StX.putT {g n cap q : Nat} {z x : Gv.Node} {u0 u1 u2 u3 u4 u5 : Value} (h : StX S n₀ Bl Bt Bx A Wr xl xt vl (.slice (some ⟨g, 0, none⟩) n cap) L (T ++ [z]) W) (hq : T.length = q) (hn : n = q + 1) (hx : NodeAt S W [u0, u1, u2, u3, u4, u5] x) :
    StX S n₀ Bl Bt Bx A Wr xl xt vl (.slice (some ⟨g, 0, none⟩) n cap) L (T ++ [x]) (sixSet W g (q * 6) u0 u1 u2 u3 u4 u5) := by
  have hne : Bx ≠ g := fun e => h.nt (by rw [e]; rfl)
  exact ⟨h.st.putT hq hn hx, (((((h.cx.other _ _ hne).other _ _ hne).other _ _ hne).other _ _ hne).other _ _ hne).other _ _ hne, h.nl, h.nt, h.n1, h.n2⟩
theorem StX.nilT (h : StX S n₀ Bl Bt Bx A Wr xl xt vl vt L T W) : StX S n₀ Bl Bt Bx A Wr xl xt vl (.slice none 0 0) L [] W := ⟨h.st.nilT, h.cx, h.nl, by simp [Value.ownBlock], h.n1, h.n2⟩
/-- A node that lies below stays. -/
theorem StX.node (h : StX S n₀ Bl Bt Bx A Wr xl xt vl vt L T W) {c : List Value} {n : Gv.Node} (hn : NodeAt S Wr c n) : NodeAt S W c n := hn.stay (fun b o hb _ => h.st.kb.cell (p := ⟨b, o, none⟩) (h.st.hS b hb))
end
end Go.Proofs.YtdhondndidoniaaGreatDoor
namespace Go.Proofs.YtdhondndidoniaaGreatDoor
open Go

section
variable {P : Program} {ops : Array Oper} {Q : Exit → Act → World → Prop}

/-- How many have not come up. -/
def unlL : List Bool → Nat
  | [] => 0
  | b :: l => (if b then 0 else 1) + unlL l
def unl (l : Array Bool) : Nat := unlL l.toList
theorem unlL_set : ∀ (l : List Bool) (i : Nat), l[i]? = some false → unlL (l.set i true) + 1 = unlL l
  | [], i, h => by simp at h
  | b :: l, 0, h => by
    simp at h
    subst h
    simp [unlL]; omega
  | b :: l, i + 1, h => by
    have := unlL_set l i (by simpa using h)
    simp only [List.set_cons_succ, unlL]
    omega
theorem unl_set {listed : Array Bool} {i : Nat} (h : listed.getD i true = false) : unl (listed.setIfInBounds i true) + 1 = unl listed := by
  unfold unl
  rw [Array.toList_setIfInBounds]
  refine unlL_set _ _ ?_
  rcases Nat.lt_or_ge i listed.size with h' | h'
  · simp [h'] at h
    simp [h', h]
  · simp [Array.getElem?_eq_none h'] at h

/-- The operation that stands in the last one's place. -/
def nopOf (o : Oper) : Oper := { o with op := .move (.const (.bool true)) }
def lastNop (ops : Array Oper) (n : Nat) (o : Oper) : Array Oper := ops.setIfInBounds n (nopOf o)
/-- The last one waits for all others, and each waits for earlier ones alone. -/
def lastB (ops : Array Oper) (n : Nat) : Bool :=
  ((List.range n).all fun j => Region.waitsFor .any ops n j) &&
  ((List.range ops.size).all fun j => match ops[j]? with
    | some o => o.after.all fun e => !Region.binds .any e || decide (e.on < j)
    | none => true)
/-- What is asked behind all but the store. -/
def lastQ (P : Program) (o : Oper) (Q : Exit → Act → World → Prop) : Exit → Act → World → Prop
  | .normal, a, w => o.wp P a w (Q .normal) Q
  | e, a, w => Q e a w
theorem lastQ_out {o : Oper} {e : Exit} {a : Act} {w : World} (h : e ≠ .normal) (hq : lastQ P o Q e a w) : Q e a w := by
  cases e <;> first | exact hq | exact absurd rfl h

theorem nop_at {n : Nat} {o : Oper} (ho : ops[n]? = some o) (j : Nat) : (lastNop ops n o)[j]? = if j = n then some (nopOf o) else ops[j]? := by
  have hlt : n < ops.size := (Array.getElem?_eq_some_iff.1 ho).1
  unfold lastNop
  rw [Array.getElem?_setIfInBounds]
  by_cases h : n = j
  · subst h; simp [hlt]
  · rw [if_neg h, if_neg (fun e => h e.symm)]
theorem nop_ready {n : Nat} {o : Oper} (ho : ops[n]? = some o) (listed : Array Bool) : Region.ready .any (lastNop ops n o) listed = Region.ready .any ops listed := by
  unfold Region.ready
  have hs : (lastNop ops n o).size = ops.size := by unfold lastNop; simp
  rw [hs]
  refine List.filter_congr fun i _ => ?_
  rw [nop_at ho]
  by_cases h : i = n
  · subst h; rw [if_pos rfl, ho]; rfl
  · rw [if_neg h]
theorem nop_yielded {n : Nat} {o : Oper} (ho : ops[n]? = some o) (tmps : Array Value) : yielded (lastNop ops n o) tmps = yielded ops tmps := by
  funext j
  unfold yielded
  rw [nop_at ho]
  by_cases h : j = n
  · subst h; rw [if_pos rfl, ho]; rfl
  · rw [if_neg h]
theorem wp_both {o : Oper} {a : Act} {w : World} {K K' : Act → World → Prop} {Q' : Exit → Act → World → Prop} (hq : ∀ e a w, e ≠ .normal → Q' e a w → Q e a w) (h : ∀ a w, K' a w → K a w)
    (hh : o.wp P a w K' Q') : o.wp P a w K Q := by
  have hL : LetsOut Q' → LetsOut Q := fun ⟨a, w, h⟩ => ⟨a, w, hq _ _ _ (by simp) h⟩
  unfold Oper.wp at *
  generalize (execOp a.eval o).run P w = r at *
  cases r with
  | ok n w' =>
    cases n <;> simp only [Oper.upon] at hh ⊢ <;>
      first
        | exact h _ _ hh
        | exact Calls.mono hh (fun e w'' he => by cases e <;> first | exact h _ _ he | exact hq _ _ _ (by simp) he | exact hL he)
        | exact Rows.mono hh (fun _ _ he => h _ _ he)
  | halt x w' => cases x <;> simp only [Oper.upon] at hh ⊢ <;> first | exact hq _ _ _ (by simp) hh | exact hh
theorem ready_some {n : Nat} {listed : Array Bool} (hB : lastB ops n = true) (hs : listed.size = ops.size) : ∀ j, j < ops.size → listed.getD j true = false → Region.ready .any ops listed ≠ [] := by
  intro j
  induction j using Nat.strongRecOn with
  | _ j ih =>
    intro hj hun
    unfold lastB at hB
    rw [Bool.and_eq_true] at hB
    have h2 := List.all_eq_true.1 hB.2 j (List.mem_range.2 hj)
    have hoj : ops[j]? = some ops[j] := Array.getElem?_eq_getElem hj
    rw [hoj] at h2
    dsimp only at h2
    by_cases hall : ∀ e ∈ ops[j].after, Region.binds .any e = true → listed.getD e.on false = true
    · intro h0
      have : j ∈ Region.ready .any ops listed := mem_ready.2 ⟨hun, _, hoj, hall⟩
      rw [h0] at this
      cases this
    · obtain ⟨e, he⟩ := Classical.not_forall.1 hall
      obtain ⟨he, hx⟩ := Classical.not_imp.1 he
      obtain ⟨hb, hne⟩ := Classical.not_imp.1 hx
      have h3 := Array.all_eq_true_iff_forall_mem.1 h2 e he
      rw [hb] at h3
      have hlt : e.on < j := by simpa using h3
      refine ih e.on hlt (by omega) ?_
      have hin : e.on < listed.size := by omega
      simp [hin] at hne ⊢
      exact hne
theorem ready_none {n : Nat} {o : Oper} {listed : Array Bool} (ho : ops[n]? = some o) (hn : ops.size = n + 1) (hB : lastB ops n = true) (hr : n ∈ Region.ready .any ops listed) : Region.ready .any ops (listed.setIfInBounds n true) = [] := by
  obtain ⟨hun, o', ho', hall⟩ := mem_ready.1 hr
  rw [ho] at ho'
  injection ho' with ho'
  subst ho'
  unfold lastB at hB
  rw [Bool.and_eq_true] at hB
  cases hc : Region.ready .any ops (listed.setIfInBounds n true) with
  | nil => rfl
  | cons j t =>
    exfalso
    have hj : j ∈ Region.ready .any ops (listed.setIfInBounds n true) := by rw [hc]; simp
    obtain ⟨hju, oj, hoj, _⟩ := mem_ready.1 hj
    have hjlt : j < ops.size := (Array.getElem?_eq_some_iff.1 hoj).1
    by_cases hjn : j = n
    · subst hjn
      rcases Nat.lt_or_ge j listed.size with h' | h'
      · simp [h'] at hju
      · simp [Array.getElem?_eq_none h'] at hun
    · have h1 := List.all_eq_true.1 hB.1 j (List.mem_range.2 (by omega))
      obtain ⟨on', hon, e, he, hb, hone⟩ := Region.waitsFor_spec h1
      rw [ho] at hon
      injection hon with hon
      subst hon
      have h2 := hall e he hb
      rw [hone] at h2
      rw [getD_set_ne true (fun e => hjn e.symm)] at hju
      rw [getD_both hju] at h2
      cases h2

theorem wpAny_last {n : Nat} {o : Oper} (ho : ops[n]? = some o) (hn : ops.size = n + 1) (hd : o.dst = none) (hg : o.guard = none) (hB : lastB ops n = true) :
    ∀ (fuel : Nat) (listed : Array Bool) (a : Act) (w : World), listed.size = ops.size → listed.getD n true = false → unl listed ≤ fuel →
      wpAny P .any (lastNop ops n o) (lastQ P o Q) fuel listed a w → wpAny P .any ops Q fuel listed a w := by
  intro fuel
  induction fuel with
  | zero =>
    intro listed a w _ hun hf _
    have := unl_set hun
    omega
  | succ fuel ih =>
    intro listed a w hs hun hf h
    refine ⟨fun h0 => absurd h0 (ready_some hB hs n (by omega) hun), fun i hi => ?_⟩
    have h1 := h.2 i (by rw [nop_ready ho]; exact hi)
    by_cases hin : i = n
    · subst hin
      have hnone := ready_none ho hn hB hi
      have hK : wpAny P .any (lastNop ops i o) (lastQ P o Q) fuel (listed.setIfInBounds i true) a w := by
        unfold wpOp at h1
        rw [nop_at ho, if_pos rfl] at h1
        dsimp only at h1
        have hw : Region.wanted (nopOf o) (yielded (lastNop ops i o) a.tmps) = true := by
          show Region.wanted { o with op := _ } _ = true
          simp [Region.wanted, hg]
        rw [if_pos hw] at h1
        rcases h1 with h1 | ⟨h1, _⟩
        · have h2 : wpAny P .any (lastNop ops i o) (lastQ P o Q) fuel (listed.setIfInBounds i true) (a.put o.dst (.bool true)) w := h1
          rw [hd] at h2
          exact h2
        · exact absurd (show noRoomEvent ∈ (#[] : Array Event) from h1.1) (by simp)
      have hq : o.wp P a w (Q .normal) Q := by
        cases fuel with
        | zero => exact hK.2
        | succ f => exact hK.1 (by rw [nop_ready ho]; exact hnone)
      unfold wpOp
      rw [ho]
      dsimp only
      rw [if_pos (by simp [Region.wanted, hg])]
      refine .inl (Oper.wp_mono (fun a w hq => ?_) hq)
      cases fuel with
      | zero => exact ⟨hnone, hq⟩
      | succ f => exact ⟨fun _ => hq, fun j hj => by rw [hnone] at hj; cases hj⟩
    · have hiu := (mem_ready.1 hi).1
      have hstep := unl_set hiu
      have hK : ∀ a w, wpAny P .any (lastNop ops n o) (lastQ P o Q) fuel (listed.setIfInBounds i true) a w → wpAny P .any ops Q fuel (listed.setIfInBounds i true) a w := fun a w hk =>
        ih _ a w (by simpa using hs) (by rw [getD_set_ne true hin]; exact hun) (by omega) hk
      unfold wpOp at h1 ⊢
      rw [nop_at ho, if_neg hin, nop_yielded ho] at h1
      split
      · rename_i hx
        rw [hx] at h1
        exact hK _ _ h1
      · rename_i oi hx
        rw [hx] at h1
        dsimp only at h1
        split
        · rename_i hw
          rw [if_pos hw] at h1
          exact h1.imp (wp_both (fun _ _ _ => lastQ_out) hK) (fun ⟨x, a, w, hl⟩ => ⟨x, a, w, lastQ_out (by simp) hl⟩)
        · rename_i hw
          rw [if_neg hw] at h1
          exact hK _ _ h1
theorem unl_replicate (m : Nat) : unl (Array.replicate m false) = m := by
  unfold unl
  rw [Array.toList_replicate]
  induction m with
  | zero => rfl
  | succ m ih => rw [List.replicate_succ, unlL, ih]; simp; omega
/-- THE STORE IS PUT OFF. -/
theorem wp_region_last {id n : Nat} {o : Oper} {S : World → Prop} {a : Act} {w : World} (hm : P.follows .mixedOrders = true) (ho : ops[n]? = some o) (hn : ops.size = n + 1) (hd : o.dst = none) (hg : o.guard = none) (hB : lastB ops n = true) (hS : S w.drew)
    (h : S w.drew → wpAnyH P .any (lastNop ops n o) (lastQ P o Q) S (n + 1) (Array.replicate (n + 1) false) a w.drew) : (Code.region id ops true).wp P Q a w := by
  refine wp_region_any hm ?_
  rw [hn]
  refine wpAny_last ho hn hd hg hB _ _ _ _ (by simp [hn]) ?_ (by rw [unl_replicate]; exact Nat.le_refl _) (wpAny_of_held _ _ _ _ (h hS))
  simp
end
end Go.Proofs.YtdhondndidoniaaGreatDoor
namespace Go.Proofs.YtdhondndidoniaaGreatDoor
open Go

theorem rowsIn_round {P : Program} {row : String} {args : Array Value} {w : World} {R : Value → World → Prop} (l n : Nat) (h : Rows P row args w R) : RowsIn (Fence.wide.inRound l) n P row args w R := fun c cs _ =>
  let ⟨v, w', r, s⟩ := h c cs
  ⟨v, w', r, by rw [fenced_inRound]; exact stepsIn_wide.2 s⟩
theorem wpIn_round {P : Program} {o : Oper} {a : Act} {w : World} {K : Act → World → Prop} {Q : Exit → Act → World → Prop} (l n : Nat) (hd : ∀ c, o.op ≠ .defer c) (h : o.wp P a w K Q) : o.wpIn (Fence.wide.inRound l) n P a w K Q := by
  refine ⟨fun f _ => trivial, ?_⟩
  unfold Oper.wp at h
  rw [Oper.semAt_eq _ _ _ hd]
  generalize (execOp a.eval o).run P w = r at *
  cases r with
  | ok x w' =>
    cases x <;> first
      | exact h
      | exact ⟨fun e => (by cases e), CallsIn.inRound l (callsIn_wide.2 h)⟩
      | exact ⟨fun e => (by cases e), rowsIn_round l _ h⟩
      | exact h.elim
  | halt x w' => cases x <;> first | exact h | exact h.elim
theorem wpOpIn_round {P : Program} {ops : Array Oper} {Q : Exit → Act → World → Prop} {i : Nat} {K : Act → World → Prop} {a : Act} {w : World} (l n : Nat) (hd : ∀ (j : Nat) (o : Oper), ops[j]? = some o → ∀ c, o.op ≠ .defer c) (hQ : ¬ LetsOut Q) (h : wpOp P ops Q i K a w) : wpOpIn (Fence.wide.inRound l) n P ops Q i K a w := by
  unfold wpOp at h
  unfold wpOpIn
  split
  · rename_i ho; simp only [ho] at h; exact h
  · rename_i o ho
    simp only [ho] at h
    split
    · rename_i hw
      rw [if_pos hw] at h
      exact wpIn_round l n (hd i o ho) (h.resolve_right fun x => hQ x.2)
    · rename_i hw
      rw [if_neg hw] at h
      exact ⟨fun _ _ => trivial, h⟩
theorem wpAnyIn_round {P : Program} {md : Region.Mode} {ops : Array Oper} {Q : Exit → Act → World → Prop} (l n : Nat) (hd : ∀ (j : Nat) (o : Oper), ops[j]? = some o → ∀ c, o.op ≠ .defer c) (hQ : ¬ LetsOut Q) : ∀ (fuel : Nat) (listed : Array Bool) (a : Act) (w : World), wpAny P md ops Q fuel listed a w → wpAnyIn (Fence.wide.inRound l) n P md ops Q fuel listed a w
  | 0, _, _, _, h => h
  | fuel + 1, _, _, _, h => ⟨h.1, fun i hi => wpOpIn_mono (fun a' w' h' => wpAnyIn_round l n hd hQ fuel _ a' w' h') (wpOpIn_round l n hd hQ (h.2 i hi))⟩
def noDefer (ops : Array Oper) : Bool := ops.toList.all fun o => match o.op with | .defer _ => false | _ => true
theorem noDefer_at {ops : Array Oper} (h : noDefer ops = true) : ∀ (j : Nat) (o : Oper), ops[j]? = some o → ∀ c, o.op ≠ .defer c := fun j o ho c e => by
  have := List.all_eq_true.1 h o (Array.mem_toList_iff.2 (Array.mem_of_getElem? ho))
  rw [e] at this
  cases this
/-- THE BEGINNING: a region of a round that asks the tape. -/
theorem wpIn_region_round {P : Program} {ops : Array Oper} {Q : Exit → Act → World → Prop} {S : World → Prop} {id l n : Nat} {a : Act} {w : World} (hm : P.follows .mixedOrders = true) (hd : noDefer ops = true) (hQ : ¬ LetsOut Q) (hS : S w.drew)
    (h : S w.drew → wpAnyH P .any ops Q S ops.size (Array.replicate ops.size false) a w.drew) : (Code.region id ops true).wpIn (Fence.wide.inRound l) n P Q a w :=
  wpIn_region_any hm (wpAnyIn_round l n (noDefer_at hd) hQ _ _ _ _ (wpAny_of_held _ _ _ _ (h hS)))
/-- .. its last store put off. -/
theorem wpIn_region_round_last {P : Program} {ops : Array Oper} {Q : Exit → Act → World → Prop} {S : World → Prop} {id l n m : Nat} {o : Oper} {a : Act} {w : World} (hm : P.follows .mixedOrders = true) (hdf : noDefer ops = true) (hQ : ¬ LetsOut Q) (ho : ops[m]? = some o) (hn : ops.size = m + 1) (hd : o.dst = none) (hg : o.guard = none) (hB : lastB ops m = true) (hS : S w.drew)
    (h : S w.drew → wpAnyH P .any (lastNop ops m o) (lastQ P o Q) S (m + 1) (Array.replicate (m + 1) false) a w.drew) : (Code.region id ops true).wpIn (Fence.wide.inRound l) n P Q a w := by
  refine wpIn_region_any hm (wpAnyIn_round l n (noDefer_at hdf) hQ _ _ _ _ ?_)
  rw [hn]
  refine wpAny_last ho hn hd hg hB _ _ _ _ (by simp [hn]) ?_ (by rw [unl_replicate]; exact Nat.le_refl _) (wpAny_of_held _ _ _ _ (h hS))
  simp
end Go.Proofs.YtdhondndidoniaaGreatDoor
