/-
  Tokens in memory: an answer's, and rows that a call owns.
  Rows of nodes that a call owns; a leaf.
  What a start-tag begins, in plain Lean: each way to its answer.
-/
import Derived.Test.YtcjlhdmekhifaaaGreatDoorD05
import Derived.Test.YtcjlhdmekhifaaaGreatDoorD03
import Derived.BigQuiet
namespace Go.Proofs.YtcjlhdmekhifaaaGreatDoor
open Go.RowKit

def mpair (p : List UInt8 × List UInt8) : Pair := ⟨⟨p.1.toArray⟩, ⟨p.2.toArray⟩⟩
/-- A slice that reads ps these attributes. -/
def AttrsAt (w : World) (v : Value) (ps : List (List UInt8 × List UInt8)) : Prop := ∃ ao cap, v = .slice ao ps.length cap ∧ PairsIn w ao (ps.map mpair)
/-- A token's cells, its attributes' slice being v. -/
def tokCells (t : T.Tok) (v : Value) : List Value := [.int .i64 (t.kind : Int), .string ⟨t.name.toArray⟩, v, .bool t.alone, .string ⟨t.data.toArray⟩]
def rowCells (L : List (T.Tok × Value)) : List Value := L.flatMap fun x => tokCells x.1 x.2
/-- TOKENS LIE in memory, from the slice's address on. -/
def ToksIn (w : World) (ao : Option Addr) (L : List (T.Tok × Value)) : Prop := ∀ j (h : j < L.length), ∃ b off, ao = some ⟨b, off, none⟩ ∧
  (∀ i u, (tokCells L[j].1 L[j].2)[i]? = some u → w.cell? ⟨b, off + j * 5 + i, none⟩ = some u) ∧ AttrsAt w L[j].2 L[j].1.attrs

theorem AttrsAt.below {w w' : World} {v : Value} {ps : List (List UInt8 × List UInt8)} (h : AttrsAt w v ps) (hb : Below w.heap.size w w') : AttrsAt w' v ps := by
  obtain ⟨ao, cap, e, hp⟩ := h
  exact ⟨ao, cap, e, hp.below hb⟩
theorem ToksIn.below {w w' : World} {ao : Option Addr} {L : List (T.Tok × Value)} (h : ToksIn w ao L) (hb : Below w.heap.size w w') : ToksIn w' ao L := by
  intro j hj
  obtain ⟨b, off, e, c, a⟩ := h j hj
  have hlt : b < w.heap.size := World.block_lt_of_cell? w _ (c 0 _ rfl)
  exact ⟨b, off, e, fun i u hu => (hb.cell hlt).trans (c i u hu), a.below hb⟩
/-- its five cells. -/
theorem ToksIn.cells {w : World} {ao : Option Addr} {L : List (T.Tok × Value)} (h : ToksIn w ao L) {j : Nat} (hj : j < L.length) {t : T.Tok} {v : Value} (e : L[j] = (t, v)) : ∃ b off, ao = some ⟨b, off, none⟩ ∧
    w.cell? ⟨b, off + j * 5, none⟩ = some (.int .i64 (t.kind : Int)) ∧ w.cell? ⟨b, off + j * 5 + 1, none⟩ = some (.string ⟨t.name.toArray⟩) ∧ w.cell? ⟨b, off + j * 5 + 2, none⟩ = some v ∧
    w.cell? ⟨b, off + j * 5 + 3, none⟩ = some (.bool t.alone) ∧ w.cell? ⟨b, off + j * 5 + 4, none⟩ = some (.string ⟨t.data.toArray⟩) ∧ AttrsAt w v t.attrs := by
  obtain ⟨b, off, e1, c, a⟩ := h j hj
  rw [e] at c a
  exact ⟨b, off, e1, c 0 _ rfl, c 1 _ rfl, c 2 _ rfl, c 3 _ rfl, c 4 _ rfl, a⟩

theorem rowCells_at : ∀ (L : List (T.Tok × Value)) (j i : Nat) (h : j < L.length), i < 5 → (rowCells L)[j * 5 + i]? = (tokCells L[j].1 L[j].2)[i]?
  | [], j, i, h, _ => by simp at h
  | r :: L, 0, i, _, hi => by
    unfold rowCells
    simp only [List.flatMap_cons, Nat.zero_mul, Nat.zero_add, List.getElem_cons_zero]
    rw [List.getElem?_append_left (by simpa [tokCells] using hi)]
  | r :: L, j + 1, i, h, hi => by
    have ih := rowCells_at L j i (by simpa using h) hi
    unfold rowCells at *
    simp only [List.flatMap_cons, List.getElem_cons_succ]
    rw [List.getElem?_append_right (by simp [tokCells]; omega), ← ih]
    congr 1
    simp [tokCells]; omega

/-- The call owns a row of these tokens. -/
def OwnsToks (B : Nat) (v : Value) (L : List (T.Tok × Value)) (w : World) : Prop := w.ownsRow B 41 5 v L.length (rowCells L) ∧ ∀ x ∈ L, AttrsAt w x.2 x.1.attrs

theorem toks_of_owns {B : Nat} {v : Value} {L : List (T.Tok × Value)} {w : World} (h : OwnsToks B v L w) : ∃ ao cap, v = .slice ao L.length cap ∧ ToksIn w ao L := by
  obtain ⟨h, ha⟩ := h
  have hc := fun g hg => World.ownsRow.cells h (g := g) hg
  obtain ⟨hl, ⟨rfl, h0⟩ | ⟨g, cap, cur, rfl, hb, _⟩⟩ := h
  · have : L = [] := List.eq_nil_of_length_eq_zero h0
    subst this
    exact ⟨none, 0, rfl, fun j hj => by simp at hj⟩
  · refine ⟨_, cap, rfl, fun j hj => ⟨g, 0, rfl, fun i u hu => ?_, ha _ (List.getElem_mem hj)⟩⟩
    have hi : i < 5 := by
      have := (List.getElem?_eq_some_iff.1 hu).1
      simpa [tokCells] using this
    have := hc g rfl (j * 5 + i) u (by rw [rowCells_at L j i hj hi]; exact hu)
    rw [add_at, ← Nat.add_assoc] at this
    exact this

theorem infoTok : (Tryz.prog.info? 41).map (fun i => (i.zero, i.size, i.bytes)) = some (some (.agg #[.int .i64 0, .string ByteArray.empty, .slice none 0 0, .bool false, .string ByteArray.empty]), 5, 72) := by kernel_rfl

end Go.Proofs.YtcjlhdmekhifaaaGreatDoor
namespace Go.Proofs.YtcjlhdmekhifaaaGreatDoor
open Go.RowKit

theorem infoNode : (Tryz.prog.info? 26).map (fun i => (i.zero, i.size, i.bytes)) = some (some (.agg #[.int .i64 0, .string ByteArray.empty, .string ByteArray.empty, .slice none 0 0, .slice none 0 0, .string ByteArray.empty]), 6, 104) := by kernel_rfl

/-- The call owns a row of these nodes; what they hold lies in blocks of S, none of them the row's own. -/
def OwnsKids (S : Nat → Prop) (B : Nat) (v : Value) (kids : List Gv.Node) (w : World) : Prop :=
  ∃ css : List (List Value), css.length = kids.length ∧ w.ownsRow B 26 6 v kids.length css.flatten ∧ ∀ j (h1 : j < css.length) (h2 : j < kids.length), NodeAt (fun b => S b ∧ some b ≠ v.ownBlock) w css[j] kids[j]
theorem kids_nil (S : Nat → Prop) (B : Nat) (w : World) : OwnsKids S B (.slice none 0 0) [] w := ⟨[], rfl, World.ownsRow_nil _ _ _ _, fun j h => by simp at h⟩
theorem own_on {w w' : World} {B : Nat} {e : TypeId} {size n : Nat} {v : Value} {xs : List Value} (h : w.ownsRow B e size v n xs) (hb : Below w.heap.size w w') : w'.ownsRow B e size v n xs := World.ownsRow.kept h (grown_of_below hb none) (by
  obtain ⟨_, ⟨rfl, _⟩ | ⟨g, cap, cur, rfl, _⟩⟩ := h
  · exact .inl rfl
  · right; simp [Value.ownBlock])
theorem OwnsKids.on {S : Nat → Prop} {B : Nat} {v : Value} {kids : List Gv.Node} {w w' : World} (h : OwnsKids S B v kids w) (hb : Below w.heap.size w w') : OwnsKids S B v kids w' := by
  obtain ⟨css, h1, h2, h3⟩ := h
  exact ⟨css, h1, own_on h2 hb, fun j a b => (h3 j a b).on hb⟩
theorem OwnsKids.mono {S S' : Nat → Prop} {B : Nat} {v : Value} {kids : List Gv.Node} {w : World} (h : OwnsKids S B v kids w) (hS : ∀ b, S b → b < w.heap.size → S' b) : OwnsKids S' B v kids w := by
  obtain ⟨css, h1, h2, h3⟩ := h
  exact ⟨css, h1, h2, fun j a b => (h3 j a b).mono fun x hx hl => ⟨hS x hx.1 hl, hx.2⟩⟩
theorem flat_at : ∀ (css : List (List Value)), (∀ c ∈ css, c.length = 6) → ∀ j i (h : j < css.length), i < 6 → css.flatten[j * 6 + i]? = css[j][i]?
  | [], _, j, i, h, _ => by simp at h
  | c :: css, hc, 0, i, h, hi => by
    have := hc c (by simp)
    simp only [List.flatten_cons, Nat.zero_mul, Nat.zero_add, List.getElem_cons_zero]
    rw [List.getElem?_append_left (by omega)]
  | c :: css, hc, j + 1, i, h, hi => by
    have h6 := hc c (by simp)
    have ih := flat_at css (fun x hx => hc x (by simp [hx])) j i (by simpa using h) hi
    simp only [List.flatten_cons, List.getElem_cons_succ]
    rw [List.getElem?_append_right (by omega), ← ih]
    congr 1; omega
/-- .. read as rows in memory. -/
theorem OwnsKids.rows {S : Nat → Prop} {B : Nat} {v : Value} {kids : List Gv.Node} {w : World} (h : OwnsKids S B v kids w) (hB : ∀ b, B ≤ b → b < w.heap.size → S b) : ∃ (ao : Option Addr) (cap : Nat) (cs : Nat → List Value), v = .slice ao kids.length cap ∧ RowsAt S w v kids.length cs ∧ (∀ j (h : j < kids.length), NodeAt S w (cs j) kids[j]) ∧ kids.length ≤ maxLen ∧ (ao = none → cap = 0) := by
  obtain ⟨css, h1, h2, h3⟩ := h
  have h6 : ∀ c ∈ css, c.length = 6 := fun c hc => by
    obtain ⟨j, hj, rfl⟩ := List.mem_iff_getElem.1 hc
    exact (h3 j hj (by omega)).six
  have hc := fun g hg => World.ownsRow.cells h2 (g := g) hg
  obtain ⟨hl, ⟨rfl, h0⟩ | ⟨g, cap, cur, rfl, hb, hh, hk, hm, _⟩⟩ := h2
  · have hk0 : kids = [] := List.eq_nil_of_length_eq_zero h0
    subst hk0
    exact ⟨none, 0, fun _ => [], rfl, ⟨none, 0, rfl, fun j hj => by simp at hj⟩, fun j hj => by simp at hj, by unfold maxLen; simp, fun _ => rfl⟩
  · refine ⟨_, cap, fun j => css[j]?.getD [], rfl, ⟨_, cap, rfl, fun j hj => ?_⟩, fun j hj => ?_, Nat.le_trans hk hm, fun e => by cases e⟩
    · have hj2 : j < css.length := by omega
      have e : css[j]?.getD [] = css[j] := by simp [hj2]
      dsimp only
      rw [e]
      have hg : g < w.heap.size := (Array.getElem?_eq_some_iff.1 hh).1
      refine ⟨h6 _ (List.getElem_mem hj2), g, 0, rfl, hB g hb hg, fun i u hu => ?_⟩
      have hi : i < 6 := by
        have := (List.getElem?_eq_some_iff.1 hu).1
        rwa [h6 _ (List.getElem_mem hj2)] at this
      have := hc g rfl (j * 6 + i) u (by rw [flat_at css h6 j i hj2 hi]; exact hu)
      rw [add_at, ← Nat.add_assoc] at this
      exact this
    · have hj2 : j < css.length := by omega
      have e : css[j]?.getD [] = css[j] := by simp [hj2]
      dsimp only
      rw [e]
      exact (h3 j hj2 hj).mono fun b hb _ => hb.1
/-- One more, behind an append. -/
theorem kids_more {S : Nat → Prop} {B N : Nat} {v v' : Value} {kids : List Gv.Node} {css : List (List Value)} {w w' : World} {c : List Value} {n : Gv.Node} (h1 : css.length = kids.length)
    (h3 : ∀ j (h1 : j < css.length) (h2 : j < kids.length), NodeAt (fun b => S b ∧ some b ≠ v.ownBlock) w css[j] kids[j]) (hn : NodeAt (fun b => S b ∧ some b ≠ v.ownBlock) w c n)
    (hr : w'.ownsRow B 26 6 v' (kids.length + 1) (css.flatten ++ c)) (hg : w.grownBy w' v.ownBlock) (hat : v'.ownBlock = v.ownBlock ∨ v'.ownBlock = some N) (hN : w.heap.size ≤ N) : OwnsKids S B v' (kids ++ [n]) w' := by
  have step : ∀ {c : List Value} {n : Gv.Node}, NodeAt (fun b => S b ∧ some b ≠ v.ownBlock) w c n → NodeAt (fun b => S b ∧ some b ≠ v'.ownBlock) w' c n := fun {c n} h => by
    have h' : NodeAt (fun b => (S b ∧ some b ≠ v.ownBlock) ∧ some b ≠ v'.ownBlock) w c n := h.mono fun b hb hl => ⟨hb, by
      rcases hat with e | e
      · rw [e]; exact hb.2
      · rw [e]; intro x; injection x with x; omega⟩
    exact (h'.stay (stay_grown hg (fun g e x => x.1.2 e.symm))).mono fun b hb _ => ⟨hb.1.1, hb.2⟩
  refine ⟨css ++ [c], by simp [h1], by rw [List.length_append, List.length_singleton, List.flatten_append]; simpa using hr, fun j a b => ?_⟩
  by_cases hj : j < css.length
  · rw [List.getElem_append_left hj, List.getElem_append_left (by omega)]
    exact step (h3 j hj (by omega))
  · have hj2 : j = css.length := by simp at a; omega
    subst hj2
    rw [List.getElem_append_right (Nat.le_refl _), List.getElem_append_right (by omega)]
    simp only [h1, Nat.sub_self, List.getElem_cons_zero]
    exact step hn

/-! ### leaf -/
namespace Gv
def lkind (t : T.Tok) : Nat := if t.kind = 3 then 2 else if t.kind = 4 then 3 else 1
def lname (t : T.Tok) : ByteArray := if t.kind = 3 then ByteArray.empty else if t.kind = 4 then str t.name else ByteArray.empty
theorem leaf_of (t : T.Tok) : leaf t = .mk (lkind t) ByteArray.empty (lname t) [] [] (str t.data) := by
  unfold leaf lkind lname text
  by_cases h3 : t.kind = 3
  · rw [if_pos h3, if_pos h3, if_pos h3]; rfl
  · rw [if_neg h3, if_neg h3, if_neg h3]
    by_cases h4 : t.kind = 4
    · rw [if_pos h4, if_pos h4, if_pos h4]; rfl
    · rw [if_neg h4, if_neg h4, if_neg h4]; rfl
end Gv
theorem atts_nil (S : Nat → Prop) (w : World) : AttsAt S w (.slice none 0 0) [] := ⟨none, 0, rfl, Nat.le_refl _, fun j hj => by simp at hj⟩
theorem rows_nil (S : Nat → Prop) (w : World) (cs : Nat → List Value) : RowsAt S w (.slice none 0 0) 0 cs := ⟨none, 0, rfl, fun j hj => by omega⟩
theorem node_plain (S : Nat → Prop) (w : World) (k : Int) (sp nm d : ByteArray) : NodeAt S w [.int .i64 (k : Int), .string sp, .string nm, .slice none 0 0, .slice none 0 0, .string d] (.mk k sp nm [] [] d) :=
  .mk (fun _ => []) ⟨by unfold maxLen; simp, by unfold maxLen; simp⟩ (atts_nil S w) (rows_nil S w _) (fun j hj => by simp at hj)

theorem node_end {F : Func} {R : Ending → World → Prop} {tmps : Array Value} {w : World} {rb i : Nat} {k : Int} {sp nm d : ByteArray} {ao bo : Option Addr} {m1 c1 m2 c2 : Nat} (hres : F.results = #[ResultVar.cell i 26])
    (h2 : tmps[i]? = some (.pointer (some ⟨rb, 0, none⟩))) (hc : Cells w rb 26 (nodeArr k sp nm (.slice ao m1 c1) (.slice bo m2 c2) d))
    (hR : R (.returned (.agg (nodeArr k sp nm (.slice ao m1 c1) (.slice bo m2 c2) d))) w) : bodyPost Tryz.prog F R .ret { tmps := tmps, defers := [] } w := by
  refine ⟨rfl, _, ?_, hR⟩
  have l2 : i < tmps.size := (Array.getElem?_eq_some_iff.1 h2).1
  have g2 : tmps[i] = .pointer (some ⟨rb, 0, none⟩) := (Array.getElem?_eq_some_iff.1 h2).2
  obtain ⟨x0, x1, x2, x3, x4, x5⟩ := node_open hc
  simp [results, hres, go_sem, l2, g2, x0, x1, x2, x3, x4, x5]
  rfl

set_option maxRecDepth 100000 in
set_option maxHeartbeats 1600000 in
theorem refLeaf_any (t : T.Tok) (v : Value) (w : World) (hv : ∃ ao m cap, v = .slice ao m cap) :
    Calls Tryz.prog 30 #[.agg (tokCells t v).toArray] w fun x w' => x = .returned (.agg (nodeArr (Gv.lkind t : Nat) ⟨#[]⟩ (Gv.lname t) (.slice none 0 0) (.slice none 0 0) (Gv.str t.data))) ∧ Below w.heap.size w w' := by
  obtain ⟨ao, m, cap, rfl⟩ := hv
  obtain ⟨kd, nm, at', al, da⟩ := t
  unfold tokCells Gv.str
  dsimp only
  have hk := Lib.hid (show Gv.lkind ⟨kd, nm, at', al, da⟩ = if kd = 3 then 2 else if kd = 4 then 3 else 1 from rfl)
  have hn := Lib.hid (show Gv.lname ⟨kd, nm, at', al, da⟩ = if kd = 3 then ByteArray.empty else if kd = 4 then (⟨nm.toArray⟩ : ByteArray) else ByteArray.empty from rfl)
  generalize Gv.lkind ⟨kd, nm, at', al, da⟩ = lk at *
  generalize Gv.lname ⟨kd, nm, at', al, da⟩ = ln at *
  generalize (⟨nm.toArray⟩ : ByteArray) = nb at *
  generalize (⟨da.toArray⟩ : ByteArray) = db at *
  go_enter Tryz.func30, Tryz.ntmps30
  have b1 := fun (x : Int) o => ((Below.refl w.heap.size w).alloc (Nat.le_refl _) (.cells #[.int .i64 x, .string nb, .slice ao m cap, .bool al, .string db] 41)).alloc (by simp) o
  by_cases h3 : kd = 3
  · have e1 : lk = 2 := by rw [hk.out, if_pos h3]
    have e2 : ln = ByteArray.empty := by rw [hn.out, if_pos h3]
    subst e1 e2 h3
    clear hk hn
    go_wp2_with fail
    exact node_end (rb := w.heap.size + 1) rfl rfl (by have := Cells.new (w.alloc (.cells #[.int .i64 3, .string nb, .slice ao m cap, .bool al, .string db] 41)) 26 (nodeArr 2 ⟨#[]⟩ ByteArray.empty (.slice none 0 0) (.slice none 0 0) db); rw [World.size_alloc] at this; exact this) ⟨rfl, b1 _ _⟩
  · by_cases h4 : kd = 4
    · have e1 : lk = 3 := by rw [hk.out, if_neg h3, if_pos h4]
      have e2 : ln = nb := by rw [hn.out, if_neg h3, if_pos h4]
      subst e1 e2 h4
      clear hk hn h3
      go_wp2_with fail
      exact node_end (rb := w.heap.size + 1) rfl rfl (by have := Cells.new (w.alloc (.cells #[.int .i64 4, .string ln, .slice ao m cap, .bool al, .string db] 41)) 26 (nodeArr 3 ⟨#[]⟩ ln (.slice none 0 0) (.slice none 0 0) db); rw [World.size_alloc] at this; exact this) ⟨rfl, b1 _ _⟩
    · have e1 : lk = 1 := by rw [hk.out, if_neg h3, if_neg h4]
      have e2 : ln = ByteArray.empty := by rw [hn.out, if_neg h3, if_neg h4]
      subst e1 e2
      have h3i : ¬ (kd : Int) = 3 := by omega
      have h4i : ¬ (kd : Int) = 4 := by omega
      clear hk hn h3 h4
      go_wp2_with fail
      exact node_end (rb := w.heap.size + 1) rfl rfl (by have := Cells.new (w.alloc (.cells #[.int .i64 (kd : Int), .string nb, .slice ao m cap, .bool al, .string db] 41)) 26 (nodeArr 1 ⟨#[]⟩ ByteArray.empty (.slice none 0 0) (.slice none 0 0) db); rw [World.size_alloc] at this; exact this) ⟨rfl, b1 _ _⟩
end Go.Proofs.YtcjlhdmekhifaaaGreatDoor
namespace Go.Proofs.YtcjlhdmekhifaaaGreatDoor

namespace P
theorem declGo_kept : ∀ (l sc re a b : List Pair), declGo sc re l = some (a, b) → a.length + b.length = sc.length + re.length + l.length ∧ ∀ x ∈ b, x ∈ re ∨ x ∈ l
  | [], sc, re, a, b, h => by
    unfold declGo at h
    cases h
    exact ⟨by simp, fun x hx => .inl hx⟩
  | y :: l, sc, re, a, b, h => by
    unfold declGo at h
    cases hs : split y.name with
    | none => rw [hs] at h; cases h
    | some z =>
      obtain ⟨p, n⟩ := z
      rw [hs] at h
      simp only at h
      split at h
      · obtain ⟨h1, h2⟩ := declGo_kept l _ _ _ _ h
        refine ⟨by simp at h1 ⊢; omega, fun x hx => ?_⟩
        rcases h2 x hx with e | e
        · rcases List.mem_append.1 e with e | e
          · exact .inl e
          · exact .inr (by simp at e; simp [e])
        · exact .inr (by simp [e])
      · split at h
        · obtain ⟨h1, h2⟩ := declGo_kept l _ _ _ _ h
          refine ⟨by simp at h1 ⊢; omega, fun x hx => ?_⟩
          rcases h2 x hx with e | e
          · exact .inl e
          · exact .inr (by simp [e])
        · cases h
end P
namespace Gv
def elA (t : T.Tok) : List Pair := t.attrs.map fun p => ⟨str p.1, str p.2⟩
theorem elA_mpair (t : T.Tok) : elA t = t.attrs.map mpair := rfl
theorem el_long {t : T.Tok} {scope : List Pair} (h : 50 < t.attrs.length) : element t scope = .error 2 := by unfold element; rw [if_pos h]
theorem el_decl {t : T.Tok} {scope : List Pair} (h : ¬ 50 < t.attrs.length) (hd : P.declare (elA t) = none) : element t scope = .error 80 := by
  unfold element; rw [if_neg h]; unfold elA at hd; rw [hd]
theorem el_name {t : T.Tok} {scope more rest : List Pair} (h : ¬ 50 < t.attrs.length) (hd : P.declare (elA t) = some (more, rest)) (hr : P.resolve (scope ++ more) (str t.name) false = none) : element t scope = .error 80 := by
  unfold element; rw [if_neg h]; unfold elA at hd; rw [hd]; simp only; rw [hr]
theorem el_go {t : T.Tok} {scope more rest : List Pair} {sp nm : ByteArray} (h : ¬ 50 < t.attrs.length) (hd : P.declare (elA t) = some (more, rest)) (hr : P.resolve (scope ++ more) (str t.name) false = some (sp, nm)) :
    element t scope = match attrsGo (scope ++ more) [] rest with | .error e => .error e | .ok as' => .ok ((sp, nm, as'), scope ++ more) := by
  unfold element; rw [if_neg h]; unfold elA at hd; rw [hd]; simp only; rw [hr]; rfl
end Gv

namespace Gv
theorem go_none {sc l : List Pair} {acc : List Att} {a : Pair} (h : P.resolve sc a.name true = none) : attrsGo sc acc (a :: l) = .error 80 := by
  conv => lhs; unfold attrsGo
  rw [h]
theorem go_two {sc l : List Pair} {acc : List Att} {a : Pair} {sp nm : ByteArray} (h : P.resolve sc a.name true = some (sp, nm)) (hx : ∃ x ∈ acc, x.space = sp ∧ x.name = nm) : attrsGo sc acc (a :: l) = .error 71 := by
  conv => lhs; unfold attrsGo
  rw [h]
  simp only
  rw [if_pos]
  obtain ⟨x, h1, h2⟩ := hx
  exact List.any_eq_true.2 ⟨x, h1, by simpa using h2⟩
theorem go_more {sc l : List Pair} {acc : List Att} {a : Pair} {sp nm : ByteArray} (h : P.resolve sc a.name true = some (sp, nm)) (hx : ∀ x ∈ acc, ¬ (x.space = sp ∧ x.name = nm)) : attrsGo sc acc (a :: l) = attrsGo sc (acc ++ [⟨sp, nm, a.value⟩]) l := by
  conv => lhs; unfold attrsGo
  rw [h]
  simp only
  rw [if_neg]
  intro e
  obtain ⟨x, h1, h2⟩ := List.any_eq_true.1 e
  exact hx x h1 (by simpa using h2)
end Gv
end Go.Proofs.YtcjlhdmekhifaaaGreatDoor
