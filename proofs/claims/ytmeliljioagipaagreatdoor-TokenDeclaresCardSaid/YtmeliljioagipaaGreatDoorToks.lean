/-
  Tokens in memory: an answer's, and rows that a call owns.
-/
import Derived.Test.YtmeliljioagipaaGreatDoorPairs
import Derived.Test.YtmeliljioagipaaGreatDoorSamePairs
import Derived.Test.YtmeliljioagipaaGreatDoorToken5
namespace Go.Proofs.YtmeliljioagipaaGreatDoor
open Go.RowKit

def mpair (p : List UInt8 × List UInt8) : Pair := ⟨⟨p.1.toArray⟩, ⟨p.2.toArray⟩⟩
/-- A slice that reads ps these attributes. -/
def AttrsAt (w : World) (v : Value) (ps : List (List UInt8 × List UInt8)) : Prop := ∃ ao cap, v = .slice ao ps.length cap ∧ PairsIn w ao (ps.map mpair)
/-- A token's cells, its attributes' slice being v. -/
def tokCells (t : T.Tok) (v : Value) : List Value := [.int .i64 (t.kind : Int), .string ⟨t.name.toArray⟩, v, .bool t.alone, .string ⟨t.data.toArray⟩]
def rowCells (L : List (T.Tok × Value)) : List Value := L.flatMap fun x => tokCells x.1 x.2
/-- TOKENS LIE in memory, from the slice's address on. -/
def ToksIn (w : World) (ao : Option Addr) (L : List (T.Tok × Value)) : Prop := ∀ j (h : j < L.length), ∃ b off, ao = some ⟨b, off, none⟩ ∧
  (∀ i u, (tokCells L[j].1 L[j].2)[i]? = some u → w.cell? ⟨b, off + j * 5 + i, none⟩ = some u) ∧ AttrsAt w L[j].2 L[j].1.attrs

theorem AttrsAt.below {w w' : World} {v : Value} {ps : List (List UInt8 × List UInt8)} (h : AttrsAt w v ps) (hb : Below w.heap.size w w') : AttrsAt w' v ps := by
  obtain ⟨ao, cap, e, hp⟩ := h
  exact ⟨ao, cap, e, hp.below hb⟩
theorem ToksIn.below {w w' : World} {ao : Option Addr} {L : List (T.Tok × Value)} (h : ToksIn w ao L) (hb : Below w.heap.size w w') : ToksIn w' ao L := by
  intro j hj
  obtain ⟨b, off, e, c, a⟩ := h j hj
  have hlt : b < w.heap.size := World.block_lt_of_cell? w _ (c 0 _ rfl)
  exact ⟨b, off, e, fun i u hu => (hb.cell hlt).trans (c i u hu), a.below hb⟩
/-- its five cells. -/
theorem ToksIn.cells {w : World} {ao : Option Addr} {L : List (T.Tok × Value)} (h : ToksIn w ao L) {j : Nat} (hj : j < L.length) {t : T.Tok} {v : Value} (e : L[j] = (t, v)) : ∃ b off, ao = some ⟨b, off, none⟩ ∧
    w.cell? ⟨b, off + j * 5, none⟩ = some (.int .i64 (t.kind : Int)) ∧ w.cell? ⟨b, off + j * 5 + 1, none⟩ = some (.string ⟨t.name.toArray⟩) ∧ w.cell? ⟨b, off + j * 5 + 2, none⟩ = some v ∧
    w.cell? ⟨b, off + j * 5 + 3, none⟩ = some (.bool t.alone) ∧ w.cell? ⟨b, off + j * 5 + 4, none⟩ = some (.string ⟨t.data.toArray⟩) ∧ AttrsAt w v t.attrs := by
  obtain ⟨b, off, e1, c, a⟩ := h j hj
  rw [e] at c a
  exact ⟨b, off, e1, c 0 _ rfl, c 1 _ rfl, c 2 _ rfl, c 3 _ rfl, c 4 _ rfl, a⟩

theorem rowCells_len (L : List (T.Tok × Value)) : (rowCells L).length = L.length * 5 := by
  induction L with
  | nil => rfl
  | cons x L ih =>
    unfold rowCells at *
    rw [List.flatMap_cons, List.length_append, ih]; simp [tokCells]; omega
theorem rowCells_at : ∀ (L : List (T.Tok × Value)) (j i : Nat) (h : j < L.length), i < 5 → (rowCells L)[j * 5 + i]? = (tokCells L[j].1 L[j].2)[i]?
  | [], j, i, h, _ => by simp at h
  | r :: L, 0, i, _, hi => by
    unfold rowCells
    simp only [List.flatMap_cons, Nat.zero_mul, Nat.zero_add, List.getElem_cons_zero]
    rw [List.getElem?_append_left (by simpa [tokCells] using hi)]
  | r :: L, j + 1, i, h, hi => by
    have ih := rowCells_at L j i (by simpa using h) hi
    unfold rowCells at *
    simp only [List.flatMap_cons, List.getElem_cons_succ]
    rw [List.getElem?_append_right (by simp [tokCells]; omega), ← ih]
    congr 1
    simp [tokCells]; omega

/-- The call owns a row of these tokens. -/
def OwnsToks (B : Nat) (v : Value) (L : List (T.Tok × Value)) (w : World) : Prop := w.ownsRow B 29 5 v L.length (rowCells L) ∧ ∀ x ∈ L, AttrsAt w x.2 x.1.attrs

theorem toks_of_owns {B : Nat} {v : Value} {L : List (T.Tok × Value)} {w : World} (h : OwnsToks B v L w) : ∃ ao cap, v = .slice ao L.length cap ∧ ToksIn w ao L := by
  obtain ⟨h, ha⟩ := h
  have hc := fun g hg => World.ownsRow.cells h (g := g) hg
  obtain ⟨hl, ⟨rfl, h0⟩ | ⟨g, cap, cur, rfl, hb, _⟩⟩ := h
  · have : L = [] := List.eq_nil_of_length_eq_zero h0
    subst this
    exact ⟨none, 0, rfl, fun j hj => by simp at hj⟩
  · refine ⟨_, cap, rfl, fun j hj => ⟨g, 0, rfl, fun i u hu => ?_, ha _ (List.getElem_mem hj)⟩⟩
    have hi : i < 5 := by
      have := (List.getElem?_eq_some_iff.1 hu).1
      simpa [tokCells] using this
    have := hc g rfl (j * 5 + i) u (by rw [rowCells_at L j i hj hi]; exact hu)
    rw [add_at, ← Nat.add_assoc] at this
    exact this

theorem infoTok : (Tryz.prog.info? 29).map (fun i => (i.zero, i.size, i.bytes)) = some (some (.agg #[.int .i64 0, .string ByteArray.empty, .slice none 0 0, .bool false, .string ByteArray.empty]), 5, 72) := by kernel_rfl

theorem ownsToks_nil (B : Nat) (w : World) : OwnsToks B (.slice none 0 0) [] w := ⟨World.ownsRow_nil _ _ _ _, fun x hx => by cases hx⟩
theorem ownsToks_below {B : Nat} {v : Value} {L : List (T.Tok × Value)} {w w' : World} (h : OwnsToks B v L w) (hb : Below w.heap.size w w') : OwnsToks B v L w' := by
  obtain ⟨h, ha⟩ := h
  refine ⟨World.ownsRow.kept h (grown_of_below hb none) ?_, fun x hx => (ha x hx).below hb⟩
  obtain ⟨_, ⟨rfl, _⟩ | ⟨g, cap, cur, rfl, _⟩⟩ := h
  · exact .inl rfl
  · right; simp [Value.ownBlock]

theorem toks_cells {w : World} {ad : Addr} {L : List (T.Tok × Value)} (h : ToksIn w (some ad) L) : ∀ j u, (rowCells L)[j]? = some u → w.cell? (ad.add j) = some u := by
  intro j u hu
  have hj : j < (rowCells L).length := (List.getElem?_eq_some_iff.1 hu).1
  rw [rowCells_len] at hj
  obtain ⟨b, off, e, c, _⟩ := h (j / 5) (by omega)
  cases e
  have a : (⟨b, off, none⟩ : Addr).add j = ⟨b, off + j, none⟩ := by unfold Addr.add; split <;> simp_all
  rw [a]
  have e2 : j = j / 5 * 5 + j % 5 := by omega
  rw [e2, rowCells_at L (j / 5) (j % 5) (by omega) (by omega)] at hu
  have := c (j % 5) u hu
  rw [← this]
  congr 2
  omega
theorem toks_one {w : World} {L : List (T.Tok × Value)} (h : ∀ x ∈ L, AttrsAt w x.2 x.1.attrs) : ∀ u ∈ rowCells L, u.oneCell' = true := by
  intro u hu
  obtain ⟨a, ha, hx⟩ := List.mem_flatMap.1 hu
  obtain ⟨ao, cap, e, _⟩ := h a ha
  simp [tokCells] at hx
  rcases hx with rfl | rfl | rfl | rfl | rfl
  · rfl
  · rfl
  · rw [e]; rfl
  · rfl
  · rfl
end Go.Proofs.YtmeliljioagipaaGreatDoor
