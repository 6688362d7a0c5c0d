/-
  A row of bytes that a call owns.
  What the document's own words of code points come to: contracts of in, Char.
  What the document's own words of code points come to: contracts of Start, Part.
  What the document's own word of the code point at a text's head comes to: contract of First.
  What the document's own words of texts come to: contracts of Check, Name, Plain.
  What the document's own words of texts come to: contracts of Plain, Lines.
  What the document's own words of texts come to: contract of Lines.
  What the packages' variables hold that the library's functions read: a bound of a search; a table of letters.
  What the variables hold: see TokEnv.
-/
import Derived.Test.YtegaidfmkfnbnaaDoorK01
import Derived.Lib.AppendStr
import Derived.Lib.OthersKept
import Derived.Maps.AppendAt
import Derived.Lib.Hide
namespace Go.Proofs.YtegaidfmkfnbnaaDoor
open Go.RowKit

theorem grown_of_below {w w' : World} (h : Below w.heap.size w w') (row : Option Nat) : w.grownBy w' row := ⟨h.os, h.tape, h.output, h.size, fun k hk _ => h.block k hk⟩

theorem infoByte : (Tryd.prog.info? 5).map (fun i => (i.zero, i.size, i.bytes)) = some (some (.int .u8 0), 1, 1) := by kernel_rfl

/-- The call owns a row of these bytes. -/
def Owns (B : Nat) (v : Value) (l : List UInt8) (w : World) : Prop := w.ownsRow B 5 1 v l.length (Lib.byteCells l)

theorem Owns.below {B : Nat} {v : Value} {l : List UInt8} {w w' : World} (h : Owns B v l w) (hg : w.grownBy w' v.ownBlock) (hB : B ≤ w.heap.size) : Below B w w' :=
  (Below.refl _ _).grown hg hB (fun j e => (World.ownsRow.lt h j e).1)

theorem owns_of {B n : Nat} {v : Value} {l : List UInt8} {xs : List Value} {w : World} (h : w.ownsRow B 5 1 v n xs) (hn : n = l.length) (hx : xs = Lib.byteCells l) : Owns B v l w := by
  subst hn; subst hx; exact h

theorem row_form {w : World} {B : Nat} {e : TypeId} {size n : Nat} {v : Value} {xs : List Value} (h : w.ownsRow B e size v n xs) (hn : 0 < n) :
    ∃ g cap, v = .slice (some ⟨g, 0, none⟩) n cap ∧ B ≤ g := by
  obtain ⟨_, ⟨_, rfl⟩ | ⟨g, cap, cur, rfl, hb, _⟩⟩ := h
  · omega
  · exact ⟨g, cap, rfl, hb⟩

/-- A row of the call's own that is not empty, as text. -/
theorem text_of {B : Nat} {v : Value} {l : List UInt8} {w : World} (h : Owns B v l w) (hl : 0 < l.length) : ∃ g cap, v = .slice (some ⟨g, 0, none⟩) l.length cap ∧ ∀ j (hj : j < l.length), w.cell? ((⟨g, 0, none⟩ : Addr).add j) = some (.int .u8 (l[j].toNat : Int)) := by
  obtain ⟨g, cap, rfl, hb⟩ := row_form h hl
  exact ⟨g, cap, rfl, fun j hj => World.ownsRow.cells h (g := g) rfl j _ (by simp [Lib.byteCells, hj])⟩

theorem owns_nil (B : Nat) (w : World) : Owns B (.slice none 0 0) [] w := World.ownsRow_nil _ _ _ _
theorem owns_alloc {B : Nat} {v : Value} {l : List UInt8} {w : World} (h : Owns B v l w) (o : Obj) : Owns B v l (w.alloc o) := World.ownsRow.alloc h o
theorem owns_below {B : Nat} {v : Value} {l : List UInt8} {w w' : World} (h : Owns B v l w) (hb : Below w.heap.size w w') : Owns B v l w' := World.ownsRow.kept h (grown_of_below hb none) (by
  obtain ⟨_, ⟨rfl, _⟩ | ⟨g, cap, cur, rfl, _⟩⟩ := h
  · exact .inl rfl
  · right; simp [Value.ownBlock])

set_option maxRecDepth 100000 in
/-- Converted to a string. -/
theorem owns_string {B : Nat} {v : Value} {l : List UInt8} {w : World} (h : Owns B v l w) (h0 : l = [] → v = .slice none 0 0) : (convert 36 9 v).run Tryd.prog w = .ok (.string ⟨l.toArray⟩) w := by
  by_cases hl : l = []
  · rw [h0 hl, hl]
    rfl
  · obtain ⟨g, cap, rfl, hc⟩ := text_of h (List.length_pos_iff.2 hl)
    exact run_convert_bytes_back (l := l) w 36 9 5 ⟨g, 0, none⟩ cap Tryd.underlying36 Tryd.underlying5 Tryd.underlying9 hc
end Go.Proofs.YtegaidfmkfnbnaaDoor
namespace Go.Proofs.YtegaidfmkfnbnaaDoor
open Go.RowKit

namespace G
def any (c : Int) (L : List (Int × Int)) : Bool := L.any fun p => inR c p.1 p.2
theorem any_take (c : Int) (L : List (Int × Int)) (k : Nat) (h : k < L.length) : any c (L.take (k + 1)) = (any c (L.take k) || inR c L[k].1 L[k].2) := by
  unfold any
  rw [List.take_succ_eq_append_getElem h, List.any_append, List.any_cons, List.any_nil, Bool.or_false]
theorem any_at (c : Int) (L : List (Int × Int)) (k : Nat) (h : k < L.length) (hi : inR c L[k].1 L[k].2 = true) : any c L = true := by
  unfold any
  rw [List.any_eq_true]
  exact ⟨_, List.getElem_mem h, hi⟩
end G

/-- A ROW OF PAIRS OF NUMBERS LIES AT THE HEAD OF BLOCK b. -/
def PairsAt (b : Nat) (L : List (Int × Int)) (w : World) : Prop := ∀ j (h : j < L.length), w.cell? ⟨b, 2 * j, none⟩ = some (.int .i64 L[j].1) ∧ w.cell? ⟨b, 2 * j + 1, none⟩ = some (.int .i64 L[j].2)

/-- the cells of pairs. -/
def cellsOf (L : List (Int × Int)) : List Value := L.flatMap fun p => [.int .i64 p.1, .int .i64 p.2]
theorem cellsOf_at (L : List (Int × Int)) : ∀ (j : Nat) (h : j < L.length), (cellsOf L)[2 * j]? = some (.int .i64 L[j].1) ∧ (cellsOf L)[2 * j + 1]? = some (.int .i64 L[j].2) := by
  induction L with
  | nil => intro j h; simp at h
  | cons p L ih =>
    intro j h
    have e : cellsOf (p :: L) = .int .i64 p.1 :: .int .i64 p.2 :: cellsOf L := rfl
    cases j with
    | zero => rw [e]; exact ⟨rfl, rfl⟩
    | succ j =>
      have := ih j (by simpa using h)
      rw [e, show 2 * (j + 1) = 2 * j + 1 + 1 by omega]
      simpa using this

theorem pairsAt_cells {b : Nat} {L : List (Int × Int)} {w : World} {T : TypeId} {fr : Nat × Nat} (h : w.heap[b]? = some (.cells (cellsOf L).toArray T fr)) : PairsAt b L w := by
  intro j hj
  have := cellsOf_at L j hj
  simp only [World.cell?, h]
  simpa using this


end Go.Proofs.YtegaidfmkfnbnaaDoor
namespace Go.Proofs.YtegaidfmkfnbnaaDoor
open Go.RowKit

end Go.Proofs.YtegaidfmkfnbnaaDoor
namespace Go.Proofs.YtegaidfmkfnbnaaDoor
open Go.RowKit

end Go.Proofs.YtegaidfmkfnbnaaDoor
namespace Go.Proofs.YtegaidfmkfnbnaaDoor
open Go.RowKit

namespace G
def checkN (l : List UInt8) : Int := if check l = true then 0 else 50
theorem checkN_nil : checkN [] = 0 := rfl
theorem check_stop (l : List UInt8) (hl : l ≠ []) (h : (first l).2 = 0 ∨ char (first l).1 = false) : check l = false := by
  unfold check
  rw [span_stop char l h]
  have := List.length_pos_iff.2 hl
  rw [decide_eq_false_iff_not]; omega
theorem checkN_stop (l : List UInt8) (hl : l ≠ []) (h : (first l).2 = 0 ∨ char (first l).1 = false) : checkN l = 50 := by
  unfold checkN; rw [check_stop l hl h]; rfl
theorem check_step (l : List UInt8) (h0 : (first l).2 ≠ 0) (hp : char (first l).1 = true) : check (l.drop (first l).2) = check l := by
  unfold check
  rw [span_step char l h0 hp, List.length_drop]
  have := first_le l
  rw [Bool.eq_iff_iff, decide_eq_true_eq, decide_eq_true_eq]
  omega
theorem checkN_step (l : List UInt8) (h0 : (first l).2 ≠ 0) (hp : char (first l).1 = true) : checkN (l.drop (first l).2) = checkN l := by
  unfold checkN; rw [check_step l h0 hp]
end G

theorem first_size (s : ByteArray) : (G.first s.data.toList).2 ≤ s.size := by
  have := G.first_le s.data.toList
  rw [list_len] at this; exact this


namespace G
/-- Name's answers. -/
def nmA (s : ByteArray) : ByteArray := s.extract 0 (name s.data.toList)
def nmB (s : ByteArray) : ByteArray := if name s.data.toList = 0 then ByteArray.empty else s.extract (name s.data.toList) s.size
def nmE (s : ByteArray) : Int := if name s.data.toList = 0 then 51 else 0
theorem nm_none {s : ByteArray} (h : name s.data.toList = 0) : nmA s = ByteArray.empty ∧ nmB s = ByteArray.empty ∧ nmE s = 51 := by
  refine ⟨?_, ?_, ?_⟩
  · apply bytes_eq
    unfold nmA
    rw [h, take_list]; rfl
  · unfold nmB; rw [if_pos h]
  · unfold nmE; rw [if_pos h]
theorem nm_some {s : ByteArray} {k : Nat} (h : name s.data.toList = k) (h0 : k ≠ 0) : nmA s = s.extract 0 k ∧ nmB s = s.extract k s.size ∧ nmE s = 0 := by
  subst h
  exact ⟨rfl, if_neg h0, if_neg h0⟩

theorem name_nil : name [] = 0 := rfl
theorem name_stop (l : List UInt8) (h : (first l).2 = 0 ∨ start (first l).1 = false) : name l = 0 := by
  unfold name
  rw [if_neg]
  rintro ⟨h0, h1⟩
  rcases h with h | h
  · exact h0 h
  · rw [h] at h1; cases h1
theorem name_begin (l : List UInt8) (h0 : (first l).2 ≠ 0) (h1 : start (first l).1 = true) : name l = (first l).2 + span part (l.drop (first l).2) := by
  unfold name; rw [if_pos ⟨h0, h1⟩]
theorem start_no {c : Int} (h : part c = false) : start c = false := by
  cases hs : start c with
  | false => rfl
  | true => rw [part_of_start hs] at h; cases h
end G

/-- how far Name has come. -/
def NameAt (s t : ByteArray) (k : Nat) : Prop := s.size = k + t.size ∧ t.data.toList = s.data.toList.drop k ∧ (k = 0 ∨ G.name s.data.toList = k + G.span G.part t.data.toList)

theorem NameAt.same {s t : ByteArray} (h : NameAt s t 0) : t = s := by
  obtain ⟨_, h, _⟩ := h
  exact bytes_eq (by rw [h, List.drop_zero])

theorem NameAt.rest {s t : ByteArray} {k : Nat} (h : NameAt s t k) : t = s.extract k s.size := bytes_eq (by rw [drop_list]; exact h.2.1)

theorem NameAt.none {s t : ByteArray} (h : NameAt s t 0) (hs : (G.first t.data.toList).2 = 0 ∨ G.start (G.first t.data.toList).1 = false) : G.name s.data.toList = 0 := by
  rw [← h.same]; exact G.name_stop _ hs

theorem NameAt.stop {s t : ByteArray} {k : Nat} (h : NameAt s t k) (hk : k ≠ 0) (hs : (G.first t.data.toList).2 = 0 ∨ G.part (G.first t.data.toList).1 = false) : G.name s.data.toList = k := by
  rcases h.2.2 with h0 | h0
  · exact absurd h0 hk
  · rw [h0, G.span_stop _ _ hs]; rfl

theorem NameAt.step {s t : ByteArray} {k : Nat} (h : NameAt s t k) (h0 : (G.first t.data.toList).2 ≠ 0) (hp : G.part (G.first t.data.toList).1 = true) (hs : k = 0 → G.start (G.first t.data.toList).1 = true) :
    NameAt s (t.extract (G.first t.data.toList).2 t.size) (k + (G.first t.data.toList).2) := by
  have hle := first_size t
  obtain ⟨h1, h2, h3⟩ := h
  refine ⟨by simp; omega, by rw [drop_list, h2, List.drop_drop], .inr ?_⟩
  rw [drop_list]
  rcases h3 with rfl | h3
  · have e := G.name_begin t.data.toList h0 (hs rfl)
    rw [h2, List.drop_zero] at e ⊢
    rw [h2, List.drop_zero] at h0 
    rw [e]; omega
  · rw [h3, G.span_step _ _ h0 hp]; omega

theorem ret_name {a b : ByteArray} {e : Int} {s : ByteArray} (ha : a = G.nmA s) (hb : b = G.nmB s) (he : e = G.nmE s) : Ending.returned (.tuple #[.string a, .string b, .int .i64 e]) = .returned (.tuple #[.string (G.nmA s), .string (G.nmB s), .int .i64 (G.nmE s)]) := by
  rw [ha, hb, he]

end Go.Proofs.YtegaidfmkfnbnaaDoor
namespace Go.Proofs.YtegaidfmkfnbnaaDoor
open Go.RowKit

namespace G
theorem plain_no (l : List UInt8) (h : name l = 0 ∨ name l ≠ l.length) : plain l = false := by
  unfold plain
  rcases h with h | h
  · by_cases hl : l = []
    · simp [hl]
    · have := List.length_pos_iff.2 hl
      simp [h]; intro _ h1; omega
  · simp [h]
theorem plain_all (l : List UInt8) (h : name l = l.length) (h0 : name l ≠ 0) : plain l = l.all (fun b => decide (b ≠ 58)) := by
  have hl : l ≠ [] := by rintro rfl; exact h0 rfl
  unfold plain
  simp [h, hl]
end G

end Go.Proofs.YtegaidfmkfnbnaaDoor
namespace Go.Proofs.YtegaidfmkfnbnaaDoor
open Go.RowKit

namespace G
theorem lines_at (s : ByteArray) (k : Nat) (h : k < s.size) (hb : (s[k]).toNat ≠ 13) : lines (s.data.toList.drop k) = s[k] :: lines (s.data.toList.drop (k + 1)) := by
  rw [drop_cons s k h, lines_cons _ _ (fun e => hb (by rw [e]; rfl))]
theorem lines_two (s : ByteArray) (k : Nat) (h : k < s.size) (h1 : k + 1 < s.size) (hb : (s[k]).toNat = 13) (hc : (s[k + 1]).toNat = 10) : lines (s.data.toList.drop k) = 10 :: lines (s.data.toList.drop (k + 2)) := by
  rw [drop_cons s k h, drop_cons s (k + 1) h1, byte_is (c := 13) hb, byte_is (c := 10) hc, lines_crlf]
theorem lines_one (s : ByteArray) (k : Nat) (h : k < s.size) (hb : (s[k]).toNat = 13) (hc : (h1 : k + 1 < s.size) → (s[k + 1]).toNat ≠ 10) : lines (s.data.toList.drop k) = 10 :: lines (s.data.toList.drop (k + 1)) := by
  rw [drop_cons s k h, byte_is (c := 13) hb, lines_cr]
  by_cases h1 : k + 1 < s.size
  · rw [drop_cons s (k + 1) h1, List.head?_cons]
    intro e
    exact hc h1 (by rw [Option.some.inj e]; rfl)
  · rw [List.drop_of_length_le (by rw [list_len]; omega)]; simp
theorem acc_step {L acc : List UInt8} {x y : List UInt8} {b : UInt8} (h : L = acc ++ x) (e : x = b :: y) : L = (acc ++ [b]) ++ y := by rw [h, e]; simp
theorem acc_end {L acc x : List UInt8} (h : L = acc ++ lines x) (e : x = []) : L = acc := by rw [h, e]; simp [lines]
end G

end Go.Proofs.YtegaidfmkfnbnaaDoor
namespace Go.Proofs.YtegaidfmkfnbnaaDoor
open Go.RowKit

/-- the other case of an ASCII letter; any other is its own. -/
def other (n : Nat) : Nat := if 65 ≤ n ∧ n ≤ 90 then n + 32 else if n = 107 then 8490 else if n = 115 then 383 else if 97 ≤ n ∧ n ≤ 122 then n - 32 else n

/-- WHAT THE PACKAGES' VARIABLES HOLD that is read. -/
def EnvAt (w : World) : Prop :=
  (∃ m, w.cell? ⟨3, 0, none⟩ = some (.int .i64 m)) ∧
  True ∧ True ∧ True ∧
  (∀ n, n < 128 → w.cell? ⟨0, n, none⟩ = some (.int .u16 (other n : Nat)))
/-- .. and go on holding, whatever is made. -/
def Env (w : World) : Prop := ∀ w', Below w.heap.size w w' → EnvAt w'
theorem Env.at {w : World} (h : Env w) : EnvAt w := h w (Below.refl _ _)
theorem Env.most {w : World} (h : Env w) : ∃ m, w.cell? ⟨3, 0, none⟩ = some (.int .i64 m) := h.at.1
theorem Env.on {w w1 : World} (h : Env w) (b : Below w.heap.size w w1) : Env w1 := fun w' h' => h w' (b.trans (h'.mono b.size))
theorem env_of {W : World} (h : EnvAt W) : Env W := by
  intro w' hb
  obtain ⟨⟨m, hm⟩, _, _, _, hf⟩ := h
  exact ⟨⟨m, (hb.cell (World.block_lt_of_cell? W _ hm)).trans hm⟩, trivial, trivial, trivial, fun n hn => (hb.cell (World.block_lt_of_cell? W _ (hf n hn))).trans (hf n hn)⟩
end Go.Proofs.YtegaidfmkfnbnaaDoor
