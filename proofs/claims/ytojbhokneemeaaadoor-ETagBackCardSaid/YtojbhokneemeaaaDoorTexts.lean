/-
  Texts: what slices of strings read as, in lists of bytes; ends of walks.
-/
import Derived.Test.YtojbhokneemeaaaDoorRows
import Derived.WalkKit
import Derived.WalkSpells
import Derived.Lib.Hide
namespace Go.Proofs.YtojbhokneemeaaaDoor
open Go.RowKit

theorem ret_bool {a b : Bool} (h : a = b) : Ending.returned (.bool a) = .returned (.bool b) := by rw [h]

theorem ret_two {a b : Int} {r : Nat × Nat} {x y : Nat} (h : r = (x, y)) (ha : a = (x : Int)) (hb : b = (y : Int)) : Ending.returned (.tuple #[.int .i64 a, .int .i64 b]) = .returned (.tuple #[.int .i64 (r.1 : Int), .int .i64 (r.2 : Int)]) := by
  rw [h, ha, hb]

theorem getD_of (s : ByteArray) (k : Nat) (h : k < s.size) : s.data.toList.getD k 0 = s[k] := by
  have h1 : k < s.data.toList.length := by rw [Array.length_toList]; exact h
  rw [List.getD, List.getElem?_eq_getElem h1, Option.getD_some]
  rfl

theorem lst_ne {s : ByteArray} (h : 0 < s.size) : s.data.toList ≠ [] := by
  intro e
  have := congrArg List.length e
  rw [Array.length_toList] at this
  have h1 : 0 < s.data.size := h
  rw [this] at h1
  exact Nat.lt_irrefl _ h1

theorem extract_list (s : ByteArray) (a b : Nat) : (s.extract a b).data.toList = (s.data.toList.take b).drop a := by
  simp [ByteArray.data_extract, Array.toList_extract, List.drop_take]

theorem drop_list (s : ByteArray) (a : Nat) : (s.extract a s.size).data.toList = s.data.toList.drop a := by
  rw [extract_list, List.take_of_length_le (by simp)]

theorem take_list (s : ByteArray) (b : Nat) : (s.extract 0 b).data.toList = s.data.toList.take b := by
  rw [extract_list, List.drop_zero]

theorem bytes_eq {a b : ByteArray} (h : a.data.toList = b.data.toList) : a = b := by
  obtain ⟨⟨a⟩⟩ := a
  obtain ⟨⟨b⟩⟩ := b
  simp at h; rw [h]

theorem extract_full (s : ByteArray) : s.extract 0 s.size = s := bytes_eq (by rw [drop_list, List.drop_zero])

theorem list_len (s : ByteArray) : s.data.toList.length = s.size := by simp

/-- A text's length. -/
def strLen : Value → Nat
  | .string t => t.size
  | _ => 0

theorem ret_int {a b : Int} (h : a = b) : Ending.returned (.int .i64 a) = .returned (.int .i64 b) := by rw [h]

theorem ne_empty {s : ByteArray} (h : 0 < s.size) : s.toList.isEmpty = false := by
  rw [List.isEmpty_eq_false_iff]; intro e
  rw [ByteArray.toList_eq] at e
  exact lst_ne h e

theorem all_take (p : UInt8 → Bool) (l : List UInt8) (k : Nat) (h : k < l.length) : (l.take (k + 1)).all p = ((l.take k).all p && p l[k]) := by
  rw [List.take_succ_eq_append_getElem h, List.all_append, List.all_cons, List.all_nil, Bool.and_true]
theorem all_not (p : UInt8 → Bool) (l : List UInt8) (k : Nat) (h : k < l.length) (hn : p l[k] = false) : l.all p = false := by
  rw [← Bool.not_eq_true, List.all_eq_true]
  intro x
  have := x l[k] (List.getElem_mem h)
  rw [hn] at this; cases this

theorem ret_bool' {a b : Bool} (h : a = b) : Ending.returned (.bool a) = .returned (.bool b) := by rw [h]

theorem drop_cons (s : ByteArray) (k : Nat) (h : k < s.size) : s.data.toList.drop k = s[k] :: s.data.toList.drop (k + 1) := by
  have h1 : k < s.data.toList.length := by rw [list_len]; exact h
  rw [List.drop_eq_getElem_cons h1]
  rfl

theorem byte_is {b c : UInt8} (h : b.toNat = c.toNat) : b = c := UInt8.toNat_inj.1 h

theorem ret_str {a b : ByteArray} (h : a = b) : Ending.returned (.string a) = .returned (.string b) := by rw [h]

/-- Strings lie in memory, from the head of a block on. -/
def StrsAt (b : Nat) (L : List ByteArray) (w : World) : Prop := ∀ j (h : j < L.length), w.cell? ⟨b, j, none⟩ = some (.string L[j])
theorem strsAt_cells {b : Nat} {L : List ByteArray} {w : World} {T : TypeId} {fr : Nat × Nat} (h : w.heap[b]? = some (.cells (L.map Value.string).toArray T fr)) : StrsAt b L w := by
  intro j hj
  simp only [World.cell?, h]
  simp [hj]

/-- Bytes lie in memory, from the slice's address on. -/
def BytesAt (ao : Option Addr) (L : List UInt8) (w : World) : Prop := ∀ j (h : j < L.length), ∃ b off, ao = some ⟨b, off, none⟩ ∧ w.cell? ⟨b, off + j, none⟩ = some (.int .u8 ((L[j]).toNat : Int))

theorem BytesAt.below {w w' : World} {ao : Option Addr} {L : List UInt8} (h : BytesAt ao L w) (hb : Below w.heap.size w w') : BytesAt ao L w' := by
  intro j hj
  obtain ⟨b, off, e, c0⟩ := h j hj
  exact ⟨b, off, e, (hb.cell (World.block_lt_of_cell? w _ c0)).trans c0⟩

theorem ex_whole (n : ByteArray) (k : Nat) (h : n.size = k) : n.extract 0 k = n := by subst h; exact extract_full n
theorem ex_none (n : ByteArray) (k : Nat) (h : n.size ≤ k) : n.extract k n.size = ByteArray.empty := bytes_eq (by
  rw [drop_list, List.drop_of_length_le (by rw [list_len]; exact h)]; rfl)

theorem size_list (s : ByteArray) (l : List UInt8) (h : s.data.toList = l) : s.size = l.length := by rw [← h, list_len]

end Go.Proofs.YtojbhokneemeaaaDoor
