/-
  What strings.Cut says of one byte: what stands ahead of it, and behind it.
-/
import Derived.Test.YtpgdmoaegnehbaaGreatDoorGlyphEnv
import Derived.Test.YtpgdmoaegnehbaaGreatDoorShelf
import Derived.Lib.IndexMore
import Derived.Lib.Strings
namespace Go.Proofs.YtpgdmoaegnehbaaGreatDoor
open Go.RowKit
namespace Cu

/-- What stands ahead of the first such byte, and behind it. -/
def parts (c : UInt8) (t : List UInt8) : Option (List UInt8 × List UInt8) :=
  match t.drop (t.takeWhile (· ≠ c)).length with
  | [] => none
  | _ :: r => some (t.takeWhile (· ≠ c), r)

theorem parts_nil (c : UInt8) : parts c [] = none := rfl
theorem parts_hit (c : UInt8) (t : List UInt8) : parts c (c :: t) = some ([], t) := by simp [parts]
theorem parts_step {c b : UInt8} (h : b ≠ c) (t : List UInt8) : parts c (b :: t) = (parts c t).map fun x => (b :: x.1, x.2) := by
  unfold parts
  rw [List.takeWhile_cons_of_pos (by simpa using h)]
  simp only [List.length_cons, List.drop_succ_cons]
  cases t.drop (t.takeWhile (· ≠ c)).length <;> rfl

theorem index_parts (c : UInt8) : ∀ l : List UInt8, Lib.index l [c] = match parts c l with | some x => (x.1.length : Int) | none => -1
  | [] => rfl
  | b :: t => by
    by_cases h : b = c
    · subst h
      rw [parts_hit]
      simp [Lib.index, List.isPrefixOf]
    · rw [parts_step h]
      have ih := index_parts c t
      simp only [Lib.index]
      have hp : [c].isPrefixOf (b :: t) = false := by simp [List.isPrefixOf, Ne.symm h]
      rw [hp, ih]
      cases parts c t with
      | none => rfl
      | some x =>
        have : ((x.1.length : Int) == -1) = false := by rw [beq_eq_false_iff_ne]; omega
        simp [this]

theorem parts_append {c : UInt8} {l a r : List UInt8} (h : parts c l = some (a, r)) : l = a ++ c :: r := by
  induction l generalizing a with
  | nil => cases h
  | cons b t ih =>
    by_cases e : b = c
    · subst e
      rw [parts_hit] at h
      cases h; rfl
    · rw [parts_step e] at h
      cases hp : parts c t with
      | none => rw [hp] at h; cases h
      | some x =>
        rw [hp] at h
        cases h
        rw [List.cons_append, ← ih hp]
theorem parts_ahead {c : UInt8} {l a r : List UInt8} (h : parts c l = some (a, r)) : ∀ x ∈ a, x ≠ c := by
  unfold parts at h
  split at h
  · cases h
  · cases h
    intro x hx
    simpa using List.all_eq_true.1 (List.all_takeWhile (p := fun x => decide (x ≠ c)) (l := l)) x hx
theorem parts_no {c : UInt8} {l : List UInt8} (h : parts c l = none) : ∀ x ∈ l, x ≠ c := by
  induction l with
  | nil => simp
  | cons b t ih =>
    by_cases e : b = c
    · subst e; rw [parts_hit] at h; cases h
    · rw [parts_step e] at h
      have h2 : parts c t = none := by cases hp : parts c t with | none => rfl | some x => rw [hp] at h; cases h
      intro x hx
      rcases List.mem_cons.1 hx with rfl | hx
      · exact e
      · exact ih h2 x hx

theorem cut_hit {c : UInt8} {l a r : List UInt8} (h : parts c l = some (a, r)) : Lib.cut l [c] = (a, r, true) := by
  have e := parts_append h
  unfold Lib.cut
  rw [index_parts, h]
  simp only []
  rw [if_pos (by omega)]
  subst e
  simp
theorem cut_miss {c : UInt8} {l : List UInt8} (h : parts c l = none) : Lib.cut l [c] = (l, [], false) := by
  unfold Lib.cut
  rw [index_parts, h]
  rfl
theorem parts_size {c : UInt8} {t a u : ByteArray} (h : parts c t.data.toList = some (a.data.toList, u.data.toList)) : a.size + 1 + u.size = t.size := by
  have e := congrArg List.length (parts_append h)
  rw [List.length_append, List.length_cons, list_len, list_len, list_len] at e
  omega
theorem parted {s : ByteArray} {c : UInt8} {a r : List UInt8} (_ : parts c s.data.toList = some (a, r)) :
    ∃ t u : ByteArray, t.data.toList = a ∧ u.data.toList = r := ⟨⟨a.toArray⟩, ⟨r.toArray⟩, rfl, rfl⟩
end Cu

theorem Cu.below_drewN {B : Nat} {a w : World} (h : Below B a w) (n : Nat) : Below B a (w.drewN n) := ⟨h.os, h.tape, h.output, h.size, h.block⟩
theorem Cu.yes {s p : ByteArray} {c : UInt8} (hp : p.data.toList = [c]) {t u : ByteArray} (w : World) (hs : s.size ≤ 1000000) (hE : Env w) (h : Cu.parts c s.data.toList = some (t.data.toList, u.data.toList)) :
    Calls Tryz.prog 27 #[.string s, .string p] w fun e w' => e = .returned (.tuple #[.string t, .string u, .bool true]) ∧ Below w.heap.size w w' := by
  obtain ⟨m, hm⟩ := hE.most
  refine (Tryz.strings_Cut s p m w (by omega) hm).mono ?_
  rintro e w' ⟨rfl, n, rfl⟩
  rw [hp, Cu.cut_hit h]
  exact ⟨rfl, Cu.below_drewN (Below.refl _ _) _⟩
theorem Cu.no {s p : ByteArray} {c : UInt8} (hp : p.data.toList = [c]) (w : World) (hs : s.size ≤ 1000000) (hE : Env w) (h : Cu.parts c s.data.toList = none) :
    Calls Tryz.prog 27 #[.string s, .string p] w fun e w' => e = .returned (.tuple #[.string s, .string ⟨#[]⟩, .bool false]) ∧ Below w.heap.size w w' := by
  obtain ⟨m, hm⟩ := hE.most
  refine (Tryz.strings_Cut s p m w (by omega) hm).mono ?_
  rintro e w' ⟨rfl, n, rfl⟩
  rw [hp, Cu.cut_miss h]
  exact ⟨rfl, Cu.below_drewN (Below.refl _ _) _⟩
end Go.Proofs.YtpgdmoaegnehbaaGreatDoor
