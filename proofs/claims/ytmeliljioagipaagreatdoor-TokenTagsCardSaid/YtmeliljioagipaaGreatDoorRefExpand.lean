/-
  What the document's own words of references come to: contracts of expand, Expand, Value.
-/
import Derived.Test.YtmeliljioagipaaGreatDoorRefEscape3
namespace Go.Proofs.YtmeliljioagipaaGreatDoor
open Go.RowKit

namespace E
theorem semi_none {t : List UInt8} (h : ∀ b ∈ t, b ≠ 59) : semi t = none := by
  have e : t.takeWhile (· ≠ 59) = t := by
    induction t with
    | nil => rfl
    | cons b t ih =>
      rw [List.takeWhile_cons, if_pos (by simpa using h b (by simp)), ih (fun x hx => h x (by simp [hx]))]
  unfold semi
  rw [e, List.drop_length]

theorem semi_at (s : ByteArray) (a k : Nat) (ha : a ≤ k) (hk : k < s.size) (h : (s[k]).toNat = 59) (hall : ∀ j (hj : j < s.size), a ≤ j → j < k → (s[j]).toNat ≠ 59) :
    semi (s.data.toList.drop a) = some ((s.extract a k).data.toList, s.data.toList.drop (k + 1)) := by
  have e : s.data.toList.drop a = (s.extract a k).data.toList ++ 59 :: s.data.toList.drop (k + 1) := by
    have h1 : 59 :: s.data.toList.drop (k + 1) = s.data.toList.drop k := by rw [drop_cons s k hk, byte_is (b := s[k]) (c := 59) h]
    rw [h1, extract_list]
    have h2 : s.data.toList.drop k = (s.data.toList.drop a).drop (k - a) := by rw [List.drop_drop]; congr 1; omega
    rw [h2, List.drop_take]
    exact (List.take_append_drop _ _).symm
  rw [e]
  refine semi_mk _ _ fun b hb => ?_
  obtain ⟨j, hj, hjb⟩ := List.mem_iff_getElem.1 hb
  have hz : (s.extract a k).data.toList.length = k - a := by rw [list_len]; simp; omega
  have hj2 : j < k - a := by rw [← hz]; exact hj
  have h3 := hall (a + j) (by omega) (by omega) (by omega)
  intro e2
  apply h3
  have h4 : (s.extract a k).data.toList[j] = s[a + j] := by
    have : (s.extract a k).data.toList[j]? = some (s[a + j]'(by omega)) := by
      rw [extract_list, List.drop_take, List.getElem?_take_of_lt hj2, List.getElem?_drop, List.getElem?_eq_getElem (by rw [list_len]; omega)]
      rfl
    rw [List.getElem?_eq_getElem hj] at this
    exact Option.some.inj this
  rw [← h4, hjb, e2]; rfl

theorem semi_end (s : ByteArray) (a : Nat) (hall : ∀ j (hj : j < s.size), a ≤ j → (s[j]).toNat ≠ 59) : semi (s.data.toList.drop a) = none := by
  refine semi_none fun b hb => ?_
  obtain ⟨j, hj, hjb⟩ := List.mem_iff_getElem.1 hb
  have hj2 : a + j < s.size := by rw [List.length_drop, list_len] at hj; omega
  have h3 := hall (a + j) hj2 (by omega)
  intro e2
  apply h3
  rw [List.getElem_drop] at hjb
  have h4 : s[a + j] = b := hjb
  rw [h4, e2]; rfl

/-- Expand's answers. -/
def expA (attr : Bool) (s : ByteArray) : ByteArray := match expand attr s.data.toList with | some u => ⟨u.toArray⟩ | none => ByteArray.empty
def expE (attr : Bool) (s : ByteArray) : Int := match expand attr s.data.toList with | some _ => 0 | none => 60
theorem exp_none {attr : Bool} {s : ByteArray} (h : expand attr s.data.toList = none) : expA attr s = ByteArray.empty ∧ expE attr s = 60 := by unfold expA expE; rw [h]; exact ⟨rfl, rfl⟩
theorem exp_some {attr : Bool} {s : ByteArray} {u : List UInt8} (h : expand attr s.data.toList = some u) : expA attr s = ⟨u.toArray⟩ ∧ expE attr s = 0 := by unfold expA expE; rw [h]; exact ⟨rfl, rfl⟩

/-- how far expand has come. -/
def At (attr : Bool) (s t : ByteArray) (k : Nat) : Prop := expand attr s.data.toList = (expand attr (s.data.toList.drop k)).map fun r => t.data.toList ++ r
theorem at_start (attr : Bool) (s : ByteArray) : At attr s ⟨#[]⟩ 0 := by
  unfold At
  rw [List.drop_zero]
  cases expand attr s.data.toList <;> simp
theorem at_byte {attr : Bool} {s t u : ByteArray} {k : Nat} (h : At attr s t k) (hk : k < s.size) (hb : (s[k]).toNat ≠ 38) (hu : u.data.toList = [blank attr s[k]]) : At attr s (t ++ u) (k + 1) := by
  unfold At at *
  rw [drop_cons s k hk, expand_byte attr _ _ (fun e => hb (by rw [e]; rfl))] at h
  rw [h]
  cases expand attr (s.data.toList.drop (k + 1)) with
  | none => rfl
  | some r => simp [hu]
theorem at_ref {attr : Bool} {s t u : ByteArray} {k j : Nat} {n v : List UInt8} (h : At attr s t k) (hk : k < s.size) (hb : (s[k]).toNat = 38) (hs : semi (s.data.toList.drop (k + 1)) = some (n, s.data.toList.drop (j + 1))) (hn : named n = some v) (hu : u.data.toList = v) :
    At attr s (t ++ u) (j + 1) := by
  unfold At at *
  rw [drop_cons s k hk, byte_is (b := s[k]) (c := 38) hb, expand_ref, hs] at h
  simp only [Option.bind_some] at h
  rw [hn] at h
  simp only [Option.bind_some] at h
  rw [h]
  cases expand attr (s.data.toList.drop (j + 1)) with
  | none => rfl
  | some r => simp [hu]
theorem at_bad {attr : Bool} {s t : ByteArray} {k : Nat} (h : At attr s t k) (hk : k < s.size) (hb : (s[k]).toNat = 38) (hs : semi (s.data.toList.drop (k + 1)) = none) : expand attr s.data.toList = none := by
  unfold At at h
  rw [drop_cons s k hk, byte_is (b := s[k]) (c := 38) hb, expand_ref, hs] at h
  rw [h]; rfl
theorem at_no {attr : Bool} {s t : ByteArray} {k : Nat} {n r : List UInt8} (h : At attr s t k) (hk : k < s.size) (hb : (s[k]).toNat = 38) (hs : semi (s.data.toList.drop (k + 1)) = some (n, r)) (hn : named n = none) : expand attr s.data.toList = none := by
  unfold At at h
  rw [drop_cons s k hk, byte_is (b := s[k]) (c := 38) hb, expand_ref, hs] at h
  simp only [Option.bind_some] at h
  rw [hn] at h
  rw [h]; rfl
theorem at_end {attr : Bool} {s t : ByteArray} {k : Nat} (h : At attr s t k) (hk : ¬ k < s.size) : expand attr s.data.toList = some t.data.toList := by
  unfold At at h
  rw [List.drop_of_length_le (by rw [list_len]; omega), expand_nil] at h
  rw [h]; simp
theorem named_len {n u : List UInt8} (h : named n = some u) : 1 ≤ u.length ∧ u.length ≤ 4 := by
  have hE : ∀ c : Int, 1 ≤ (Lib.encodeRune c).length ∧ (Lib.encodeRune c).length ≤ 4 := fun c => by
    have := Lib.encodeRuneZ_length c
    unfold Lib.encodeRune
    rw [List.length_map]; exact this
  unfold named at h
  repeat' split at h
  all_goals first
    | (cases h; decide)
    | (cases h)
    | (obtain ⟨c, _, hc⟩ := Option.map_eq_some_iff.1 h
       rw [← hc]
       exact hE _)
end E

theorem ret_pair {a b : ByteArray} {e f : Int} (ha : a = b) (he : e = f) : Ending.returned (.tuple #[.string a, .int .i64 e]) = .returned (.tuple #[.string b, .int .i64 f]) := by rw [ha, he]

end Go.Proofs.YtmeliljioagipaaGreatDoor
