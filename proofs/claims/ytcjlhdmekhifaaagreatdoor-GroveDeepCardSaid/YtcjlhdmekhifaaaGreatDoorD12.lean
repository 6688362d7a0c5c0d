/-
  What the document's own words of references come to: contracts of expand, Expand, Value.
  What the packages' variables hold that the library's functions and the program read: a bound of a search; three errors of errors.New's make; a table of letters.
  What the variables hold: see TokEnv.
  What strings.Cut says of one byte: what stands ahead of it, and behind it.
  What the document's own words of prefixes come to: contracts of Split, bound.
-/
import Derived.Test.YtcjlhdmekhifaaaGreatDoorD11
import Derived.Test.YtcjlhdmekhifaaaGreatDoorD10
import Derived.Test.YtcjlhdmekhifaaaGreatDoorShelf
import Derived.Lib.IndexMore
import Derived.Lib.Strings
import Derived.Test.YtcjlhdmekhifaaaGreatDoorD05
import Derived.Deep.DeepCutAuto
import Derived.Deep.RegionHeld3
import Derived.Deep.QuietTactic
import Derived.BigQuiet
import Derived.Laws.Cover1
namespace Go.Proofs.YtcjlhdmekhifaaaGreatDoor
open Go.RowKit

namespace E
theorem semi_none {t : List UInt8} (h : ∀ b ∈ t, b ≠ 59) : semi t = none := by
  have e : t.takeWhile (· ≠ 59) = t := by
    induction t with
    | nil => rfl
    | cons b t ih =>
      rw [List.takeWhile_cons, if_pos (by simpa using h b (by simp)), ih (fun x hx => h x (by simp [hx]))]
  unfold semi
  rw [e, List.drop_length]

theorem semi_at (s : ByteArray) (a k : Nat) (ha : a ≤ k) (hk : k < s.size) (h : (s[k]).toNat = 59) (hall : ∀ j (hj : j < s.size), a ≤ j → j < k → (s[j]).toNat ≠ 59) :
    semi (s.data.toList.drop a) = some ((s.extract a k).data.toList, s.data.toList.drop (k + 1)) := by
  have e : s.data.toList.drop a = (s.extract a k).data.toList ++ 59 :: s.data.toList.drop (k + 1) := by
    have h1 : 59 :: s.data.toList.drop (k + 1) = s.data.toList.drop k := by rw [drop_cons s k hk, byte_is (b := s[k]) (c := 59) h]
    rw [h1, extract_list]
    have h2 : s.data.toList.drop k = (s.data.toList.drop a).drop (k - a) := by rw [List.drop_drop]; congr 1; omega
    rw [h2, List.drop_take]
    exact (List.take_append_drop _ _).symm
  rw [e]
  refine semi_mk _ _ fun b hb => ?_
  obtain ⟨j, hj, hjb⟩ := List.mem_iff_getElem.1 hb
  have hz : (s.extract a k).data.toList.length = k - a := by rw [list_len]; simp; omega
  have hj2 : j < k - a := by rw [← hz]; exact hj
  have h3 := hall (a + j) (by omega) (by omega) (by omega)
  intro e2
  apply h3
  have h4 : (s.extract a k).data.toList[j] = s[a + j] := by
    have : (s.extract a k).data.toList[j]? = some (s[a + j]'(by omega)) := by
      rw [extract_list, List.drop_take, List.getElem?_take_of_lt hj2, List.getElem?_drop, List.getElem?_eq_getElem (by rw [list_len]; omega)]
      rfl
    rw [List.getElem?_eq_getElem hj] at this
    exact Option.some.inj this
  rw [← h4, hjb, e2]; rfl

theorem semi_end (s : ByteArray) (a : Nat) (hall : ∀ j (hj : j < s.size), a ≤ j → (s[j]).toNat ≠ 59) : semi (s.data.toList.drop a) = none := by
  refine semi_none fun b hb => ?_
  obtain ⟨j, hj, hjb⟩ := List.mem_iff_getElem.1 hb
  have hj2 : a + j < s.size := by rw [List.length_drop, list_len] at hj; omega
  have h3 := hall (a + j) hj2 (by omega)
  intro e2
  apply h3
  rw [List.getElem_drop] at hjb
  have h4 : s[a + j] = b := hjb
  rw [h4, e2]; rfl

/-- Expand's answers. -/
def expA (attr : Bool) (s : ByteArray) : ByteArray := match expand attr s.data.toList with | some u => ⟨u.toArray⟩ | none => ByteArray.empty
def expE (attr : Bool) (s : ByteArray) : Int := match expand attr s.data.toList with | some _ => 0 | none => 60
theorem exp_none {attr : Bool} {s : ByteArray} (h : expand attr s.data.toList = none) : expA attr s = ByteArray.empty ∧ expE attr s = 60 := by unfold expA expE; rw [h]; exact ⟨rfl, rfl⟩
theorem exp_some {attr : Bool} {s : ByteArray} {u : List UInt8} (h : expand attr s.data.toList = some u) : expA attr s = ⟨u.toArray⟩ ∧ expE attr s = 0 := by unfold expA expE; rw [h]; exact ⟨rfl, rfl⟩

/-- how far expand has come. -/
def At (attr : Bool) (s t : ByteArray) (k : Nat) : Prop := expand attr s.data.toList = (expand attr (s.data.toList.drop k)).map fun r => t.data.toList ++ r
theorem at_start (attr : Bool) (s : ByteArray) : At attr s ⟨#[]⟩ 0 := by
  unfold At
  rw [List.drop_zero]
  cases expand attr s.data.toList <;> simp
theorem at_byte {attr : Bool} {s t u : ByteArray} {k : Nat} (h : At attr s t k) (hk : k < s.size) (hb : (s[k]).toNat ≠ 38) (hu : u.data.toList = [blank attr s[k]]) : At attr s (t ++ u) (k + 1) := by
  unfold At at *
  rw [drop_cons s k hk, expand_byte attr _ _ (fun e => hb (by rw [e]; rfl))] at h
  rw [h]
  cases expand attr (s.data.toList.drop (k + 1)) with
  | none => rfl
  | some r => simp [hu]
theorem at_ref {attr : Bool} {s t u : ByteArray} {k j : Nat} {n v : List UInt8} (h : At attr s t k) (hk : k < s.size) (hb : (s[k]).toNat = 38) (hs : semi (s.data.toList.drop (k + 1)) = some (n, s.data.toList.drop (j + 1))) (hn : named n = some v) (hu : u.data.toList = v) :
    At attr s (t ++ u) (j + 1) := by
  unfold At at *
  rw [drop_cons s k hk, byte_is (b := s[k]) (c := 38) hb, expand_ref, hs] at h
  simp only [Option.bind_some] at h
  rw [hn] at h
  simp only [Option.bind_some] at h
  rw [h]
  cases expand attr (s.data.toList.drop (j + 1)) with
  | none => rfl
  | some r => simp [hu]
theorem at_bad {attr : Bool} {s t : ByteArray} {k : Nat} (h : At attr s t k) (hk : k < s.size) (hb : (s[k]).toNat = 38) (hs : semi (s.data.toList.drop (k + 1)) = none) : expand attr s.data.toList = none := by
  unfold At at h
  rw [drop_cons s k hk, byte_is (b := s[k]) (c := 38) hb, expand_ref, hs] at h
  rw [h]; rfl
theorem at_no {attr : Bool} {s t : ByteArray} {k : Nat} {n r : List UInt8} (h : At attr s t k) (hk : k < s.size) (hb : (s[k]).toNat = 38) (hs : semi (s.data.toList.drop (k + 1)) = some (n, r)) (hn : named n = none) : expand attr s.data.toList = none := by
  unfold At at h
  rw [drop_cons s k hk, byte_is (b := s[k]) (c := 38) hb, expand_ref, hs] at h
  simp only [Option.bind_some] at h
  rw [hn] at h
  rw [h]; rfl
theorem at_end {attr : Bool} {s t : ByteArray} {k : Nat} (h : At attr s t k) (hk : ¬ k < s.size) : expand attr s.data.toList = some t.data.toList := by
  unfold At at h
  rw [List.drop_of_length_le (by rw [list_len]; omega), expand_nil] at h
  rw [h]; simp
theorem named_len {n u : List UInt8} (h : named n = some u) : 1 ≤ u.length ∧ u.length ≤ 4 := by
  have hE : ∀ c : Int, 1 ≤ (Lib.encodeRune c).length ∧ (Lib.encodeRune c).length ≤ 4 := fun c => by
    have := Lib.encodeRuneZ_length c
    unfold Lib.encodeRune
    rw [List.length_map]; exact this
  unfold named at h
  repeat' split at h
  all_goals first
    | (cases h; decide)
    | (cases h)
    | (obtain ⟨c, _, hc⟩ := Option.map_eq_some_iff.1 h
       rw [← hc]
       exact hE _)
end E

theorem ret_pair {a b : ByteArray} {e f : Int} (ha : a = b) (he : e = f) : Ending.returned (.tuple #[.string a, .int .i64 e]) = .returned (.tuple #[.string b, .int .i64 f]) := by rw [ha, he]

set_option maxRecDepth 100000 in
set_option maxHeartbeats 6400000 in
theorem refExpand_any (s : ByteArray) (attr : Bool) (w : World) (hs : s.size ≤ 1000000) :
    Calls Tryz.prog 128 #[.string s, .bool attr] w fun e w' => e = .returned (.tuple #[.string (E.expA attr s), .int .i64 (E.expE attr s)]) ∧ Below w.heap.size w w' := by
  go_enter Tryz.func128, Tryz.ntmps128
  go_wp2_with fail
  go_loopw [6, 7, 8, 9] (fun v i _ _ wr => ∃ (k : Nat) (t : ByteArray), k ≤ s.size ∧ i = .int .i64 k ∧ v = .string t ∧ t.size ≤ 4 * k ∧ Hid (E.At attr s t k) ∧ Below w.heap.size w wr) (fun _ i _ _ _ => s.size - (intOf i).toNat)
  case atStart => exact ⟨0, ⟨#[]⟩, Nat.zero_le _, rfl, rfl, by decide, Lib.hid (E.at_start attr s), Below.refl _ _⟩
  case round =>
    obtain ⟨k, t, hk, rfl, rfl, ht, hA, bw⟩ := hrel
    by_cases hlt : k < s.size
    · by_cases h38 : (s[k]).toNat = 38
      · have h38i : ((s[k]).toNat : Int) = 38 := by omega
        go_wp2_with fail
        go_loop [8] (fun j => ∃ q : Nat, k + 1 ≤ q ∧ q ≤ s.size ∧ j = .int .i64 q ∧ Hid (∀ j (hj : j < s.size), k + 1 ≤ j → j < q → (s[j]).toNat ≠ 59)) (fun j => s.size - (intOf j).toNat)
        case atStart => exact ⟨k + 1, by omega, by omega, by go_num, Lib.hid (fun j _ h1 h2 => by omega)⟩
        case round =>
          obtain ⟨q, hq1, hq2, rfl, hall⟩ := hrel
          by_cases hqs : q < s.size
          · by_cases h59 : (s[q]).toNat = 59
            · have h59i : ((s[q]).toNat : Int) = 59 := by omega
              have hsemi := Lib.hid (E.semi_at s (k + 1) q hq1 hqs h59 hall.out)
              have hz : (s.extract (k + 1) q).size ≤ maxLen := by simp; unfold maxLen; omega
              have hqe : ¬ q = s.size := by omega
              clear hall h59
              go_wp2_with fail
              (with_reducible refine (refNamed_any (s.extract (k + 1) q) _ hz).mono ?_); rintro e w1 ⟨rfl, b1⟩
              have b2 := bw.trans (b1.mono bw.size)
              cases hn : E.named (s.extract (k + 1) q).data.toList with
              | none =>
                obtain ⟨r1, r2⟩ := E.exp_none (E.at_no hA.out hlt h38 hsemi.out hn)
                rw [E.namedB_no hn]
                clear hn
                have n0 : ByteArray.empty.toList.isEmpty = true := by rw [ByteArray.toList_eq]; rfl
                replace r1 := Lib.hid r1
                replace r2 := Lib.hid r2
                go_wp2
                go_ret2
                exact ⟨ret_pair r1.out.symm r2.out.symm, b2⟩
              | some u =>
                have hul := E.named_len hn
                have hr := E.at_ref (u := ⟨u.toArray⟩) hA.out hlt h38 hsemi.out hn (by simp)
                rw [E.namedB_of hn]
                clear hn
                obtain ⟨U, hU⟩ : ∃ U : ByteArray, U = ⟨u.toArray⟩ := ⟨_, rfl⟩
                have hUz : U.size = u.length := by rw [hU]; simp [ByteArray.size]
                rw [← hU] at hr ⊢
                clear hU
                have n0 := ne_empty (s := U) (by omega)
                have hr := Lib.hid hr
                clear hsemi
                go_wp2_with fail
                go_roundw
                case rel => exact ⟨q + 1, _, by omega, by go_num, rfl, by rw [ByteArray.size_append]; omega, hr, b2⟩
                case measure => simp [intOf]; omega
            · have h59i : ¬ ((s[q]).toNat : Int) = 59 := by omega
              have hall' : Hid (∀ j (hj : j < s.size), k + 1 ≤ j → j < q + 1 → (s[j]).toNat ≠ 59) := Lib.hid (fun j hj h1 h2 => by
                by_cases hjq : j = q
                · subst hjq; exact h59
                · exact hall.out j hj h1 (by omega))
              clear hall h59
              go_wp2_with fail
              go_round
              case rel => exact ⟨q + 1, by omega, by omega, by go_num, hall'⟩
              case measure => simp [intOf]; omega
          · have hqe : q = s.size := by omega
            subst hqe
            obtain ⟨r1, r2⟩ := E.exp_none (E.at_bad hA.out hlt h38 (E.semi_end s (k + 1) (fun j hj h1 => hall.out j hj h1 hj)))
            replace r1 := Lib.hid r1
            replace r2 := Lib.hid r2
            clear hall
            go_wp2
            go_ret2
            exact ⟨ret_pair r1.out.symm r2.out.symm, bw⟩
      · have h38i : ¬ ((s[k]).toNat : Int) = 38 := by omega
        have hone := E.one_byte s k hlt
        cases attr
        · have hr := Lib.hid (E.at_byte hA.out hlt h38 (u := s.extract k (k + 1)) (by rw [hone]; rfl))
          clear hone h38
          go_wp2_with fail
          go_roundw
          case rel => exact ⟨k + 1, _, by omega, by go_num, rfl, by simp; omega, hr, bw⟩
          case measure => simp [intOf]; omega
        · have hbt : ((s[k]).toNat : Int) < 256 := by have := (s[k]).toNat_lt; omega
          cases hsp : G.space ((s[k]).toNat : Int)
          · have hr := Lib.hid (E.at_byte hA.out hlt h38 (u := s.extract k (k + 1)) (by rw [hone]; unfold E.blank; rw [hsp]; rfl))
            clear hone h38
            go_wp2_with fail
            (with_reducible refine (refSpace_any _ _).mono ?_); rintro e w1 ⟨rfl, rfl⟩
            rw [hsp]
            clear hsp
            go_wp2_with fail
            go_roundw
            case rel => exact ⟨k + 1, _, by omega, by go_num, rfl, by simp; omega, hr, bw⟩
            case measure => simp [intOf]; omega
          · have hr := Lib.hid (E.at_byte hA.out hlt h38 (u := ⟨#[32]⟩) (by unfold E.blank; rw [hsp]; rfl))
            clear hone h38
            go_wp2_with fail
            (with_reducible refine (refSpace_any _ _).mono ?_); rintro e w1 ⟨rfl, rfl⟩
            rw [hsp]
            clear hsp
            go_wp2_with fail
            go_roundw
            case rel => exact ⟨k + 1, _, by omega, by go_num, rfl, by have hz : (⟨#[32]⟩ : ByteArray).size = 1 := rfl
                                                                      rw [ByteArray.size_append]; omega, hr, bw⟩
            case measure => simp [intOf]; omega
    · obtain ⟨r1, r2⟩ := E.exp_some (E.at_end hA.out hlt)
      replace r1 := Lib.hid r1
      replace r2 := Lib.hid r2
      go_wp2
      go_ret2
      exact ⟨ret_pair (by rw [r1.out]) r2.out.symm, bw⟩

theorem refExpandT_any (s : ByteArray) (w : World) (hs : s.size ≤ 1000000) :
    Calls Tryz.prog 97 #[.string s] w fun e w' => e = .returned (.tuple #[.string (E.expA false s), .int .i64 (E.expE false s)]) ∧ Below w.heap.size w w' := by
  go_enter Tryz.func97, Tryz.ntmps97
  go_wp2_with fail
  (with_reducible refine (refExpand_any s _ _ hs).mono ?_); rintro e w1 ⟨rfl, b1⟩
  go_wp2
  go_ret2
  exact ⟨rfl, b1⟩

theorem refValue_any (s : ByteArray) (w : World) (hs : s.size ≤ 1000000) :
    Calls Tryz.prog 127 #[.string s] w fun e w' => e = .returned (.tuple #[.string (E.expA true s), .int .i64 (E.expE true s)]) ∧ Below w.heap.size w w' := by
  go_enter Tryz.func127, Tryz.ntmps127
  go_wp2_with fail
  (with_reducible refine (refExpand_any s _ _ hs).mono ?_); rintro e w1 ⟨rfl, b1⟩
  go_wp2
  go_ret2
  exact ⟨rfl, b1⟩
end Go.Proofs.YtcjlhdmekhifaaaGreatDoor
namespace Go.Proofs.YtcjlhdmekhifaaaGreatDoor
open Go.RowKit

/-- the other case of an ASCII letter; any other is its own. -/
def other (n : Nat) : Nat := if 65 ≤ n ∧ n ≤ 90 then n + 32 else if n = 107 then 8490 else if n = 115 then 383 else if 97 ≤ n ∧ n ≤ 122 then n - 32 else n

/-- WHAT THE PACKAGES' VARIABLES HOLD that is read. -/
def EnvAt (w : World) : Prop :=
  (∃ m, w.cell? ⟨3, 0, none⟩ = some (.int .i64 m)) ∧
  (∃ a, w.cell? ⟨6, 0, none⟩ = some (.iface 222 (.pointer (some a)))) ∧
  (∃ t p, w.cell? ⟨7, 0, none⟩ = some (.iface t p)) ∧
  (∃ t p, w.cell? ⟨8, 0, none⟩ = some (.iface t p)) ∧
  (∀ n, n < 128 → w.cell? ⟨0, n, none⟩ = some (.int .u16 (other n : Nat)))
/-- .. and go on holding, whatever is made. -/
def Env (w : World) : Prop := ∀ w', Below w.heap.size w w' → EnvAt w'
theorem Env.at {w : World} (h : Env w) : EnvAt w := h w (Below.refl _ _)
theorem Env.most {w : World} (h : Env w) : ∃ m, w.cell? ⟨3, 0, none⟩ = some (.int .i64 m) := h.at.1
theorem Env.texts {w : World} (h : Env w) : (∃ t p, w.cell? ⟨7, 0, none⟩ = some (.iface t p)) ∧ (∃ t p, w.cell? ⟨8, 0, none⟩ = some (.iface t p)) := ⟨h.at.2.2.1, h.at.2.2.2.1⟩
theorem Env.on {w w1 : World} (h : Env w) (b : Below w.heap.size w w1) : Env w1 := fun w' h' => h w' (b.trans (h'.mono b.size))
theorem env_of {W : World} (h : EnvAt W) : Env W := by
  intro w' hb
  obtain ⟨⟨m, hm⟩, ⟨a, ha⟩, ⟨t, p, hs⟩, ⟨t', p', hr⟩, hf⟩ := h
  exact ⟨⟨m, (hb.cell (World.block_lt_of_cell? W _ hm)).trans hm⟩, ⟨a, (hb.cell (World.block_lt_of_cell? W _ ha)).trans ha⟩, ⟨t, p, (hb.cell (World.block_lt_of_cell? W _ hs)).trans hs⟩, ⟨t', p', (hb.cell (World.block_lt_of_cell? W _ hr)).trans hr⟩, fun n hn => (hb.cell (World.block_lt_of_cell? W _ (hf n hn))).trans (hf n hn)⟩
end Go.Proofs.YtcjlhdmekhifaaaGreatDoor
namespace Go.Proofs.YtcjlhdmekhifaaaGreatDoor
open Go.RowKit
namespace Cu

/-- What stands ahead of the first such byte, and behind it. -/
def parts (c : UInt8) (t : List UInt8) : Option (List UInt8 × List UInt8) :=
  match t.drop (t.takeWhile (· ≠ c)).length with
  | [] => none
  | _ :: r => some (t.takeWhile (· ≠ c), r)

theorem parts_hit (c : UInt8) (t : List UInt8) : parts c (c :: t) = some ([], t) := by simp [parts]
theorem parts_step {c b : UInt8} (h : b ≠ c) (t : List UInt8) : parts c (b :: t) = (parts c t).map fun x => (b :: x.1, x.2) := by
  unfold parts
  rw [List.takeWhile_cons_of_pos (by simpa using h)]
  simp only [List.length_cons, List.drop_succ_cons]
  cases t.drop (t.takeWhile (· ≠ c)).length <;> rfl

theorem index_parts (c : UInt8) : ∀ l : List UInt8, Lib.index l [c] = match parts c l with | some x => (x.1.length : Int) | none => -1
  | [] => rfl
  | b :: t => by
    by_cases h : b = c
    · subst h
      rw [parts_hit]
      simp [Lib.index, List.isPrefixOf]
    · rw [parts_step h]
      have ih := index_parts c t
      simp only [Lib.index]
      have hp : [c].isPrefixOf (b :: t) = false := by simp [List.isPrefixOf, Ne.symm h]
      rw [hp, ih]
      cases parts c t with
      | none => rfl
      | some x =>
        have : ((x.1.length : Int) == -1) = false := by rw [beq_eq_false_iff_ne]; omega
        simp [this]

theorem parts_append {c : UInt8} {l a r : List UInt8} (h : parts c l = some (a, r)) : l = a ++ c :: r := by
  induction l generalizing a with
  | nil => cases h
  | cons b t ih =>
    by_cases e : b = c
    · subst e
      rw [parts_hit] at h
      cases h; rfl
    · rw [parts_step e] at h
      cases hp : parts c t with
      | none => rw [hp] at h; cases h
      | some x =>
        rw [hp] at h
        cases h
        rw [List.cons_append, ← ih hp]
theorem parts_ahead {c : UInt8} {l a r : List UInt8} (h : parts c l = some (a, r)) : ∀ x ∈ a, x ≠ c := by
  unfold parts at h
  split at h
  · cases h
  · cases h
    intro x hx
    simpa using List.all_eq_true.1 (List.all_takeWhile (p := fun x => decide (x ≠ c)) (l := l)) x hx
theorem parts_no {c : UInt8} {l : List UInt8} (h : parts c l = none) : ∀ x ∈ l, x ≠ c := by
  induction l with
  | nil => simp
  | cons b t ih =>
    by_cases e : b = c
    · subst e; rw [parts_hit] at h; cases h
    · rw [parts_step e] at h
      have h2 : parts c t = none := by cases hp : parts c t with | none => rfl | some x => rw [hp] at h; cases h
      intro x hx
      rcases List.mem_cons.1 hx with rfl | hx
      · exact e
      · exact ih h2 x hx

theorem cut_hit {c : UInt8} {l a r : List UInt8} (h : parts c l = some (a, r)) : Lib.cut l [c] = (a, r, true) := by
  have e := parts_append h
  unfold Lib.cut
  rw [index_parts, h]
  simp only []
  rw [if_pos (by omega)]
  subst e
  simp
theorem cut_miss {c : UInt8} {l : List UInt8} (h : parts c l = none) : Lib.cut l [c] = (l, [], false) := by
  unfold Lib.cut
  rw [index_parts, h]
  rfl
theorem parts_size {c : UInt8} {t a u : ByteArray} (h : parts c t.data.toList = some (a.data.toList, u.data.toList)) : a.size + 1 + u.size = t.size := by
  have e := congrArg List.length (parts_append h)
  rw [List.length_append, List.length_cons, list_len, list_len, list_len] at e
  omega
theorem parted {s : ByteArray} {c : UInt8} {a r : List UInt8} (_ : parts c s.data.toList = some (a, r)) :
    ∃ t u : ByteArray, t.data.toList = a ∧ u.data.toList = r := ⟨⟨a.toArray⟩, ⟨r.toArray⟩, rfl, rfl⟩
end Cu

theorem Cu.below_drewN {B : Nat} {a w : World} (h : Below B a w) (n : Nat) : Below B a (w.drewN n) := ⟨h.os, h.tape, h.output, h.size, h.block⟩
theorem Cu.yes {s p : ByteArray} {c : UInt8} (hp : p.data.toList = [c]) {t u : ByteArray} (w : World) (hs : s.size ≤ 1000000) (hE : Env w) (h : Cu.parts c s.data.toList = some (t.data.toList, u.data.toList)) :
    Calls Tryz.prog 106 #[.string s, .string p] w fun e w' => e = .returned (.tuple #[.string t, .string u, .bool true]) ∧ Below w.heap.size w w' := by
  obtain ⟨m, hm⟩ := hE.most
  refine (Tryz.strings_Cut s p m w (by omega) hm).mono ?_
  rintro e w' ⟨rfl, n, rfl⟩
  rw [hp, Cu.cut_hit h]
  exact ⟨rfl, Cu.below_drewN (Below.refl _ _) _⟩
theorem Cu.no {s p : ByteArray} {c : UInt8} (hp : p.data.toList = [c]) (w : World) (hs : s.size ≤ 1000000) (hE : Env w) (h : Cu.parts c s.data.toList = none) :
    Calls Tryz.prog 106 #[.string s, .string p] w fun e w' => e = .returned (.tuple #[.string s, .string ⟨#[]⟩, .bool false]) ∧ Below w.heap.size w w' := by
  obtain ⟨m, hm⟩ := hE.most
  refine (Tryz.strings_Cut s p m w (by omega) hm).mono ?_
  rintro e w' ⟨rfl, n, rfl⟩
  rw [hp, Cu.cut_miss h]
  exact ⟨rfl, Cu.below_drewN (Below.refl _ _) _⟩
end Go.Proofs.YtcjlhdmekhifaaaGreatDoor
namespace Go.Proofs.YtcjlhdmekhifaaaGreatDoor
open Go.RowKit

namespace P
/-- Split's answers. -/
def spA (s : ByteArray) : ByteArray := match split s with | some x => x.1 | none => ByteArray.empty
def spB (s : ByteArray) : ByteArray := match split s with | some x => x.2 | none => ByteArray.empty
def spE (s : ByteArray) : Int := match split s with | some _ => 0 | none => 80
theorem sp_none {s : ByteArray} (h : split s = none) : spA s = ByteArray.empty ∧ spB s = ByteArray.empty ∧ spE s = 80 := by unfold spA spB spE; rw [h]; exact ⟨rfl, rfl, rfl⟩
theorem sp_some {s p n : ByteArray} (h : split s = some (p, n)) : spA s = p ∧ spB s = n ∧ spE s = 0 := by unfold spA spB spE; rw [h]; exact ⟨rfl, rfl, rfl⟩

theorem colon_at (s : ByteArray) (k : Nat) (hk : k < s.size) (h : (s[k]).toNat = 58) (hall : (s.data.toList.take k).all (fun b => decide (b ≠ 58)) = true) : colon s.data.toList = k := by
  have e : s.data.toList = s.data.toList.take k ++ 58 :: s.data.toList.drop (k + 1) := by
    have := drop_cons s k hk
    rw [byte_is (b := s[k]) (c := 58) h] at this
    rw [← this, List.take_append_drop]
  rw [e, colon_mk _ _ (fun x hx => by simpa using List.all_eq_true.1 hall x hx), List.length_take, list_len]; omega
theorem colon_end (s : ByteArray) (hall : s.data.toList.all (fun b => decide (b ≠ 58)) = true) : colon s.data.toList = s.size := by
  rw [colon_no _ (fun x hx => by simpa using List.all_eq_true.1 hall x hx), list_len]
end P

theorem pre_drewN {B : Nat} (w : World) (n : Nat) : Below B w (w.drewN n) := ⟨rfl, rfl, rfl, Nat.le_refl _, fun _ _ => rfl⟩

theorem ret_three {a b a' b' : ByteArray} {e e' : Int} (h1 : a = a') (h2 : b = b') (h3 : e = e') : Ending.returned (.tuple #[.string a, .string b, .int .i64 e]) = .returned (.tuple #[.string a', .string b', .int .i64 e']) := by rw [h1, h2, h3]

set_option maxRecDepth 100000 in
set_option maxHeartbeats 3200000 in
theorem refSplit_any (s : ByteArray) (w : World) (hs : s.size ≤ maxLen) :
    Calls Tryz.prog 98 #[.string s] w fun e w' => e = .returned (.tuple #[.string (P.spA s), .string (P.spB s), .int .i64 (P.spE s)]) ∧ Below w.heap.size w w' := by
  have hsm : s.size ≤ 9223372036854775807 := hs
  go_enter Tryz.func98, Tryz.ntmps98
  go_wp2_with fail
  go_loop [5] (fun i => ∃ k : Nat, k ≤ s.size ∧ i = .int .i64 k ∧ Hid ((s.data.toList.take k).all (fun b => decide (b ≠ 58)) = true)) (fun i => s.size - (intOf i).toNat)
  case atStart => exact ⟨0, Nat.zero_le _, rfl, Lib.hid (by simp)⟩
  case round =>
    obtain ⟨k, hk, rfl, hall⟩ := hrel
    by_cases hlt : k < s.size
    · by_cases hq : (s[k]).toNat = 58
      · have hqi : ((s[k]).toNat : Int) = 58 := by omega
        have hcol := P.colon_at s k hlt hq hall.out
        have hS : P.split s = if P.plainB (s.extract 0 k) && P.plainB (s.extract (k + 1) s.size) then some (s.extract 0 k, s.extract (k + 1) s.size) else none := by
          unfold P.split; rw [hcol, if_pos hlt]
        clear hcol hall hq
        have z1 : (s.extract 0 k).size ≤ maxLen := by simp; unfold maxLen at *; omega
        have z2 : (s.extract (k + 1) s.size).size ≤ maxLen := by simp; unfold maxLen at *; omega
        have hS := Lib.hid hS
        go_wp2_with fail
        (with_reducible refine (refPlain_any (s.extract 0 k) _ z1).mono ?_); rintro e w1 ⟨rfl, b1⟩
        cases hp1 : G.plain (s.extract 0 k).data.toList
        · obtain ⟨r1, r2, r3⟩ := P.sp_none (hS.out.trans (by unfold P.plainB; rw [hp1]; rfl))
          clear hp1
          replace r1 := Lib.hid r1
          replace r2 := Lib.hid r2
          replace r3 := Lib.hid r3
          go_wp2
          go_ret3
          exact ⟨ret_three r1.out.symm r2.out.symm r3.out.symm, b1⟩
        · go_wp2_with fail
          (with_reducible refine (refPlain_any (s.extract (k + 1) s.size) _ z2).mono ?_); rintro e w2 ⟨rfl, b2⟩
          have b3 := b1.trans (b2.mono b1.size)
          cases hp2 : G.plain (s.extract (k + 1) s.size).data.toList
          · obtain ⟨r1, r2, r3⟩ := P.sp_none (hS.out.trans (by unfold P.plainB; rw [hp1, hp2]; rfl))
            clear hp1 hp2
            replace r1 := Lib.hid r1
            replace r2 := Lib.hid r2
            replace r3 := Lib.hid r3
            go_wp2
            go_ret3
            exact ⟨ret_three r1.out.symm r2.out.symm r3.out.symm, b3⟩
          · obtain ⟨r1, r2, r3⟩ := P.sp_some (hS.out.trans (by unfold P.plainB; rw [hp1, hp2]; rfl))
            clear hp1 hp2
            replace r1 := Lib.hid r1
            replace r2 := Lib.hid r2
            replace r3 := Lib.hid r3
            have hk1 : (k : Int) + 1 ≤ (s.size : Int) := by omega
            go_wp2_with fail
            go_quiet (fail)
            go_wp2_with fail
            go_ret3
            exact ⟨ret_three r1.out.symm r2.out.symm r3.out.symm, b3.trans (pre_drewN _ _)⟩
      · have hst := Lib.hid (all_take (fun b => decide (b ≠ 58)) s.data.toList k (by rw [list_len]; exact hlt))
        have hgk : s.data.toList[k]'(by rw [list_len]; exact hlt) = s[k] := rfl
        rw [hgk] at hst
        clear hgk
        have hr := Lib.hid (hst.out.trans (show _ = true by rw [hall.out]; simp; exact fun e => hq (by rw [e]; rfl)))
        have hqi : ¬ ((s[k]).toNat : Int) = 58 := by omega
        clear hst hall hq
        go_wp2
        go_round
        case rel => exact ⟨k + 1, by omega, by go_num, hr⟩
        case measure => simp [intOf]; omega
    · have hfull : s.data.toList.take k = s.data.toList := List.take_of_length_le (by rw [list_len]; omega)
      rw [hfull] at hall
      clear hfull
      have hS : P.split s = if P.plainB s then some (ByteArray.empty, s) else none := by
        unfold P.split; rw [P.colon_end s hall.out, if_neg (by omega)]
      have hS := Lib.hid hS
      clear hall
      go_wp2_with fail
      (with_reducible refine (refPlain_any s _ hs).mono ?_); rintro e w1 ⟨rfl, b1⟩
      cases hp1 : G.plain s.data.toList
      · obtain ⟨r1, r2, r3⟩ := P.sp_none (hS.out.trans (by unfold P.plainB; rw [hp1]; rfl))
        clear hp1
        replace r1 := Lib.hid r1
        replace r2 := Lib.hid r2
        replace r3 := Lib.hid r3
        go_wp2
        go_ret3
        exact ⟨ret_three r1.out.symm r2.out.symm r3.out.symm, b1⟩
      · obtain ⟨r1, r2, r3⟩ := P.sp_some (hS.out.trans (by unfold P.plainB; rw [hp1]; rfl))
        clear hp1
        replace r1 := Lib.hid r1
        replace r2 := Lib.hid r2
        replace r3 := Lib.hid r3
        go_wp2
        go_ret3
        exact ⟨ret_three r1.out.symm r2.out.symm r3.out.symm, b1⟩
end Go.Proofs.YtcjlhdmekhifaaaGreatDoor
