/-
  What each call of the sums' program comes to: contracts of the leaf functions (Sum, the document's Sum, Join, the document's Join, left, awake).
-/
import Derived.Test.YtocflppfcdopgaaRows
import Derived.Test.YtocflppfcdopgaaMath
import Derived.WalkKit
import Derived.WalkSpells
import Derived.Lib.Hide
import Derived.Laws.IdiomStrings
namespace Go.Proofs.Ytocflppfcdopgaa
open Go.RowKit

theorem ret_int {k : IntKind} {a b : Int} (h : a = b) : Ending.returned (.int k a) = .returned (.int k b) := by rw [h]

theorem bytes_laid (s : ByteArray) (w : World) : ∃ cap C, (convert 9 29 (.string s)).run Try.prog w = .ok (.slice (some ⟨w.heap.size, 0, none⟩) s.size cap) (w.drew.alloc (.cells C 5 (C.size, C.size + 1))) ∧
    ∀ j (h : j < s.size), (w.alloc (.cells C 5 (C.size, C.size + 1))).cell? ⟨w.heap.size, j, none⟩ = some (.int .u8 (s[j].toNat : Int)) :=
  ⟨_, _, run_bytes_of_string w 9 29 5 s Try.underlying9 Try.underlying29 Try.underlying5, fun j h => by
    rw [World.cell?_alloc_mark, bytesRow_at s _ j h]; rfl⟩

set_option maxHeartbeats 400000 in
theorem sum_any (s : ByteArray) (w : World) (hs : s.size ≤ maxLen) :
    Calls Try.prog 8 #[.string s] w fun e w' => e = .returned (.int .i64 (M.adl s.data.toList)) ∧ Below w.heap.size w w' := by
  unfold maxLen at hs
  obtain ⟨cap, C, hconv, hcell⟩ := bytes_laid s w
  go_enter Try.func8, Try.ntmps8
  go_wp2
  go_loop [3, 4, 10] (fun a b i => ∃ k : Nat, k ≤ s.size ∧ i = .int .i64 k ∧ a = .int .i64 (M.stt (s.data.toList.take k)).1 ∧ b = .int .i64 (M.stt (s.data.toList.take k)).2) (fun _ _ i => s.size - (intOf i).toNat)
  case atStart => exact ⟨0, Nat.zero_le _, rfl, rfl, rfl⟩
  case round =>
    obtain ⟨k, hk, rfl, rfl, rfl⟩ := hrel
    have hb := M.stt_bd (s.data.toList.take k)
    by_cases hlt : k < s.size
    · have hc := hcell k hlt
      have hbyte : (s[k].toNat : Int) < 256 := by have := s[k].toNat_lt; omega
      have hst := Lib.hid (M.stt_take s.data.toList k (by simpa using hlt))
      have hgk : s.data.toList[k]'(by simpa using hlt) = s[k] := rfl
      rw [hgk] at hst
      clear hgk hcell hconv
      go_wp2
      go_round
      case rel => exact ⟨k + 1, by omega, by go_num, by rw [hst.out.1], by rw [hst.out.2]⟩
      case measure => simp [intOf]; omega
    · go_wp2
      go_ret
      have hfull : s.data.toList.take k = s.data.toList := List.take_of_length_le (by simp; omega)
      rw [hfull]
      exact ⟨ret_int rfl, ((Below.refl _ _).alloc (Nat.le_refl _) _).drew⟩

set_option maxHeartbeats 400000 in
theorem ref_any (s : ByteArray) (w : World) (hs : s.size ≤ maxLen) :
    Calls Try.prog 9 #[.string s] w fun e w' => e = .returned (.int .i64 (M.adl s.data.toList)) ∧ w = w' := by
  unfold maxLen at hs
  go_enter Try.func9, Try.ntmps9
  go_wp2
  go_loop [3, 4, 5] (fun a b i => ∃ k : Nat, k ≤ s.size ∧ i = .int .i64 k ∧ a = .int .i64 (M.stt (s.data.toList.take k)).1 ∧ b = .int .i64 (M.stt (s.data.toList.take k)).2) (fun _ _ i => s.size - (intOf i).toNat)
  case atStart => exact ⟨0, Nat.zero_le _, rfl, rfl, rfl⟩
  case round =>
    obtain ⟨k, hk, rfl, rfl, rfl⟩ := hrel
    have hb := M.stt_bd (s.data.toList.take k)
    by_cases hlt : k < s.size
    · have hbyte : (s[k].toNat : Int) < 256 := by have := s[k].toNat_lt; omega
      have hst := Lib.hid (M.stt_take s.data.toList k (by simpa using hlt))
      have hgk : s.data.toList[k]'(by simpa using hlt) = s[k] := rfl
      rw [hgk] at hst
      clear hgk
      go_wp2
      go_round
      case rel => exact ⟨k + 1, by omega, by go_num, by rw [hst.out.1], by rw [hst.out.2]⟩
      case measure => simp [intOf]; omega
    · go_wp2
      go_ret
      have hfull : s.data.toList.take k = s.data.toList := List.take_of_length_le (by simp; omega)
      rw [hfull]
      exact ⟨ret_int rfl, rfl⟩

theorem tmod_bd (n : Int) : -65521 < n.tmod 65521 ∧ n.tmod 65521 < 65521 := by
  have h1 := Int.lt_tmod_of_pos n (show (0 : Int) < 65521 by decide)
  have h2 := Int.tmod_lt_of_pos n (show (0 : Int) < 65521 by decide)
  omega
theorem tmod_left (n : Int) : (n.tmod 65521 + 65521) % 65521 = n % 65521 := by
  have h := Int.mul_tdiv_add_tmod n 65521
  generalize n.tdiv 65521 = q at h
  omega

theorem left_any (n : Int) (w : World) :
    Calls Try.prog 12 #[.int .i64 n] w fun e w' => e = .returned (.int .i64 (n % 65521)) ∧ w = w' := by
  have hb := tmod_bd n
  have hl := Lib.hid (tmod_left n)
  go_enter Try.func12, Try.ntmps12
  go_wp2
  go_ret
  exact ⟨ret_int hl.out, rfl⟩


theorem mul_bd (n a : Int) (h0 : 0 ≤ n) (h1 : n < 2147483648) (a0 : 0 ≤ a) (a1 : a < 65536) : -2147483648 ≤ n * (a - 1) ∧ n * (a - 1) ≤ 140737488355328 := by
  have e : n * (a - 1) = n * a - n := by rw [Int.mul_sub, Int.mul_one]
  have h2 : 0 ≤ n * a := Int.mul_nonneg h0 a0
  have h3 : n * a ≤ 2147483648 * 65536 := Int.mul_le_mul (by omega) (by omega) a0 (by decide)
  omega
theorem mul_bd2 (n a : Int) (h0 : 0 ≤ n) (h1 : n < 65521) (a0 : 0 ≤ a) (a1 : a < 65536) : 0 ≤ n * (a + 65521 - 1) ∧ n * (a + 65521 - 1) ≤ 8587845120 := by
  refine ⟨Int.mul_nonneg h0 (by omega), ?_⟩
  have h3 : n * (a + 65521 - 1) ≤ 65520 * 131056 := Int.mul_le_mul (by omega) (by omega) (by omega) (by decide)
  omega
theorem ref_join (x y n : Int) : (x / 65536 + y / 65536 + n % 65521 * (x % 65536 + 65521 - 1)) % 65521 * 65536 + (x % 65536 + y % 65536 + 65521 - 1) % 65521 = M.join x y n := by
  unfold M.join M.joinA M.joinB
  generalize x % 65536 = a
  generalize y % 65536 = c
  generalize x / 65536 = b
  generalize y / 65536 = d
  have e : (b + d + n % 65521 * (a + 65521 - 1)) % 65521 = (b + d + n * (a - 1)) % 65521 := by
    have hn := Int.mul_ediv_add_emod n 65521
    generalize hr : n % 65521 = r at *
    generalize n / 65521 = q at hn
    subst hn
    have e1 : (65521 * q + r) * (a - 1) = 65521 * (q * (a - 1)) + r * (a - 1) := by rw [Int.add_mul, Int.mul_assoc]
    have e2 : r * (a + 65521 - 1) = r * (a - 1) + 65521 * r := by rw [show a + 65521 - 1 = (a - 1) + 65521 by omega, Int.mul_add]; omega
    rw [e1, e2]
    generalize q * (a - 1) = u
    generalize r * (a - 1) = v
    omega
  rw [e]
  omega

set_option maxHeartbeats 400000 in
theorem join_any (x y n : Int) (w : World) (x0 : 0 ≤ x) (x1 : x < 4294967296) (y0 : 0 ≤ y) (y1 : y < 4294967296) (n0 : 0 ≤ n) (n1 : n < 2147483648) :
    Calls Try.prog 10 #[.int .i64 x, .int .i64 y, .int .i64 n] w fun e w' => e = .returned (.int .i64 (M.join x y n)) ∧ w = w' := by
  have hm := mul_bd n (x % 65536) n0 n1 (by omega) (by omega)
  have hA : 0 ≤ (x / 65536 + y / 65536 + n * (x % 65536 - 1)) % 65521 ∧ (x / 65536 + y / 65536 + n * (x % 65536 - 1)) % 65521 < 65521 := by omega
  have hB : 0 ≤ (x % 65536 + y % 65536 - 1) % 65521 ∧ (x % 65536 + y % 65536 - 1) % 65521 < 65521 := by omega
  go_enter Try.func10, Try.ntmps10
  go_wp2_with (go_at_call 12; refine (left_any _ _).mono ?_; rintro e w' ⟨rfl, rfl⟩)
  go_ret
  exact ⟨ret_int rfl, rfl⟩

set_option maxHeartbeats 400000 in
theorem refjoin_any (x y n : Int) (w : World) (x0 : 0 ≤ x) (x1 : x < 4294967296) (y0 : 0 ≤ y) (y1 : y < 4294967296) (n0 : 0 ≤ n) (n1 : n < 2147483648) :
    Calls Try.prog 11 #[.int .i64 x, .int .i64 y, .int .i64 n] w fun e w' => e = .returned (.int .i64 (M.join x y n)) ∧ w = w' := by
  have hm := mul_bd2 (n % 65521) (x % 65536) (by omega) (by omega) (by omega) (by omega)
  have H := Lib.hid (ref_join x y n)
  go_enter Try.func11, Try.ntmps11
  go_wp2
  go_ret
  exact ⟨ret_int H.out, rfl⟩

theorem wiki_call (w : World) : Calls Try.prog 8 #[.string { data := #[87, 105, 107, 105, 112, 101, 100, 105, 97] }] w fun e w' => e = .returned (.int .i64 300286872) ∧ Below w.heap.size w w' :=
  (sum_any _ w (by decide)).mono fun _ _ ⟨he, hw⟩ => ⟨by rw [he]; exact ret_int M.wiki, hw⟩
theorem empt_call (w : World) : Calls Try.prog 8 #[.string { data := #[] }] w fun e w' => e = .returned (.int .i64 1) ∧ Below w.heap.size w w' :=
  (sum_any _ w (by decide)).mono fun _ _ ⟨he, hw⟩ => ⟨by rw [he]; exact ret_int M.empt, hw⟩

theorem awake_any (w : World) : Calls Try.prog 7 #[] w fun e w' => e = .returned (.bool true) ∧ Below w.heap.size w w' := by
  go_enter Try.func7, Try.ntmps7
  go_wp2_with fail
  (with_reducible refine (wiki_call _).mono ?_); rintro e w1 ⟨rfl, b1⟩
  go_wp2_with fail
  (with_reducible refine (empt_call _).mono ?_); rintro e w2 ⟨rfl, b2⟩
  go_wp2_with fail
  go_ret
  exact ⟨rfl, b1.trans (b2.mono b1.size)⟩
end Go.Proofs.Ytocflppfcdopgaa
