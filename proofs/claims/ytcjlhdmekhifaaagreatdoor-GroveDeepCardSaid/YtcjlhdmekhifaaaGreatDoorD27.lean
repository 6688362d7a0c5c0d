/-
  What strconv.ParseUint makes of digits to the bases 10 and 16, at 32 bits.
-/
import Derived.Test.YtcjlhdmekhifaaaGreatDoorD04
import Derived.Test.YtcjlhdmekhifaaaGreatDoorShelf
import Derived.Shelf.Strconv.Lower
import Derived.Lib.Strings
import Derived.Lib.Walk
import Derived.Lib.ConvBytes
import Derived.Lib.Hide
import Derived.Laws.Strings3
import Derived.Laws.Closers25
import Derived.Laws.Closers25b
import Derived.BigCall
import Derived.BigGuard
namespace Go.Proofs.YtcjlhdmekhifaaaGreatDoor
open Go.RowKit

namespace E
/-- What digits say, whatever it is. -/
def valGo (base : Nat) : Nat → List UInt8 → Option Nat
  | n, [] => some n
  | n, c :: t => (digit c base).bind fun d => valGo base (n * base + d) t
/-- .. 0, if they are none, or say more than 32 bits hold. -/
def val32 (base : Nat) (l : List UInt8) : Nat := if l = [] then 0 else match valGo base 0 l with | some n => if n ≤ 4294967295 then n else 0 | none => 0

theorem valGo_le (base : Nat) (hb : 1 ≤ base) : ∀ (l : List UInt8) (n m : Nat), valGo base n l = some m → n ≤ m
  | [], n, m, h => by simp [valGo] at h; omega
  | c :: t, n, m, h => by
    simp only [valGo] at h
    cases hd : digit c base with
    | none => rw [hd] at h; cases h
    | some d =>
      rw [hd] at h
      have := valGo_le base hb t _ m h
      have : n ≤ n * base := Nat.le_mul_of_pos_right _ (by omega)
      omega

def lowN (n : Nat) : Nat := n ||| 32
theorem lowN_lt : ∀ n, n < 256 → lowN n < 256 := by decide +kernel
theorem lowN_up : ∀ n, n < 256 → 65 ≤ n → n ≤ 90 → lowN n = n + 32 := by decide +kernel
theorem lowN_low : ∀ n, n < 256 → 97 ≤ n → n ≤ 122 → lowN n = n := by decide +kernel
theorem lowN_no : ∀ n, n < 256 → 97 ≤ lowN n → lowN n ≤ 122 → (65 ≤ n ∧ n ≤ 90) ∨ (97 ≤ n ∧ n ≤ 122) := by decide +kernel

theorem digit_dec (c : UInt8) (base : Nat) (h : 48 ≤ c.toNat ∧ c.toNat ≤ 57) (hb : 10 ≤ base) : digit c base = some (c.toNat - 48) := by
  simp only [digit, if_pos h, Option.bind_some]
  rw [if_pos (by omega)]
theorem digit_up (c : UInt8) (base : Nat) (h : 65 ≤ c.toNat ∧ c.toNat ≤ 70) (hb : 16 ≤ base) : digit c base = some (c.toNat - 55) := by
  simp only [digit, if_neg (show ¬ (48 ≤ c.toNat ∧ c.toNat ≤ 57) by omega), if_pos h, Option.bind_some]
  rw [if_pos (by omega)]
theorem digit_low (c : UInt8) (base : Nat) (h : 97 ≤ c.toNat ∧ c.toNat ≤ 102) (hb : 16 ≤ base) : digit c base = some (c.toNat - 87) := by
  simp only [digit, if_neg (show ¬ (48 ≤ c.toNat ∧ c.toNat ≤ 57) by omega), if_neg (show ¬ (65 ≤ c.toNat ∧ c.toNat ≤ 70) by omega), if_pos h, Option.bind_some]
  rw [if_pos (by omega)]
theorem digit_no10 (c : UInt8) (h : ¬ (48 ≤ c.toNat ∧ c.toNat ≤ 57)) : digit c 10 = none := by
  simp only [digit, if_neg h]
  split
  · simp only [Option.bind_some]; rw [if_neg (by omega)]
  · split
    · simp only [Option.bind_some]; rw [if_neg (by omega)]
    · rfl
theorem digit_no16 (c : UInt8) (h : ¬ (48 ≤ c.toNat ∧ c.toNat ≤ 57)) (h2 : ¬ (65 ≤ c.toNat ∧ c.toNat ≤ 70)) (h3 : ¬ (97 ≤ c.toNat ∧ c.toNat ≤ 102)) : digit c 16 = none := by
  simp only [digit, if_neg h, if_neg h2, if_neg h3, Option.bind_none]

theorem valGo_step {base n d : Nat} {c : UInt8} {t : List UInt8} (h : digit c base = some d) : valGo base n (c :: t) = valGo base (n * base + d) t := by simp [valGo, h]
theorem valGo_none {base n : Nat} {c : UInt8} {t : List UInt8} (h : digit c base = none) : valGo base n (c :: t) = none := by simp [valGo, h]

/-- A number that was read. -/
def Read (base : Nat) (l : List UInt8) (n : Nat) : Prop := l ≠ [] ∧ valGo base 0 l = some n ∧ n ≤ 4294967295
/-- .. or none was. -/
def NotRead (base : Nat) (l : List UInt8) : Prop := l = [] ∨ ∀ n, valGo base 0 l = some n → 4294967295 < n
theorem Read.val {base : Nat} {l : List UInt8} {n : Nat} (h : Read base l n) : val32 base l = n := by
  obtain ⟨h1, h2, h3⟩ := h
  unfold val32
  rw [if_neg h1, h2]
  simp only []
  rw [if_pos h3]
theorem NotRead.val {base : Nat} {l : List UInt8} (h : NotRead base l) : val32 base l = 0 := by
  unfold val32
  split
  · rfl
  · rename_i hne
    rcases h with h | h
    · exact absurd h hne
    · cases hv : valGo base 0 l with
      | none => rfl
      | some n =>
        simp only []
        rw [if_neg (by have := h n hv; omega)]
end E

theorem lower_any (n : Nat) (hn : n < 256) (w : World) : Calls Tryz.prog 178 #[.int .u8 (n : Int)] w fun e w' => e = .returned (.int .u8 (E.lowN n : Int)) ∧ w = w' := by
  have h : ∀ n : Nat, n < 256 → bits .or .u8 (n : Int) 32 = (E.lowN n : Int) := by decide +kernel
  refine (Tryz.internal_strconv_lower (n : Int) w).mono ?_
  rintro e w' ⟨rfl, rfl⟩
  exact ⟨by rw [h n hn], rfl⟩

theorem lower_95 (w : World) : Calls Tryz.prog 178 #[.int .u8 95] w fun e w' => e = .returned (.int .u8 127) ∧ w = w' := lower_any 95 (by decide) w

/-- What the inner call answers. -/
def Parsed (base : Nat) (l : List UInt8) (w : World) (e : Ending) (w' : World) : Prop :=
  ((∃ n : Nat, E.Read base l n ∧ e = .returned (.tuple #[.int .u64 (n : Int), .nilIface])) ∨ (∃ v k : Int, E.NotRead base l ∧ (k = 1 ∨ k = 2) ∧ e = .returned (.tuple #[.int .u64 v, .iface 214 (.int .i64 k)]))) ∧ Below w.heap.size w w'

theorem below_bytes (w : World) (s : ByteArray) (t : TypeId) : Below w.heap.size w (Lib.bytesWorld w t s) :=
  ⟨rfl, rfl, rfl, by rw [Lib.bytesWorld_size]; omega, fun k hk => Lib.bytesWorld_at_old w t s k hk⟩

set_option maxHeartbeats 32000000 in
set_option maxRecDepth 100000 in
theorem parseUint_10 (t : ByteArray) (hmax : t.size ≤ 1000000) (w : World) :
    Calls Tryz.prog 176 #[.string t, .int .i64 10, .int .i64 32] w (Parsed 10 t.data.toList w) := by
  have hbw := below_bytes w t 5
  by_cases h0 : t.size = 0
  · have ht : t = ⟨#[]⟩ := by
      apply ByteArray.ext
      exact Array.eq_empty_of_size_eq_zero h0
    have hbad := Lib.hid (show E.NotRead 10 t.data.toList from .inl (by rw [ht]))
    generalize t.data.toList = bs at *
    subst ht
    clear h0 hbw
    go_enter Tryz.func176, Tryz.ntmps176
    go_wp2
    go_ret2
    exact ⟨.inr ⟨_, _, hbad.out, .inr rfl, rfl⟩, Below.refl _ _⟩
  have hne := Lib.hid (show t.data.toList ≠ [] from lst_ne (by omega))
  have hemp : t.toList.isEmpty = false := by
    rw [← decide_eq_emptyBytes]
    exact decide_eq_false (fun h => h0 (by rw [h]; rfl))
  have hcv := Lib.run_convert_string_bytes (P := Tryz.prog) w 9 78 5 t (u := .string) Tryz.underlying9 Tryz.underlying78 Tryz.underlying5
  have hB : ∀ j, j < t.size → (Lib.bytesWorld w 5 t).cell? ⟨w.heap.size, j, none⟩ = some (.int .u8 (t.data.toList.getD j 0).toNat) := fun j hj => Lib.bytesWorld_cell w 5 t j hj
  obtain ⟨W1, hW1⟩ : ∃ W1, W1 = Lib.bytesWorld w 5 t := ⟨_, rfl⟩
  rw [← hW1] at hcv hB hbw
  clear hW1
  obtain ⟨bs, hL⟩ : ∃ bs, bs = t.data.toList := ⟨_, rfl⟩
  have hLn : bs.length = t.size := by rw [hL, Lib.size_eq]
  rw [← hL] at hB hne ⊢
  clear hL
  have hmv : IntKind.u64.wrap (IntKind.u64.wrap 4294967296 - 1) = 4294967295 := by
    rw [IntKind.wrap_u64, IntKind.wrap_u64]
    decide
  go_enter Tryz.func176, Tryz.ntmps176
  go_wp2
  go_loop [12, 13, 101] (fun vu vn vi => ∃ (k acc : Nat) (a : Int), vu = .bool false ∧ vn = .int .u64 a ∧ vi = .int .i64 k ∧ k ≤ t.size ∧ Hid (a = (acc : Int) ∧ acc ≤ 4294967295 ∧ E.valGo 10 0 bs = E.valGo 10 acc (bs.drop k)))
    (fun _ _ vi => t.size - (intOf vi).toNat)
  case atStart => exact ⟨0, 0, 0, rfl, rfl, rfl, by omega, rfl, by omega, rfl⟩
  case round =>
    obtain ⟨k, acc, a, rfl, rfl, rfl, hk, hh⟩ := hrel
    obtain ⟨ha, hacc, hdec⟩ := hh.out
    clear hh
    have a0 : 0 ≤ a := by omega
    have a1 : a ≤ 4294967295 := by omega
    by_cases hkn : k < t.size
    · have hc := hB k hkn
      have hdrop : bs.drop k = bs[k]'(by omega) :: bs.drop (k + 1) := List.drop_eq_getElem_cons (by omega)
      have hget : bs.getD k 0 = bs[k]'(by omega) := by simp [List.getD, List.getElem?_eq_getElem (show k < bs.length by omega)]
      rw [hdrop] at hdec
      rw [hget] at hc
      generalize bs[k]'(by omega) = c at hc hdec
      have hc256 : c.toNat < 256 := c.toNat_lt
      clear hB hdrop hget hne
      by_cases hdig : 48 ≤ c.toNat ∧ c.toNat ≤ 57
      · obtain ⟨hd0, hd1⟩ := hdig
        have hF := E.valGo_step (n := acc) (t := bs.drop (k + 1)) (E.digit_dec c 10 ⟨hd0, hd1⟩ (by decide))
        by_cases hov : 4294967295 < acc * 10 + (c.toNat - 48)
        · have hbad := Lib.hid (show E.NotRead 10 bs from .inr (fun n hn => by rw [hdec, hF] at hn; have := E.valGo_le 10 (by decide) _ _ _ hn; omega))
          have iov : 4294967295 < a * 10 + ((c.toNat : Int) - 48) := by omega
          clear hacc hF hov ha hdec
          go_wp2
          go_ret2
          exact ⟨.inr ⟨_, _, hbad.out, .inl rfl, rfl⟩, hbw⟩
        · have HN : Hid (a * 10 + ((c.toNat : Int) - 48) = ((acc * 10 + (c.toNat - 48) : Nat) : Int) ∧ acc * 10 + (c.toNat - 48) ≤ 4294967295 ∧ E.valGo 10 0 bs = E.valGo 10 (acc * 10 + (c.toNat - 48)) (bs.drop (k + 1))) := Lib.hid ⟨by omega, by omega, hdec.trans hF⟩
          have iov : a * 10 + ((c.toNat : Int) - 48) ≤ 4294967295 := by omega
          clear hacc hF hov ha hdec
          go_wp2
          refine ⟨⟨k + 1, acc * 10 + (c.toNat - 48), a * 10 + ((c.toNat : Int) - 48), rfl, (by first | rfl | (congr 1; omega)), (by first | rfl | (congr 1; omega)), by omega, HN⟩, by simp [intOf]; omega⟩
      have hF := E.valGo_none (n := acc) (t := bs.drop (k + 1)) (E.digit_no10 c hdig)
      have hbad := Lib.hid (show E.NotRead 10 bs from .inr (fun n hn => by rw [hdec, hF] at hn; cases hn))
      have hl2 := E.lowN_lt c.toNat hc256
      have hdig' : ¬ (48 ≤ (c.toNat : Int)) ∨ ¬ ((c.toNat : Int) ≤ 57) := by omega
      have hlow := lower_any c.toNat hc256
      generalize c.toNat = n at *
      by_cases h95 : n = 95
      · subst h95
        clear hacc hF ha hdec hdig hl2 hdig' hlow 
        go_wp2_with ((with_reducible refine (lower_95 _).mono ?_); rintro e w' ⟨rfl, rfl⟩)
        all_goals go_ret2
        all_goals exact ⟨.inr ⟨_, _, hbad.out, .inr rfl, rfl⟩, hbw⟩
      have h96 : ((n : Int) == 95) = false := beq_eq_false_iff_ne.2 (by omega)
      generalize E.lowN n = L at *
      clear hacc hF ha hdec h95 hdig
      by_cases hL1 : 97 ≤ L ∧ L ≤ 122
      · obtain ⟨hL1, hL2⟩ := hL1
        go_wp2_with ((with_reducible refine (hlow _).mono ?_); rintro e w' ⟨rfl, rfl⟩)
        all_goals go_ret2
        all_goals exact ⟨.inr ⟨_, _, hbad.out, .inr rfl, rfl⟩, hbw⟩
      · have hL3 : ¬ (97 ≤ (L : Int)) ∨ ¬ ((L : Int) ≤ 122) := by omega
        clear hL1
        go_wp2_with ((with_reducible refine (hlow _).mono ?_); rintro e w' ⟨rfl, rfl⟩)
        all_goals go_ret2
        all_goals exact ⟨.inr ⟨_, _, hbad.out, .inr rfl, rfl⟩, hbw⟩
    · have hkk : k = t.size := by omega
      subst hkk
      have hF : E.valGo 10 acc (bs.drop t.size) = some acc := by rw [List.drop_eq_nil_of_le (by omega)]; rfl
      have hgood := Lib.hid (show E.Read 10 bs acc from ⟨hne.out, hdec.trans hF, hacc⟩)
      subst ha
      clear hacc hF a0 a1 hdec
      go_wp2
      go_ret2
      exact ⟨.inl ⟨_, hgood.out, rfl⟩, hbw⟩

set_option maxHeartbeats 32000000 in
set_option maxRecDepth 100000 in
theorem parseUint_16 (t : ByteArray) (hmax : t.size ≤ 1000000) (w : World) :
    Calls Tryz.prog 176 #[.string t, .int .i64 16, .int .i64 32] w (Parsed 16 t.data.toList w) := by
  have hbw := below_bytes w t 5
  by_cases h0 : t.size = 0
  · have ht : t = ⟨#[]⟩ := by
      apply ByteArray.ext
      exact Array.eq_empty_of_size_eq_zero h0
    have hbad := Lib.hid (show E.NotRead 16 t.data.toList from .inl (by rw [ht]))
    generalize t.data.toList = bs at *
    subst ht
    clear h0 hbw
    go_enter Tryz.func176, Tryz.ntmps176
    go_wp2
    go_ret2
    exact ⟨.inr ⟨_, _, hbad.out, .inr rfl, rfl⟩, Below.refl _ _⟩
  have hne := Lib.hid (show t.data.toList ≠ [] from lst_ne (by omega))
  have hemp : t.toList.isEmpty = false := by
    rw [← decide_eq_emptyBytes]
    exact decide_eq_false (fun h => h0 (by rw [h]; rfl))
  have hcv := Lib.run_convert_string_bytes (P := Tryz.prog) w 9 78 5 t (u := .string) Tryz.underlying9 Tryz.underlying78 Tryz.underlying5
  have hB : ∀ j, j < t.size → (Lib.bytesWorld w 5 t).cell? ⟨w.heap.size, j, none⟩ = some (.int .u8 (t.data.toList.getD j 0).toNat) := fun j hj => Lib.bytesWorld_cell w 5 t j hj
  obtain ⟨W1, hW1⟩ : ∃ W1, W1 = Lib.bytesWorld w 5 t := ⟨_, rfl⟩
  rw [← hW1] at hcv hB hbw
  clear hW1
  obtain ⟨bs, hL⟩ : ∃ bs, bs = t.data.toList := ⟨_, rfl⟩
  have hLn : bs.length = t.size := by rw [hL, Lib.size_eq]
  rw [← hL] at hB hne ⊢
  clear hL
  have hmv : IntKind.u64.wrap (IntKind.u64.wrap 4294967296 - 1) = 4294967295 := by
    rw [IntKind.wrap_u64, IntKind.wrap_u64]
    decide
  go_enter Tryz.func176, Tryz.ntmps176
  go_wp2
  go_loop [12, 13, 101] (fun vu vn vi => ∃ (k acc : Nat) (a : Int), vu = .bool false ∧ vn = .int .u64 a ∧ vi = .int .i64 k ∧ k ≤ t.size ∧ Hid (a = (acc : Int) ∧ acc ≤ 4294967295 ∧ E.valGo 16 0 bs = E.valGo 16 acc (bs.drop k)))
    (fun _ _ vi => t.size - (intOf vi).toNat)
  case atStart => exact ⟨0, 0, 0, rfl, rfl, rfl, by omega, rfl, by omega, rfl⟩
  case round =>
    obtain ⟨k, acc, a, rfl, rfl, rfl, hk, hh⟩ := hrel
    obtain ⟨ha, hacc, hdec⟩ := hh.out
    clear hh
    have a0 : 0 ≤ a := by omega
    have a1 : a ≤ 4294967295 := by omega
    by_cases hkn : k < t.size
    · have hc := hB k hkn
      have hdrop : bs.drop k = bs[k]'(by omega) :: bs.drop (k + 1) := List.drop_eq_getElem_cons (by omega)
      have hget : bs.getD k 0 = bs[k]'(by omega) := by simp [List.getD, List.getElem?_eq_getElem (show k < bs.length by omega)]
      rw [hdrop] at hdec
      rw [hget] at hc
      generalize bs[k]'(by omega) = c at hc hdec
      have hc256 : c.toNat < 256 := c.toNat_lt
      clear hB hdrop hget hne
      by_cases hdig : 48 ≤ c.toNat ∧ c.toNat ≤ 57
      · obtain ⟨hd0, hd1⟩ := hdig
        have hF := E.valGo_step (n := acc) (t := bs.drop (k + 1)) (E.digit_dec c 16 ⟨hd0, hd1⟩ (by decide))
        by_cases hov : 4294967295 < acc * 16 + (c.toNat - 48)
        · have hbad := Lib.hid (show E.NotRead 16 bs from .inr (fun n hn => by rw [hdec, hF] at hn; have := E.valGo_le 16 (by decide) _ _ _ hn; omega))
          have iov : 4294967295 < a * 16 + ((c.toNat : Int) - 48) := by omega
          clear hacc hF hov ha hdec
          go_wp2
          go_ret2
          exact ⟨.inr ⟨_, _, hbad.out, .inl rfl, rfl⟩, hbw⟩
        · have HN : Hid (a * 16 + ((c.toNat : Int) - 48) = ((acc * 16 + (c.toNat - 48) : Nat) : Int) ∧ acc * 16 + (c.toNat - 48) ≤ 4294967295 ∧ E.valGo 16 0 bs = E.valGo 16 (acc * 16 + (c.toNat - 48)) (bs.drop (k + 1))) := Lib.hid ⟨by omega, by omega, hdec.trans hF⟩
          have iov : a * 16 + ((c.toNat : Int) - 48) ≤ 4294967295 := by omega
          clear hacc hF hov ha hdec
          go_wp2
          refine ⟨⟨k + 1, acc * 16 + (c.toNat - 48), a * 16 + ((c.toNat : Int) - 48), rfl, (by first | rfl | (congr 1; omega)), (by first | rfl | (congr 1; omega)), by omega, HN⟩, by simp [intOf]; omega⟩
      by_cases hup : 65 ≤ c.toNat ∧ c.toNat ≤ 70
      · obtain ⟨hd0, hd1⟩ := hup
        have hlow := Lib.hid (show (E.lowN c.toNat : Int) = (c.toNat : Int) + 32 by have := E.lowN_up c.toNat hc256 hd0 (by omega); omega)
        have hF := E.valGo_step (n := acc) (t := bs.drop (k + 1)) (E.digit_up c 16 ⟨hd0, hd1⟩ (by decide))
        by_cases hov : 4294967295 < acc * 16 + (c.toNat - 55)
        · have hbad := Lib.hid (show E.NotRead 16 bs from .inr (fun n hn => by rw [hdec, hF] at hn; have := E.valGo_le 16 (by decide) _ _ _ hn; omega))
          have iov : 4294967295 < a * 16 + ((c.toNat : Int) - 55) := by omega
          clear hacc hF hov ha hdec
          go_wp2_with ((with_reducible refine (lower_any c.toNat hc256 _).mono ?_); rintro e w' ⟨rfl, rfl⟩; rw [hlow.out])
          go_ret2
          exact ⟨.inr ⟨_, _, hbad.out, .inl rfl, rfl⟩, hbw⟩
        · have HN : Hid (a * 16 + ((c.toNat : Int) - 55) = ((acc * 16 + (c.toNat - 55) : Nat) : Int) ∧ acc * 16 + (c.toNat - 55) ≤ 4294967295 ∧ E.valGo 16 0 bs = E.valGo 16 (acc * 16 + (c.toNat - 55)) (bs.drop (k + 1))) := Lib.hid ⟨by omega, by omega, hdec.trans hF⟩
          have iov : a * 16 + ((c.toNat : Int) - 55) ≤ 4294967295 := by omega
          clear hacc hF hov ha hdec
          go_wp2_with ((with_reducible refine (lower_any c.toNat hc256 _).mono ?_); rintro e w' ⟨rfl, rfl⟩; rw [hlow.out])
          refine ⟨⟨k + 1, acc * 16 + (c.toNat - 55), a * 16 + ((c.toNat : Int) - 55), rfl, (by first | rfl | (congr 1; omega)), (by first | rfl | (congr 1; omega)), by omega, HN⟩, by simp [intOf]; omega⟩
      by_cases hlw : 97 ≤ c.toNat ∧ c.toNat ≤ 102
      · obtain ⟨hd0, hd1⟩ := hlw
        have hlow := Lib.hid (show (E.lowN c.toNat : Int) = (c.toNat : Int) by have := E.lowN_low c.toNat hc256 hd0 (by omega); omega)
        have hF := E.valGo_step (n := acc) (t := bs.drop (k + 1)) (E.digit_low c 16 ⟨hd0, hd1⟩ (by decide))
        by_cases hov : 4294967295 < acc * 16 + (c.toNat - 87)
        · have hbad := Lib.hid (show E.NotRead 16 bs from .inr (fun n hn => by rw [hdec, hF] at hn; have := E.valGo_le 16 (by decide) _ _ _ hn; omega))
          have iov : 4294967295 < a * 16 + ((c.toNat : Int) - 87) := by omega
          clear hacc hF hov ha hdec
          go_wp2_with ((with_reducible refine (lower_any c.toNat hc256 _).mono ?_); rintro e w' ⟨rfl, rfl⟩; rw [hlow.out])
          go_ret2
          exact ⟨.inr ⟨_, _, hbad.out, .inl rfl, rfl⟩, hbw⟩
        · have HN : Hid (a * 16 + ((c.toNat : Int) - 87) = ((acc * 16 + (c.toNat - 87) : Nat) : Int) ∧ acc * 16 + (c.toNat - 87) ≤ 4294967295 ∧ E.valGo 16 0 bs = E.valGo 16 (acc * 16 + (c.toNat - 87)) (bs.drop (k + 1))) := Lib.hid ⟨by omega, by omega, hdec.trans hF⟩
          have iov : a * 16 + ((c.toNat : Int) - 87) ≤ 4294967295 := by omega
          clear hacc hF hov ha hdec
          go_wp2_with ((with_reducible refine (lower_any c.toNat hc256 _).mono ?_); rintro e w' ⟨rfl, rfl⟩; rw [hlow.out])
          refine ⟨⟨k + 1, acc * 16 + (c.toNat - 87), a * 16 + ((c.toNat : Int) - 87), rfl, (by first | rfl | (congr 1; omega)), (by first | rfl | (congr 1; omega)), by omega, HN⟩, by simp [intOf]; omega⟩
      have hF := E.valGo_none (n := acc) (t := bs.drop (k + 1)) (E.digit_no16 c hdig hup hlw)
      have hbad := Lib.hid (show E.NotRead 16 bs from .inr (fun n hn => by rw [hdec, hF] at hn; cases hn))
      have hl2 := E.lowN_lt c.toNat hc256
      have hl3 : E.lowN c.toNat < 97 ∨ 122 < E.lowN c.toNat ∨ 103 ≤ E.lowN c.toNat := by
        by_cases h : 97 ≤ E.lowN c.toNat ∧ E.lowN c.toNat ≤ 122
        · rcases E.lowN_no c.toNat hc256 h.1 h.2 with h' | h'
          · have := E.lowN_up c.toNat hc256 h'.1 h'.2; omega
          · have := E.lowN_low c.toNat hc256 h'.1 h'.2; omega
        · omega
      have hdig' : ¬ (48 ≤ (c.toNat : Int)) ∨ ¬ ((c.toNat : Int) ≤ 57) := by omega
      have hlow := lower_any c.toNat hc256
      generalize c.toNat = n at *
      by_cases h95 : n = 95
      · subst h95
        clear hacc hF ha hdec hdig hup hlw hl2 hdig' hlow hl3
        go_wp2_with ((with_reducible refine (lower_95 _).mono ?_); rintro e w' ⟨rfl, rfl⟩)
        all_goals go_ret2
        all_goals exact ⟨.inr ⟨_, _, hbad.out, .inr rfl, rfl⟩, hbw⟩
      have h96 : ((n : Int) == 95) = false := beq_eq_false_iff_ne.2 (by omega)
      generalize E.lowN n = L at *
      clear hacc hF ha hdec h95 hdig hup hlw
      by_cases hL1 : 97 ≤ L ∧ L ≤ 122
      · obtain ⟨hL1, hL2⟩ := hL1
        go_wp2_with ((with_reducible refine (hlow _).mono ?_); rintro e w' ⟨rfl, rfl⟩)
        all_goals go_ret2
        all_goals exact ⟨.inr ⟨_, _, hbad.out, .inr rfl, rfl⟩, hbw⟩
      · have hL3 : ¬ (97 ≤ (L : Int)) ∨ ¬ ((L : Int) ≤ 122) := by omega
        clear hL1
        go_wp2_with ((with_reducible refine (hlow _).mono ?_); rintro e w' ⟨rfl, rfl⟩)
        all_goals go_ret2
        all_goals exact ⟨.inr ⟨_, _, hbad.out, .inr rfl, rfl⟩, hbw⟩
    · have hkk : k = t.size := by omega
      subst hkk
      have hF : E.valGo 16 acc (bs.drop t.size) = some acc := by rw [List.drop_eq_nil_of_le (by omega)]; rfl
      have hgood := Lib.hid (show E.Read 16 bs acc from ⟨hne.out, hdec.trans hF, hacc⟩)
      subst ha
      clear hacc hF a0 a1 hdec
      go_wp2
      go_ret2
      exact ⟨.inl ⟨_, hgood.out, rfl⟩, hbw⟩
end Go.Proofs.YtcjlhdmekhifaaaGreatDoor
