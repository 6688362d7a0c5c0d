/-
  What the document's own words of numbers' texts come to: contracts of digits, Digits, pad.
-/
import Derived.Test.YtdkephbfehlodaaDoorTold
import Derived.Lib.ItoaLen
import Derived.Lib.AppendStr
import Derived.Maps.AppendAt
import Derived.Laws.IdiomStrings
import Derived.Deep.DeepCutAuto
import Derived.Lib.OthersKept
namespace Go.Proofs.YtdkephbfehlodaaDoor
open Go.RowKit

theorem D.itoa_nn {n : Int} (h : 0 ≤ n) : Lib.itoa n = Lib.decDigits n.toNat := by unfold Lib.itoa; rw [if_neg (by omega)]
theorem array_toList (t : ByteArray) : (⟨t.data.toList.toArray⟩ : ByteArray) = t := by simp
theorem dec_step (m : Nat) (h : 9 < m) : Lib.decDigits m = Lib.decDigits (m / 10) ++ [UInt8.ofNat (48 + m % 10)] := by
  rw [Lib.decDigits, dif_neg (by omega)]
theorem dec_last (m : Nat) (h : ¬ 9 < m) : Lib.decDigits m = [UInt8.ofNat (48 + m)] := by
  rw [Lib.decDigits, dif_pos (by omega)]
theorem no_grow1 : ¬ 281474976710656 < Builtin.nextslicecap 1 0 * Tryd.t5.bytes := by decide +kernel
theorem conv_one {W : World} {g cap : Nat} {d : UInt8} (hW : W.cell? ⟨g, 0, none⟩ = some (.int .u8 (d.toNat : Int))) : (convert 38 9 (.slice (some ⟨g, 0, none⟩) 1 cap)).run Tryd.prog W = .ok (.string ⟨#[d]⟩) W :=
  run_convert_bytes_back (l := [d]) W 38 9 5 ⟨g, 0, none⟩ cap Tryd.underlying38 Tryd.underlying5 Tryd.underlying9 (fun j hj => by
    have : j = 0 := by simpa using hj
    subst this; simpa [Addr.add] using hW)
theorem cons_text (d : UInt8) (t : ByteArray) : (⟨#[d]⟩ ++ t : ByteArray).data.toList = d :: t.data.toList := by simp

theorem size_of {L X : List UInt8} {t : ByteArray} {k : Nat} (h : L = X ++ t.data.toList) (hk : L.length ≤ k) : t.size ≤ k := by
  have h1 := congrArg List.length h
  have h2 : t.data.toList.length = t.size := by simp
  rw [List.length_append] at h1; omega

set_option maxRecDepth 100000 in
set_option maxHeartbeats 800000 in
theorem refDigits_any (n : Nat) (w : World) (hn : n ≤ 1125899906842624) :
    Calls Tryd.prog 60 #[.int .i64 (n : Int)] w fun e w' => e = .returned (.string ⟨(Lib.itoa (n : Int)).toArray⟩) ∧ Below w.heap.size w w' := by
  have hgrow := no_grow1
  have hit : Lib.itoa (n : Int) = Lib.decDigits n := D.itoa_nn (by omega)
  have hln := Lib.itoa_length_le (n : Int) (by omega) (by omega)
  rw [hit] at hln ⊢
  clear hit
  go_enter Tryd.func60, Tryd.ntmps60
  go_wp2_with fail
  go_loopw [0, 3] (fun a s wr => ∃ (m : Nat) (t : ByteArray), m ≤ n ∧ a = .int .i64 (m : Int) ∧ s = .string t ∧ Hid (Lib.decDigits n = Lib.decDigits m ++ t.data.toList) ∧ t.size ≤ 21 ∧ Below w.heap.size w wr) (fun a _ _ => (intOf a).toNat)
  case atStart => exact ⟨n, ⟨#[]⟩, Nat.le_refl _, rfl, rfl, Lib.hid (by simp), by decide, Below.refl _ _⟩
  case round =>
    obtain ⟨m, t, hm, rfl, rfl, hd, ht, bw⟩ := hrel
    have hone : ∀ d : UInt8, ({ data := #[d] } : ByteArray).size = 1 := fun _ => rfl
    by_cases h9 : 9 < m
    · obtain ⟨r, hr9, hrn, hrem⟩ : ∃ r : Nat, r ≤ 9 ∧ m % 10 = r ∧ (m : Int) % 10 = (r : Int) := ⟨m % 10, by omega, rfl, by omega⟩
      obtain ⟨d, hdn, hst⟩ : ∃ d : UInt8, d.toNat = 48 + r ∧ Hid (Lib.decDigits n = Lib.decDigits (m / 10) ++ (⟨#[d]⟩ ++ t : ByteArray).data.toList) :=
        ⟨UInt8.ofNat (48 + r), by simp; omega, Lib.hid (by rw [hd.out, dec_step m h9, hrn, cons_text]; simp)⟩
      have hdn := Lib.hid hdn
      clear hrn
      go_upto_region 4 with fail
      go_cut [4] (fun x wx => ∃ g cap : Nat, x = .slice (some ⟨g, 0, none⟩) 1 cap ∧ wx.cell? ⟨g, 0, none⟩ = some (.int .u8 (d.toNat : Int)) ∧ Below w.heap.size w wx)
      case first =>
        go_wp2_with fail
        go_meet
        rw [hdn.out]
        exact ⟨wr.heap.size + 1, _, rfl, by simp; rw [Array.getElem?_append_left (by simp)]; rfl, (((bw.alloc bw.size _).alloc (by have := bw.size; simp; omega) _).drew)⟩
      case rest =>
        obtain ⟨g, cap, rfl, hcell, bel⟩ := hcut
        have hcv := conv_one (cap := cap) hcell
        go_wp2_with fail
        go_round
        case rel => exact ⟨m / 10, ⟨#[d]⟩ ++ t, by omega, by go_num, rfl, hst, size_of hst.out hln, bel⟩
        case measure => simp [intOf]; omega
    · obtain ⟨d, hdn, hst⟩ : ∃ d : UInt8, d.toNat = 48 + m ∧ Hid (Lib.decDigits n = (⟨#[d]⟩ ++ t : ByteArray).data.toList) :=
        ⟨UInt8.ofNat (48 + m), by simp; omega, Lib.hid (by rw [hd.out, dec_last m h9, cons_text]; simp)⟩
      have hdn := Lib.hid hdn
      go_upto_region 8 with fail
      go_cut [5] (fun x wx => ∃ g cap : Nat, x = .slice (some ⟨g, 0, none⟩) 1 cap ∧ wx.cell? ⟨g, 0, none⟩ = some (.int .u8 (d.toNat : Int)) ∧ Below w.heap.size w wx)
      case first =>
        go_wp2_with fail
        go_meet
        rw [hdn.out]
        exact ⟨wr.heap.size + 1, _, rfl, by simp; rw [Array.getElem?_append_left (by simp)]; rfl, (((bw.alloc bw.size _).alloc (by have := bw.size; simp; omega) _).drew)⟩
      case rest =>
        obtain ⟨g, cap, rfl, hcell, bel⟩ := hcut
        have hcv := conv_one (cap := cap) hcell
        go_wp2_with fail
        go_ret
        exact ⟨ret_str (by rw [hst.out, array_toList]), bel⟩

theorem refDigitsN_any (n : Nat) {x : Int} (w : World) (hn : n ≤ 1125899906842624) (hx : x = (n : Int)) :
    Calls Tryd.prog 46 #[.int .i64 x] w fun e w' => e = .returned (.string ⟨(Lib.decDigits n).toArray⟩) ∧ Below w.heap.size w w' := by
  subst hx
  have hit : Lib.itoa (n : Int) = Lib.decDigits n := D.itoa_nn (by omega)
  have hd := refDigits_any n
  rw [hit] at hd
  clear hit
  go_enter Tryd.func46, Tryd.ntmps46
  go_wp2_with fail
  (with_reducible refine (hd _ hn).mono ?_); rintro e w1 ⟨rfl, b1⟩
  go_wp2
  go_ret
  exact ⟨rfl, b1⟩

theorem size_mk (l : List UInt8) : (⟨l.toArray⟩ : ByteArray).size = l.length := by simp [ByteArray.size]
theorem nine_le {k : Nat} (h : k ≤ 9) : 10 ^ k ≤ 1000000000 := Nat.pow_le_pow_right (n := 10) (by omega) h

set_option maxHeartbeats 800000 in
theorem refPad_any (n k : Nat) {x y : Int} (w : World) (hk1 : 1 ≤ k) (hk : k ≤ 9) (hn : n < 10 ^ k) (hx : x = (n : Int)) (hy : y = (k : Int)) :
    Calls Tryd.prog 33 #[.int .i64 x, .int .i64 y] w fun e w' => e = .returned (.string ⟨(D.dig k n).toArray⟩) ∧ Below w.heap.size w w' := by
  subst hx; subst hy
  have hn9 := nine_le hk
  have hpd : Hid (List.replicate (k - (Lib.decDigits n).length) 48 ++ Lib.decDigits n = D.dig k n) := by
    obtain ⟨j, rfl⟩ : ∃ j, k = j + 1 := ⟨k - 1, by omega⟩
    exact Lib.hid (D.pad_dig j n hn)
  have hdl : (Lib.decDigits n).length ≤ k := by
    obtain ⟨j, rfl⟩ : ∃ j, k = j + 1 := ⟨k - 1, by omega⟩
    exact D.dec_length hn
  have hn := Lib.hid hn
  go_enter Tryd.func33, Tryd.ntmps33
  go_wp2_with fail
  (with_reducible refine (refDigitsN_any n _ (by omega) rfl).mono ?_); rintro e w1 ⟨rfl, b1⟩
  go_wp2_with fail
  go_loop [5] (fun v => ∃ (t : ByteArray) (j : Nat), v = .string t ∧ Hid (t.data.toList = List.replicate j 48 ++ Lib.decDigits n) ∧ t.size ≤ k ∧ Hid (t.size = j + (Lib.decDigits n).length)) (fun v => k - strLen v)
  case atStart => exact ⟨_, 0, rfl, Lib.hid (by simp), by rw [size_mk]; exact hdl, Lib.hid (by rw [size_mk]; omega)⟩
  case round =>
    obtain ⟨t, j, rfl, ht, htk, htj⟩ := hrel
    by_cases hlt : t.size < k
    · go_wp2
      go_round
      case rel =>
        refine ⟨_, j + 1, rfl, Lib.hid ?_, ?_, Lib.hid ?_⟩
        · rw [show (⟨#[48]⟩ ++ t : ByteArray).data.toList = 48 :: t.data.toList by simp, ht.out]; rfl
        · simp; have : (⟨#[48]⟩ : ByteArray).size = 1 := rfl; omega
        · simp; have : (⟨#[48]⟩ : ByteArray).size = 1 := rfl; have := htj.out; omega
      case measure => simp [strLen]; have : (⟨#[48]⟩ : ByteArray).size = 1 := rfl; omega
    · go_wp2
      go_ret
      refine ⟨ret_str ?_, b1⟩
      rw [← hpd.out, show k - (Lib.decDigits n).length = j by have := htj.out; omega, ← ht.out, array_toList]
end Go.Proofs.YtdkephbfehlodaaDoor
