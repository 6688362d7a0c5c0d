/-
  What the document's own functions of a manifest come to: contracts of digits, Sum.
-/
import Derived.Test.YtbfgniheagolgaaGreatDoorRefs1
namespace Go.Proofs.YtbfgniheagolgaaGreatDoor
open Go.RowKit

theorem dec_step (m : Nat) (h : 9 < m) : Lib.decDigits m = Lib.decDigits (m / 10) ++ [UInt8.ofNat (48 + m % 10)] := by
  rw [Lib.decDigits, dif_neg (by omega)]
theorem dec_last (m : Nat) (h : ¬ 9 < m) : Lib.decDigits m = [UInt8.ofNat (48 + m)] := by
  rw [Lib.decDigits, dif_pos (by omega)]
theorem no_grow1 : ¬ 281474976710656 < Builtin.nextslicecap 1 0 * Tryz.t5.bytes := by decide +kernel
theorem conv_one {W : World} {g cap : Nat} {d : UInt8} (hW : W.cell? ⟨g, 0, none⟩ = some (.int .u8 (d.toNat : Int))) : (convert 36 9 (.slice (some ⟨g, 0, none⟩) 1 cap)).run Tryz.prog W = .ok (.string ⟨#[d]⟩) W :=
  run_convert_bytes_back (l := [d]) W 36 9 5 ⟨g, 0, none⟩ cap Tryz.underlying36 Tryz.underlying5 Tryz.underlying9 (fun j hj => by
    have : j = 0 := by simpa using hj
    subst this; simpa [Addr.add] using hW)
theorem ret_str {a b : ByteArray} (h : a = b) : Ending.returned (.string a) = .returned (.string b) := by rw [h]
theorem cons_text (d : UInt8) (t : ByteArray) : (⟨#[d]⟩ ++ t : ByteArray).data.toList = d :: t.data.toList := by simp

theorem size_of {L X : List UInt8} {t : ByteArray} {k : Nat} (h : L = X ++ t.data.toList) (hk : L.length ≤ k) : t.size ≤ k := by
  have h1 := congrArg List.length h
  have h2 : t.data.toList.length = t.size := by simp
  rw [List.length_append] at h1; omega

set_option maxRecDepth 100000 in
set_option maxHeartbeats 800000 in
theorem refDigits_any (n : Nat) (w : World) (hn : n ≤ 1125899906842624) :
    Calls Tryz.prog 18 #[.int .i64 (n : Int)] w fun e w' => e = .returned (.string ⟨(Lib.itoa (n : Int)).toArray⟩) ∧ Below w.heap.size w w' := by
  have hgrow := no_grow1
  have hit : Lib.itoa (n : Int) = Lib.decDigits n := M.itoa_nn (by omega)
  have hln := Lib.itoa_length_le (n : Int) (by omega) (by omega)
  rw [hit] at hln ⊢
  clear hit
  go_enter Tryz.func18, Tryz.ntmps18
  go_wp2_with fail
  go_loopw [0, 3] (fun a s wr => ∃ (m : Nat) (t : ByteArray), m ≤ n ∧ a = .int .i64 (m : Int) ∧ s = .string t ∧ Hid (Lib.decDigits n = Lib.decDigits m ++ t.data.toList) ∧ t.size ≤ 21 ∧ Below w.heap.size w wr) (fun a _ _ => (intOf a).toNat)
  case atStart => exact ⟨n, ⟨#[]⟩, Nat.le_refl _, rfl, rfl, Lib.hid (by simp), by decide, Below.refl _ _⟩
  case round =>
    obtain ⟨m, t, hm, rfl, rfl, hd, ht, bw⟩ := hrel
    have hone : ∀ d : UInt8, ({ data := #[d] } : ByteArray).size = 1 := fun _ => rfl
    by_cases h9 : 9 < m
    · obtain ⟨r, hr9, hrn, hrem⟩ : ∃ r : Nat, r ≤ 9 ∧ m % 10 = r ∧ (m : Int) % 10 = (r : Int) := ⟨m % 10, by omega, rfl, by omega⟩
      obtain ⟨d, hdn, hst⟩ : ∃ d : UInt8, d.toNat = 48 + r ∧ Hid (Lib.decDigits n = Lib.decDigits (m / 10) ++ (⟨#[d]⟩ ++ t : ByteArray).data.toList) :=
        ⟨UInt8.ofNat (48 + r), by simp; omega, Lib.hid (by rw [hd.out, dec_step m h9, hrn, cons_text]; simp)⟩
      have hdn := Lib.hid hdn
      clear hrn
      go_upto_region 4 with fail
      go_cut [4] (fun x wx => ∃ g cap : Nat, x = .slice (some ⟨g, 0, none⟩) 1 cap ∧ wx.cell? ⟨g, 0, none⟩ = some (.int .u8 (d.toNat : Int)) ∧ Below w.heap.size w wx)
      case first =>
        go_wp2_with fail
        go_meet
        rw [hdn.out]
        exact ⟨wr.heap.size + 1, _, rfl, by simp; rw [Array.getElem?_append_left (by simp)]; rfl, (((bw.alloc bw.size _).alloc (by have := bw.size; simp; omega) _).drew)⟩
      case rest =>
        obtain ⟨g, cap, rfl, hcell, bel⟩ := hcut
        have hcv := conv_one (cap := cap) hcell
        go_wp2_with fail
        go_round
        case rel => exact ⟨m / 10, ⟨#[d]⟩ ++ t, by omega, by go_num, rfl, hst, size_of hst.out hln, bel⟩
        case measure => simp [intOf]; omega
    · obtain ⟨d, hdn, hst⟩ : ∃ d : UInt8, d.toNat = 48 + m ∧ Hid (Lib.decDigits n = (⟨#[d]⟩ ++ t : ByteArray).data.toList) :=
        ⟨UInt8.ofNat (48 + m), by simp; omega, Lib.hid (by rw [hd.out, dec_last m h9, cons_text]; simp)⟩
      have hdn := Lib.hid hdn
      go_upto_region 8 with fail
      go_cut [5] (fun x wx => ∃ g cap : Nat, x = .slice (some ⟨g, 0, none⟩) 1 cap ∧ wx.cell? ⟨g, 0, none⟩ = some (.int .u8 (d.toNat : Int)) ∧ Below w.heap.size w wx)
      case first =>
        go_wp2_with fail
        go_meet
        rw [hdn.out]
        exact ⟨wr.heap.size + 1, _, rfl, by simp; rw [Array.getElem?_append_left (by simp)]; rfl, (((bw.alloc bw.size _).alloc (by have := bw.size; simp; omega) _).drew)⟩
      case rest =>
        obtain ⟨g, cap, rfl, hcell, bel⟩ := hcut
        have hcv := conv_one (cap := cap) hcell
        go_wp2_with fail
        go_ret
        exact ⟨ret_str (by rw [hst.out, M.array_toList]), bel⟩
set_option maxHeartbeats 400000 in
theorem refSum_any (s : ByteArray) (w : World) (hs : s.size ≤ maxLen) :
    Calls Tryz.prog 19 #[.string s] w fun e w' => e = .returned (.int .i64 (M.adl s.data.toList)) ∧ w = w' := by
  unfold maxLen at hs
  go_enter Tryz.func19, Tryz.ntmps19
  go_wp2
  go_loop [3, 4, 5] (fun a b i => ∃ k : Nat, k ≤ s.size ∧ i = .int .i64 k ∧ a = .int .i64 (M.stt (s.data.toList.take k)).1 ∧ b = .int .i64 (M.stt (s.data.toList.take k)).2) (fun _ _ i => s.size - (intOf i).toNat)
  case atStart => exact ⟨0, Nat.zero_le _, rfl, rfl, rfl⟩
  case round =>
    obtain ⟨k, hk, rfl, rfl, rfl⟩ := hrel
    have hb := M.stt_bd (s.data.toList.take k)
    by_cases hlt : k < s.size
    · have hbyte : (s[k].toNat : Int) < 256 := by have := s[k].toNat_lt; omega
      have hst := Lib.hid (M.stt_take s.data.toList k (by simpa using hlt))
      have hgk : s.data.toList[k]'(by simpa using hlt) = s[k] := rfl
      rw [hgk] at hst
      clear hgk
      go_wp2
      go_round
      case rel => exact ⟨k + 1, by omega, by go_num, by rw [hst.out.1], by rw [hst.out.2]⟩
      case measure => simp [intOf]; omega
    · go_wp2
      go_ret
      have hfull : s.data.toList.take k = s.data.toList := List.take_of_length_le (by simp; omega)
      rw [hfull]
      exact ⟨ret_int rfl, rfl⟩

end Go.Proofs.YtbfgniheagolgaaGreatDoor
