/-
  The walk of the law on what is torn.
-/
import Derived.Test.YtbfgniheagolgaaDoorBackWalk
import Derived.Deep.RegionHeld3
import Derived.Deep.DeepCutAuto
namespace Go.Proofs.YtbfgniheagolgaaDoor
open Go.RowKit

theorem and_lo (a : Int) : ∃ m : Nat, m ≤ 1048575 ∧ bits BinOp.and IntKind.i64 a 1048575 = (m : Int) := by
  have hle : (BitVec.ofInt 64 a &&& BitVec.ofInt 64 1048575).toNat ≤ 1048575 := by
    rw [BitVec.toNat_and]; exact Nat.le_trans Nat.and_le_right (by decide)
  refine ⟨_, hle, ?_⟩
  show IntKind.i64.wrap ((BitVec.ofInt 64 a &&& BitVec.ofInt 64 1048575).toNat : Int) = _
  rw [IntKind.wrap_i64]; omega
theorem xor_other (c : UInt8) (b : Int) (h0 : 0 ≤ b) (h1 : b ≤ 255) (hz : ¬ b = 0) : ∃ d : UInt8, c ≠ d ∧ bits BinOp.xor IntKind.u8 (c.toNat : Int) b = (d.toNat : Int) := by
  obtain ⟨n, rfl⟩ := Int.eq_ofNat_of_zero_le h0
  refine ⟨c ^^^ UInt8.ofNat n, ?_, ?_⟩
  · intro e
    have e2 : c ^^^ c = c ^^^ (c ^^^ UInt8.ofNat n) := congrArg (c ^^^ ·) e
    rw [UInt8.xor_self, ← UInt8.xor_assoc, UInt8.xor_self, UInt8.zero_xor] at e2
    have e3 := congrArg UInt8.toNat e2
    simp only [UInt8.toNat_ofNat'] at e3
    have : n % 256 = 0 := by simpa using e3.symm
    omega
  · show IntKind.u8.wrap ((BitVec.ofInt 8 (c.toNat : Int) ^^^ BitVec.ofInt 8 (n : Int)).toNat : Int) = _
    have hc := c.toNat_lt
    rw [IntKind.wrap_u8, BitVec.toNat_xor, BitVec.ofInt_natCast, BitVec.ofInt_natCast, BitVec.toNat_ofNat, BitVec.toNat_ofNat, UInt8.toNat_xor, UInt8.toNat_ofNat']
    have hx : (c.toNat % 2 ^ 8) ^^^ (n % 2 ^ 8) < 2 ^ 8 := Nat.xor_lt_two_pow (by omega) (by omega)
    rw [Nat.mod_eq_of_lt (show c.toNat < 2 ^ 8 by omega)] at hx ⊢
    omega
theorem no_grow : ¬ 281474976710656 < Builtin.nextslicecap 1 0 * Tryd.t5.bytes := by decide +kernel

theorem torn_text {n : Int} {l : List M.Row} {s : ByteArray} (hs : s.data.toList = M.text n l) (k : Nat) (hk : k < s.size) (d : UInt8) (hd : s[k] ≠ d) :
    M.parses (s.extract 0 k ++ ⟨#[d]⟩ ++ s.extract (k + 1) s.size).data.toList = false := by
  have hlen : s.data.toList.length = s.size := by simp
  have hk' : k < s.data.toList.length := by omega
  have e : s.data.toList = List.take k s.data.toList ++ s[k] :: List.drop (k + 1) s.data.toList := by
    have h1 := (List.take_append_drop k s.data.toList).symm
    rw [List.drop_eq_getElem_cons hk'] at h1
    exact h1
  have e3 : (s.extract 0 k ++ ⟨#[d]⟩ ++ s.extract (k + 1) s.size).data.toList = List.take k s.data.toList ++ d :: List.drop (k + 1) s.data.toList := by
    have e2 : List.take (s.size - (k + 1)) (List.drop (k + 1) s.data.toList) = List.drop (k + 1) s.data.toList :=
      List.take_of_length_le (by rw [List.length_drop, hlen]; omega)
    rw [← e2]
    simp [go_sem]
  rw [e3]
  exact M.torn_byte (n := n) (l := l) (c := s[k]) (by rw [← hs]; exact e) hd

theorem head_text {n : Int} {l : List M.Row} {s : ByteArray} (hg : M.good n l = true) (hs : s.data.toList = M.text n l) (k : Nat) (hk : k < s.size) :
    M.parses (s.extract 0 k).data.toList = false := by
  have hlen : s.data.toList.length = s.size := by simp
  have e : (s.extract 0 k).data.toList = (M.text n l).take k := by
    rw [← hs]; exact Lib.extract_from_zero s k
  rw [e]
  exact M.torn_head hg k (by rw [← hs]; omega)

theorem size_ok (s : ByteArray) (k : Nat) (d : UInt8) (h : s.size ≤ 20000) : (s.extract 0 k ++ ⟨#[d]⟩ ++ s.extract (k + 1) s.size).size ≤ 1000000 := by
  simp [go_sem]; omega
theorem head_ok (s : ByteArray) (k : Nat) (h : s.size ≤ 20000) : (s.extract 0 k).size ≤ 1000000 := by
  simp [go_sem]; omega

theorem parse_no (s : ByteArray) (w : World) (hs : s.size ≤ 1000000) (hno : M.parses s.data.toList = false) (hE : Env w.heap.size w) :
    Calls Tryd.prog 8 #[.string s] w fun e w' => e = .returned (.tuple #[.int .i64 0, .slice none 0 0, .int .i64 30]) ∧ Below w.heap.size w w' :=
  (parse_any s w hs hE).mono fun e w' ⟨he, hb⟩ => by
    unfold Answers at he
    rw [hno] at he
    exact ⟨he, hb⟩

theorem parse_cell (p : Addr) (v : Value) (w0 : World) (s : ByteArray) (w : World) (hs : s.size ≤ 1000000) (hno : M.parses s.data.toList = false) (hE : Env w0.heap.size w0) (h : w.cell? p = some v ∧ Below w0.heap.size w0 w) :
    Calls Tryd.prog 8 #[.string s] w fun e w' => e = .returned (.tuple #[.int .i64 0, .slice none 0 0, .int .i64 30]) ∧ (w'.cell? p = some v ∧ Below w0.heap.size w0 w') :=
  (parse_no s w hs hno (hE.on h.2 h.2.size)).mono fun _ _ ⟨he, hw⟩ => ⟨he, by rw [hw.cell (World.block_lt_of_cell? w _ h.1)]; exact h.1, h.2.trans (hw.mono h.2.size)⟩

set_option maxRecDepth 100000 in
set_option maxHeartbeats 3200000 in
theorem torn_any {ao : Option Addr} {cap : Nat} (n : Int) (l : List M.Row) (at_ b : Int) (w : World) (hR : RowsAt w ao l) (hW : Wide l) (hb : 0 ≤ b ∧ b ≤ 255) (hE : Env w.heap.size w) :
    Calls Tryd.prog 4 #[.int .i64 n, .slice ao l.length cap, .int .i64 at_, .int .u8 b] w fun e w' => e = .returned (.bool true) ∧ Below w.heap.size w w' := by
  go_enter Tryd.func4, Tryd.ntmps4
  go_wp2_with fail
  (with_reducible refine (awake_any _ hE).mono ?_)
  rintro e w1 ⟨rfl, b1⟩
  have hR1 := hR.below b1
  have hE1 : Env w1.heap.size w1 := hE.on b1 b1.size
  go_wp2_with fail
  (with_reducible refine (few_any l _ hR1 hW.len).mono ?_)
  rintro e w2 ⟨rfl, rfl⟩
  cases hf : fewRows l
  · go_wp2_with fail
    go_ret
    exact ⟨rfl, b1⟩
  have hfit := hW.fit hf
  have hl100 : l.length ≤ 100 := by simp only [fewRows, Bool.and_eq_true, decide_eq_true_eq] at hf; exact hf.1
  by_cases hz : b = 0
  · subst hz
    go_wp2_with fail
    go_ret
    exact ⟨rfl, b1⟩
  have hz2 : (b == 0) = false := by simpa using hz
  go_wp2_with fail
  (with_reducible refine (print_any n l _ hR1 hfit hE1).mono ?_)
  rintro e w3 ⟨rfl, b3⟩
  have b03 := b1.trans (b3.mono b1.size)
  unfold told
  cases hg : M.good n l
  · simp only [Bool.false_eq_true, if_false]
    go_wp2_with fail
    go_ret
    exact ⟨rfl, b03⟩
  simp only [if_true]
  have htl := text_len hg hl100
  obtain ⟨s, hse⟩ : ∃ s : ByteArray, s = ⟨(M.text n l).toArray⟩ := ⟨_, rfl⟩
  have hsd : s.data.toList = M.text n l := by rw [hse]
  have hlen : s.data.toList.length = s.size := by simp
  have hsz : s.size ≤ 20000 := by rw [← hlen, hsd]; exact htl
  have hpos0 : 0 < s.size := by
    rw [← hlen, hsd]
    unfold M.text
    have := line_pos M.sumw [M.adl (M.body n l)]
    rw [List.length_append]; omega
  rw [← hse]
  have htorn := fun k hk d hd => torn_text (s := s) hsd k hk d hd
  have hhead := fun k hk => head_text (s := s) hg hsd k hk
  have htorn := Lib.hid htorn
  have hhead := Lib.hid hhead
  have hne : s.toList.isEmpty = false := by
    rw [List.isEmpty_eq_false_iff]; intro h
    rw [ByteArray.toList_eq] at h
    have := congrArg List.length h
    rw [hlen, List.length_nil] at this
    omega
  clear hse hsd hlen htl hfit hl100 hf hg
  obtain ⟨m, hm, hand⟩ := and_lo at_
  obtain ⟨k, hk, hkm⟩ : ∃ k : Nat, k < s.size ∧ (m : Int) % (s.size : Int) = (k : Int) := ⟨m % s.size, Nat.mod_lt _ (by omega), by omega⟩
  obtain ⟨d, hd, hxor⟩ := xor_other s[k] b hb.1 hb.2 hz
  have hpos : (1 : Int) ≤ (s.size : Int) := by omega
  have hgrow := no_grow
  go_upto_region 11 with fail
  go_cut [12, 13] (fun x12 x13 wx => x12 = .int .i64 (k : Int) ∧ ∃ g cap : Nat, x13 = .slice (some ⟨g, 0, none⟩) 1 cap ∧ wx.cell? ⟨g, 0, none⟩ = some (.int .u8 (d.toNat : Int)) ∧ Below w.heap.size w wx)
  case first =>
    go_wp2_with fail
    go_meet
    exact ⟨by rw [hkm], w3.heap.size + 1, _, rfl, by simp; rw [Array.getElem?_append_left (by simp)]; rfl, (((b03.alloc b03.size _).alloc (by have := b03.size; simp; omega) _).drew)⟩
  case rest =>
    obtain ⟨rfl, g, cap, rfl, hcell, bel⟩ := hcut
    clear hand hkm hxor hgrow hpos hz2 hne hm
    have hconv : ∀ W : World, W.cell? ⟨g, 0, none⟩ = some (.int .u8 (d.toNat : Int)) → (convert 32 9 (.slice (some ⟨g, 0, none⟩) 1 cap)).run Tryd.prog W = .ok (.string ⟨#[d]⟩) W := fun W hW =>
      run_convert_bytes_back (l := [d]) W 32 9 5 ⟨g, 0, none⟩ cap Tryd.underlying32 Tryd.underlying5 Tryd.underlying9 (fun j hj => by
        have : j = 0 := by simpa using hj
        subst this; simpa [Addr.add] using hW)
    have k0 : (0 : Int) ≤ (k : Int) := by omega
    have k1 : (k : Int) ≤ (s.size : Int) := by omega
    have k2 : (0 : Int) ≤ (k : Int) + 1 := by omega
    have k3 : (k : Int) + 1 ≤ (s.size : Int) := by omega
    have k4 : IntKind.i64.wrap ((k : Int) + 1) = (k : Int) + 1 := IntWalk.i64_in _ (by omega)
    have g1 : ¬ 9223372036854775807 < min k s.size + 1 := by omega
    have g2 : ¬ 9223372036854775807 < min k s.size + 1 + (s.size - (k + 1)) := by omega
    have k5 : ((k : Int) + 1).toNat = k + 1 := by omega
    have hno := htorn.out k hk d hd
    have hno2 := hhead.out k hk
    have hsz1 := size_ok s k d hsz
    have hsz2 := head_ok s k hsz
    go_wp2_with fail
    go_region_held3 (fun w' => w'.cell? ⟨g, 0, none⟩ = some (.int .u8 (d.toNat : Int)) ∧ Below w.heap.size w w') (first | exact ⟨hcell, bel.drew⟩ | assumption)
      (first | (go_at_call 8; refine (parse_cell ⟨g, 0, none⟩ (.int .u8 (d.toNat : Int)) w _ _ ?_ ?_ ?_ ?_).mono ?_; exact hsz1; exact hno; exact hE; assumption; rintro e w' ⟨rfl, hcb⟩))
    go_wp2_with fail
    (with_reducible refine (parse_no _ _ hsz2 hno2 (hE.on hcb.2 hcb.2.size)).mono ?_)
    rintro e w5 ⟨rfl, b5⟩
    go_wp2_with fail
    go_ret
    exact ⟨rfl, hcb.2.trans (b5.mono hcb.2.size)⟩
end Go.Proofs.YtbfgniheagolgaaDoor
