/-
  Proved: for every string s, place and byte, AdlerOne answers true: a text of which one byte is another one has another sum (B3).
  Conditions: none (what the statement itself lets by: the empty string, strings over 10000 bytes, a byte that is turned by nothing).
-/
import Derived.Test.YtocflppfcdopgaaRows
import Derived.Test.YtocflppfcdopgaaWalks
import Derived.WalkKit
import Derived.Deep.RegionWith
import Derived.Deep.DeepCutAuto
import Derived.Deep.RegionHeld3
import Derived.ProofKit
import Derived.OpenShut
import Derived.ShutString
import Derived.ChangeOld
import Derived.Below
namespace Go.Proofs.Ytocflppfcdopgaa.adlerOne
open Go.ChangeShapes Go.WideShapes Go.ChangeAt Go.RowKit
open Go.ChangeMaps (open_string shut_string)
set_option linter.unusedVariables false      -- a walk need not use every 'w<i>' (that an integer argument fits its kind)

theorem own : ownKnob Try.prog.godebug = none := by kernel_rfl

theorem ret_bool {b : Bool} (h : b = true) : Ending.returned (.bool b) = .returned (.bool true) := by rw [h]
theorem other_ne (s : ByteArray) (k : Nat) (hk : k < s.size) (d : UInt8) (hd : s[k] ≠ d) :
    (M.adl s.data.toList != M.adl (List.take k s.data.toList ++ d :: List.take (s.size - (k + 1)) (List.drop (k + 1) s.data.toList))) = true := by
  have hlen : s.data.toList.length = s.size := by simp
  have hk' : k < s.data.toList.length := by omega
  have e : s.data.toList = List.take k s.data.toList ++ s[k] :: List.drop (k + 1) s.data.toList := by
    have h1 := (List.take_append_drop k s.data.toList).symm
    rw [List.drop_eq_getElem_cons hk'] at h1
    exact h1
  have e2 : List.take (s.size - (k + 1)) (List.drop (k + 1) s.data.toList) = List.drop (k + 1) s.data.toList :=
    List.take_of_length_le (by rw [List.length_drop, hlen]; omega)
  rw [e2, bne_iff_ne]
  have h2 := M.adl_other (List.take k s.data.toList) (List.drop (k + 1) s.data.toList) s[k] d hd
  rwa [← e] at h2
theorem size_ok (s : ByteArray) (k : Nat) (d : UInt8) (h : ¬ 10000 < s.size) : (s.extract 0 k ++ ⟨#[d]⟩ ++ s.extract (k + 1) s.size).size ≤ maxLen := by
  simp [go_sem, maxLen]; omega
theorem sum_cell (p : Addr) (v : Value) (w0 : World) (s : ByteArray) (w : World) (hs : s.size ≤ maxLen) (h : w.cell? p = some v ∧ Below w0.heap.size w0 w) :
    Calls Try.prog 8 #[.string s] w fun e w' => e = .returned (.int .i64 (M.adl s.data.toList)) ∧ (w'.cell? p = some v ∧ Below w0.heap.size w0 w') :=
  (sum_any s w hs).mono fun _ _ ⟨he, hw⟩ => ⟨he, by rw [hw.cell (block_lt_of_cell h.1)]; exact h.1, h.2.trans (hw.mono h.2.size)⟩

theorem and_lo (a : Int) : ∃ m : Nat, m ≤ 16383 ∧ bits BinOp.and IntKind.i64 a 16383 = (m : Int) := by
  have hle : (BitVec.ofInt 64 a &&& BitVec.ofInt 64 16383).toNat ≤ 16383 := by
    rw [BitVec.toNat_and]; exact Nat.le_trans Nat.and_le_right (by decide)
  refine ⟨_, hle, ?_⟩
  show IntKind.i64.wrap ((BitVec.ofInt 64 a &&& BitVec.ofInt 64 16383).toNat : Int) = _
  rw [IntKind.wrap_i64]; omega
theorem xor_other (c : UInt8) (b : Int) (h0 : 0 ≤ b) (h1 : b ≤ 255) (hz : ¬ b = 0) : ∃ d : UInt8, c ≠ d ∧ bits BinOp.xor IntKind.u8 (c.toNat : Int) b = (d.toNat : Int) := by
  obtain ⟨n, rfl⟩ := Int.eq_ofNat_of_zero_le h0
  refine ⟨c ^^^ UInt8.ofNat n, ?_, ?_⟩
  · intro e
    have e2 : c ^^^ c = c ^^^ (c ^^^ UInt8.ofNat n) := congrArg (c ^^^ ·) e
    rw [UInt8.xor_self, ← UInt8.xor_assoc, UInt8.xor_self, UInt8.zero_xor] at e2
    have e3 := congrArg UInt8.toNat e2
    simp only [UInt8.toNat_ofNat'] at e3
    have : n % 256 = 0 := by simpa using e3.symm
    omega
  · show IntKind.u8.wrap ((BitVec.ofInt 8 (c.toNat : Int) ^^^ BitVec.ofInt 8 (n : Int)).toNat : Int) = _
    have hc := c.toNat_lt
    rw [IntKind.wrap_u8, BitVec.toNat_xor, BitVec.ofInt_natCast, BitVec.ofInt_natCast, BitVec.toNat_ofNat, BitVec.toNat_ofNat, UInt8.toNat_xor, UInt8.toNat_ofNat']
    have hx : (c.toNat % 2 ^ 8) ^^^ (n % 2 ^ 8) < 2 ^ 8 := Nat.xor_lt_two_pow (by omega) (by omega)
    rw [Nat.mod_eq_of_lt (show c.toNat < 2 ^ 8 by omega)] at hx ⊢
    omega
theorem no_grow : ¬ 281474976710656 < Builtin.nextslicecap 1 0 * Try.t5.bytes := by decide +kernel

set_option maxHeartbeats 400000 in
theorem walk (a0 : ByteArray) (a1 : Int) (a2 : Int) (w0 : a0.size ≤ maxLen) (w1 : (Lit.int .i64 a1).wf = true) (w2 : (Lit.int .u8 a2).wf = true) (w : World) :
    Calls Try.prog 6 #[.string a0, .int .i64 a1, .int .u8 a2] w fun e w' => e = .returned (.bool true) ∧ Below w.heap.size w w' := by
  have hby := bounds_u8 w2
  by_cases he : a0.size = 0
  · obtain rfl : a0 = ByteArray.empty := ByteArray.size_eq_zero_iff.1 he
    go_enter Try.func6, Try.ntmps6
    go_wp2_with fail
    (with_reducible refine (awake_any _).mono ?_); rintro e w3 ⟨rfl, b1⟩
    go_wp2_with fail
    go_ret
    exact ⟨rfl, b1⟩
  have hne : a0.toList.isEmpty = false := by
    rw [List.isEmpty_eq_false_iff]; intro h; apply he; have := congrArg List.length h; rwa [ByteArray.toList_eq, Array.length_toList] at this
  by_cases hbig : 10000 < a0.size
  · go_enter Try.func6, Try.ntmps6
    go_wp2_with fail
    (with_reducible refine (awake_any _).mono ?_); rintro e w3 ⟨rfl, b1⟩
    go_wp2_with fail
    go_ret
    exact ⟨rfl, b1⟩
  have hf : decide ((10000 : Int) < (a0.size : Int)) = false := by simp; omega
  by_cases hz : a2 = 0
  · subst hz
    go_enter Try.func6, Try.ntmps6
    go_wp2_with fail
    (with_reducible refine (awake_any _).mono ?_); rintro e w3 ⟨rfl, b1⟩
    go_wp2_with fail
    go_ret
    exact ⟨rfl, b1⟩
  have hz2 : (a2 == 0) = false := by simpa using hz
  obtain ⟨m, hm, hand⟩ := and_lo a1
  obtain ⟨k, hk, hkm⟩ : ∃ k : Nat, k < a0.size ∧ (m : Int) % (a0.size : Int) = (k : Int) := ⟨m % a0.size, Nat.mod_lt _ (by omega), by omega⟩
  obtain ⟨d, hd, hxor⟩ := xor_other a0[k] a2 hby.1 hby.2 hz
  have hpos : (1 : Int) ≤ (a0.size : Int) := by omega
  have hgrow := no_grow
  go_enter Try.func6, Try.ntmps6
  go_wp2_with fail
  (with_reducible refine (awake_any _).mono ?_); rintro e w3 ⟨rfl, b1⟩
  go_upto_region 8 with fail
  go_cut [8, 9] (fun x8 x9 wx => x8 = .int .i64 (k : Int) ∧ ∃ g cap : Nat, x9 = .slice (some ⟨g, 0, none⟩) 1 cap ∧ wx.cell? ⟨g, 0, none⟩ = some (.int .u8 (d.toNat : Int)) ∧ Below w.heap.size w wx)
  case first =>
    go_wp2_with fail
    go_meet
    exact ⟨by rw [hkm], w3.heap.size + 1, _, rfl, by simp; rw [Array.getElem?_append_left (by simp)]; rfl, (((b1.alloc b1.size _).alloc (by have := b1.size; simp; omega) _).drew)⟩
  case rest =>
    obtain ⟨rfl, g, cap, rfl, hcell, bel⟩ := hcut
    clear hand hkm hxor hgrow hpos hz2 hf hne hm
    have hconv : ∀ W : World, W.cell? ⟨g, 0, none⟩ = some (.int .u8 (d.toNat : Int)) → (convert 29 9 (.slice (some ⟨g, 0, none⟩) 1 cap)).run Try.prog W = .ok (.string ⟨#[d]⟩) W := fun W hW =>
      run_convert_bytes_back (l := [d]) W 29 9 5 ⟨g, 0, none⟩ cap Try.underlying29 Try.underlying5 Try.underlying9 (fun j hj => by
        have : j = 0 := by simpa using hj
        subst this; simpa [Addr.add] using hW)
    have k0 : (0 : Int) ≤ (k : Int) := by omega
    have k1 : (k : Int) ≤ (a0.size : Int) := by omega
    have k2 : (0 : Int) ≤ (k : Int) + 1 := by omega
    have k3 : (k : Int) + 1 ≤ (a0.size : Int) := by omega
    have k4 : IntKind.i64.wrap ((k : Int) + 1) = (k : Int) + 1 := IntWalk.i64_in _ (by omega)
    have g1 : ¬ 9223372036854775807 < min k a0.size + 1 := by omega
    have g2 : ¬ 9223372036854775807 < min k a0.size + 1 + (a0.size - (k + 1)) := by omega
    have k5 : ((k : Int) + 1).toNat = k + 1 := by omega
    go_wp2_with fail
    go_region_held3 (fun w' => w'.cell? ⟨g, 0, none⟩ = some (.int .u8 (d.toNat : Int)) ∧ Below w.heap.size w w') (first | exact ⟨hcell, bel.drew⟩ | assumption)
      (first | (go_at_call 8; refine (sum_cell ⟨g, 0, none⟩ (.int .u8 (d.toNat : Int)) w _ _ ?_ ?_).mono ?_; (first | assumption | exact size_ok a0 k d hbig); assumption; rintro e w' ⟨rfl, hcb⟩))
    go_wp2_with fail
    go_ret
    exact ⟨ret_bool (other_ne a0 k hk d hd), hcb.2⟩

set_option maxRecDepth 100000 in
theorem lifted (os : Os) (started : os.Started) (H : Type) (enc : TypeId × Value → H) :
    ReturnsInHanded {} Try.checked os 6 .any (Rows.adlerOneSpec.pre6 enc Try.prog Try.f6 Rows.adlerOneRow.domain false) (Rows.adlerOneSpec.post enc Try.prog Try.f6 false true false false) := by
  refine returnsInHanded_of_change (C := Try.checked) own started (by kernel_rfl) Try.func6
    (ChangeSpec.witness6 (enc := enc) (C := Try.checked) false ⟨#[], #[.string ByteArray.empty, .int .i64 0, .int .u8 0], []⟩ 8 (by kernel_rfl) (by kernel_rfl) (by kernel_rfl) (by kernel_rfl)) ?_
  intro W base args ds gs before hval0 hW hcnd _
  have hval : ∀ (j : Nat) t v, Try.f6.params[j]? = some t → args[j]? = some v → Value.okWide Try.prog W .any base t v := hval0
  have hW' := hW
  obtain ⟨p, q, hA0, hV, rfl, hfz, hnd⟩ := hW
  have hA : DataW.TrodAll enc Try.prog W 0 (fun _ => true) true Try.f6.params.toList args.toList ds p := hA0
  rw [Try.params6] at hA hval
  obtain ⟨v0, vs0, d0, ds0, p0, q0, hargs, rfl, rfl, h0, r0⟩ := trodAll_cons hA
  obtain ⟨v1, vs1, d1, ds1, p1, q1, rfl, rfl, rfl, h1, r1⟩ := trodAll_cons r0
  obtain ⟨v2, vs2, d2, ds2, p2, q2, rfl, rfl, rfl, h2, r2⟩ := trodAll_cons r1
  obtain ⟨rfl, rfl, rfl⟩ := trodAll_nil r2
  obtain rfl : args = #[v0, v1, v2] := by cases args; simp_all
  obtain ⟨rfl, rfl⟩ := trodVars_none hV
  obtain ⟨a0, rfl, rfl, rfl, w0⟩ := open_string Try.underlying9 (hval 0 9 v0 rfl rfl) h0
  obtain ⟨a1, rfl, rfl, rfl, w1⟩ := open_int Try.underlying3 (hval 1 3 v1 rfl rfl) h1
  obtain ⟨a2, rfl, rfl, rfl, w2⟩ := open_int Try.underlying5 (hval 2 5 v2 rfl rfl) h2
  clear hA0 hval0
  simp only [List.append_nil] at hW'
  refine (walk a0 a1 a2 w0 w1 w2 W).mono fun e W' ⟨he, bel⟩ => ?_
  subst he
  exact ⟨_, rfl, _, _, _, [], [], [], hW', (trodAll_cons_mk (shut_bool Try.underlying4 _) trodAll_mk0), (trodAll_cons_mk (shut_string Try.underlying9 w0) (trodAll_cons_mk (shut_int Try.underlying3 w1) (trodAll_cons_mk (shut_int Try.underlying5 w2) trodAll_mk0))), rfl, bel.frame _, fun h => by cases h⟩

theorem over : Rows.adlerOneRow.holds Try.pinned (OpenSpec.ofChange Rows.adlerOneSpec) :=
  OpenClaim.holds_of_wide 6 Try.f6 rfl rfl rfl rfl rfl rfl rfl ⟨rfl, rfl, rfl, rfl, rfl⟩ rfl rfl rfl rfl rfl (by kernel_rfl) Try.func6 (by kernel_rfl)
    (of_decide_eq_true (by kernel_rfl)) (by unfold Func.isWrapper; first | (rw [if_pos (by decide +kernel)]; kernel_rfl) | (rw [if_neg (by decide +kernel)]; exact ⟨rfl, rfl⟩))
    (fun os started H enc _ => lifted os started H enc)

theorem proved : Rows.AdlerOneSaid :=
  over
#print axioms proved
end Go.Proofs.Ytocflppfcdopgaa.adlerOne
