/-
  What the document's own spelling of a node that is no element comes to; the texts of small numbers.
-/
import Derived.Test.YtegaidfmkfnbnaaGreatDoorQ14
import Derived.Test.YtegaidfmkfnbnaaGreatDoorQ03
import Derived.Lib.ItoaLen
import Derived.Lib.AppendStr
import Derived.Maps.AppendAt
import Derived.Laws.IdiomStrings
import Derived.Deep.DeepCutAuto
import Derived.Lib.OthersKept
namespace Go.Proofs.YtegaidfmkfnbnaaGreatDoor
open Go.RowKit

theorem ret_text {a b : ByteArray} (h : a = b) : Ending.returned (.string a) = .returned (.string b) := by rw [h]
theorem array_toList (t : ByteArray) : (⟨t.data.toList.toArray⟩ : ByteArray) = t := by simp
theorem dec_step (m : Nat) (h : 9 < m) : Lib.decDigits m = Lib.decDigits (m / 10) ++ [UInt8.ofNat (48 + m % 10)] := by
  rw [Lib.decDigits, dif_neg (by omega)]
theorem dec_last (m : Nat) (h : ¬ 9 < m) : Lib.decDigits m = [UInt8.ofNat (48 + m)] := by
  rw [Lib.decDigits, dif_pos (by omega)]
theorem dec_dig {i : Nat} (h : i < 100) : Lib.decDigits i = Sc.dig i := by
  unfold Sc.dig
  by_cases h9 : 9 < i
  · rw [if_neg (by omega), dec_step i h9, dec_last _ (by omega)]; rfl
  · rw [if_pos (by omega), dec_last i h9]
theorem no_grow1 : ¬ 281474976710656 < Builtin.nextslicecap 1 0 * Tryz.t5.bytes := by decide +kernel
theorem conv_one {W : World} {g cap : Nat} {d : UInt8} (hW : W.cell? ⟨g, 0, none⟩ = some (.int .u8 (d.toNat : Int))) : (convert 36 9 (.slice (some ⟨g, 0, none⟩) 1 cap)).run Tryz.prog W = .ok (.string ⟨#[d]⟩) W :=
  run_convert_bytes_back (l := [d]) W 36 9 5 ⟨g, 0, none⟩ cap Tryz.underlying36 Tryz.underlying5 Tryz.underlying9 (fun j hj => by
    have : j = 0 := by simpa using hj
    subst this; simpa [Addr.add] using hW)
theorem cons_text (d : UInt8) (t : ByteArray) : (⟨#[d]⟩ ++ t : ByteArray).data.toList = d :: t.data.toList := by simp
theorem size_of {L X : List UInt8} {t : ByteArray} {k : Nat} (h : L = X ++ t.data.toList) (hk : L.length ≤ k) : t.size ≤ k := by
  have h1 := congrArg List.length h
  have h2 : t.data.toList.length = t.size := by rw [list_len]
  rw [List.length_append] at h1; omega

set_option maxRecDepth 100000 in
set_option maxHeartbeats 800000 in
theorem refDigits_any (n : Nat) (w : World) (hn : n ≤ 1125899906842624) :
    Calls Tryz.prog 65 #[.int .i64 (n : Int)] w fun e w' => e = .returned (.string ⟨(Lib.itoa (n : Int)).toArray⟩) ∧ Below w.heap.size w w' := by
  have hgrow := no_grow1
  have hit : Lib.itoa (n : Int) = Lib.decDigits n := by unfold Lib.itoa; rw [if_neg (by omega)]; rfl
  have hln := Lib.itoa_length_le (n : Int) (by omega) (by omega)
  rw [hit] at hln ⊢
  clear hit
  go_enter Tryz.func65, Tryz.ntmps65
  go_wp2_with fail
  go_loopw [0, 3] (fun a s wr => ∃ (m : Nat) (t : ByteArray), m ≤ n ∧ a = .int .i64 (m : Int) ∧ s = .string t ∧ Hid (Lib.decDigits n = Lib.decDigits m ++ t.data.toList) ∧ t.size ≤ 21 ∧ Below w.heap.size w wr) (fun a _ _ => (intOf a).toNat)
  case atStart => exact ⟨n, ⟨#[]⟩, Nat.le_refl _, rfl, rfl, Lib.hid (by simp), by decide, Below.refl _ _⟩
  case round =>
    obtain ⟨m, t, hm, rfl, rfl, hd, ht, bw⟩ := hrel
    have hone : ∀ d : UInt8, ({ data := #[d] } : ByteArray).size = 1 := fun _ => rfl
    by_cases h9 : 9 < m
    · obtain ⟨r, hr9, hrn, hrem⟩ : ∃ r : Nat, r ≤ 9 ∧ m % 10 = r ∧ (m : Int) % 10 = (r : Int) := ⟨m % 10, by omega, rfl, by omega⟩
      obtain ⟨d, hdn, hst⟩ : ∃ d : UInt8, d.toNat = 48 + r ∧ Hid (Lib.decDigits n = Lib.decDigits (m / 10) ++ (⟨#[d]⟩ ++ t : ByteArray).data.toList) :=
        ⟨UInt8.ofNat (48 + r), by simp; omega, Lib.hid (by rw [hd.out, dec_step m h9, hrn, cons_text]; simp)⟩
      have hdn := Lib.hid hdn
      clear hrn
      go_upto_region 4 with fail
      go_cut [4] (fun x wx => ∃ g cap : Nat, x = .slice (some ⟨g, 0, none⟩) 1 cap ∧ wx.cell? ⟨g, 0, none⟩ = some (.int .u8 (d.toNat : Int)) ∧ Below w.heap.size w wx)
      case first =>
        go_wp2_with fail
        go_meet
        rw [hdn.out]
        exact ⟨wr.heap.size + 1, _, rfl, by simp; rw [Array.getElem?_append_left (by simp)]; rfl, (((bw.alloc bw.size _).alloc (by have := bw.size; simp; omega) _).drew)⟩
      case rest =>
        obtain ⟨g, cap, rfl, hcell, bel⟩ := hcut
        have hcv := conv_one (cap := cap) hcell
        go_wp2_with fail
        go_round
        case rel => exact ⟨m / 10, ⟨#[d]⟩ ++ t, by omega, by go_num, rfl, hst, size_of hst.out hln, bel⟩
        case measure => simp [intOf]; omega
    · obtain ⟨d, hdn, hst⟩ : ∃ d : UInt8, d.toNat = 48 + m ∧ Hid (Lib.decDigits n = (⟨#[d]⟩ ++ t : ByteArray).data.toList) :=
        ⟨UInt8.ofNat (48 + m), by simp; omega, Lib.hid (by rw [hd.out, dec_last m h9, cons_text]; simp)⟩
      have hdn := Lib.hid hdn
      go_upto_region 8 with fail
      go_cut [5] (fun x wx => ∃ g cap : Nat, x = .slice (some ⟨g, 0, none⟩) 1 cap ∧ wx.cell? ⟨g, 0, none⟩ = some (.int .u8 (d.toNat : Int)) ∧ Below w.heap.size w wx)
      case first =>
        go_wp2_with fail
        go_meet
        rw [hdn.out]
        exact ⟨wr.heap.size + 1, _, rfl, by simp; rw [Array.getElem?_append_left (by simp)]; rfl, (((bw.alloc bw.size _).alloc (by have := bw.size; simp; omega) _).drew)⟩
      case rest =>
        obtain ⟨g, cap, rfl, hcell, bel⟩ := hcut
        have hcv := conv_one (cap := cap) hcell
        go_wp2_with fail
        go_ret
        exact ⟨ret_text (by rw [hst.out, array_toList]), bel⟩

theorem refDigitsN_any (n : Nat) (w : World) (hn : n < 100) :
    Calls Tryz.prog 39 #[.int .i64 (n : Int)] w fun e w' => e = .returned (.string ⟨(Sc.dig n).toArray⟩) ∧ Below w.heap.size w w' := by
  have hit : Lib.itoa (n : Int) = Lib.decDigits n := by unfold Lib.itoa; rw [if_neg (by omega)]; rfl
  have hd := fun W => refDigits_any n W (by omega)
  rw [hit, dec_dig hn] at hd
  clear hit
  go_enter Tryz.func39, Tryz.ntmps39
  go_wp2_with fail
  (with_reducible refine (hd _).mono ?_); rintro e w1 ⟨rfl, b1⟩
  go_wp2
  go_ret
  exact ⟨rfl, b1⟩

set_option maxRecDepth 100000 in
set_option maxHeartbeats 3200000 in
/-- A TEXT, A COMMENT, AN INSTRUCTION. -/
theorem refSpellLeaf_any (k : Int) (hk : k = 1 ∨ k = 2 ∨ k = 3) (sp nm d up : ByteArray) (as' : List Gv.Att) (kids : List Gv.Node) (va vk : Value) (r : ByteArray) (hr : r = Gv.str (Sc.leafText (.mk k sp nm as' kids d))) (w : World) (z2 : nm.size ≤ 1000000) (z3 : d.size ≤ 1000000) :
    Calls Tryz.prog 20 #[.agg (nodeArr k sp nm va vk d), .string up] w fun e w' => e = .returned (.string r) ∧ Below w.heap.size w w' := by
  have b0 := (Below.refl w.heap.size w).alloc (Nat.le_refl _) (.cells (nodeArr k sp nm va vk d) 25)
  have kA := Cells.new w 25 (nodeArr k sp nm va vk d)
  obtain ⟨x0, x1, x2, x3, x4, x5⟩ := node_open kA
  clear kA
  have c1 := fun W => refEscape_any d false W z3
  have s2 : (⟨#[60, 63]⟩ : ByteArray).size = 2 := rfl
  have s4 : (⟨#[60, 33, 45, 45]⟩ : ByteArray).size = 4 := rfl
  have s3 : (⟨#[45, 45, 62]⟩ : ByteArray).size = 3 := rfl
  have s5 : (⟨#[63, 62]⟩ : ByteArray).size = 2 := rfl
  have s1 : (⟨#[32]⟩ : ByteArray).size = 1 := rfl
  unfold nodeArr at *
  unfold Sc.leafText at hr
  rcases hk with rfl | rfl | rfl
  · replace hr := Lib.hid (show r = ⟨(E.escape false d.data.toList).toArray⟩ from hr)
    go_enter Tryz.func20, Tryz.ntmps20
    go_wp2_with fail
    (with_reducible refine (c1 _).mono ?_); rintro e w1 ⟨rfl, rfl⟩
    go_wp2_with fail
    go_ret
    exact ⟨ret_text hr.out.symm, b0⟩
  · replace hr := Lib.hid (show ⟨#[60, 33, 45, 45]⟩ ++ d ++ ⟨#[45, 45, 62]⟩ = r from by
      rw [hr]
      exact bytes_eq (by simp [Gv.str, Gv.Node.kind, Gv.Node.data]))
    clear c1
    go_enter Tryz.func20, Tryz.ntmps20
    go_wp2_with fail
    go_ret
    exact ⟨ret_text hr.out, b0⟩
  · clear c1
    rw [show Gv.Node.data (.mk 3 sp nm as' kids d) = d from rfl, show Gv.Node.name (.mk 3 sp nm as' kids d) = nm from rfl] at hr
    by_cases hd : d = ByteArray.empty
    · replace hr := Lib.hid (show ⟨#[60, 63]⟩ ++ nm ++ ⟨#[63, 62]⟩ = r from by
        rw [hr, if_pos hd]
        exact bytes_eq (by simp [Gv.str, Gv.Node.kind]))
      subst hd
      have h0 : ByteArray.empty.toList = [] := by rw [ByteArray.toList_eq]; rfl
      go_enter Tryz.func20, Tryz.ntmps20
      go_wp2_with fail
      go_ret
      exact ⟨ret_text hr.out, b0⟩
    · replace hr := Lib.hid (show ⟨#[60, 63]⟩ ++ nm ++ ⟨#[32]⟩ ++ d ++ ⟨#[63, 62]⟩ = r from by
        rw [hr, if_neg hd]
        exact bytes_eq (by simp [Gv.str, Gv.Node.kind]))
      obtain ⟨z1, z2⟩ : (d.toList == ([] : List UInt8)) = false ∧ ¬ d.toList = [] := by
        rcases nil_is (s := d) with ⟨e, _⟩ | ⟨_, h⟩
        · exact absurd (by simpa using e) hd
        · exact h
      clear hd
      go_enter Tryz.func20, Tryz.ntmps20
      go_wp2_with fail
      go_ret
      exact ⟨ret_text hr.out, b0⟩
end Go.Proofs.YtegaidfmkfnbnaaGreatDoor
