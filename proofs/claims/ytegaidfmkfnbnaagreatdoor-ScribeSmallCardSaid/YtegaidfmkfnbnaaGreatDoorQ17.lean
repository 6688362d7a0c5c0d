/-
  What the document's own Print and Right come to.
  What Print's answers say of a tree.
-/
import Derived.Test.YtegaidfmkfnbnaaGreatDoorQ16
import Derived.Test.YtegaidfmkfnbnaaGreatDoorP19
import Derived.Test.YtegaidfmkfnbnaaGreatDoorP20
namespace Go.Proofs.YtegaidfmkfnbnaaGreatDoor
open Go.RowKit

set_option maxRecDepth 100000 in
set_option maxHeartbeats 6400000 in
/-- THE DOCUMENT's Print. -/
theorem refPrint_any {S : Nat → Prop} (c : List Value) (n : Gv.Node) (w : World) (hN : NodeAt S w c n) (hz : Gv.wt n ≤ 1000000) :
    Calls Tryz.prog 10 #[.agg c.toArray] w fun e w' => e = .returned (.tuple #[.string (Sc.prA n), .int .i64 (Sc.prE n : Nat)]) ∧ Below w.heap.size w w' := by
  obtain ⟨k, sp, nm, d, as', kids, ao, bo, ca, cb, cs, en, ec, hat, hrow, hk, hm1, hm2⟩ := hN.open'
  have hc : c.toArray = nodeArr k sp nm (.slice ao as'.length ca) (.slice bo kids.length cb) d := by rw [ec]; rfl
  have b0 := (Below.refl w.heap.size w).alloc (Nat.le_refl _) (.cells (nodeArr k sp nm (.slice ao as'.length ca) (.slice bo kids.length cb) d) 25)
  have kA := Cells.new w 25 (nodeArr k sp nm (.slice ao as'.length ca) (.slice bo kids.length cb) d)
  obtain ⟨x0, x1, x2, x3, x4, x5⟩ := node_open kA
  have c1 := refMay_any 30 (Nat.le_refl _) _ c n (hN.on b0) (trim_of_wt n hz)
  rw [show (31 : Int) - ((30 : Nat) : Int) = 1 by omega, hc] at c1
  have hkind : n.kind = k := by rw [en]; rfl
  rw [hc]
  by_cases k0 : k = 0
  case neg =>
    have e1 : Sc.right n = false := by unfold Sc.right; rw [hkind]; simp [k0]
    have q := Lib.hid (show Sc.prA n = ByteArray.empty ∧ Sc.prE n = 30 from ⟨by unfold Sc.prA; rw [if_pos e1], by unfold Sc.prE; rw [if_pos e1]⟩)
    have z : (k != 0) = true := by simpa using k0
    clear hN hat hrow hk hm1 hm2 e1 hkind en ec hc c1 hz kA
    unfold nodeArr at *
    go_enter Tryz.func10, Tryz.ntmps10
    go_wp2_with fail
    go_ret2
    exact ⟨ret_pr q.out.1.symm (by rw [q.out.2]; rfl), b0⟩
  subst k0
  by_cases hm : Sc.may 30 n = true
  case neg =>
    have hmf : Sc.may 30 n = false := by simpa using hm
    rw [hmf] at c1
    have e1 : Sc.right n = false := by unfold Sc.right; rw [hmf]; simp
    have q := Lib.hid (show Sc.prA n = ByteArray.empty ∧ Sc.prE n = 30 from ⟨by unfold Sc.prA; rw [if_pos e1], by unfold Sc.prE; rw [if_pos e1]⟩)
    clear hN hat hrow hk hm1 hm2 e1 hkind en ec hc hz kA hmf hm
    unfold nodeArr at *
    go_enter Tryz.func10, Tryz.ntmps10
    go_wp2_with fail
    (with_reducible refine c1.mono ?_); rintro e w1 ⟨rfl, b1⟩
    go_wp2_with fail
    go_ret2
    exact ⟨ret_pr q.out.1.symm (by rw [q.out.2]; rfl), b0.trans (b1.mono b0.size)⟩
  rw [hm] at c1
  have e1 : Sc.right n = true := by unfold Sc.right; rw [hkind, hm]; rfl
  have c2 := fun (w1 : World) (hb : Below w.heap.size w w1) => refSpell_any 30 w1 c n ByteArray.empty (hN.on hb) hz hm
  rw [hc] at c2
  have hkeep := Lib.hid (fun W hb => node_open (kA.on (w' := W) hb))
  have hq : Sc.prA n = (if 100000 < (Sc.text n).length then ByteArray.empty else Gv.str (Sc.text n)) ∧ Sc.prE n = (if 100000 < (Sc.text n).length then 2 else 0) := ⟨by unfold Sc.prA; rw [if_neg (by rw [e1]; simp)], by unfold Sc.prE; rw [if_neg (by rw [e1]; simp)]⟩
  rw [show Sc.spell 30 ByteArray.empty n = Sc.text n from rfl] at c2
  have hlen : (Gv.str (Sc.text n)).size = (Sc.text n).length := by rw [← list_len]; simp [Gv.str]
  have hz2 : (Sc.text n).length ≤ 32000000 := Nat.le_trans (Sc.spell_le _ _ _) (by omega)
  rw [← hlen] at hq hz2
  generalize Gv.str (Sc.text n) = t at *
  replace hq := Lib.hid hq
  replace c2 := Lib.hid c2
  clear hN hat hrow hk hm1 hm2 e1 hkind en ec hc hz hm hlen
  replace kA := Lib.hid kA
  have hempty : (.string ByteArray.empty : Value) = .string ⟨#[]⟩ := rfl
  rw [hempty] at c2
  clear hempty
  unfold nodeArr at *
  go_enter Tryz.func10, Tryz.ntmps10
  go_wp2_with fail
  (with_reducible refine c1.mono ?_); rintro e w1 ⟨rfl, b1⟩
  have bb := b0.trans (b1.mono b0.size)
  clear x0 x1 x2 x3 x4 x5 c1
  obtain ⟨x0, x1, x2, x3, x4, x5⟩ := hkeep.out _ b1
  go_wp2_with fail
  (with_reducible refine (c2.out _ bb).mono ?_); rintro e w2 ⟨rfl, b2⟩
  have bf := bb.trans (b2.mono bb.size)
  by_cases hbig : 100000 < t.size
  · have q := Lib.hid (show Sc.prA n = ByteArray.empty ∧ Sc.prE n = 2 from ⟨by rw [hq.out.1, if_pos hbig], by rw [hq.out.2, if_pos hbig]⟩)
    have g : (100000 : Int) < (t.size : Int) := by omega
    clear hq hbig x0 x1 x2 x3 x4 x5
    go_wp2_with fail
    go_ret2
    exact ⟨ret_pr q.out.1.symm (by rw [q.out.2]; rfl), bf⟩
  · have q := Lib.hid (show Sc.prA n = t ∧ Sc.prE n = 0 from ⟨by rw [hq.out.1, if_neg hbig], by rw [hq.out.2, if_neg hbig]⟩)
    have g : ¬ (100000 : Int) < (t.size : Int) := by omega
    have g2 : decide ((100000 : Int) < (t.size : Int)) = false := by simpa using g
    clear hq hbig x0 x1 x2 x3 x4 x5
    go_wp2_with fail
    go_ret2
    exact ⟨ret_pr q.out.1.symm (by rw [q.out.2]; rfl), bf⟩

set_option maxRecDepth 100000 in
set_option maxHeartbeats 6400000 in
/-- THE DOCUMENT's Right. -/
theorem refRight_any {S : Nat → Prop} (c : List Value) (n : Gv.Node) (w : World) (hN : NodeAt S w c n) (hz : Gv.Trim 1000000 1000000 n) :
    Calls Tryz.prog 11 #[.agg c.toArray] w fun e w' => e = .returned (.bool (Sc.right n)) ∧ Below w.heap.size w w' := by
  obtain ⟨k, sp, nm, d, as', kids, ao, bo, ca, cb, cs, en, ec, hat, hrow, hk, hm1, hm2⟩ := hN.open'
  have hc : c.toArray = nodeArr k sp nm (.slice ao as'.length ca) (.slice bo kids.length cb) d := by rw [ec]; rfl
  have b0 := (Below.refl w.heap.size w).alloc (Nat.le_refl _) (.cells (nodeArr k sp nm (.slice ao as'.length ca) (.slice bo kids.length cb) d) 25)
  have kA := Cells.new w 25 (nodeArr k sp nm (.slice ao as'.length ca) (.slice bo kids.length cb) d)
  obtain ⟨x0, x1, x2, x3, x4, x5⟩ := node_open kA
  have c1 := refMay_any 30 (Nat.le_refl _) _ c n (hN.on b0) hz
  rw [show (31 : Int) - ((30 : Nat) : Int) = 1 by omega, hc] at c1
  have hkind : n.kind = k := by rw [en]; rfl
  rw [hc]
  by_cases k0 : k = 0
  case neg =>
    have q := Lib.hid (show Sc.right n = false by unfold Sc.right; rw [hkind]; simp [k0])
    have z : (k == 0) = false := by simpa using k0
    clear hN hat hrow hk hm1 hm2 hkind en ec hc c1 hz kA
    unfold nodeArr at *
    go_enter Tryz.func11, Tryz.ntmps11
    go_wp2_with fail
    go_ret
    exact ⟨ret_of q.out, b0⟩
  subst k0
  have q := Lib.hid (show Sc.may 30 n = Sc.right n by unfold Sc.right; rw [hkind]; simp)
  generalize Sc.may 30 n = b at *
  clear hN hat hrow hk hm1 hm2 hkind en ec hc hz kA
  unfold nodeArr at *
  go_enter Tryz.func11, Tryz.ntmps11
  go_wp2_with fail
  (with_reducible refine c1.mono ?_); rintro e w1 ⟨rfl, b1⟩
  go_wp2_with fail
  go_ret
  exact ⟨ret_of q.out.symm, b0.trans (b1.mono b0.size)⟩
end Go.Proofs.YtegaidfmkfnbnaaGreatDoor
namespace Go.Proofs.YtegaidfmkfnbnaaGreatDoor
namespace Sc
theorem pr_cases (n : Gv.Node) : (prE n = 0 ∧ right n = true ∧ (text n).length ≤ 100000 ∧ prA n = Gv.str (text n)) ∨ (prE n = 30 ∧ prA n = ByteArray.empty ∧ right n = false) ∨ (prE n = 2 ∧ prA n = ByteArray.empty ∧ right n = true) := by
  unfold prE prA
  cases h : right n with
  | false => exact .inr (.inl ⟨by simp, by simp, rfl⟩)
  | true =>
    by_cases h2 : 100000 < (text n).length
    · exact .inr (.inr ⟨by simp [h2], by simp [h2], rfl⟩)
    · exact .inl ⟨by simp [h2], rfl, by omega, by simp [h2]⟩
theorem str_list (l : List UInt8) : (Gv.str l).data.toList = l := by simp [Gv.str]
theorem str_size (l : List UInt8) : (Gv.str l).size = l.length := by rw [← len_size, str_list]
theorem parse_str {n : Gv.Node} (h : right n = true) (hl : (text n).length ≤ 100000) : Gv.parse (Gv.str (text n)).data.toList = .ok n := by
  rw [str_list]; exact parse_text h hl
end Sc
end Go.Proofs.YtegaidfmkfnbnaaGreatDoor
