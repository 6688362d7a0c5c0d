/-
  What the document's own word of parameters comes to: contract of Params.
-/
import Derived.Test.YtpgdmoaegnehbaaGreatDoorRefVal
namespace Go.Proofs.YtpgdmoaegnehbaaGreatDoor
open Go.RowKit

/-- Params' answers. -/
def prL (s : ByteArray) : List Pair := (Md.paramsG [] s.data.toList).getD []
def prC (s : ByteArray) : Bool := (Md.paramsG [] s.data.toList).isSome
theorem pr_none {s : ByteArray} (h : Md.paramsG [] s.data.toList = none) : prL s = [] ∧ prC s = false := by unfold prL prC; rw [h]; exact ⟨rfl, rfl⟩
theorem pr_some {s : ByteArray} {l : List Pair} (h : Md.paramsG [] s.data.toList = some l) : prL s = l ∧ prC s = true := by unfold prL prC; rw [h]; exact ⟨rfl, rfl⟩

set_option maxRecDepth 100000 in
set_option maxHeartbeats 3200000 in
theorem refParams_any (s : ByteArray) (w : World) (hs : s.size ≤ 1000000) :
    Calls Tryz.prog 52 #[.string s] w fun e w' => ∃ v, e = .returned (.tuple #[v, .bool (prC s)]) ∧ OwnsPairs w.heap.size v (prL s) w' ∧ Below w.heap.size w w' := by
  obtain ⟨i0, hi, hz0, hz1, hz2⟩ := info_parts infoPair
  go_enter Tryz.func52, Tryz.ntmps52
  go_wp2_with fail
  go_loopw [0, 4, 5, 6, 7, 8] (fun v0 v4 _ _ _ _ wr => ∃ (t : ByteArray) (acc : List Pair), v0 = .string t ∧ OwnsPairs w.heap.size v4 acc wr ∧ Hid (Md.paramsG [] s.data.toList = Md.paramsG acc t.data.toList) ∧ acc.length + t.size ≤ s.size ∧ Below w.heap.size w wr) (fun v0 _ _ _ _ _ _ => strLen v0)
  case atStart => exact ⟨s, [], rfl, pairs_nil _ _, Lib.hid rfl, by simp, Below.refl _ _⟩
  case round =>
    obtain ⟨t, acc, rfl, ho, hP, hlen, bw⟩ := hrel
    have htm : t.size ≤ maxLen := by unfold maxLen; omega
    go_wp2_with fail
    (with_reducible refine (refSkip_any t _ htm).mono ?_); rintro e w1 ⟨rfl, rfl⟩
    have hu1 := skA_size t
    have hu2 := Lib.hid (skA_list t)
    generalize hu : skA t = u at *
    clear hu
    by_cases h0 : u.size = 0
    · obtain ⟨r1, r2⟩ := pr_some (hP.out.trans (Md.pg_end (by rw [← hu2.out]; exact nil_of_size h0)))
      replace r1 := Lib.hid r1
      replace r2 := Lib.hid r2
      have he := empty_yes h0
      clear hP h0
      go_wp2
      go_ret2
      exact ⟨_, by rw [r2.out]; rfl, by rw [r1.out]; exact ho, bw⟩
    have h1 : 0 < u.size := by omega
    have hne := ne_empty h1
    have hnn : Md.skip t.data.toList ≠ [] := by rw [← hu2.out]; exact not_nil h1
    have hh := head_byte h1
    rw [hu2.out] at hh
    by_cases h59 : (u[0]).toNat = 59
    · have hh59 : (Md.skip t.data.toList).head? = some 59 := by rw [hh, byte_is (c := 59) h59]
      have h59b : (((u[0]).toNat : Int) != 59) = false := by rw [h59]; rfl
      have hdu : (u.extract 1 u.size).data.toList = (Md.skip t.data.toList).drop 1 := by rw [drop_list, hu2.out]
      clear hh h59 h0
      replace hh59 := Lib.hid hh59
      replace hnn := Lib.hid hnn
      replace hdu := Lib.hid hdu
      go_wp2_with fail
      (with_reducible refine (refSkip_any (u.extract 1 u.size) _ (by unfold maxLen; simp; omega)).mono ?_); rintro e w1 ⟨rfl, rfl⟩
      have hx1 := skA_size (u.extract 1 u.size)
      have hx2 := Lib.hid (show (skA (u.extract 1 u.size)).data.toList = Md.skip ((Md.skip t.data.toList).drop 1) by rw [skA_list, hdu.out])
      rw [ByteArray.size_extract] at hx1
      generalize skA (u.extract 1 u.size) = x at *
      go_wp2_with fail
      (with_reducible refine (refToken_any x _ (by unfold maxLen; omega)).mono ?_); rintro e w2 ⟨rfl, b2⟩
      have x2 := bw.trans (b2.mono bw.size)
      have o2 := pairs_below ho b2
      have hn1 := tkA_size x
      have hn2 := Lib.hid (show (tkA x).data.toList = Md.tok (Md.skip ((Md.skip t.data.toList).drop 1)) by rw [tkA_list, hx2.out])
      have hr1 := tkB_size x
      have hr2 := Lib.hid (show (tkB x).data.toList = Md.tokR (Md.skip ((Md.skip t.data.toList).drop 1)) by rw [tkB_list, hx2.out])
      generalize tkA x = nm at *
      generalize tkB x = rs at *
      clear hx2 ho bw b2
      by_cases hn0 : nm.size = 0
      · obtain ⟨r1, r2⟩ := pr_none (hP.out.trans (Md.pg_name hnn.out hh59.out (by rw [← hn2.out]; exact nil_of_size hn0)))
        replace r1 := Lib.hid r1
        replace r2 := Lib.hid r2
        have he := empty_yes hn0
        clear hP hn0
        go_wp2
        go_ret2
        exact ⟨_, by rw [r2.out]; rfl, by rw [r1.out]; exact pairs_nil _ _, x2⟩
      have hnne := ne_empty (s := nm) (by omega)
      have hnt : Hid (Md.tok (Md.skip ((Md.skip t.data.toList).drop 1)) ≠ []) := Lib.hid (by rw [← hn2.out]; exact not_nil (by omega))
      by_cases hs61 : ∃ h : 0 < rs.size, (rs[0]).toNat = 61
      · obtain ⟨hr0, h61⟩ := hs61
        have hrne := ne_empty hr0
        have hh61 : Hid ((Md.tokR (Md.skip ((Md.skip t.data.toList).drop 1))).head? = some 61) := Lib.hid (by rw [← hr2.out, head_byte hr0, byte_is (c := 61) h61])
        have h61b : (((rs[0]).toNat : Int) != 61) = false := by rw [h61]; rfl
        have hdr : (rs.extract 1 rs.size).data.toList = (Md.tokR (Md.skip ((Md.skip t.data.toList).drop 1))).drop 1 := by rw [drop_list, hr2.out]
        replace hdr := Lib.hid hdr
        clear h61
        go_wp2_with fail
        (with_reducible refine (refValue_any (rs.extract 1 rs.size) _ (by simp; omega)).mono ?_); rintro e w3 ⟨rfl, b3⟩
        have x3 := x2.trans (b3.mono x2.size)
        have o3 := pairs_below o2 b3
        clear x2 o2 b3
        cases hv : Md.value ((Md.tokR (Md.skip ((Md.skip t.data.toList).drop 1))).drop 1) with
        | none =>
          obtain ⟨r1, r2⟩ := pr_none (hP.out.trans (Md.pg_value hnn.out hh59.out hnt.out hh61.out hv))
          replace r1 := Lib.hid r1
          replace r2 := Lib.hid r2
          have hvc := va_none (s := rs.extract 1 rs.size) (by rw [hdr.out]; exact hv)
          rw [hvc]
          clear hP hvc hv
          go_wp2
          go_ret2
          exact ⟨_, by rw [r2.out]; rfl, by rw [r1.out]; exact pairs_nil _ _, x3⟩
        | some xr =>
          obtain ⟨v, r⟩ := xr
          have hst := hP.out.trans (Md.pg_step hnn.out hh59.out hnt.out hh61.out hv)
          have hshort := Md.params_shorter hnn.out hv
          rw [list_len] at hshort
          obtain ⟨e1, e2, e3⟩ := va_some (s := rs.extract 1 rs.size) (by rw [hdr.out]; exact hv)
          rw [e1, e2, e3]
          rw [← hn2.out] at hst
          have hst : Hid (Md.paramsG [] s.data.toList = Md.paramsG (acc ++ [⟨loA nm, ⟨v.toArray⟩⟩]) (⟨r.toArray⟩ : ByteArray).data.toList) := Lib.hid (by rw [mk_list]; exact hst)
          have hrsz : (⟨r.toArray⟩ : ByteArray).size = r.length := by rw [← list_len, mk_list]
          have hshort2 : (⟨r.toArray⟩ : ByteArray).size < t.size := by omega
          generalize (⟨v.toArray⟩ : ByteArray) = V at *
          generalize (⟨r.toArray⟩ : ByteArray) = R at *
          clear hP hv e1 e2 e3 hnn hh59 hnt hh61 hdr hn2 hr2 hdu hu2 hshort hrsz
          go_wp2_with fail
          (with_reducible refine (refLower_any nm _ (by omega)).mono ?_); rintro e w4 ⟨rfl, b4⟩
          have x4 := x3.trans (b4.mono x3.size)
          have o4 := pairs_below o3 b4
          generalize loA nm = ln at *
          clear o3 x3 b4
          go_wp2_with (at_builtin; refine wpList_append_own_at _ rfl _ _ 38 rfl w.heap.size 50 i0 _ 2 32 Tryz.underlying38 hi hz0 hz1 hz2 rfl (by decide) _ _ _ rfl (pairs_alloc o4 _) ⟨w4.heap.size, 0, none⟩ 1 1 [.string ln, .string V] rfl rfl (cells_two _ _ _ _) (fun u hu => by simp at hu; rcases hu with rfl | rfl <;> rfl) (by unfold maxLen; omega) (by omega) (by have := x4.size; simp; omega) ?_)
          intro v5 w5 hown5 hg5 _ hat
          have hga : w4.grownBy w5 u4.ownBlock := (World.grownBy_alloc w4 _ _).trans hg5
          have b5 : Below w.heap.size w4 w5 := (Below.refl _ _).grown hga x4.size (fun j e => (World.ownsRow.lt o4 j e).1)
          have q5 : OwnsPairs w.heap.size v5 (acc ++ [⟨ln, V⟩]) w5 := by unfold OwnsPairs; simpa [pairCells] using hown5
          clear hown5 hat hg5 hga o4
          go_wp2_with fail
          go_roundw
          case rel => exact ⟨R, acc ++ [⟨ln, V⟩], rfl, q5, hst, by simp; omega, x4.trans b5⟩
          case measure => simp [strLen]; omega
      · obtain ⟨r1, r2⟩ := pr_none (hP.out.trans (Md.pg_sign hnn.out hh59.out hnt.out (by
          rw [← hr2.out]
          intro e
          by_cases hr0 : 0 < rs.size
          · rw [head_byte hr0] at e; exact hs61 ⟨hr0, by rw [Option.some.inj e]; rfl⟩
          · rw [nil_of_size (by omega)] at e; cases e)))
        replace r1 := Lib.hid r1
        replace r2 := Lib.hid r2
        by_cases hr0 : 0 < rs.size
        · have hrne := ne_empty hr0
          have h61b : (((rs[0]).toNat : Int) != 61) = true := by
            rw [bne_iff_ne]; intro e; exact hs61 ⟨hr0, by omega⟩
          clear hs61 hP
          go_wp2
          go_ret2
          exact ⟨_, by rw [r2.out]; rfl, by rw [r1.out]; exact pairs_nil _ _, x2⟩
        · have he := empty_yes (s := rs) (by omega)
          clear hs61 hP
          go_wp2
          go_ret2
          exact ⟨_, by rw [r2.out]; rfl, by rw [r1.out]; exact pairs_nil _ _, x2⟩
    · obtain ⟨r1, r2⟩ := pr_none (hP.out.trans (Md.pg_semi hnn (by rw [hh]; intro e; exact h59 (by rw [Option.some.inj e]; rfl))))
      replace r1 := Lib.hid r1
      replace r2 := Lib.hid r2
      have h59b : (((u[0]).toNat : Int) != 59) = true := by rw [bne_iff_ne]; omega
      clear hP hh h59 hnn
      go_wp2
      go_ret2
      exact ⟨_, by rw [r2.out]; rfl, by rw [r1.out]; exact pairs_nil _ _, bw⟩
end Go.Proofs.YtpgdmoaegnehbaaGreatDoor
