/-
  What comparing tokens comes to: contract of Same.
-/
import Derived.Test.YtmeliljioagipaaGreatDoorToks
import Derived.BigRegion
namespace Go.Proofs.YtmeliljioagipaaGreatDoor
open Go.RowKit

theorem bytes_inj {a b : List UInt8} (h : (⟨a.toArray⟩ : ByteArray) = ⟨b.toArray⟩) : a = b := by
  have := congrArg (fun x : ByteArray => x.data.toList) h
  simpa using this
theorem bytes_ne {a b : List UInt8} (h : ¬ a = b) : ((⟨a.toArray⟩ : ByteArray).toList == (⟨b.toArray⟩ : ByteArray).toList) = false := str_differ (fun e => h (bytes_inj e))
theorem mpair_inj {a b : List (List UInt8 × List UInt8)} : a.map mpair = b.map mpair ↔ a = b := by
  constructor
  · intro h
    refine List.map_inj_right (f := mpair) (fun x y e => ?_) |>.1 h
    obtain ⟨x1, x2⟩ := x
    obtain ⟨y1, y2⟩ := y
    unfold mpair at e
    injection e with e1 e2
    have e1' : x1 = y1 := bytes_inj e1
    have e2' : x2 = y2 := bytes_inj e2
    rw [e1', e2']
  · intro h; rw [h]
theorem toks_step {L M : List (T.Tok × Value)} {k : Nat} (h : k < L.length) (hm : k < M.length) (h0 : (L.map Prod.fst).take k = (M.map Prod.fst).take k) (h1 : L[k].1 = M[k].1) : (L.map Prod.fst).take (k + 1) = (M.map Prod.fst).take (k + 1) := by
  rw [List.take_succ_eq_append_getElem (by simpa using h), List.take_succ_eq_append_getElem (by simpa using hm), h0]
  simp [h1]
theorem toks_differ {L M : List (T.Tok × Value)} {k : Nat} (h : k < L.length) (hm : k < M.length) (h1 : ¬ L[k].1 = M[k].1) : ¬ L.map Prod.fst = M.map Prod.fst := by
  intro e
  have := congrArg (fun l => l[k]?) e
  simp [h, hm] at this
  exact h1 this

set_option maxRecDepth 100000 in
set_option maxHeartbeats 3200000 in
theorem same_any {ao bo : Option Addr} {ca cb n1 n2 : Nat} (L M : List (T.Tok × Value)) (w : World) (hl : ToksIn w ao L) (hm : ToksIn w bo M) (hln : L.length ≤ 1000000) (hat : ∀ x ∈ L, x.1.attrs.length ≤ 1000000) (h1 : L.length = n1) (h2 : M.length = n2) :
    Calls Tryz.prog 8 #[.slice ao n1 ca, .slice bo n2 cb] w fun e w' => e = .returned (.bool (decide (L.map Prod.fst = M.map Prod.fst))) ∧ Below w.heap.size w w' := by
  subst h1; subst h2
  by_cases hlen : L.length = M.length
  · rw [← hlen]
    have hlh := Lib.hid hlen
    clear hlen
    go_enter Tryz.func8, Tryz.ntmps8
    go_wp2_with fail
    go_loopw [5] (fun i wr => ∃ k : Nat, k ≤ L.length ∧ i = .int .i64 k ∧ Hid ((L.map Prod.fst).take k = (M.map Prod.fst).take k) ∧ Below w.heap.size w wr) (fun i _ => L.length - (intOf i).toNat)
    case atStart => exact ⟨0, Nat.zero_le _, rfl, Lib.hid rfl, Below.refl _ _⟩
    case round =>
      obtain ⟨k, hk, rfl, htk, bw⟩ := hrel
      by_cases hlt : k < L.length
      · have hkm : k < M.length := by rw [← hlh.out]; exact hlt
        obtain ⟨b, off, rfl, c0, c1, c2, c3, c4, ha⟩ := (hl.below bw).cells hlt (t := L[k].1) (v := L[k].2) rfl
        obtain ⟨b', off', rfl, d0, d1, d2, d3, d4, hd⟩ := (hm.below bw).cells hkm (t := M[k].1) (v := M[k].2) rfl
        have g3 : (k : Int) < (L.length : Int) := by omega
        obtain ⟨ax, cx, ex, px⟩ := ha
        obtain ⟨ay, cy, ey, py⟩ := hd
        rw [ex] at c2
        rw [ey] at d2
        have hst := Lib.hid (toks_step hlt hkm htk.out)
        have hdf := Lib.hid (toks_differ hlt hkm)
        have hax := hat _ (List.getElem_mem hlt)
        generalize L[k].1 = x at *
        generalize M[k].1 = y at *
        obtain ⟨xk, xn, xa, xo, xd⟩ := x
        obtain ⟨yk, yn, ya, yo, yd⟩ := y
        simp only at c0 c1 c2 c3 c4 d0 d1 d2 d3 d4 hax
        simp only at px py
        clear hl hm ex ey
        have q1 := World.block_lt_of_cell? wr _ c0
        have q2 := World.block_lt_of_cell? wr _ d0
        simp only at q1 q2
        have q3 : ¬ b = wr.heap.size := by omega
        have q4 : ¬ b' = wr.heap.size := by omega
        have q5 : ¬ b = wr.heap.size + 1 := by omega
        have q6 : ¬ b' = wr.heap.size + 1 := by omega
        go_wp2_with fail
        go_region
        all_goals
          by_cases e1 : xk = yk
          · subst e1
            by_cases e2 : xn = yn
            · subst e2
              by_cases e3 : xo = yo
              · subst e3
                by_cases e4 : xd = yd
                · subst e4
                  by_cases e5 : xa = ya
                  · subst e5
                    have hy := Lib.hid (hst.out rfl)
                    clear hst hdf
                    go_wp2_with fail
                    (with_reducible refine (samePairs_any (xa.map mpair) (xa.map mpair) _ ?_ ?_ ?_ ?_ ?_).mono ?_)
                    · exact px.below ((((Below.refl _ _).alloc (Nat.le_refl _) _).alloc (by simp) _).drew)
                    · exact py.below ((((Below.refl _ _).alloc (Nat.le_refl _) _).alloc (by simp) _).drew)
                    · simpa using hax
                    · simp
                    · simp
                    rintro e w2 ⟨rfl, b2⟩
                    rw [show decide (xa.map mpair = xa.map mpair) = true from decide_eq_true rfl]
                    have b3 := bw.trans ((((((Below.refl _ _).alloc (Nat.le_refl _) _).alloc (by simp) _).drew).mono bw.size).trans (b2.mono (Nat.le_trans bw.size (((((Below.refl _ _).alloc (Nat.le_refl _) _).alloc (by simp) _).drew).size))))
                    go_wp2_with fail
                    go_roundw
                    case rel => exact ⟨k + 1, by omega, by go_num, hy, b3⟩
                    case measure => simp [intOf]; omega
                  · have hno := Lib.hid (hdf.out (by simp [e5]))
                    have h5 := Lib.hid (decide_eq_false (fun h => e5 (mpair_inj.1 h)))
                    clear hst hdf
                    go_wp2_with fail
                    (with_reducible refine (samePairs_any (xa.map mpair) (ya.map mpair) _ ?_ ?_ ?_ ?_ ?_).mono ?_)
                    · exact px.below ((((Below.refl _ _).alloc (Nat.le_refl _) _).alloc (by simp) _).drew)
                    · exact py.below ((((Below.refl _ _).alloc (Nat.le_refl _) _).alloc (by simp) _).drew)
                    · simpa using hax
                    · simp
                    · simp
                    rintro e w2 ⟨rfl, b2⟩
                    rw [h5.out]
                    have b3 := bw.trans ((((((Below.refl _ _).alloc (Nat.le_refl _) _).alloc (by simp) _).drew).mono bw.size).trans (b2.mono (Nat.le_trans bw.size (((((Below.refl _ _).alloc (Nat.le_refl _) _).alloc (by simp) _).drew).size))))
                    go_wp2_with fail
                    go_ret
                    exact ⟨ret_bool (decide_eq_false hno.out).symm, b3⟩
                · have hno := Lib.hid (hdf.out (by simp [e4]))
                  have f4 := bytes_ne e4
                  clear hst hdf
                  go_wp2_with fail
                  go_ret
                  exact ⟨ret_bool (decide_eq_false hno.out).symm, bw.trans (((((Below.refl _ _).alloc (Nat.le_refl _) _).alloc (by simp) _).drew).mono bw.size)⟩
              · have hno := Lib.hid (hdf.out (by simp [e3]))
                clear hst hdf
                cases xo <;> cases yo <;> first
                  | exact absurd rfl e3
                  | (clear e3; go_wp2_with fail; go_ret; exact ⟨ret_bool (decide_eq_false hno.out).symm, bw.trans (((((Below.refl _ _).alloc (Nat.le_refl _) _).alloc (by simp) _).drew).mono bw.size)⟩)
            · have hno := Lib.hid (hdf.out (by simp [e2]))
              have f2 := bytes_ne e2
              clear hst hdf
              go_wp2_with fail
              go_ret
              exact ⟨ret_bool (decide_eq_false hno.out).symm, bw.trans (((((Below.refl _ _).alloc (Nat.le_refl _) _).alloc (by simp) _).drew).mono bw.size)⟩
          · have hno := Lib.hid (hdf.out (by simp [e1]))
            have f1 : ((xk : Int) == (yk : Int)) = false := beq_eq_false_iff_ne.2 (by omega)
            clear hst hdf
            go_wp2_with fail
            go_ret
            exact ⟨ret_bool (decide_eq_false hno.out).symm, bw.trans (((((Below.refl _ _).alloc (Nat.le_refl _) _).alloc (by simp) _).drew).mono bw.size)⟩
      · obtain rfl : k = L.length := by omega
        have he : Hid (L.map Prod.fst = M.map Prod.fst) := Lib.hid (by
          have h := htk.out
          rw [List.take_of_length_le (by simp), List.take_of_length_le (by simp [hlh.out])] at h
          exact h)
        go_wp2_with fail
        go_ret
        exact ⟨ret_bool (decide_eq_true he.out).symm, bw⟩
  · have hno : Hid (¬ L.map Prod.fst = M.map Prod.fst) := Lib.hid (fun e => hlen (by have := congrArg List.length e; simpa using this))
    go_enter Tryz.func8, Tryz.ntmps8
    go_wp2
    go_ret
    exact ⟨ret_bool (decide_eq_false hno.out).symm, Below.refl _ _⟩
end Go.Proofs.YtmeliljioagipaaGreatDoor
