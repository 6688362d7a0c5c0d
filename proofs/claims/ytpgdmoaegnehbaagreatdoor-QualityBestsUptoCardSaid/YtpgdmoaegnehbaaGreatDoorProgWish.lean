/-
  The program's own wishes: a range's weight, how narrow it is, and the ranges that a text tells.
-/
import Derived.Test.YtpgdmoaegnehbaaGreatDoorWs
import Derived.Test.YtpgdmoaegnehbaaGreatDoorProgWeight
import Derived.Test.YtpgdmoaegnehbaaGreatDoorProgSplit
import Derived.Test.YtpgdmoaegnehbaaGreatDoorProgParse
import Derived.Test.YtpgdmoaegnehbaaGreatDoorProgFits
import Derived.Test.YtpgdmoaegnehbaaGreatDoorRefRanges
import Derived.Deep.DeepCutAuto
import Derived.Deep.RegionHeld3
import Derived.Deep.AppendLies
namespace Go.Proofs.YtpgdmoaegnehbaaGreatDoor
open Go.RowKit

set_option maxRecDepth 100000 in
set_option maxHeartbeats 3200000 in
theorem weightIn_any {po : Option Addr} {pc : Nat} (m : Md.Med) (w : World) (hp : PairsIn w po m.params) (hl : m.params.length ≤ 100000) (hz : ∀ p ∈ m.params, p.value.size ≤ 100000) (hE : Env w) :
    Calls Tryz.prog 31 #[.agg #[.string m.ty, .string m.sub, .slice po m.params.length pc]] w fun e w' => ∃ y, e = .returned (.float .f64 y) ∧ Ql.IsW (Ql.weigh m.params) y ∧ Below w.heap.size w w' := by
  have kb := Box3.new w (.string m.ty) (.string m.sub) (.slice po m.params.length pc)
  have bA : Below w.heap.size w (w.alloc (.cells #[.string m.ty, .string m.sub, .slice po m.params.length pc] 40)) := (Below.refl _ _).alloc (Nat.le_refl _) _
  have c0 := kb.c0
  have c1 := kb.c1
  have c2 := kb.c2
  clear kb
  obtain ⟨Q, hQ⟩ : ∃ Q, Q = Ql.weigh m.params := ⟨_, rfl⟩
  rw [← hQ]
  replace hQ := Lib.hid hQ
  go_enter Tryz.func31, Tryz.ntmps31
  go_upto_region 1 with fail
  generalize w.alloc (.cells #[.string m.ty, .string m.sub, .slice po m.params.length pc] 40) = wA at *
  have hEA := hE.on bA
  have hpa := Lib.hid (mParam_any (cap := pc) m.ty m.sub m.params Ql.qn wA (hp.below bA) rfl hl hEA)
  replace hEA := Lib.hid hEA
  replace hz := Lib.hid hz
  replace hE := Lib.hid hE
  replace bA := Lib.hid bA
  clear hp
  obtain ⟨pav, hpav⟩ : ∃ x, x = paA m.params Ql.qn := ⟨_, rfl⟩
  obtain ⟨pbv, hpbv⟩ : ∃ x, x = paB m.params Ql.qn := ⟨_, rfl⟩
  rw [← hpav, ← hpbv] at hpa
  replace hpav := Lib.hid hpav
  replace hpbv := Lib.hid hpbv
  go_wp2_with fail
  (refine (hpa.out).mono ?_); rintro e w1 ⟨rfl, b1⟩
  have bz := Lib.hid (bA.out.trans (b1.mono bA.out.size))
  have hE1 := Lib.hid (hEA.out.on b1)
  clear hpa b1 c0 c1 c2
  cases hq : Md.param m.params Ql.qn with
  | none =>
    obtain ⟨g1, g2⟩ := par_none hq
    obtain rfl : pbv = false := hpbv.out.trans g1
    have hw := Lib.hid (show Ql.IsW Q Fl.one by rw [hQ.out, g2]; exact Fl.W_one.symm)
    replace hq := Lib.hid hq
    clear g1 g2
    go_wp2_with fail
    go_ret
    exact ⟨_, rfl, hw.out, bz.out⟩
  | some q =>
    obtain ⟨g1, g2, g3⟩ := par_some hq
    obtain ⟨pq, pm, pe⟩ := par_mem hq
    have hqz : q.size ≤ 100000 := by have := hz.out pq pm; rw [pe] at this; exact this
    have hwt := Lib.hid (qWeight_any q w1 hqz hE1.out)
    obtain rfl : pbv = true := hpbv.out.trans g1
    obtain rfl : pav = q := hpav.out.trans g2
    replace hq := Lib.hid hq
    replace g3 := Lib.hid g3
    clear pe pm g1 g2 hqz
    go_wp2_with fail
    (refine (hwt.out).mono ?_); rintro e w2 ⟨y, rfl, hy, b2⟩
    have hw := Lib.hid (show Ql.IsW Q y by rw [hQ.out, g3.out]; exact hy)
    have bz2 := Lib.hid (bz.out.trans (b2.mono bz.out.size))
    clear hwt hy b2
    go_wp2_with fail
    go_ret
    exact ⟨_, rfl, hw.out, bz2.out⟩

set_option maxRecDepth 100000 in
set_option maxHeartbeats 6400000 in
theorem narrowness_any {po : Option Addr} {pc : Nat} (m : Md.Med) (w : World) (hp : PairsIn w po m.params) (hl : m.params.length ≤ 100000) :
    Calls Tryz.prog 32 #[.agg #[.string m.ty, .string m.sub, .slice po m.params.length pc]] w fun e w' => e = .returned (.int .i64 ((Ql.rg m).narrow : Nat)) ∧ Below w.heap.size w w' := by
  have kb := Box3.new w (.string m.ty) (.string m.sub) (.slice po m.params.length pc)
  have bA : Below w.heap.size w (w.alloc (.cells #[.string m.ty, .string m.sub, .slice po m.params.length pc] 40)) := (Below.refl _ _).alloc (Nat.le_refl _) _
  have c0 := kb.c0
  have c1 := kb.c1
  have c2 := kb.c2
  clear kb
  obtain ⟨Q, hQ⟩ : ∃ Q, Q = (Ql.rg m).narrow := ⟨_, rfl⟩
  rw [← hQ]
  obtain ⟨a1, ha1⟩ : ∃ x : Nat, x = if m.ty = Md.star then 0 else 100 := ⟨_, rfl⟩
  obtain ⟨a2, ha2⟩ : ∃ x : Nat, x = if m.sub = Md.star then 0 else 100 := ⟨_, rfl⟩
  have hq : Hid (Q = a1 + a2 + Ql.rest m.params) := Lib.hid (by rw [hQ, ha1, ha2]; show Ql.rest m.params + _ + _ = _; omega)
  have f1 : ((m.ty.toList != [42]) = false ∧ (m.ty.toList == [42]) = true ∧ a1 = 0) ∨ ((m.ty.toList != [42]) = true ∧ (m.ty.toList == [42]) = false ∧ a1 = 100) := by
    by_cases h : m.ty = Md.star
    · obtain ⟨z1, z2, _⟩ := star_yes h
      exact .inl ⟨z2, z1, by rw [ha1, if_pos h]⟩
    · obtain ⟨z1, z2, _⟩ := star_no h
      exact .inr ⟨z2, z1, by rw [ha1, if_neg h]⟩
  have f2 : ((m.sub.toList != [42]) = false ∧ (m.sub.toList == [42]) = true ∧ a2 = 0) ∨ ((m.sub.toList != [42]) = true ∧ (m.sub.toList == [42]) = false ∧ a2 = 100) := by
    by_cases h : m.sub = Md.star
    · obtain ⟨z1, z2, _⟩ := star_yes h
      exact .inl ⟨z2, z1, by rw [ha2, if_pos h]⟩
    · obtain ⟨z1, z2, _⟩ := star_no h
      exact .inr ⟨z2, z1, by rw [ha2, if_neg h]⟩
  replace hQ := Lib.hid hQ
  clear ha1 ha2
  go_enter Tryz.func32, Tryz.ntmps32
  go_upto_region 1 with fail
  generalize w.alloc (.cells #[.string m.ty, .string m.sub, .slice po m.params.length pc] 40) = wA at *
  have hp2 := Lib.hid (hp.below bA)
  replace bA := Lib.hid bA
  clear hp
  rcases f1 with ⟨z1, z2, e1⟩ | ⟨z1, z2, e1⟩ <;> rcases f2 with ⟨z3, z4, e2⟩ | ⟨z3, z4, e2⟩
  all_goals
    replace e1 := Lib.hid e1
    replace e2 := Lib.hid e2
    go_wp2_with fail
    clear c0 c1 c2 z1 z2 z3 z4
    go_loopw [3, 19] (fun nv iv wr => ∃ k : Nat, k ≤ m.params.length ∧ iv = .int .i64 (k : Int) ∧ (∃ n : Nat, nv = .int .i64 (n : Int) ∧ n ≤ 200 + k ∧ Hid (Q = n + (Ql.rest m.params - Ql.rest (m.params.take k)))) ∧ Hid (Below wA.heap.size wA wr)) (fun _ iv _ => m.params.length - (intOf iv).toNat)
    case atStart => exact ⟨0, Nat.zero_le _, rfl, ⟨a1 + a2, by rw [e1.out, e2.out]; rfl, by rw [e1.out, e2.out]; omega, Lib.hid (by rw [hq.out]; simp [Ql.rest])⟩, Lib.hid (Below.refl _ _)⟩
    case round =>
      obtain ⟨k, hk, rfl, ⟨n, rfl, hn, hst⟩, bw⟩ := hrel
      by_cases hlt : k < m.params.length
      · obtain ⟨b, off, rfl, d0, d1⟩ := (hp2.out.below bw.out) k hlt
        have hmo := Ql.rest_more hlt
        have hle : Ql.rest (m.params.take (k + 1)) ≤ Ql.rest m.params := by
          have e := List.take_append_drop (k + 1) m.params
          conv => rhs; rw [← e]
          unfold Ql.rest
          rw [List.filter_append, List.length_append]
          omega
        generalize hps : m.params[k] = a at *
        obtain ⟨an, av⟩ := a
        dsimp only at *
        have bP := Lib.hid (bw.out.alloc (by have := bw.out.size; omega) (.cells #[.string an, .string av] 50))
        have R := Cells.new wr 50 #[.string an, .string av]
        have q0 := R.cell (i := 0) rfl
        have q1 := R.cell (i := 1) rfl
        replace hps := Lib.hid hps
        have z5 : ([113] : List UInt8) = Ql.qn.toList := by rw [ByteArray.toList_eq]; rfl
        clear R bw
        by_cases he : an = Ql.qn
        · rw [if_pos he] at hmo
          have hst2 := Lib.hid (show Q = n + (Ql.rest m.params - Ql.rest (m.params.take (k + 1))) by rw [hst.out, hmo]; rfl)
          have y1 : (an.toList == [113]) = true := by rw [z5]; exact same_str he
          have y2 : (an.toList != [113]) = false := by rw [bne, y1]; rfl
          replace he := Lib.hid he
          clear hmo hst z5
          go_wp2_with fail
          go_roundw
          case rel => exact ⟨k + 1, by omega, by go_num, ⟨n, rfl, by omega, hst2⟩, bP⟩
          case measure => simp [intOf]; omega
        · rw [if_neg he] at hmo
          have hst2 := Lib.hid (show Q = (n + 1) + (Ql.rest m.params - Ql.rest (m.params.take (k + 1))) by rw [hst.out]; omega)
          have y1 : (an.toList == [113]) = false := by rw [z5]; exact not_str he
          have y2 : (an.toList != [113]) = true := by rw [bne, y1]; rfl
          replace he := Lib.hid he
          clear hmo hst z5
          go_wp2_with fail
          go_roundw
          case rel => exact ⟨k + 1, by omega, by go_num, ⟨n + 1, by go_num, by omega, hst2⟩, bP⟩
          case measure => simp [intOf]; omega
      · have hfin := Lib.hid (show Q = n by rw [hst.out, List.take_of_length_le (by omega)]; omega)
        clear hst
        have hki : ¬ (k : Int) < (m.params.length : Int) := by omega
        have bF := Lib.hid (bA.out.trans (bw.out.mono bA.out.size))
        go_wp2_with fail
        go_ret
        exact ⟨by rw [hfin.out]; rfl, bF.out⟩

/-- The box of a type stands. -/
def Held (bm : Nat) (m : Md.Med) (v : Value) (w' : World) : Prop := w'.cell? ⟨bm, 0, none⟩ = some (.string m.ty) ∧ w'.cell? ⟨bm, 1, none⟩ = some (.string m.sub) ∧ w'.cell? ⟨bm, 2, none⟩ = some v

set_option maxRecDepth 100000 in
set_option maxHeartbeats 12800000 in
theorem wishes_any (s : ByteArray) (w : World) (hs : s.size ≤ 100000) (hE : Env w) :
    Calls Tryz.prog 18 #[.string s] w fun e w' => ∃ ao cap, e = .returned (.slice ao (Ql.ranges s.data.toList).length cap) ∧ RgsIn w' ao (Ql.ranges s.data.toList) ∧ Below w.heap.size w w' := by
  obtain ⟨i0, hi, hz0, hz1, hz2⟩ := info_parts infoWish
  have hlen := list_len s
  obtain ⟨hsm1, hsm2⟩ := Ql.split_small s.data.toList
  rw [hlen] at hsm1 hsm2
  obtain ⟨l, hl⟩ : ∃ l, l = Ql.split s.data.toList := ⟨_, rfl⟩
  have hsp := qSplit_at s w hs
  rw [← hl] at hsp hsm1 hsm2
  have hrl : Hid (Ql.ranges s.data.toList = Ql.upto l) := Lib.hid (by rw [hl]; rfl)
  replace hsm1 := Lib.hid hsm1
  replace hl := Lib.hid hl
  replace hlen := Lib.hid hlen
  replace hE := Lib.hid hE
  go_enter Tryz.func18, Tryz.ntmps18
  go_wp2_with fail
  (refine hsp.mono ?_); rintro e w1 ⟨ao, cap, rfl, hT, b1⟩
  clear hsp
  have hE1 := Lib.hid (hE.out.on b1)
  replace hT := Lib.hid hT
  replace b1 := Lib.hid b1
  go_wp2_with fail
  go_loopw [3, 11] (fun v iv wr => ∃ (k : Nat) (acc : List Ql.Rg), iv = .int .i64 k ∧ k ≤ l.length ∧ Hid (acc = Ql.upto (l.take k)) ∧ acc.length ≤ k ∧ Hid (OwnsWs w1.heap.size v acc wr) ∧ Hid (Below w1.heap.size w1 wr)) (fun _ i _ => l.length - (intOf i).toNat)
  case atStart => exact ⟨0, [], rfl, Nat.zero_le _, Lib.hid rfl, Nat.le_refl _, Lib.hid (OwnsWs.nil _ _), Lib.hid (Below.refl _ _)⟩
  case round =>
    obtain ⟨k, acc, rfl, hk, hacc, hun, ho, bw⟩ := hrel
    have ht := Lib.hid (hT.out.below bw.out)
    obtain ⟨oo, oc, rfl, hoc, hoI⟩ := ho.out.form
    replace hoI := Lib.hid hoI
    by_cases hlt : k < l.length
    case neg =>
      have hfin : Hid (Ql.ranges s.data.toList = acc) := Lib.hid (by rw [hrl.out, hacc.out, List.take_of_length_le (by omega)])
      have hki : ¬ (k : Int) < (l.length : Int) := by omega
      go_wp2_with fail
      go_ret
      exact ⟨oo, ⟨oc, by rw [hfin.out]; rfl⟩, by rw [hfin.out]; exact hoI.out, b1.out.trans (bw.out.mono b1.out.size)⟩
    obtain ⟨tb, toff, hae, hc⟩ := ht.out k hlt
    subst hae
    have hTz := hsm1.out _ (List.getElem_mem hlt)
    obtain ⟨T, hTe⟩ : ∃ T : ByteArray, T = ⟨l[k].toArray⟩ := ⟨_, rfl⟩
    rw [← hTe] at hc
    have hTl : T.data.toList = l[k] := (congrArg (fun x => x.data.toList) hTe).trans (mk_list _)
    have hTs : T.size ≤ 100000 := by rw [← list_len, hTl]; omega
    have hmp := mParse_any T wr hTs (hE1.out.on bw.out)
    have hmore := Ql.upto_more hlt
    rw [← hTl, ← hacc.out] at hmore
    replace hmore := Lib.hid hmore
    replace hTe := Lib.hid hTe
    replace hmp := Lib.hid hmp
    have hki : (k : Int) < (l.length : Int) := by omega
    have hcw := Lib.hid (fun (W : World) (b : Below wr.heap.size wr W) => (⟨bw.out.trans (b.mono bw.out.size), ho.out.on b⟩ : Below w1.heap.size w1 W ∧ OwnsWs w1.heap.size _ _ W))
    go_wp2_with fail
    (refine (hmp.out).mono ?_); rintro e w2 ⟨v, rfl, hp, b2⟩
    clear hmp
    obtain ⟨po, pc, rfl, hpi⟩ := pairs_of_owns hp
    obtain ⟨q1, q2⟩ := hcw.out w2 b2
    cases hpar : Md.parse T.data.toList with
    | none =>
      obtain ⟨e1, e2⟩ := mp_none hpar
      have hmr : Hid (acc = Ql.upto (l.take (k + 1))) := Lib.hid (by rw [hmore.out, hpar]; simp)
      rw [e1, e2]
      replace hpar := Lib.hid hpar
      have b3 := (Below.refl w2.heap.size w2).alloc (Nat.le_refl _) (.cells #[.string Md.none'.ty, .string Md.none'.sub, .slice po Md.none'.params.length pc] 40)
      have q1' := Lib.hid (q1.trans (b3.mono q1.size))
      have q2' := Lib.hid (q2.on b3)
      rw [e1] at hpi hp
      clear hpi hp q1 q2 b2 b3 hTl hcw
      go_wp2_with fail
      go_round
      case rel => exact ⟨k + 1, acc, by go_num, by omega, hmr, by omega, q2', q1'⟩
      case measure => simp [intOf]; omega
    | some m =>
      obtain ⟨e1, e2⟩ := mp_some hpar
      have hsz := Md.parse_size hpar
      rw [list_len] at hsz
      have hwl := Md.wt_length m.params
      have hpl : m.params.length ≤ 100000 := by omega
      have hpz : Hid (∀ p ∈ m.params, p.value.size ≤ 100000) := Lib.hid (fun p hm => by have := Md.wt_mem hm; omega)
      have hmr : Hid (acc ++ [Ql.rg m] = Ql.upto (l.take (k + 1))) := Lib.hid (by rw [hmore.out, hpar])
      rw [e1, e2]
      rw [e1] at hpi hp
      have hp' := Lib.hid (hp.base (B' := w1.heap.size) bw.out.size)
      replace hpi := Lib.hid hpi
      replace hpar := Lib.hid hpar
      have hE2 := hE1.out.on q1
      have b3 := (Below.refl w2.heap.size w2).alloc (Nat.le_refl _) (.cells #[.string m.ty, .string m.sub, .slice po m.params.length pc] 40)
      have KB := Box3.new w2 (.string m.ty) (.string m.sub) (.slice po m.params.length pc)
      have hrow := World.ownsRow.lt (q2.choose_spec.2.1)
      have hcw2 := Lib.hid (fun (W : World) (b : Below (w2.alloc (.cells #[.string m.ty, .string m.sub, .slice po m.params.length pc] 40)).heap.size (w2.alloc (.cells #[.string m.ty, .string m.sub, .slice po m.params.length pc] 40)) W) => (⟨q1.trans ((b3.trans (b.mono b3.size)).mono q1.size), q2.on (b3.trans (b.mono b3.size)), hp'.out.on (b3.trans (b.mono b3.size)), hpi.out.below (b3.trans (b.mono b3.size)), hE2.on (b3.trans (b.mono b3.size)), KB.on b⟩ : Below w1.heap.size w1 W ∧ OwnsWs w1.heap.size _ _ W ∧ OwnsPairs w1.heap.size _ _ W ∧ PairsIn W _ _ ∧ Env W ∧ Box3 W w2.heap.size _ _ _))
      replace hrow := Lib.hid hrow
      have c0 := KB.c0
      have c1 := KB.c1
      have c2 := KB.c2
      have hz3 := Lib.hid b3.size
      have hz4 := Lib.hid KB.lt
      clear hp q1 q2 b2 b3 hTl hcw hsz hwl e1 e2 hp' hc hE2 KB
      have hnb : (Ql.rg m).narrow ≤ 200000 := by
        have h4 := Ql.rest_le m.params
        show Ql.rest m.params + (if m.ty = Md.star then 0 else 100) + (if m.sub = Md.star then 0 else 100) ≤ 200000
        have : ∀ c : Prop, ∀ [Decidable c], (if c then 0 else 100) ≤ 100 := fun c _ => by split <;> omega
        have a := this (m.ty = Md.star)
        have b := this (m.sub = Md.star)
        omega
      go_upto_region 6 with fail
      generalize w2.alloc (.cells #[.string m.ty, .string m.sub, .slice po m.params.length pc] 40) = w3 at *
      have hwi := Lib.hid (fun (W : World) (b : Below w3.heap.size w3 W) => (weightIn_any (pc := pc) m W (hcw2.out W b).2.2.2.1 hpl hpz.out (hcw2.out W b).2.2.2.2.1).mono (R' := fun e w' => ∃ y, e = .returned (.float .f64 y) ∧ Hid (Ql.IsW (Ql.weigh m.params) y) ∧ Below w3.heap.size w3 w') (fun e w' ⟨y, h1, h2, h3⟩ => ⟨y, h1, Lib.hid h2, b.trans (h3.mono b.size)⟩))
      have hna := Lib.hid (fun (W : World) (b : Below w3.heap.size w3 W) => (narrowness_any (pc := pc) m W (hcw2.out W b).2.2.2.1 hpl).mono (R' := fun e w' => e = .returned (.int .i64 ((Ql.rg m).narrow : Nat)) ∧ Below w3.heap.size w3 w') (fun e w' ⟨h1, h3⟩ => ⟨h1, b.trans (h3.mono b.size)⟩))
      obtain ⟨N, hN⟩ : ∃ N, N = (Ql.rg m).narrow := ⟨_, rfl⟩
      rw [← hN] at hna hnb
      replace hN := Lib.hid hN
      have hPc : acc.length + 1 ≤ maxLen := by unfold maxLen; omega
      have hPb : (acc.length + 1) * 72 ≤ 140737488355328 := by omega
      have hk1 := Lib.hid (show k + 1 ≤ l.length from hlt)
      have hk2 := Lib.hid (show l.length - (k + 1) < l.length - k by omega)
      have hun1 := Lib.hid (show (acc ++ [Ql.rg m]).length ≤ k + 1 by simp; omega)
      go_upto_region 7 with fail
      go_region_held3 (fun w' => w'.cell? ⟨w2.heap.size, 0, none⟩ = some (.string m.ty) ∧ w'.cell? ⟨w2.heap.size, 1, none⟩ = some (.string m.sub) ∧ w'.cell? ⟨w2.heap.size, 2, none⟩ = some (.slice po m.params.length pc)) (go_keep)
        (first
          | (go_at_call 31; refine (hwi.out _ (Below.refl _ _).drew).mono ?_; rintro e w4 ⟨y, rfl, hy, b4⟩
             have d0 := (hcw2.out w4 b4).2.2.2.2.2.c0
             have d1 := (hcw2.out w4 b4).2.2.2.2.2.c1
             have d2 := (hcw2.out w4 b4).2.2.2.2.2.c2)
          | (go_at_call 32; refine (hna.out _ b4).mono ?_; rintro e w5 ⟨rfl, b5⟩
             have t0 := (hcw2.out w5 b5).2.2.2.2.2.c0
             have t1 := (hcw2.out w5 b5).2.2.2.2.2.c1
             have t2 := (hcw2.out w5 b5).2.2.2.2.2.c2)
          | (obtain ⟨h1, ⟨css, g1, g2, g3⟩, h3, -, -, h6⟩ := hcw2.out w5 b5
             have hsz5 := h1.size
             refine step_append_lies _ (by rfl) _ _ _ (by rfl) w1.heap.size 67 i0 _ 5 72 Tryz.underlying43 hi hz0 hz1 hz2 rfl (by decide) (.slice oo acc.length oc) acc.length css.flatten (by rfl) (World.ownsRow.alloc g2 _) ⟨w5.heap.size, 0, none⟩ 1 1 [.string m.ty, .string m.sub, .slice po m.params.length pc, .float .f64 y, .int .i64 (N : Int)] (by rfl) (by rfl) (cells_row w5 [.string m.ty, .string m.sub, .slice po m.params.length pc, .float .f64 y, .int .i64 (N : Int)] _) (by simp [Value.oneCell']) (by decide) hPc hPb (by simp; omega) (w5.heap.size + 1) (by simp) ?_
             intro gg cap5 w6 hown5 hg5 hat5 hlt5
             have q6 : Box3 w6 w2.heap.size (.string m.ty) (.string m.sub) (.slice po m.params.length pc) := (hg5.block w2.heap.size (by have := h6.lt; simp; omega) (by cases ho : (Value.slice oo acc.length oc).ownBlock with | none => simp | some j => have := (hrow.out j ho).2; simp; omega)).trans (h6.on ((Below.refl w5.heap.size w5).alloc (Nat.le_refl _) _))
             have s0 := q6.c0
             have s1 := q6.c1
             have s2 := q6.c2))
      all_goals
        have hga := (World.grownBy_alloc w5 _ _).trans hg5
        have b6 := Lib.hid (h1.trans ((Below.refl _ _).grown hga h1.size (fun j e => (World.ownsRow.lt g2 j e).1)))
        have hRg : RgIn w1.heap.size w5 [.string m.ty, .string m.sub, .slice po m.params.length pc, .float .f64 y, .int .i64 (N : Int)] (Ql.rg m) := ⟨y, .slice po m.params.length pc, by unfold rgCells; rw [← hN.out]; rfl, h3, hy.out⟩
        have ho6 := Lib.hid (OwnsWs.pushed g1 g2 g3 hRg hga hown5)
        clear hown5 hga hg5 g2 g3 hRg h3 h1 s0 s1 s2 t0 t1 t2 d0 d1 d2 c0 c1 c2
        go_wp2_with fail
        go_round
        case rel => exact ⟨k + 1, _, by go_num, hk1.out, hmr, hun1.out, ho6, b6⟩
        case measure => simp [intOf]; have := hk1.out; omega
end Go.Proofs.YtpgdmoaegnehbaaGreatDoor
