/-
  The document's own search of a text in another one, and its word of spaces.
  The document's own word of attributes that may be.
-/
import Derived.Test.YtegaidfmkfnbnaaGreatDoorP15
import Derived.Test.YtegaidfmkfnbnaaGreatDoorP06
import Derived.Deep.LoopGhost
import Derived.BigQuiet
namespace Go.Proofs.YtegaidfmkfnbnaaGreatDoor
open Go.RowKit

namespace Sc
theorem hasIn_step {p : List UInt8} {b : UInt8} {t : List UInt8} : hasIn p (b :: t) = (T.begins p (b :: t) || hasIn p t) := by
  unfold hasIn
  rw [T.cutAt]
  cases h : T.begins p (b :: t) with
  | true => rfl
  | false =>
    cases T.cutAt p t <;> rfl
theorem hasIn_short {p l : List UInt8} (h : l.length < p.length) : hasIn p l = false := by
  unfold hasIn
  cases hc : T.cutAt p l with
  | none => rfl
  | some x =>
    have := congrArg List.length (T.cutAt_eq (a := x.1) (r := x.2) hc)
    simp only [List.length_append] at this
    omega
theorem begins_at {s t : ByteArray} {i : Nat} (_h : i + t.size ≤ s.size) : T.begins t.data.toList (s.data.toList.drop i) = decide (s.extract i (i + t.size) = t) := by
  have e : (s.extract i (i + t.size)).data.toList = (s.data.toList.drop i).take t.size := by
    rw [extract_list, List.drop_take]
    congr 1; omega
  by_cases hb : T.begins t.data.toList (s.data.toList.drop i) = true
  · rw [hb]
    obtain ⟨r, hr⟩ := T.begins_iff.1 hb
    symm
    rw [decide_eq_true_eq]
    apply bytes_eq
    rw [e, ← hr, ← list_len t, List.take_left]
  · rw [show T.begins t.data.toList (s.data.toList.drop i) = false by simpa using hb]
    symm
    rw [decide_eq_false_iff_not]
    intro c
    apply hb
    rw [T.begins_iff]
    refine ⟨(s.data.toList.drop i).drop t.size, ?_⟩
    rw [← c, e, c, List.take_append_drop]
end Sc

set_option maxRecDepth 100000 in
set_option maxHeartbeats 3200000 in
theorem refHas_any (s t : ByteArray) (r : Bool) (hr : r = Sc.hasIn t.data.toList s.data.toList) (w : World) (hs : s.size ≤ 1000000) (ht : 0 < t.size) (ht2 : t.size ≤ 1000) :
    Calls Tryz.prog 62 #[.string s, .string t] w fun e w' => e = .returned (.bool r) ∧ w' = w := by
  have hI := Lib.hid (show r = Sc.hasIn t.data.toList (s.data.toList.drop 0) from hr)
  clear hr
  go_enter Tryz.func62, Tryz.ntmps62
  go_wp2_with fail
  go_loopg [5] s.size (fun gg s5 wr => ∃ i : Nat, i ≤ s.size ∧ s.size - i ≤ gg ∧ s5 = .int .i64 i ∧ wr = w ∧ Hid (r = Sc.hasIn t.data.toList (s.data.toList.drop i)))
  case atStart => exact ⟨0, Nat.zero_le _, by omega, rfl, rfl, hI⟩
  case round =>
    obtain ⟨i, hi, hg, rfl, rfl, hJ⟩ := hrel
    clear hI
    by_cases hlt : i + t.size ≤ s.size
    · have hlt' : (i : Int) + (t.size : Int) ≤ (s.size : Int) := by omega
      have hb := Sc.begins_at hlt
      have hstep := hJ.out
      rw [drop_cons s i (by omega), Sc.hasIn_step, ← drop_cons s i (by omega), hb] at hstep
      replace hstep := Lib.hid hstep
      rcases two_is (s.extract i (i + t.size)) t with ⟨e, m1, m2, m3⟩ | ⟨e, m1, m2, m3⟩
      · have hx := Lib.hid (show r = Sc.hasIn t.data.toList (s.data.toList.drop (i + 1)) by
          rw [hstep.out, show decide (s.extract i (i + t.size) = t) = false by simpa using e, Bool.false_or])
        clear hJ hb hstep e
        go_wp2_with fail
        go_roundg (s.size - (i + 1))
        case measure => omega
        case rel => exact ⟨i + 1, by omega, by omega, by go_num, rfl, hx⟩
      · have hx := Lib.hid (show r = true by
          rw [hstep.out, show decide (s.extract i (i + t.size) = t) = true by simpa using e, Bool.true_or])
        clear hJ hb hstep e
        go_wp2_with fail
        go_ret
        exact ⟨ret_of hx.out, rfl⟩
    · have hlt' : ¬ (i : Int) + (t.size : Int) ≤ (s.size : Int) := by omega
      have hd : decide ((i : Int) + (t.size : Int) ≤ (s.size : Int)) = false := by simpa using hlt'
      have hx := Lib.hid (show r = false by
        rw [hJ.out]
        exact Sc.hasIn_short (by rw [List.length_drop, list_len, list_len]; omega))
      clear hJ hlt
      go_wp2_with fail
      go_ret
      exact ⟨ret_of hx.out, rfl⟩

set_option maxRecDepth 100000 in
set_option maxHeartbeats 1600000 in
theorem refSpaceOk_any (s : ByteArray) (r : Bool) (hr : r = Sc.spaceOk s) (w : World) (hs : s.size ≤ 1000000) :
    Calls Tryz.prog 36 #[.string s] w fun e w' => e = .returned (.bool r) ∧ Below w.heap.size w w' := by
  have c := refCheck_any s w (by unfold maxLen; omega)
  rw [checkN_of] at c
  unfold Sc.spaceOk at hr
  have hX := two_is s P.xmlnsS
  rw [xmlns_lit] at hX
  generalize G.check s.data.toList = p at *
  generalize decide (s ≠ P.xmlnsS) = q at *
  replace hr := Lib.hid hr
  go_enter Tryz.func36, Tryz.ntmps36
  cases p with
  | false =>
    rw [if_neg (by simp)] at c
    clear hX
    go_wp2_with fail
    (with_reducible refine c.mono ?_); rintro e w1 ⟨rfl, b⟩
    go_wp2_with fail
    go_ret
    exact ⟨ret_of (by rw [hr.out]; simp), b⟩
  | true =>
    rw [if_pos rfl] at c
    rcases hX with ⟨rfl, m1, m2, m3⟩ | ⟨rfl, m1, m2, m3⟩
    · go_wp2_with fail
      (with_reducible refine c.mono ?_); rintro e w1 ⟨rfl, b⟩
      go_wp2_with fail
      go_ret
      exact ⟨ret_of (by rw [hr.out]; simp), b⟩
    · go_wp2_with fail
      (with_reducible refine c.mono ?_); rintro e w1 ⟨rfl, b⟩
      go_wp2_with fail
      go_ret
      exact ⟨ret_of (by rw [hr.out]; simp), b⟩
end Go.Proofs.YtegaidfmkfnbnaaGreatDoor
namespace Go.Proofs.YtegaidfmkfnbnaaGreatDoor
open Go.RowKit

set_option maxRecDepth 100000 in
set_option maxHeartbeats 12800000 in
theorem refAtts_any {S : Nat → Prop} (ao : Option Addr) (cap : Nat) (l : List Gv.Att) (r : Bool) (hr : r = Sc.attsGo [] l) (w : World) (hl : AttsAt S w (.slice ao l.length cap) l) (hm : l.length ≤ maxLen)
    (hz : ∀ a ∈ l, a.space.size ≤ 1000000 ∧ a.name.size ≤ 1000000 ∧ a.value.size ≤ 1000000) :
    Calls Tryz.prog 37 #[.slice ao l.length cap] w fun e w' => e = .returned (.bool r) ∧ Below w.heap.size w w' := by
  unfold maxLen at hm
  have hr0 := Lib.hid (show r = Sc.attsGo (l.take 0) (l.drop 0) by rw [hr]; simp)
  clear hr
  replace hz := Lib.hid hz
  replace hl := Lib.hid hl
  go_enter Tryz.func37, Tryz.ntmps37
  go_wp2_with fail
  go_loopg [3, 4, 5] l.length (fun gg s3 _ _ wr => ∃ kk : Nat, kk ≤ l.length ∧ l.length - kk ≤ gg ∧ s3 = .int .i64 kk ∧ Hid (Below w.heap.size w wr) ∧ Hid (r = Sc.attsGo (l.take kk) (l.drop kk)))
  case atStart => exact ⟨0, Nat.zero_le _, by omega, rfl, Lib.hid (Below.refl _ w), hr0⟩
  case round =>
    obtain ⟨kk, hkk, hg, rfl, BW, A⟩ := hrel
    clear hr0
    by_cases hlt : kk < l.length
    · have hltz : (kk : Int) < (l.length : Int) := by omega
      have hstep := attsGo_step hlt
      obtain ⟨z1, z2, z3⟩ := hz.out l[kk] (List.getElem_mem hlt)
      have hA := A.out
      rw [hstep] at hA
      obtain ⟨b, off, rfl, p0, p1, p2⟩ := (hl.out.stay (stay_below BW.out)).cells hlt (sp := l[kk].space) (nm := l[kk].name) (va := l[kk].value) rfl
      rw [show Sc.attOk l[kk] = (G.plain l[kk].name.data.toList && Sc.spaceOk l[kk].space && G.check l[kk].value.data.toList && !(decide (l[kk].space = ByteArray.empty) && decide (l[kk].name = P.xmlns))) from rfl] at hA
      clear hstep A
      generalize l[kk].space = us at *
      generalize l[kk].name = un at *
      generalize l[kk].value = uv at *
      have c1 := fun W => refPlain_any un W (by unfold maxLen; omega)
      have c2 := fun W => refSpaceOk_any us (Sc.spaceOk us) rfl W z1
      have c3 := fun W => refCheck_any uv W (by unfold maxLen; omega)
      rw [checkN_of] at c3
      have hS := nil_is (s := us)
      have hN := two_is un P.xmlns
      rw [xmlnsN_lit] at hN
      rw [show decide (un = P.xmlns) = !decide (un ≠ P.xmlns) by simp] at hA
      generalize G.plain un.data.toList = p1' at *
      generalize Sc.spaceOk us = p2' at *
      generalize G.check uv.data.toList = p3' at *
      generalize decide (us = ByteArray.empty) = q1 at *
      generalize decide (un ≠ P.xmlns) = q2 at *
      replace hA := Lib.hid hA
      replace hS := Lib.hid hS
      replace hN := Lib.hid hN
      replace c1 := Lib.hid c1
      replace c2 := Lib.hid c2
      have bW := (Below.refl wr.heap.size wr).alloc (Nat.le_refl _) (.cells #[.string us, .string un, .string uv] 40)
      have kA := Cells.new wr 40 #[.string us, .string un, .string uv]
      have kB := Lib.hid (fun W hb => kA.on (w' := W) hb)
      have x0 := kA.cell (i := 0) (v := .string us) rfl
      have x1 := kA.cell (i := 1) (v := .string un) rfl
      have x2 := kA.cell (i := 2) (v := .string uv) rfl
      replace kA := Lib.hid kA
      clear z1 z2 z3
      go_wp2_with fail
      generalize hW : wr.alloc (.cells #[.string us, .string un, .string uv] 40) = W at *
      clear p0 p1 p2
      cases p1' with
      | false =>
        have hr := Lib.hid (show r = false by rw [hA.out]; simp)
        go_wp2_with fail
        (with_reducible refine (c1.out _).mono ?_); rintro e w1 ⟨rfl, b1⟩
        clear hA
        go_wp2_with fail
        go_ret
        exact ⟨ret_of hr.out, BW.out.trans ((bW.trans (b1.mono bW.size)).mono BW.out.size)⟩
      | true =>
        cases p2' with
        | false =>
          have hr := Lib.hid (show r = false by rw [hA.out]; simp)
          go_wp2_with fail
          (with_reducible refine (c1.out _).mono ?_); rintro e w1 ⟨rfl, b1⟩
          clear x0 x1 x2
          have x0 := (kB.out _ b1).cell (i := 0) (v := .string us) rfl
          have x1 := (kB.out _ b1).cell (i := 1) (v := .string un) rfl
          have x2 := (kB.out _ b1).cell (i := 2) (v := .string uv) rfl
          go_wp2_with fail
          (with_reducible refine (c2.out _).mono ?_); rintro e w2 ⟨rfl, b2⟩
          have f2 := b1.trans (b2.mono b1.size)
          clear hA
          go_wp2_with fail
          go_ret
          exact ⟨ret_of hr.out, BW.out.trans ((bW.trans (f2.mono bW.size)).mono BW.out.size)⟩
        | true =>
          cases p3' with
          | false =>
            rw [if_neg (by simp)] at c3
            have hr := Lib.hid (show r = false by rw [hA.out]; simp)
            go_wp2_with fail
            (with_reducible refine (c1.out _).mono ?_); rintro e w1 ⟨rfl, b1⟩
            clear x0 x1 x2
            have x0 := (kB.out _ b1).cell (i := 0) (v := .string us) rfl
            have x1 := (kB.out _ b1).cell (i := 1) (v := .string un) rfl
            have x2 := (kB.out _ b1).cell (i := 2) (v := .string uv) rfl
            go_wp2_with fail
            (with_reducible refine (c2.out _).mono ?_); rintro e w2 ⟨rfl, b2⟩
            have f2 := b1.trans (b2.mono b1.size)
            clear x0 x1 x2
            have x0 := (kB.out _ f2).cell (i := 0) (v := .string us) rfl
            have x1 := (kB.out _ f2).cell (i := 1) (v := .string un) rfl
            have x2 := (kB.out _ f2).cell (i := 2) (v := .string uv) rfl
            go_wp2_with fail
            (with_reducible refine (c3 _).mono ?_); rintro e w3 ⟨rfl, b3⟩
            have f3 := f2.trans (b3.mono f2.size)
            clear hA
            go_wp2_with fail
            go_ret
            exact ⟨ret_of hr.out, BW.out.trans ((bW.trans (f3.mono bW.size)).mono BW.out.size)⟩
          | true =>
            rw [if_pos rfl] at c3
            replace c3 := Lib.hid c3
            rcases hS.out with ⟨rfl, s1, s2⟩ | ⟨rfl, s1, s2⟩
            · rcases hN.out with ⟨rfl, n1, n2, n3⟩ | ⟨rfl, n1, n2, n3⟩
              · have hx := Lib.hid (show r = (!((l.take kk).any fun x => decide (x.space = us ∧ x.name = un)) && Sc.attsGo (l.take (kk + 1)) (l.drop (kk + 1))) by rw [hA.out]; simp)
                go_wp2_with fail
                (with_reducible refine (c1.out _).mono ?_); rintro e w1 ⟨rfl, b1⟩
                clear x0 x1 x2
                have x0 := (kB.out _ b1).cell (i := 0) (v := .string us) rfl
                have x1 := (kB.out _ b1).cell (i := 1) (v := .string un) rfl
                have x2 := (kB.out _ b1).cell (i := 2) (v := .string uv) rfl
                go_wp2_with fail
                (with_reducible refine (c2.out _).mono ?_); rintro e w2 ⟨rfl, b2⟩
                have f2 := b1.trans (b2.mono b1.size)
                clear x0 x1 x2
                have x0 := (kB.out _ f2).cell (i := 0) (v := .string us) rfl
                have x1 := (kB.out _ f2).cell (i := 1) (v := .string un) rfl
                have x2 := (kB.out _ f2).cell (i := 2) (v := .string uv) rfl
                go_wp2_with fail
                (with_reducible refine (c3.out _).mono ?_); rintro e w3 ⟨rfl, b3⟩
                have f3 := f2.trans (b3.mono f2.size)
                clear x0 x1 x2
                have x0 := (kB.out _ f3).cell (i := 0) (v := .string us) rfl
                have x1 := (kB.out _ f3).cell (i := 1) (v := .string un) rfl
                have x2 := (kB.out _ f3).cell (i := 2) (v := .string uv) rfl
                go_wp2_with fail
                clear hA s1 s2 n1 n2 n3
                clear x0 x1 x2
                go_loopg [5] kk (fun gg s5 wr => ∃ j : Nat, j ≤ kk ∧ kk - j ≤ gg ∧ s5 = .int .i64 j ∧ Hid (Below W.heap.size W wr) ∧ Hid (∀ i (h : i < l.length), i < j → decide (l[i].space = us ∧ l[i].name = un) = false))
                case atStart => exact ⟨0, Nat.zero_le _, by omega, rfl, Lib.hid f3, Lib.hid (fun i _ hi => by omega)⟩
                case round =>
                  clear f3
                  obtain ⟨j, hj, hgg, rfl, BJ, hJ⟩ := hrel
                  have x0 := (kB.out _ BJ.out).cell (i := 0) (v := .string us) rfl
                  have x1 := (kB.out _ BJ.out).cell (i := 1) (v := .string un) rfl
                  have x2 := (kB.out _ BJ.out).cell (i := 2) (v := .string uv) rfl
                  by_cases hjk : j < kk
                  · have hjz : (j : Int) < (kk : Int) := by omega
                    have hjl : (j : Int) < (l.length : Int) := by omega
                    have hjn : j < l.length := by omega
                    obtain ⟨bb, off', e', r0, r1, r2⟩ := (hl.out.stay (stay_below (BW.out.trans ((bW.trans (BJ.out.mono bW.size)).mono BW.out.size)))).cells hjn (sp := l[j].space) (nm := l[j].name) (va := l[j].value) rfl
                    cases e'
                    have hhit := fun (h : decide (l[j].space = us ∧ l[j].name = un) = true) => Lib.hid (show r = false by
                      rw [hx.out, show ((l.take kk).any fun x => decide (x.space = us ∧ x.name = un)) = true by
                        rw [List.any_eq_true]
                        exact ⟨l[j], List.mem_iff_getElem.2 ⟨j, by rw [List.length_take]; omega, by rw [List.getElem_take]⟩, h⟩]
                      rfl)
                    have hmiss := fun (h : decide (l[j].space = us ∧ l[j].name = un) = false) => Lib.hid (show ∀ i (h : i < l.length), i < j + 1 → decide (l[i].space = us ∧ l[i].name = un) = false from fun i h2 hi => by
                      by_cases e : i = j
                      · subst e; exact h
                      · exact hJ.out i h2 (by omega))
                    rcases two_is l[j].space us with ⟨e1, v1, v2, v3⟩ | ⟨e1, v1, v2, v3⟩
                    · have hm := hmiss (by simp only [decide_eq_true_eq] at e1; simp [e1])
                      clear hhit hmiss hJ e1
                      generalize l[j].space = ws at *
                      generalize l[j].name = wn at *
                      generalize l[j].value = wv at *
                      go_wp2_with fail
                      go_quiet (fail)
                      go_wp2_with fail
                      have BJ2 := Lib.hid (Cells.below_drewN BJ.out nq)
                      go_roundg (kk - (j + 1))
                      case measure => omega
                      case rel => exact ⟨j + 1, by omega, by omega, by go_num, BJ2, hm⟩
                    · have e1' : l[j].space = us := by simpa using e1
                      rcases two_is l[j].name un with ⟨e2, w1, w2, w3⟩ | ⟨e2, w1, w2, w3⟩
                      · have hm := hmiss (by simp only [decide_eq_true_eq] at e2; simp [e2])
                        clear hhit hmiss hJ e1 e1' e2
                        generalize l[j].space = ws at *
                        generalize l[j].name = wn at *
                        generalize l[j].value = wv at *
                        go_wp2_with fail
                        go_quiet (fail)
                        go_wp2_with fail
                        have BJ2 := Lib.hid (Cells.below_drewN BJ.out nq)
                        go_roundg (kk - (j + 1))
                        case measure => omega
                        case rel => exact ⟨j + 1, by omega, by omega, by go_num, BJ2, hm⟩
                      · have e2' : l[j].name = un := by simpa using e2
                        have hm := hhit (by rw [e1', e2']; simp)
                        clear hhit hmiss hJ e1 e1' e2 e2'
                        generalize l[j].space = ws at *
                        generalize l[j].name = wn at *
                        generalize l[j].value = wv at *
                        go_wp2_with fail
                        go_quiet (fail)
                        go_wp2_with fail
                        go_ret
                        exact ⟨ret_of hm.out, BW.out.trans ((bW.trans ((Cells.below_drewN BJ.out nq).mono bW.size)).mono BW.out.size)⟩
                  · have hjz : ¬ (j : Int) < (kk : Int) := by omega
                    have hm := Lib.hid (show r = Sc.attsGo (l.take (kk + 1)) (l.drop (kk + 1)) by
                      rw [hx.out, show ((l.take kk).any fun x => decide (x.space = us ∧ x.name = un)) = false by
                        rw [List.any_eq_false]
                        intro x hx
                        obtain ⟨i, hi, rfl⟩ := List.mem_iff_getElem.1 hx
                        rw [List.length_take] at hi
                        rw [List.getElem_take, hJ.out i (by omega) (by omega)]
                        simp]
                      simp)
                    have BJ3 := Lib.hid (BW.out.trans ((bW.trans (BJ.out.mono bW.size)).mono BW.out.size))
                    clear hJ BJ hjk
                    go_wp2_with fail
                    go_roundg (l.length - (kk + 1))
                    case measure => omega
                    case rel => exact ⟨kk + 1, by omega, by omega, by go_num, BJ3, hm⟩
              · have hr := Lib.hid (show r = false by rw [hA.out]; simp)
                go_wp2_with fail
                (with_reducible refine (c1.out _).mono ?_); rintro e w1 ⟨rfl, b1⟩
                clear x0 x1 x2
                have x0 := (kB.out _ b1).cell (i := 0) (v := .string us) rfl
                have x1 := (kB.out _ b1).cell (i := 1) (v := .string un) rfl
                have x2 := (kB.out _ b1).cell (i := 2) (v := .string uv) rfl
                go_wp2_with fail
                (with_reducible refine (c2.out _).mono ?_); rintro e w2 ⟨rfl, b2⟩
                have f2 := b1.trans (b2.mono b1.size)
                clear x0 x1 x2
                have x0 := (kB.out _ f2).cell (i := 0) (v := .string us) rfl
                have x1 := (kB.out _ f2).cell (i := 1) (v := .string un) rfl
                have x2 := (kB.out _ f2).cell (i := 2) (v := .string uv) rfl
                go_wp2_with fail
                (with_reducible refine (c3.out _).mono ?_); rintro e w3 ⟨rfl, b3⟩
                have f3 := f2.trans (b3.mono f2.size)
                clear x0 x1 x2
                have x0 := (kB.out _ f3).cell (i := 0) (v := .string us) rfl
                have x1 := (kB.out _ f3).cell (i := 1) (v := .string un) rfl
                have x2 := (kB.out _ f3).cell (i := 2) (v := .string uv) rfl
                go_wp2_with fail
                clear hA
                go_wp2_with fail
                go_ret
                exact ⟨ret_of hr.out, BW.out.trans ((bW.trans (f3.mono bW.size)).mono BW.out.size)⟩
            · have hx := Lib.hid (show r = (!((l.take kk).any fun x => decide (x.space = us ∧ x.name = un)) && Sc.attsGo (l.take (kk + 1)) (l.drop (kk + 1))) by rw [hA.out]; simp)
              go_wp2_with fail
              (with_reducible refine (c1.out _).mono ?_); rintro e w1 ⟨rfl, b1⟩
              clear x0 x1 x2
              have x0 := (kB.out _ b1).cell (i := 0) (v := .string us) rfl
              have x1 := (kB.out _ b1).cell (i := 1) (v := .string un) rfl
              have x2 := (kB.out _ b1).cell (i := 2) (v := .string uv) rfl
              go_wp2_with fail
              (with_reducible refine (c2.out _).mono ?_); rintro e w2 ⟨rfl, b2⟩
              have f2 := b1.trans (b2.mono b1.size)
              clear x0 x1 x2
              have x0 := (kB.out _ f2).cell (i := 0) (v := .string us) rfl
              have x1 := (kB.out _ f2).cell (i := 1) (v := .string un) rfl
              have x2 := (kB.out _ f2).cell (i := 2) (v := .string uv) rfl
              go_wp2_with fail
              (with_reducible refine (c3.out _).mono ?_); rintro e w3 ⟨rfl, b3⟩
              have f3 := f2.trans (b3.mono f2.size)
              clear x0 x1 x2
              have x0 := (kB.out _ f3).cell (i := 0) (v := .string us) rfl
              have x1 := (kB.out _ f3).cell (i := 1) (v := .string un) rfl
              have x2 := (kB.out _ f3).cell (i := 2) (v := .string uv) rfl
              go_wp2_with fail
              clear hA s1 s2
              clear x0 x1 x2
              go_loopg [5] kk (fun gg s5 wr => ∃ j : Nat, j ≤ kk ∧ kk - j ≤ gg ∧ s5 = .int .i64 j ∧ Hid (Below W.heap.size W wr) ∧ Hid (∀ i (h : i < l.length), i < j → decide (l[i].space = us ∧ l[i].name = un) = false))
              case atStart => exact ⟨0, Nat.zero_le _, by omega, rfl, Lib.hid f3, Lib.hid (fun i _ hi => by omega)⟩
              case round =>
                clear f3
                obtain ⟨j, hj, hgg, rfl, BJ, hJ⟩ := hrel
                have x0 := (kB.out _ BJ.out).cell (i := 0) (v := .string us) rfl
                have x1 := (kB.out _ BJ.out).cell (i := 1) (v := .string un) rfl
                have x2 := (kB.out _ BJ.out).cell (i := 2) (v := .string uv) rfl
                by_cases hjk : j < kk
                · have hjz : (j : Int) < (kk : Int) := by omega
                  have hjl : (j : Int) < (l.length : Int) := by omega
                  have hjn : j < l.length := by omega
                  obtain ⟨bb, off', e', r0, r1, r2⟩ := (hl.out.stay (stay_below (BW.out.trans ((bW.trans (BJ.out.mono bW.size)).mono BW.out.size)))).cells hjn (sp := l[j].space) (nm := l[j].name) (va := l[j].value) rfl
                  cases e'
                  have hhit := fun (h : decide (l[j].space = us ∧ l[j].name = un) = true) => Lib.hid (show r = false by
                    rw [hx.out, show ((l.take kk).any fun x => decide (x.space = us ∧ x.name = un)) = true by
                      rw [List.any_eq_true]
                      exact ⟨l[j], List.mem_iff_getElem.2 ⟨j, by rw [List.length_take]; omega, by rw [List.getElem_take]⟩, h⟩]
                    rfl)
                  have hmiss := fun (h : decide (l[j].space = us ∧ l[j].name = un) = false) => Lib.hid (show ∀ i (h : i < l.length), i < j + 1 → decide (l[i].space = us ∧ l[i].name = un) = false from fun i h2 hi => by
                    by_cases e : i = j
                    · subst e; exact h
                    · exact hJ.out i h2 (by omega))
                  rcases two_is l[j].space us with ⟨e1, v1, v2, v3⟩ | ⟨e1, v1, v2, v3⟩
                  · have hm := hmiss (by simp only [decide_eq_true_eq] at e1; simp [e1])
                    clear hhit hmiss hJ e1
                    generalize l[j].space = ws at *
                    generalize l[j].name = wn at *
                    generalize l[j].value = wv at *
                    go_wp2_with fail
                    go_quiet (fail)
                    go_wp2_with fail
                    have BJ2 := Lib.hid (Cells.below_drewN BJ.out nq)
                    go_roundg (kk - (j + 1))
                    case measure => omega
                    case rel => exact ⟨j + 1, by omega, by omega, by go_num, BJ2, hm⟩
                  · have e1' : l[j].space = us := by simpa using e1
                    rcases two_is l[j].name un with ⟨e2, w1, w2, w3⟩ | ⟨e2, w1, w2, w3⟩
                    · have hm := hmiss (by simp only [decide_eq_true_eq] at e2; simp [e2])
                      clear hhit hmiss hJ e1 e1' e2
                      generalize l[j].space = ws at *
                      generalize l[j].name = wn at *
                      generalize l[j].value = wv at *
                      go_wp2_with fail
                      go_quiet (fail)
                      go_wp2_with fail
                      have BJ2 := Lib.hid (Cells.below_drewN BJ.out nq)
                      go_roundg (kk - (j + 1))
                      case measure => omega
                      case rel => exact ⟨j + 1, by omega, by omega, by go_num, BJ2, hm⟩
                    · have e2' : l[j].name = un := by simpa using e2
                      have hm := hhit (by rw [e1', e2']; simp)
                      clear hhit hmiss hJ e1 e1' e2 e2'
                      generalize l[j].space = ws at *
                      generalize l[j].name = wn at *
                      generalize l[j].value = wv at *
                      go_wp2_with fail
                      go_quiet (fail)
                      go_wp2_with fail
                      go_ret
                      exact ⟨ret_of hm.out, BW.out.trans ((bW.trans ((Cells.below_drewN BJ.out nq).mono bW.size)).mono BW.out.size)⟩
                · have hjz : ¬ (j : Int) < (kk : Int) := by omega
                  have hm := Lib.hid (show r = Sc.attsGo (l.take (kk + 1)) (l.drop (kk + 1)) by
                    rw [hx.out, show ((l.take kk).any fun x => decide (x.space = us ∧ x.name = un)) = false by
                      rw [List.any_eq_false]
                      intro x hx
                      obtain ⟨i, hi, rfl⟩ := List.mem_iff_getElem.1 hx
                      rw [List.length_take] at hi
                      rw [List.getElem_take, hJ.out i (by omega) (by omega)]
                      simp]
                    simp)
                  have BJ3 := Lib.hid (BW.out.trans ((bW.trans (BJ.out.mono bW.size)).mono BW.out.size))
                  clear hJ BJ hjk
                  go_wp2_with fail
                  go_roundg (l.length - (kk + 1))
                  case measure => omega
                  case rel => exact ⟨kk + 1, by omega, by omega, by go_num, BJ3, hm⟩
    · have hltz : ¬ (kk : Int) < (l.length : Int) := by omega
      have hx := Lib.hid (show r = true by rw [A.out, List.drop_eq_nil_of_le (by omega)]; rfl)
      clear hlt A
      go_wp2_with fail
      go_ret
      exact ⟨ret_of hx.out, BW.out⟩
end Go.Proofs.YtegaidfmkfnbnaaGreatDoor
