/-
  What the program's own Declare comes to.
-/
import Derived.Test.YtcjlhdmekhifaaaGreatDoorD18
import Derived.Deep.DeepCutAuto
import Derived.Deep.RegionHeld3
import Derived.Deep.QuietTactic
namespace Go.Proofs.YtcjlhdmekhifaaaGreatDoor
open Go.RowKit

namespace P
theorem decl_dc {l sc re t : List Pair} {a : Pair} {p n : ByteArray} (hs : split a.name = some (p, n)) (hb : dcB a.name = false) (h : declare l = declGo sc re (a :: t)) : declare l = declGo sc (re ++ [a]) t := by
  refine decl_rest h hs ?_
  obtain ⟨_, e2, _⟩ := dc_some hs
  rw [e2, Bool.or_eq_false_iff, decide_eq_false_iff_not, decide_eq_false_iff_not] at hb
  refine ⟨hb.1, ?_⟩
  by_cases hp : p = ByteArray.empty
  · right
    intro hn
    rcases (split_of hs).2 with ⟨_, e⟩ | ⟨_, e⟩
    · exact hb.2 (e.trans hn)
    · subst hp hn
      rcases (split_of hs) with ⟨q, hq⟩
      rcases hq with ⟨_, e⟩ | ⟨q1, _⟩
      · exact hb.2 e
      · exact absurd q1 (by decide +kernel)
  · exact .inl hp
theorem key_dc {a : Pair} {p n : ByteArray} (hs : split a.name = some (p, n)) (hb : dcB a.name = true) : ¬ (p ≠ xmlns ∧ (p ≠ ByteArray.empty ∨ n ≠ xmlns)) ∧ key p n = dcA a.name := by
  obtain ⟨e1, e2, _⟩ := dc_some hs
  rw [e2, Bool.or_eq_true, decide_eq_true_eq, decide_eq_true_eq] at hb
  by_cases hp : p = xmlns
  · refine ⟨fun c => c.1 hp, ?_⟩
    rw [e1, if_pos hp]
    unfold key
    rw [if_neg (by rw [hp]; decide)]
  · have ha := hb.resolve_left hp
    have hx : split xmlns = some (ByteArray.empty, xmlns) := split_plain (by decide +kernel)
    rw [ha, hx] at hs
    simp only [Option.some.injEq, Prod.mk.injEq] at hs
    obtain ⟨rfl, rfl⟩ := hs
    refine ⟨fun c => c.2.elim (fun d => d rfl) (fun d => d rfl), ?_⟩
    rw [e1, if_neg hp]
    unfold key
    rw [if_pos rfl]
theorem decl_dcbad {l sc re t : List Pair} {a : Pair} {p n : ByteArray} (hs : split a.name = some (p, n)) (hb : dcB a.name = true) (h : declare l = declGo sc re (a :: t)) (hm : bound (dcA a.name) a.value = false) : declare l = none :=
  decl_bad h hs (key_dc hs hb).1 (by rw [(key_dc hs hb).2]; exact hm)
theorem decl_dcscope {l sc re t : List Pair} {a : Pair} {p n : ByteArray} (hs : split a.name = some (p, n)) (hb : dcB a.name = true) (h : declare l = declGo sc re (a :: t)) (hm : bound (dcA a.name) a.value = true) : declare l = declGo (sc ++ [⟨dcA a.name, a.value⟩]) re t := by
  have := decl_scope h hs (key_dc hs hb).1 (by rw [(key_dc hs hb).2]; exact hm)
  rw [(key_dc hs hb).2] at this
  exact this
end P

theorem pairs_box {b : Nat} {x y : ByteArray} {w : World} (h : w.heap[b]? = some (.cells #[.string x, .string y] 86 (0, 0))) : w.cell? ⟨b, 0, none⟩ = some (.string x) ∧ w.cell? ⟨b, 1, none⟩ = some (.string y) := by
  constructor <;> simp [World.cell?, h]

set_option maxRecDepth 100000 in
set_option maxHeartbeats 6400000 in
theorem pDeclare_own {ao : Option Addr} {cap n : Nat} (l : List Pair) (w : World) (hl : PairsIn w ao l) (hn : l.length = n) (hnl : n ≤ 1000) (hz : ∀ a ∈ l, a.name.size ≤ 1000000) (hE : Env w) :
    Calls Tryz.prog 77 #[.slice ao n cap] w fun e w' => ∃ v1 v2, e = .returned (.tuple #[v1, v2, .int .i64 (P.deE l)]) ∧ OwnsPairs w.heap.size v1 (P.deA l) w' ∧ OwnsPairs w.heap.size v2 (P.deB l) w' ∧ Below w.heap.size w w' := by
  obtain ⟨i0, hi, hz0, hz1, hz2⟩ := info_parts infoPair
  have hn := Lib.hid hn
  go_enter Tryz.func77, Tryz.ntmps77
  go_wp2_with fail
  go_loopw [2, 3, 4, 6, 7, 8, 9, 12] (fun v2 v3 _ _ _ _ _ i wr => ∃ (k : Nat) (sc re : List Pair), k ≤ n ∧ i = .int .i64 (k : Int) ∧ OwnsPairs w.heap.size v2 sc wr ∧ OwnsPairs w.heap.size v3 re wr ∧ Apart v2 v3 ∧ Hid (P.declare l = P.declGo sc re (l.drop k)) ∧ sc.length + re.length ≤ k ∧ Below w.heap.size w wr) (fun _ _ _ _ _ _ _ i _ => n - (intOf i).toNat)
  case atStart => exact ⟨0, [], [], Nat.zero_le _, rfl, pairs_nil _ _, pairs_nil _ _, .inl rfl, Lib.hid rfl, by simp, Below.refl _ _⟩
  case round =>
    obtain ⟨k, sc, re, hk, rfl, o5, o6, hap, hD, hlen, bw⟩ := hrel
    by_cases hlt : k < n
    · obtain ⟨b, off, rfl, c0, c1⟩ := (hl.below bw) k (by rw [hn.out]; exact hlt)
      have hkl : k < l.length := by rw [hn.out]; exact hlt
      have hD1 := hD.out
      rw [List.drop_eq_getElem_cons hkl] at hD1
      have hza := hz l[k] (List.getElem_mem hkl)
      generalize l[k] = a at *
      obtain ⟨an, av⟩ := a
      dsimp only at *
      have bx := heap_alloc_new wr (.cells #[.string an, .string av] 86)
      have t0 := bw.alloc bw.size (.cells #[.string an, .string av] 86)
      have p5 := pairs_alloc o5 (.cells #[.string an, .string av] 86)
      have p6 := pairs_alloc o6 (.cells #[.string an, .string av] 86)
      go_wp2_with fail
      (with_reducible refine (declared_any an _ (by omega) (hE.on t0)).mono ?_); rintro e w1 ⟨rfl, b1⟩
      have t1 := t0.trans (b1.mono t0.size)
      replace p5 := pairs_below p5 b1
      replace p6 := pairs_below p6 b1
      have bx1 : w1.heap[wr.heap.size]? = some (.cells #[.string an, .string av] 86 (0, 0)) := (b1.block _ (by simp)).trans bx
      obtain ⟨x0, x1⟩ := pairs_box bx1
      clear bx c0 c1
      cases hsp : P.split an with
      | none =>
        obtain ⟨e1, e2, e3⟩ := P.dc_none hsp
        obtain ⟨r1, r2, r3⟩ := P.de_none (P.decl_no hD1 hsp)
        rw [e1, e2, e3]
        clear e1 e2 e3 hD1 hD hl hz hsp
        replace r1 := Lib.hid r1
        replace r2 := Lib.hid r2
        replace r3 := Lib.hid r3
        go_wp2
        go_ret3
        exact ⟨_, _, by rw [r3.out]; rfl, by rw [r1.out]; exact pairs_nil _ _, by rw [r2.out]; exact pairs_nil _ _, t1⟩
      | some x =>
        obtain ⟨p, m⟩ := x
        have e3 := (P.dc_some hsp).2.2
        rw [e3]
        clear e3
        cases hB : P.dcB an
        · have hr := Lib.hid (P.decl_dc hsp hB hD1)
          generalize P.dcA an = d at *
          clear hD1 hD hsp hl hz hB
          go_wp2_with (at_builtin; refine wpList_append_own_at _ rfl _ _ 39 rfl w.heap.size 86 i0 _ 2 32 Tryz.underlying39 hi hz0 hz1 hz2 rfl (by decide) _ _ _ rfl (pairs_alloc p6 _) ⟨w1.heap.size, 0, none⟩ 1 1 [.string an, .string av] rfl rfl (cells_two _ _ _ _) (fun u hu => by simp at hu; rcases hu with rfl | rfl <;> rfl) (by unfold maxLen; omega) (by omega) (by have := t1.size; simp; omega) ?_)
          intro v6 w2 hown2 hg2 _ hat
          have hga : w1.grownBy w2 u3.ownBlock := (World.grownBy_alloc w1 _ _).trans hg2
          have b2 : Below w.heap.size w1 w2 := (Below.refl _ _).grown hga t1.size (fun j e => (World.ownsRow.lt p6 j e).1)
          obtain ⟨q5, ap2⟩ := beside p5 hap.symm hga hat (by simp)
          have q6 : OwnsPairs w.heap.size v6 (re ++ [⟨an, av⟩]) w2 := by unfold OwnsPairs; simpa [pairCells] using hown2
          clear hown2 hat hg2 hga p5 p6 o5 o6
          go_wp2_with fail
          go_roundw
          case rel => exact ⟨k + 1, sc, re ++ [⟨an, av⟩], by omega, by go_num, q5, q6, ap2.symm, hr, by simp; omega, t1.trans b2⟩
          case measure => simp [intOf] <;> omega
        · have hbad := fun hm => Lib.hid (P.decl_dcbad hsp hB hD1 hm)
          have hsco := fun hm => Lib.hid (P.decl_dcscope hsp hB hD1 hm)
          dsimp only at hbad hsco
          generalize P.dcA an = d at *
          clear hD1 hD hsp hl hz hB
          go_wp2_with fail
          (with_reducible refine (mayBind_any d av _).mono ?_); rintro e w2 ⟨rfl, b2⟩
          replace p5 := pairs_below p5 b2
          replace p6 := pairs_below p6 b2
          replace t1 := t1.trans (b2.mono t1.size)
          have bx2 : w2.heap[wr.heap.size]? = some (.cells #[.string an, .string av] 86 (0, 0)) := (b2.block _ (Array.getElem?_eq_some_iff.1 bx1).1).trans bx1
          clear x0 x1
          obtain ⟨x0, x1⟩ := pairs_box bx2
          cases hm : P.bound d av
          · obtain ⟨r1, r2, r3⟩ := P.de_none (hbad hm).out
            clear hbad hsco hm
            replace r1 := Lib.hid r1
            replace r2 := Lib.hid r2
            replace r3 := Lib.hid r3
            go_wp2
            go_ret3
            exact ⟨_, _, by rw [r3.out]; rfl, by rw [r1.out]; exact pairs_nil _ _, by rw [r2.out]; exact pairs_nil _ _, t1⟩
          · have hr := hsco hm
            clear hbad hsco hm
            go_wp2_with (at_builtin; refine wpList_append_own_at _ rfl _ _ 39 rfl w.heap.size 86 i0 _ 2 32 Tryz.underlying39 hi hz0 hz1 hz2 rfl (by decide) _ _ _ rfl (pairs_alloc p5 _) ⟨w2.heap.size, 0, none⟩ 1 1 [.string d, .string av] rfl rfl (cells_two _ _ _ _) (fun u hu => by simp at hu; rcases hu with rfl | rfl <;> rfl) (by unfold maxLen; omega) (by omega) (by have := t1.size; simp; omega) ?_)
            intro v5 w3 hown2 hg2 _ hat
            have hga : w2.grownBy w3 u2.ownBlock := (World.grownBy_alloc w2 _ _).trans hg2
            have b3 : Below w.heap.size w2 w3 := (Below.refl _ _).grown hga t1.size (fun j e => (World.ownsRow.lt p5 j e).1)
            obtain ⟨q6, ap2⟩ := beside p6 hap hga hat (by simp)
            have q5 : OwnsPairs w.heap.size v5 (sc ++ [⟨d, av⟩]) w3 := by unfold OwnsPairs; simpa [pairCells] using hown2
            clear hown2 hat hg2 hga p5 p6 o5 o6
            go_wp2_with fail
            go_roundw
            case rel => exact ⟨k + 1, sc ++ [⟨d, av⟩], re, by omega, by go_num, q5, q6, ap2, hr, by simp; omega, t1.trans b3⟩
            case measure => simp [intOf] <;> omega
    · have hnil : l.drop k = [] := List.drop_of_length_le (by rw [hn.out]; omega)
      have hD1 := hD.out
      rw [hnil] at hD1
      obtain ⟨r1, r2, r3⟩ := P.de_some (a := sc) (b := re) (hD1.trans rfl)
      clear hD1 hD hl hz hnil
      replace r1 := Lib.hid r1
      replace r2 := Lib.hid r2
      replace r3 := Lib.hid r3
      go_wp2
      go_ret3
      exact ⟨_, _, by rw [r3.out]; rfl, by rw [r1.out]; exact o5, by rw [r2.out]; exact o6, bw⟩

end Go.Proofs.YtcjlhdmekhifaaaGreatDoor
