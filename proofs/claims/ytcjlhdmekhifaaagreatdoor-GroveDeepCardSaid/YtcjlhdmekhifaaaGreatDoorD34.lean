/-
  strings.EqualFold of a text and an ASCII word, the walk.
-/
import Derived.Test.YtcjlhdmekhifaaaGreatDoorD33
import Derived.Deep.LoopGhost
import Derived.Lib.Walk
import Derived.ScopeJumps
import Derived.WalkMore
namespace Go.Proofs.YtcjlhdmekhifaaaGreatDoor
open Go.RowKit

/-- A jump forward, once: what stands behind the label is walked from where the jump was. -/
theorem wp_scope_forward {P : Program} {a : Act} {w : World} {Q : Exit → Act → World → Prop} {c rest : Code} (l : Nat) (hf : findLabel c l = some rest)
    (first : c.wp P (Exit.jump l (fun a w => rest.wp P (Exit.jump l (fun _ _ => False) Q) a w) Q) a w) : (Code.scope c).wp P Q a w := by
  refine wp_scope_jumps l (fun a w => rest.wp P (Exit.jump l (fun _ _ => False) Q) a w) (fun _ _ => 0) hf first (fun a w h => Code.wp_mono ?_ h)
  intro e a' w' he
  cases e with
  | goto l' => exact absurd he.2 (fun h => h)
  | normal => exact he
  | exit id => exact he
  | ret => exact he
  | panic ch => exact he
  | outgrown => exact he

theorem drop_zero_cons (s : ByteArray) (h : 0 < s.size) : s.data.toList = s[0] :: s.data.toList.drop 1 := by
  have := drop_cons s 0 h
  simpa using this

/-- A word of ASCII letters whose other cases are ASCII letters. -/
def Tame (t : ByteArray) : Prop := ∀ (j : Nat) b, t.data.toList[j]? = some b → b.toNat < 128 ∧ other b.toNat < 128 ∧ other (other b.toNat) = b.toNat

set_option maxHeartbeats 8000000 in
set_option maxRecDepth 1000000 in
theorem fold_any (s t : ByteArray) (w : World) (hs : s.size ≤ 1000000) (hT : Tame t) (hE : Env w) :
    Calls Tryz.prog 69 #[.string s, .string t] w fun e w' => e = .returned (.bool (Lib.equalFold s.data.toList t.data.toList)) ∧ Below w.heap.size w w' := by
  replace hT := Lib.hid hT
  replace hE := Lib.hid hE
  obtain ⟨M, hM⟩ : ∃ M : Nat, min (s.size : Int) (t.size : Int) = (M : Int) := ⟨min s.size t.size, by omega⟩
  have hMs : M ≤ s.size := by omega
  have hMt : M ≤ t.size := by omega
  have hMe : M = s.size ∨ M = t.size := by omega
  go_enter Tryz.func69, Tryz.ntmps69
  go_wp2
  refine wp_scope_forward 0 rfl ?_
  go_wp2
  go_loopw [5] (fun v wr => w = wr ∧ ∃ i : Nat, i ≤ M ∧ v = .int .i64 (i : Int) ∧ Hid (Lib.equalFold (s.data.toList.drop i) (t.data.toList.drop i) = Lib.equalFold s.data.toList t.data.toList)) (fun v _ => M - (intOf v).toNat)
  case atStart => exact ⟨rfl, 0, Nat.zero_le _, rfl, Lib.hid rfl⟩
  case round =>
    obtain ⟨rfl, i, hi, rfl, hI⟩ := hrel
    by_cases hlt : i < M
    · have hiM : (i : Int) < (M : Int) := by omega
      have hisz : (i : Int) < (s.size : Int) := by omega
      have hitz : (i : Int) < (t.size : Int) := by omega
      obtain ⟨x, hx⟩ : ∃ x : UInt8, s[i]'(by omega) = x := ⟨_, rfl⟩
      obtain ⟨y, hy⟩ : ∃ y : UInt8, t[i]'(by omega) = y := ⟨_, rfl⟩
      have hxl : s.data.toList.drop i = x :: s.data.toList.drop (i + 1) := by rw [drop_cons s i (by omega), hx]
      have hyl : t.data.toList.drop i = y :: t.data.toList.drop (i + 1) := by rw [drop_cons t i (by omega), hy]
      obtain ⟨y1, y2, y3⟩ := hT.out i y (by rw [← hy]; exact Lib.data_getElem? t i (by omega))
      by_cases hxa : x.toNat < 128
      · have hor : bits .or .u8 (x.toNat : Int) (y.toNat : Int) = ((x.toNat ||| y.toNat : Nat) : Int) := u8_or_nat _ _ x.toNat_lt y.toNat_lt
        have hor128 : ¬ ((128 : Int) ≤ ((x.toNat ||| y.toNat : Nat) : Int)) := by have := Nat.or_lt_two_pow (n := 7) hxa y1; omega
        replace hxl := Lib.hid hxl
        replace hyl := Lib.hid hyl
        have hT2 := hT
        clear y2 y3 hT
        go_wp2
        all_goals (try simp only [beq_iff_eq, beq_eq_false_iff_ne, ne_eq] at *)
        all_goals first
          | (refine ⟨⟨trivial, i + 1, by omega, by first | rfl | go_num, Lib.hid (by rw [← hI.out, hxl.out, hyl.out, Lib.equalFold_yes _ _ _ _ (decide_eq_true (by omega))])⟩, ?_⟩
             simp [intOf]
             omega)
          | (change bodyPost Tryz.prog Tryz.f69 (fun e w' => e = .returned (.bool (Lib.equalFold s.data.toList t.data.toList)) ∧ Below w.heap.size w w') .ret _ _
             go_ret
             refine ⟨?_, Below.refl _ _⟩
             rw [← hI.out, hxl.out, hyl.out, Lib.equalFold_no _ _ _ _ (decide_eq_false (by omega))]
             rfl)
      · have hor : bits .or .u8 (x.toNat : Int) (y.toNat : Int) = ((x.toNat ||| y.toNat : Nat) : Int) := u8_or_nat _ _ x.toNat_lt y.toNat_lt
        have hor128 : (128 : Int) ≤ ((x.toNat ||| y.toNat : Nat) : Int) := by
          have := (Nat.left_le_or : x.toNat ≤ x.toNat ||| y.toNat); omega
        have hno := Lib.hid (show Lib.equalFold s.data.toList t.data.toList = false by rw [← hI.out, hxl, hyl, Lib.equalFold_no _ _ _ _ (decide_eq_false (by omega))])
        have hu0 : 0 < (s.extract i s.size).size := by simp; omega
        have ht0 : 0 < (t.extract i t.size).size := by simp; omega
        have hub : ((s.extract i s.size)[0]'hu0).toNat = x.toNat := by
          have := drop_list s i
          rw [hxl, drop_zero_cons _ hu0] at this
          injection this with h1 _
          rw [h1]
        have htb : ((t.extract i t.size)[0]'ht0).toNat = y.toNat := by
          have := drop_list t i
          rw [hyl, drop_zero_cons _ ht0] at this
          injection this with h1 _
          rw [h1]
        replace hxl := Lib.hid hxl
        replace hyl := Lib.hid hyl
        go_wp2
        refine wp_goto ?_
        refine ⟨rfl, ?_⟩
        go_wp2
        generalize s.extract i s.size = u at *
        generalize t.extract i t.size = v at *
        have hr128 := decode_big u hu0 (by omega)
        have hnx : ∀ ty, (Instr.next (.pointer (some ⟨w.heap.size, 0, none⟩)) true ty).run Tryz.prog (w.iter u 0) = _ := fun ty => Lib.run_next_any_at _ w.heap.size u 0 ty (World.iter_heap w u 0) hu0
        generalize Utf8.decode u 0 = d at *
        obtain ⟨r, n⟩ := d
        have hr : (128 : Int) ≤ (r : Int) := by dsimp only at hr128; omega
        have hvs : (v.size : Int) ≠ 0 := by omega
        have hv1 : (1 : Int) ≤ (v.size : Int) := by omega
        obtain ⟨c, hc⟩ : ∃ c : Nat, y.toNat = c := ⟨_, rfl⟩
        rw [hc] at htb y1 y2 y3
        have n1 : ¬ ((c : Int) = (r : Int)) := by omega
        have n2 : (c : Int) < (r : Int) := by omega
        have n3 : ¬ ((r : Int) < 128) := by omega
        have cd := fun w => decode_ascii v c w ht0 htb y1
        have bI : Below w.heap.size w (w.iter u 0) := (Below.refl _ _).alloc (Nat.le_refl _) _
        have bJ := Lib.below_iterAt bI (k := w.heap.size) (Nat.le_refl _) u (0 + n)
        dsimp only at hnx
        clear hor hor128 hiM hi hxl hyl hI hub hr128 hMs hMt hMe hM
        refine wp_loop_rounds 1 ?_
        rw [rounds_succ]
        go_wp2_with fail
        (with_reducible refine (cd _).mono ?_); rintro e w1 ⟨rfl, rfl⟩
        rw [Nat.zero_add] at bJ
        have hEj := hE.out.on bJ
        have cf := fun w hE => simpleFold_ascii c w y1 hE
        have cg := fun w hE => simpleFold_ascii (other c) w y2 hE
        rw [y3] at cg
        have n4 : ¬ ((other c : Int) = (r : Int)) := by omega
        have n5 : (other c : Int) < (r : Int) := by omega
        have n6 : ((c : Int) != (c : Int)) = false := by simp
        generalize other c = o at *
        clear y1 y2 y3 hE hT hc htb
        go_wp2_with fail
        (with_reducible refine (cf _ hEj).mono ?_); rintro e w1 ⟨rfl, rfl⟩
        by_cases hoc : o = c
        · subst hoc
          go_wp2_with fail
          refine wp_loop_rounds 1 ?_
          rw [rounds_succ]
          go_wp2
          change bodyPost Tryz.prog Tryz.f69 (fun e w' => e = .returned (.bool (Lib.equalFold s.data.toList t.data.toList)) ∧ Below w.heap.size w w') .ret _ _
          go_ret
          exact ⟨ret_bool hno.out.symm, bJ⟩
        · have n7 : ¬ ((o : Int) = (c : Int)) := by omega
          go_wp2_with fail
          refine wp_loop_rounds 2 ?_
          rw [rounds_succ]
          go_wp2_with fail
          (with_reducible refine (cg _ hEj).mono ?_); rintro e w1 ⟨rfl, rfl⟩
          go_wp2_with fail
          rw [rounds_succ]
          go_wp2
          change bodyPost Tryz.prog Tryz.f69 (fun e w' => e = .returned (.bool (Lib.equalFold s.data.toList t.data.toList)) ∧ Below w.heap.size w w') .ret _ _
          go_ret
          exact ⟨ret_bool hno.out.symm, bJ⟩
    · have hiM : ¬ ((i : Int) < (M : Int)) := by omega
      obtain rfl : i = M := by omega
      have hE2 : Lib.equalFold s.data.toList t.data.toList = decide (s.size = t.size) := by
        rw [← hI.out, Lib.equalFold_end _ _ (by
          rcases hMe with h | h
          · exact .inl (List.drop_eq_nil_of_le (by rw [list_len]; omega))
          · exact .inr (List.drop_eq_nil_of_le (by rw [list_len]; omega))), List.length_drop, List.length_drop, list_len, list_len]
        exact decide_eq_decide.2 (by omega)
      by_cases hst : s.size = t.size
      · have hb : ((s.size : Int) == (t.size : Int)) = true := beq_iff_eq.2 (by omega)
        have hr := Lib.hid (hE2.trans (decide_eq_true hst))
        clear hE2 hI
        go_wp2
        change bodyPost Tryz.prog Tryz.f69 (fun e w' => e = .returned (.bool (Lib.equalFold s.data.toList t.data.toList)) ∧ Below w.heap.size w w') .ret _ _
        go_ret
        exact ⟨ret_bool hr.out.symm, Below.refl _ _⟩
      · have hb : ((s.size : Int) == (t.size : Int)) = false := beq_eq_false_iff_ne.2 (by omega)
        have hr := Lib.hid (hE2.trans (decide_eq_false hst))
        clear hE2 hI
        go_wp2
        change bodyPost Tryz.prog Tryz.f69 (fun e w' => e = .returned (.bool (Lib.equalFold s.data.toList t.data.toList)) ∧ Below w.heap.size w w') .ret _ _
        go_ret
        exact ⟨ret_bool hr.out.symm, Below.refl _ _⟩

theorem tame_of {t : ByteArray} (h : t.data.toList.all (fun b => decide (b.toNat < 128 ∧ other b.toNat < 128 ∧ other (other b.toNat) = b.toNat)) = true) : Tame t :=
  fun _ b hb => of_decide_eq_true (List.all_eq_true.1 h b (List.mem_of_getElem? hb))
end Go.Proofs.YtcjlhdmekhifaaaGreatDoor
