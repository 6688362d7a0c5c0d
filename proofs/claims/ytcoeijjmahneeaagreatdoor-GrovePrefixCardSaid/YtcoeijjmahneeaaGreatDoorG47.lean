/-
  What the program's Tokens comes to.
-/
import Derived.Test.YtcoeijjmahneeaaGreatDoorG46
namespace Go.Proofs.YtcoeijjmahneeaaGreatDoor
open Go.RowKit

namespace T
theorem next_true {l : List UInt8} (h : declares l = true) : next true l = decl (l.drop 5) := by
  unfold next; rw [if_pos (by rw [h]; rfl)]
/-- What is told so far, and what is left. -/
def Goes (first : Bool) (l : List UInt8) (a : List Tok) (r : List UInt8) : Prop := run first l = match run false r with | .error e => .error e | .ok ts => .ok (a ++ ts)
theorem goes_start {l : List UInt8} (h : declares l = false) : Goes true l [] l := by
  unfold Goes; rw [run_first h]; cases run false l <;> rfl
theorem goes_declared {l r : List UInt8} {k : Tok} (h : declares l = true) (hd : decl (l.drop 5) = .ok (k, r)) : Goes true l [k] r := by
  have hl : l ≠ [] := by rintro rfl; cases h
  unfold Goes
  rw [run_step hl, next_true h, hd]
  rfl
theorem goes_bad {l : List UInt8} {e : Nat} (h : declares l = true) (hd : decl (l.drop 5) = .error e) : run true l = .error e := by
  have hl : l ≠ [] := by rintro rfl; cases h
  rw [run_step hl, next_true h, hd]
theorem goes_end {first : Bool} {l : List UInt8} {a : List Tok} (h : Goes first l a []) : run first l = .ok a := by
  unfold Goes at h; rw [h, run_nil]; simp
theorem goes_err {first : Bool} {l r : List UInt8} {a : List Tok} {e : Nat} (h : Goes first l a r) (hr : r ≠ []) (hn : next false r = .error e) : run first l = .error e := by
  unfold Goes at h; rw [h, run_step hr, hn]
theorem goes_step {first : Bool} {l r r2 : List UInt8} {a : List Tok} {k : Tok} (h : Goes first l a r) (hr : r ≠ []) (hn : next false r = .ok (k, r2)) : Goes first l (a ++ [k]) r2 := by
  unfold Goes at *
  rw [h, run_step hr, hn]
  simp only
  cases run false r2 with
  | error e => rfl
  | ok ts => simp
end T

theorem cells_five (w : World) (x0 x1 x2 x3 x4 : Value) (t : TypeId) : ∀ j u, [x0, x1, x2, x3, x4][j]? = some u → (w.alloc (.cells #[x0, x1, x2, x3, x4] t)).cell? ((⟨w.heap.size, 0, none⟩ : Addr).add j) = some u := by
  intro j u hj
  have hb : (w.alloc (.cells #[x0, x1, x2, x3, x4] t)).heap[w.heap.size]? = some (.cells #[x0, x1, x2, x3, x4] t (0, 0)) := heap_alloc_new w _
  rw [add_at]
  simp only [World.cell?, hb]
  simpa using hj

theorem some_ne {a : Option Nat} {k : Nat} (h : a = none ∨ a ≠ some k) : some k ≠ a := by
  rintro rfl
  rcases h with h | h
  · cases h
  · exact h rfl
/-- An operation without a guard. -/
theorem wpOp_is {P : Program} {ops : Array Oper} {Q : Exit → Act → World → Prop} {i : Nat} {o : Oper} {K : Act → World → Prop} {a : Act} {w : World} (hi : ops[i]? = some o) (hg : o.guard = none) (h : o.wp P a w K Q) : wpOp P ops Q i K a w := by
  unfold wpOp
  rw [hi]
  have : Region.wanted o (yielded ops a.tmps) = true := by simp [Region.wanted, hg]
  simp only [this, if_true]
  exact .inl h

theorem told_none {g : Except Nat (List T.Tok)} {w w' : World} {e : Nat} (h : g = .error e) (hb : Below w.heap.size w w') : RunTold g w (.returned (.tuple #[.slice none 0 0, .int .i64 (e : Int)])) w' := by
  subst h
  exact ⟨none, 0, [], rfl, rfl, fun j hj => by simp at hj, fun _ => rfl, hb⟩

set_option maxRecDepth 100000 in
set_option maxHeartbeats 12800000 in
theorem tokens_go (s : ByteArray) (w : World) (hs : s.size ≤ 1000000) (hE : Env w) :
    Calls Tryz.prog 20 #[.string s] w (RunTold (T.run true s.data.toList) w) := by
  have hmf : ∀ (fn : Fn) (first cap : Array Value) (w : World), (Instr.makeFunc fn first cap).run Tryz.prog w = .ok (.func fn first cap) w := fun _ _ _ _ => rfl
  have hR0 : Rt w s [] (.slice none 0 0) (((w.alloc (.cells #[.slice none 0 0] 36)).alloc (.cells #[.int .i64 0] 27)).alloc (.cells #[.string s] 68)) := by
    have e1 : (w.alloc (.cells #[.slice none 0 0] 36)).heap.size = w.heap.size + 1 := by simp
    have e2 : ((w.alloc (.cells #[.slice none 0 0] 36)).alloc (.cells #[.int .i64 0] 27)).heap.size = w.heap.size + 2 := by simp
    have k0 := heap_alloc_new w (.cells #[.slice none 0 0] 36)
    have k1 := heap_alloc_new (w.alloc (.cells #[.slice none 0 0] 36)) (.cells #[.int .i64 0] 27)
    have k2 := heap_alloc_new ((w.alloc (.cells #[.slice none 0 0] 36)).alloc (.cells #[.int .i64 0] 27)) (.cells #[.string s] 68)
    rw [e1] at k1
    rw [e2] at k2
    have g1 := World.grownBy_alloc (w.alloc (.cells #[.slice none 0 0] 36)) (.cells #[.int .i64 0] 27) none
    have g2 := World.grownBy_alloc ((w.alloc (.cells #[.slice none 0 0] 36)).alloc (.cells #[.int .i64 0] 27)) (.cells #[.string s] 68) none
    exact ⟨k2, hs, hE, ((g1.trans g2).block _ (by rw [e1]; omega) (by simp)).trans k0, (g2.block _ (by rw [e2]; omega) (by simp)).trans k1, World.ownsRow_nil _ _ _ _, fun x hx => (by cases hx), (((Below.refl _ _).alloc (Nat.le_refl _) _).alloc (by simp) _).alloc (by simp; omega) _⟩
  cases hd : T.declares s.data.toList with
  | true =>
    have c1 := fun w' (h : At (w.heap.size + 2) s w') => isAt_any (w.heap.size + 2) s w' h true hd
    have c2 := fun w' (h : At (w.heap.size + 2) s w') => declaration_any (w.heap.size + 2) s w' h hd
    have bT := hR0.cT
    have hW0 : Hid (Rt w s [] (.slice none 0 0) (((w.alloc (.cells #[.slice none 0 0] 36)).alloc (.cells #[.int .i64 0] 27)).alloc (.cells #[.string s] 68))) := Lib.hid hR0
    cases hn : T.decl (s.data.toList.drop 5) with
    | error q =>
      have hr := Lib.hid (T.goes_bad hd hn)
      rw [hn] at c2
      clear hn hd
      go_enter_defers Tryz.func20, Tryz.ntmps20
      go_wp2_with fail
      (with_reducible refine (c1 _ hR0.rd).mono ?_); rintro e w1 ⟨rfl, rfl⟩
      go_wp2_with fail
      generalize hW : (((w.alloc (.cells #[.slice none 0 0] 36)).alloc (.cells #[.int .i64 0] 27)).alloc (.cells #[.string s] 68)) = wr at *
      clear hW
      have hR := hW0
      have hRd : Hid (Rt w s [] (.slice none 0 0) wr.drew) := Lib.hid (hR.out.grow (Below.refl _ _).drew)
      clear hR0 hW0
      apply wp_region_any mixedTok
      refine wpAny_all (rs := [0, 1]) (by kernel_rfl) (by simp) ?_
      intro i hi
      simp at hi
      rcases hi with rfl | rfl
      · simp [wpOp, go_sem, bT]
        refine .inl ?_
        refine wpAny_all (rs := [1]) (by kernel_rfl) (by simp) ?_
        intro i hi
        simp at hi
        subst hi
        simp [wpOp, go_sem]
        refine .inl ?_
        refine (c2 _ hRd.out.rd).mono ?_
        rintro e w2 ⟨rfl, g2⟩
        have hP := (hRd.out.below.grown g2 hRd.out.below.size (fun k e => by cases e; omega))
        have n1 := (g2.block _ (Array.getElem?_eq_some_iff.1 hRd.out.told).1 (by simp)).trans hRd.out.told
        have n2 := (g2.block _ (Array.getElem?_eq_some_iff.1 hRd.out.err).1 (by simp)).trans hRd.out.err
        have m1 : w2.cell? ⟨w.heap.size, 0, none⟩ = some (.slice none 0 0) := by unfold World.cell?; rw [n1]; rfl
        have m2 : w2.cell? ⟨w.heap.size + 1, 0, none⟩ = some (.int .i64 0) := by unfold World.cell?; rw [n2]; rfl
        have m3 : w2.frozen? ⟨w.heap.size, 0, none⟩ = false := by simp [World.frozen?, n1]
        have m4 : w2.frozen? ⟨w.heap.size + 1, 0, none⟩ = false := by simp [World.frozen?, n2]
        refine leaves_cons (f := 37) (args := #[.pointer (some ⟨w.heap.size, 0, none⟩), .pointer (some ⟨w.heap.size + 1, 0, none⟩)]) (by simp) (by simp [go_sem]) ?_
        refine (catch_tossed_at w.heap.size w.heap.size (w.heap.size + 1) none 0 0 (q : Int) _ (by omega) (Nat.le_refl _) (by omega) m1 0 m2 m3 m4 hP.size).mono ?_
        rintro e u' w5 ⟨rfl, rfl, hP5, hQ5, b5⟩
        have b6 := hP.trans b5
        simp [Leaves, settle, results, Tryz.results20, go_sem, hP5, hQ5]
        exact told_none hr.out b6
      · simp [wpOp, go_sem]
        refine .inl ?_
        refine (c2 _ hRd.out.rd).mono ?_
        rintro e w2 ⟨rfl, g2⟩
        have hP := (hRd.out.below.grown g2 hRd.out.below.size (fun k e => by cases e; omega))
        have n1 := (g2.block _ (Array.getElem?_eq_some_iff.1 hRd.out.told).1 (by simp)).trans hRd.out.told
        have n2 := (g2.block _ (Array.getElem?_eq_some_iff.1 hRd.out.err).1 (by simp)).trans hRd.out.err
        have m1 : w2.cell? ⟨w.heap.size, 0, none⟩ = some (.slice none 0 0) := by unfold World.cell?; rw [n1]; rfl
        have m2 : w2.cell? ⟨w.heap.size + 1, 0, none⟩ = some (.int .i64 0) := by unfold World.cell?; rw [n2]; rfl
        have m3 : w2.frozen? ⟨w.heap.size, 0, none⟩ = false := by simp [World.frozen?, n1]
        have m4 : w2.frozen? ⟨w.heap.size + 1, 0, none⟩ = false := by simp [World.frozen?, n2]
        refine leaves_cons (f := 37) (args := #[.pointer (some ⟨w.heap.size, 0, none⟩), .pointer (some ⟨w.heap.size + 1, 0, none⟩)]) (by simp) (by simp [go_sem]) ?_
        refine (catch_tossed_at w.heap.size w.heap.size (w.heap.size + 1) none 0 0 (q : Int) _ (by omega) (Nat.le_refl _) (by omega) m1 0 m2 m3 m4 hP.size).mono ?_
        rintro e u' w5 ⟨rfl, rfl, hP5, hQ5, b5⟩
        have b6 := hP.trans b5
        simp [Leaves, settle, results, Tryz.results20, go_sem, hP5, hQ5]
        exact told_none hr.out b6
    | ok x =>
      obtain ⟨k, lr⟩ := x
      obtain ⟨t, rfl⟩ := bytes_of lr
      have hgo := Lib.hid (T.goes_declared hd hn)
      rw [hn] at c2
      obtain ⟨i0, hi0, hz0, hz1, hz2⟩ := info_parts infoTok
      have hts : t.size ≤ s.size := by
        have := (T.decl_append hn []).2.1
        have h5 : (s.data.toList.drop 5).length ≤ s.data.toList.length := by rw [List.length_drop]; omega
        rw [list_len] at this h5
        omega
      have h1s : 1 ≤ s.size := by
        rw [← list_len s]
        cases hl : s.data.toList with
        | nil => rw [hl] at hd; cases hd
        | cons b t => simp
      have hlt5 : t.size < s.size := by
        have := (T.decl_append hn []).2.1
        have h5 : (s.data.toList.drop 5).length ≤ s.data.toList.length := by rw [List.length_drop]; omega
        rw [list_len] at this h5
        omega
      have hq1 : 0 + 1 ≤ maxLen := by unfold maxLen; omega
      have hq2 : (0 + 1) * 72 ≤ 140737488355328 := by omega
      clear hn hd
      go_enter_defers Tryz.func20, Tryz.ntmps20
      go_wp2_with fail
      (with_reducible refine (c1 _ hR0.rd).mono ?_); rintro e w1 ⟨rfl, rfl⟩
      go_wp2_with fail
      generalize hW : (((w.alloc (.cells #[.slice none 0 0] 36)).alloc (.cells #[.int .i64 0] 27)).alloc (.cells #[.string s] 68)) = wr at *
      clear hW
      have hR := hW0
      have hRd : Hid (Rt w s [] (.slice none 0 0) wr.drew) := Lib.hid (hR.out.grow (Below.refl _ _).drew)
      clear hR0 hW0
      have hbs := hRd.out.below.size
      apply wp_region_any mixedTok
      refine wpAny_all (rs := [0, 1]) (by kernel_rfl) (by simp) ?_
      intro i hi
      simp at hi
      rcases hi with rfl | rfl
      · simp [wpOp, go_sem, bT]
        refine .inl ?_
        refine wpAny_all (rs := [1]) (by kernel_rfl) (by simp) ?_
        intro i hi
        simp at hi
        subst hi
        simp [wpOp, go_sem]
        refine .inl ?_
        refine (c2 _ hRd.out.rd).mono ?_
        rintro e w2 ⟨t2, ht, v2, rfl, hov, h2, g2⟩
        obtain ⟨ao2, cap2, hv2, -⟩ := pairs_of_owns hov
        rw [List.length_map] at hv2
        subst hv2
        dsimp only at hov ht
        unfold tokVal
        have hR2 := hRd.out.on h2 g2
        have m1 := hR2.cT
        have hk1 := World.block_lt_of_cell? w2 _ m1
        dsimp only at hk1
        have hk2 : ¬ w.heap.size = w2.heap.size := by omega
        have hrow := World.ownsRow.alloc hR2.row (.cells #[.int .i64 (k.kind : Int), .string ⟨k.name.toArray⟩, .slice ao2 k.attrs.length cap2, .bool k.alone, .string ⟨k.data.toArray⟩] 44)
        have m1a : (w2.alloc (.cells #[.int .i64 (k.kind : Int), .string ⟨k.name.toArray⟩, .slice ao2 k.attrs.length cap2, .bool k.alone, .string ⟨k.data.toArray⟩] 44)).cell? ⟨w.heap.size, 0, none⟩ = some (.slice none 0 0) := (hR2.grow ((Below.refl _ _).alloc (Nat.le_refl _) (.cells #[.int .i64 (k.kind : Int), .string ⟨k.name.toArray⟩, .slice ao2 k.attrs.length cap2, .bool k.alone, .string ⟨k.data.toArray⟩] 44))).cT
        have hz5 : w.heap.size ≤ (w2.alloc (.cells #[.int .i64 (k.kind : Int), .string ⟨k.name.toArray⟩, .slice ao2 k.attrs.length cap2, .bool k.alone, .string ⟨k.data.toArray⟩] 44)).heap.size := by simp; omega
        replace hR2 := Lib.hid hR2
        simp only []
        refine wpAny_all (rs := [2]) (by kernel_rfl) (by simp) ?_
        intro i hi
        simp at hi
        subst hi
        simp [wpOp, go_sem]
        refine .inl ?_
        refine wpAny_all (rs := [3]) (by kernel_rfl) (by simp) ?_
        intro i hi
        simp at hi
        subst hi
        refine wpOp_is (by rfl) (by rfl) ?_
        refine wp_append_lies _ _ _ 36 (by rfl) w.heap.size 44 i0 _ 5 72 Tryz.underlying36 hi0 hz0 hz1 hz2 rfl (by decide) (.slice none 0 0) 0 [] (by rfl) hrow ⟨w2.heap.size, 0, none⟩ 1 1 [.int .i64 (k.kind : Int), .string ⟨k.name.toArray⟩, .slice ao2 k.attrs.length cap2, .bool k.alone, .string ⟨k.data.toArray⟩] (by rfl) (by rfl) (cells_five _ _ _ _ _ _ _) (fun u hu => by simp at hu; rcases hu with rfl | rfl | rfl | rfl | rfl <;> rfl) (by omega) hq1 hq2 hz5 (w2.heap.size + 1) (by simp) ?_
        intro gg cap5 w5 hown5 hgrow _ _
        have hga := (World.grownBy_alloc w2 _ _).trans hgrow
        have hn5 := (hga.block _ (Array.getElem?_eq_some_iff.1 hR2.out.told).1 (some_ne (own_apart hR2.out.row hR2.out.told (by intro cs fr e; cases e)))).trans hR2.out.told
        have m5 : w5.cell? ⟨w.heap.size, 0, none⟩ = some (.slice none 0 0) := by unfold World.cell?; rw [hn5]; rfl
        have f5 : w5.frozen? ⟨w.heap.size, 0, none⟩ = false := by simp [World.frozen?, hn5]
        have hfin := hRd.out.more h2 g2 hov hga hown5
        have hfl := hfin.rd.left
        replace hfin := Lib.hid hfin
        clear hown5 hgrow hga hn5
        refine wpAny_all (rs := [4]) (by kernel_rfl) (by simp) ?_
        intro i hi
        simp at hi
        subst hi
        simp [wpOp, go_sem, m5, f5]
        refine .inl ?_
        refine wpAny_done (by kernel_rfl) ?_ _
        clear bT m1 m1a hk1 hk2 hrow hz5 hR2 m5 f5 hR hRd c1 c2 h2 g2 hov
        go_wp2_with fail
        go_loopw [13] (fun _ wr => ∃ (sr : ByteArray) (L : List (T.Tok × Value)) (v : Value), Hid (T.Goes true s.data.toList (L.map Prod.fst) sr.data.toList) ∧ L.length + sr.size ≤ 1000000 ∧ Hid (Rt w sr L v wr)) (fun _ wr => leftAt (w.heap.size + 2) wr)
        case atStart => exact ⟨t2, [] ++ [(k, _)], _, Lib.hid (by rw [ht]; exact hgo.out), by rw [List.nil_append, List.length_singleton, ← list_len t2, ht, list_len]; omega, hfin⟩
        case round =>
          obtain ⟨sr, L, v, hG, hLs, hR⟩ := hrel
          clear hfin hfl hgo ht
          have hleft := hR.out.rd.left
          have q0 : wr.cell? ⟨w.heap.size + 1 + 1, 0, none⟩ = some (.string sr) := hR.out.rd.cell
          by_cases h0 : sr.size = 0
          · have he := empty_is h0
            have hnil : sr.data.toList = [] := List.eq_nil_of_length_eq_zero (by rw [list_len]; exact h0)
            have hend := hG.out
            rw [hnil] at hend
            replace hend := Lib.hid (T.goes_end hend)
            obtain ⟨ao, cap, rfl, hin, hcap⟩ := hR.out.toks
            have bT : wr.cell? ⟨w.heap.size, 0, none⟩ = some (.slice ao L.length cap) := hR.out.cT
            have bE : wr.cell? ⟨w.heap.size + 1, 0, none⟩ = some (.int .i64 0) := hR.out.cE
            have fT : wr.frozen? ⟨w.heap.size, 0, none⟩ = false := hR.out.fT
            have fE : wr.frozen? ⟨w.heap.size + 1, 0, none⟩ = false := hR.out.fE
            have hR2 := Lib.hid hR.out.same.number
            clear hnil hG hin hcap
            go_wp2_with fail
            refine leaves_cons (f := 37) (args := #[.pointer (some ⟨w.heap.size, 0, none⟩), .pointer (some ⟨w.heap.size + 1, 0, none⟩)]) (by simp) (by simp [go_sem]) ?_
            refine (catch_calm w.heap.size (w.heap.size + 1) ao L.length cap _ (by omega) hR2.out.cT 0 hR2.out.cE hR2.out.fT hR2.out.fE).mono ?_
            rintro e u' w5 ⟨rfl, rfl, w6, b6, hw5⟩
            have h7 : Rt w sr L (.slice ao L.length cap) w5 := by rw [hw5]; exact (hR2.out.grow b6).same.number
            have c7T := h7.cT
            have c7E := h7.cE
            clear hw5 b6 bT bE fT fE hR2 q0
            simp [Leaves, settle, results, Tryz.results20, go_sem, c7T, c7E]
            obtain ⟨ao2, cap2, e2, hin, hcap⟩ := h7.toks
            cases e2
            rw [hend.out]
            exact ⟨ao, cap, L, rfl, rfl, hin, hcap, h7.below⟩
          · have he := ne_empty (s := sr) (by omega)
            have hne : sr.data.toList ≠ [] := by intro e; rw [← list_len sr, e] at h0; exact h0 rfl
            have bT : wr.cell? ⟨w.heap.size, 0, none⟩ = some v := hR.out.cT
            have hRd : Hid (Rt w sr L v wr.drew) := Lib.hid (hR.out.grow (Below.refl _ _).drew)
            have c2 := fun w' (h : At (w.heap.size + 2) sr w') => token_any (w.heap.size + 2) sr w' h
            cases hn : T.next false sr.data.toList with
            | error q =>
              have hr := Lib.hid (T.goes_err hG.out hne hn)
              rw [hn] at c2
              obtain ⟨ao, cap, rfl, -, -⟩ := hR.out.toks
              clear hn hne hG
              go_wp2_with fail
              apply wp_region_any mixedTok
              refine wpAny_all (rs := [0, 1]) (by kernel_rfl) (by simp) ?_
              intro i hi
              simp at hi
              rcases hi with rfl | rfl
              · simp [wpOp, go_sem, bT]
                refine .inl ?_
                refine wpAny_all (rs := [1]) (by kernel_rfl) (by simp) ?_
                intro i hi
                simp at hi
                subst hi
                simp [wpOp, go_sem]
                refine .inl ?_
                refine (c2 _ hRd.out.rd).mono ?_
                rintro e w2 ⟨rfl, g2⟩
                have hP := (hRd.out.below.grown g2 hRd.out.below.size (fun k e => by cases e; omega))
                have n1 := (g2.block _ (Array.getElem?_eq_some_iff.1 hRd.out.told).1 (by simp)).trans hRd.out.told
                have n2 := (g2.block _ (Array.getElem?_eq_some_iff.1 hRd.out.err).1 (by simp)).trans hRd.out.err
                have m1 : w2.cell? ⟨w.heap.size, 0, none⟩ = some (.slice ao L.length cap) := by unfold World.cell?; rw [n1]; rfl
                have m2 : w2.cell? ⟨w.heap.size + 1, 0, none⟩ = some (.int .i64 0) := by unfold World.cell?; rw [n2]; rfl
                have m3 : w2.frozen? ⟨w.heap.size, 0, none⟩ = false := by simp [World.frozen?, n1]
                have m4 : w2.frozen? ⟨w.heap.size + 1, 0, none⟩ = false := by simp [World.frozen?, n2]
                refine leaves_cons (f := 37) (args := #[.pointer (some ⟨w.heap.size, 0, none⟩), .pointer (some ⟨w.heap.size + 1, 0, none⟩)]) (by simp) (by simp [go_sem]) ?_
                refine (catch_tossed_at w.heap.size w.heap.size (w.heap.size + 1) ao L.length cap (q : Int) _ (by omega) (Nat.le_refl _) (by omega) m1 0 m2 m3 m4 hP.size).mono ?_
                rintro e u' w5 ⟨rfl, rfl, hP5, hQ5, b5⟩
                have b6 := hP.trans b5
                simp [Leaves, settle, results, Tryz.results20, go_sem, hP5, hQ5]
                exact told_none hr.out b6
              · simp [wpOp, go_sem]
                refine .inl ?_
                refine (c2 _ hRd.out.rd).mono ?_
                rintro e w2 ⟨rfl, g2⟩
                have hP := (hRd.out.below.grown g2 hRd.out.below.size (fun k e => by cases e; omega))
                have n1 := (g2.block _ (Array.getElem?_eq_some_iff.1 hRd.out.told).1 (by simp)).trans hRd.out.told
                have n2 := (g2.block _ (Array.getElem?_eq_some_iff.1 hRd.out.err).1 (by simp)).trans hRd.out.err
                have m1 : w2.cell? ⟨w.heap.size, 0, none⟩ = some (.slice ao L.length cap) := by unfold World.cell?; rw [n1]; rfl
                have m2 : w2.cell? ⟨w.heap.size + 1, 0, none⟩ = some (.int .i64 0) := by unfold World.cell?; rw [n2]; rfl
                have m3 : w2.frozen? ⟨w.heap.size, 0, none⟩ = false := by simp [World.frozen?, n1]
                have m4 : w2.frozen? ⟨w.heap.size + 1, 0, none⟩ = false := by simp [World.frozen?, n2]
                refine leaves_cons (f := 37) (args := #[.pointer (some ⟨w.heap.size, 0, none⟩), .pointer (some ⟨w.heap.size + 1, 0, none⟩)]) (by simp) (by simp [go_sem]) ?_
                refine (catch_tossed_at w.heap.size w.heap.size (w.heap.size + 1) ao L.length cap (q : Int) _ (by omega) (Nat.le_refl _) (by omega) m1 0 m2 m3 m4 hP.size).mono ?_
                rintro e u' w5 ⟨rfl, rfl, hP5, hQ5, b5⟩
                have b6 := hP.trans b5
                simp [Leaves, settle, results, Tryz.results20, go_sem, hP5, hQ5]
                exact told_none hr.out b6
            | ok x =>
              obtain ⟨k, lr⟩ := x
              obtain ⟨t, rfl⟩ := bytes_of lr
              have hG2 := T.goes_step hG.out hne hn
              have hlt := T.next_less hne hn
              rw [list_len, list_len] at hlt
              rw [hn] at c2
              obtain ⟨ao, cap, rfl, -, -⟩ := hR.out.toks
              obtain ⟨i0, hi0, hz0, hz1, hz2⟩ := info_parts infoTok
              have hq1 : L.length + 1 ≤ maxLen := by unfold maxLen; omega
              have hq2 : (L.length + 1) * 72 ≤ 140737488355328 := by omega
              have hbs := hRd.out.below.size
              replace hG2 := Lib.hid hG2
              clear hn hne hG
              go_wp2_with fail
              apply wp_region_any mixedTok
              refine wpAny_all (rs := [0, 1]) (by kernel_rfl) (by simp) ?_
              intro i hi
              simp at hi
              rcases hi with rfl | rfl
              · simp [wpOp, go_sem, bT]
                refine .inl ?_
                refine wpAny_all (rs := [1]) (by kernel_rfl) (by simp) ?_
                intro i hi
                simp at hi
                subst hi
                simp [wpOp, go_sem]
                refine .inl ?_
                refine (c2 _ hRd.out.rd).mono ?_
                rintro e w2 ⟨t2, ht, v2, rfl, hov, h2, g2⟩
                obtain ⟨ao2, cap2, hv2, -⟩ := pairs_of_owns hov
                rw [List.length_map] at hv2
                subst hv2
                dsimp only at hov ht
                unfold tokVal
                have hR2 := hRd.out.on h2 g2
                have m1 := hR2.cT
                have hk1 := World.block_lt_of_cell? w2 _ m1
                dsimp only at hk1
                have hk2 : ¬ w.heap.size = w2.heap.size := by omega
                have hrow := World.ownsRow.alloc hR2.row (.cells #[.int .i64 (k.kind : Int), .string ⟨k.name.toArray⟩, .slice ao2 k.attrs.length cap2, .bool k.alone, .string ⟨k.data.toArray⟩] 44)
                have m1a : (w2.alloc (.cells #[.int .i64 (k.kind : Int), .string ⟨k.name.toArray⟩, .slice ao2 k.attrs.length cap2, .bool k.alone, .string ⟨k.data.toArray⟩] 44)).cell? ⟨w.heap.size, 0, none⟩ = some (.slice ao L.length cap) := (hR2.grow ((Below.refl _ _).alloc (Nat.le_refl _) (.cells #[.int .i64 (k.kind : Int), .string ⟨k.name.toArray⟩, .slice ao2 k.attrs.length cap2, .bool k.alone, .string ⟨k.data.toArray⟩] 44))).cT
                have hz5 : w.heap.size ≤ (w2.alloc (.cells #[.int .i64 (k.kind : Int), .string ⟨k.name.toArray⟩, .slice ao2 k.attrs.length cap2, .bool k.alone, .string ⟨k.data.toArray⟩] 44)).heap.size := by simp; omega
                replace hR2 := Lib.hid hR2
                simp only []
                refine wpAny_all (rs := [2]) (by kernel_rfl) (by simp) ?_
                intro i hi
                simp at hi
                subst hi
                simp [wpOp, go_sem]
                refine .inl ?_
                refine wpAny_all (rs := [3]) (by kernel_rfl) (by simp) ?_
                intro i hi
                simp at hi
                subst hi
                refine wpOp_is (by rfl) (by rfl) ?_
                refine wp_append_lies _ _ _ 36 (by rfl) w.heap.size 44 i0 _ 5 72 Tryz.underlying36 hi0 hz0 hz1 hz2 rfl (by decide) (.slice ao L.length cap) L.length (rowCells L) (by rfl) hrow ⟨w2.heap.size, 0, none⟩ 1 1 [.int .i64 (k.kind : Int), .string ⟨k.name.toArray⟩, .slice ao2 k.attrs.length cap2, .bool k.alone, .string ⟨k.data.toArray⟩] (by rfl) (by rfl) (cells_five _ _ _ _ _ _ _) (fun u hu => by simp at hu; rcases hu with rfl | rfl | rfl | rfl | rfl <;> rfl) (by omega) hq1 hq2 hz5 (w2.heap.size + 1) (by simp) ?_
                intro gg cap5 w5 hown5 hgrow _ _
                have hga := (World.grownBy_alloc w2 _ _).trans hgrow
                have hn5 := (hga.block _ (Array.getElem?_eq_some_iff.1 hR2.out.told).1 (some_ne (own_apart hR2.out.row hR2.out.told (by intro cs fr e; cases e)))).trans hR2.out.told
                have m5 : w5.cell? ⟨w.heap.size, 0, none⟩ = some (.slice ao L.length cap) := by unfold World.cell?; rw [hn5]; rfl
                have f5 : w5.frozen? ⟨w.heap.size, 0, none⟩ = false := by simp [World.frozen?, hn5]
                have hfin := hRd.out.more h2 g2 hov hga hown5
                have hfl := hfin.rd.left
                replace hfin := Lib.hid hfin
                clear hown5 hgrow hga hn5
                refine wpAny_all (rs := [4]) (by kernel_rfl) (by simp) ?_
                intro i hi
                simp at hi
                subst hi
                simp [wpOp, go_sem, m5, f5]
                refine .inl ?_
                refine wpAny_done (by kernel_rfl) ?_ _
                try (go_wp2_with fail)
                go_roundw
                case rel => exact ⟨t2, L ++ [(k, _)], _, Lib.hid (by rw [List.map_append, ht]; exact hG2.out), by rw [List.length_append, List.length_singleton, ← list_len t2, ht, list_len]; omega, hfin⟩
                case measure => rw [hfl, hleft, ← list_len t2, ht, list_len]; omega
              · simp [wpOp, go_sem]
                refine .inl ?_
                refine (c2 _ hRd.out.rd).mono ?_
                rintro e w2 ⟨t2, ht, v2, rfl, hov, h2, g2⟩
                obtain ⟨ao2, cap2, hv2, -⟩ := pairs_of_owns hov
                rw [List.length_map] at hv2
                subst hv2
                dsimp only at hov ht
                unfold tokVal
                have hR2 := hRd.out.on h2 g2
                have m1 := hR2.cT
                have hk1 := World.block_lt_of_cell? w2 _ m1
                dsimp only at hk1
                have hk2 : ¬ w.heap.size = w2.heap.size := by omega
                have hrow := World.ownsRow.alloc hR2.row (.cells #[.int .i64 (k.kind : Int), .string ⟨k.name.toArray⟩, .slice ao2 k.attrs.length cap2, .bool k.alone, .string ⟨k.data.toArray⟩] 44)
                have m1a : (w2.alloc (.cells #[.int .i64 (k.kind : Int), .string ⟨k.name.toArray⟩, .slice ao2 k.attrs.length cap2, .bool k.alone, .string ⟨k.data.toArray⟩] 44)).cell? ⟨w.heap.size, 0, none⟩ = some (.slice ao L.length cap) := (hR2.grow ((Below.refl _ _).alloc (Nat.le_refl _) (.cells #[.int .i64 (k.kind : Int), .string ⟨k.name.toArray⟩, .slice ao2 k.attrs.length cap2, .bool k.alone, .string ⟨k.data.toArray⟩] 44))).cT
                have hz5 : w.heap.size ≤ (w2.alloc (.cells #[.int .i64 (k.kind : Int), .string ⟨k.name.toArray⟩, .slice ao2 k.attrs.length cap2, .bool k.alone, .string ⟨k.data.toArray⟩] 44)).heap.size := by simp; omega
                replace hR2 := Lib.hid hR2
                simp only []
                refine wpAny_all (rs := [0, 2]) (by kernel_rfl) (by simp) ?_
                intro i hi
                simp at hi
                rcases hi with rfl | rfl
                · simp [wpOp, go_sem, m1]
                  refine .inl ?_
                  refine wpAny_all (rs := [2]) (by kernel_rfl) (by simp) ?_
                  intro i hi
                  simp at hi
                  subst hi
                  simp [wpOp, go_sem]
                  refine .inl ?_
                  refine wpAny_all (rs := [3]) (by kernel_rfl) (by simp) ?_
                  intro i hi
                  simp at hi
                  subst hi
                  refine wpOp_is (by rfl) (by rfl) ?_
                  refine wp_append_lies _ _ _ 36 (by rfl) w.heap.size 44 i0 _ 5 72 Tryz.underlying36 hi0 hz0 hz1 hz2 rfl (by decide) (.slice ao L.length cap) L.length (rowCells L) (by rfl) hrow ⟨w2.heap.size, 0, none⟩ 1 1 [.int .i64 (k.kind : Int), .string ⟨k.name.toArray⟩, .slice ao2 k.attrs.length cap2, .bool k.alone, .string ⟨k.data.toArray⟩] (by rfl) (by rfl) (cells_five _ _ _ _ _ _ _) (fun u hu => by simp at hu; rcases hu with rfl | rfl | rfl | rfl | rfl <;> rfl) (by omega) hq1 hq2 hz5 (w2.heap.size + 1) (by simp) ?_
                  intro gg cap5 w5 hown5 hgrow _ _
                  have hga := (World.grownBy_alloc w2 _ _).trans hgrow
                  have hn5 := (hga.block _ (Array.getElem?_eq_some_iff.1 hR2.out.told).1 (some_ne (own_apart hR2.out.row hR2.out.told (by intro cs fr e; cases e)))).trans hR2.out.told
                  have m5 : w5.cell? ⟨w.heap.size, 0, none⟩ = some (.slice ao L.length cap) := by unfold World.cell?; rw [hn5]; rfl
                  have f5 : w5.frozen? ⟨w.heap.size, 0, none⟩ = false := by simp [World.frozen?, hn5]
                  have hfin := hRd.out.more h2 g2 hov hga hown5
                  have hfl := hfin.rd.left
                  replace hfin := Lib.hid hfin
                  clear hown5 hgrow hga hn5
                  refine wpAny_all (rs := [4]) (by kernel_rfl) (by simp) ?_
                  intro i hi
                  simp at hi
                  subst hi
                  simp [wpOp, go_sem, m5, f5]
                  refine .inl ?_
                  refine wpAny_done (by kernel_rfl) ?_ _
                  try (go_wp2_with fail)
                  go_roundw
                  case rel => exact ⟨t2, L ++ [(k, _)], _, Lib.hid (by rw [List.map_append, ht]; exact hG2.out), by rw [List.length_append, List.length_singleton, ← list_len t2, ht, list_len]; omega, hfin⟩
                  case measure => rw [hfl, hleft, ← list_len t2, ht, list_len]; omega
                · simp [wpOp, go_sem]
                  refine .inl ?_
                  refine wpAny_all (rs := [0]) (by kernel_rfl) (by simp) ?_
                  intro i hi
                  simp at hi
                  subst hi
                  simp [wpOp, go_sem]
                  rw [m1a]
                  simp
                  refine .inl ?_
                  refine wpAny_all (rs := [3]) (by kernel_rfl) (by simp) ?_
                  intro i hi
                  simp at hi
                  subst hi
                  refine wpOp_is (by rfl) (by rfl) ?_
                  refine wp_append_lies _ _ _ 36 (by rfl) w.heap.size 44 i0 _ 5 72 Tryz.underlying36 hi0 hz0 hz1 hz2 rfl (by decide) (.slice ao L.length cap) L.length (rowCells L) (by rfl) hrow ⟨w2.heap.size, 0, none⟩ 1 1 [.int .i64 (k.kind : Int), .string ⟨k.name.toArray⟩, .slice ao2 k.attrs.length cap2, .bool k.alone, .string ⟨k.data.toArray⟩] (by rfl) (by rfl) (cells_five _ _ _ _ _ _ _) (fun u hu => by simp at hu; rcases hu with rfl | rfl | rfl | rfl | rfl <;> rfl) (by omega) hq1 hq2 hz5 (w2.heap.size + 1) (by simp) ?_
                  intro gg cap5 w5 hown5 hgrow _ _
                  have hga := (World.grownBy_alloc w2 _ _).trans hgrow
                  have hn5 := (hga.block _ (Array.getElem?_eq_some_iff.1 hR2.out.told).1 (some_ne (own_apart hR2.out.row hR2.out.told (by intro cs fr e; cases e)))).trans hR2.out.told
                  have m5 : w5.cell? ⟨w.heap.size, 0, none⟩ = some (.slice ao L.length cap) := by unfold World.cell?; rw [hn5]; rfl
                  have f5 : w5.frozen? ⟨w.heap.size, 0, none⟩ = false := by simp [World.frozen?, hn5]
                  have hfin := hRd.out.more h2 g2 hov hga hown5
                  have hfl := hfin.rd.left
                  replace hfin := Lib.hid hfin
                  clear hown5 hgrow hga hn5
                  refine wpAny_all (rs := [4]) (by kernel_rfl) (by simp) ?_
                  intro i hi
                  simp at hi
                  subst hi
                  simp [wpOp, go_sem, m5, f5]
                  refine .inl ?_
                  refine wpAny_done (by kernel_rfl) ?_ _
                  try (go_wp2_with fail)
                  go_roundw
                  case rel => exact ⟨t2, L ++ [(k, _)], _, Lib.hid (by rw [List.map_append, ht]; exact hG2.out), by rw [List.length_append, List.length_singleton, ← list_len t2, ht, list_len]; omega, hfin⟩
                  case measure => rw [hfl, hleft, ← list_len t2, ht, list_len]; omega
      · simp [wpOp, go_sem]
        refine .inl ?_
        refine (c2 _ hRd.out.rd).mono ?_
        rintro e w2 ⟨t2, ht, v2, rfl, hov, h2, g2⟩
        obtain ⟨ao2, cap2, hv2, -⟩ := pairs_of_owns hov
        rw [List.length_map] at hv2
        subst hv2
        dsimp only at hov ht
        unfold tokVal
        have hR2 := hRd.out.on h2 g2
        have m1 := hR2.cT
        have hk1 := World.block_lt_of_cell? w2 _ m1
        dsimp only at hk1
        have hk2 : ¬ w.heap.size = w2.heap.size := by omega
        have hrow := World.ownsRow.alloc hR2.row (.cells #[.int .i64 (k.kind : Int), .string ⟨k.name.toArray⟩, .slice ao2 k.attrs.length cap2, .bool k.alone, .string ⟨k.data.toArray⟩] 44)
        have m1a : (w2.alloc (.cells #[.int .i64 (k.kind : Int), .string ⟨k.name.toArray⟩, .slice ao2 k.attrs.length cap2, .bool k.alone, .string ⟨k.data.toArray⟩] 44)).cell? ⟨w.heap.size, 0, none⟩ = some (.slice none 0 0) := (hR2.grow ((Below.refl _ _).alloc (Nat.le_refl _) (.cells #[.int .i64 (k.kind : Int), .string ⟨k.name.toArray⟩, .slice ao2 k.attrs.length cap2, .bool k.alone, .string ⟨k.data.toArray⟩] 44))).cT
        have hz5 : w.heap.size ≤ (w2.alloc (.cells #[.int .i64 (k.kind : Int), .string ⟨k.name.toArray⟩, .slice ao2 k.attrs.length cap2, .bool k.alone, .string ⟨k.data.toArray⟩] 44)).heap.size := by simp; omega
        replace hR2 := Lib.hid hR2
        simp only []
        refine wpAny_all (rs := [0, 2]) (by kernel_rfl) (by simp) ?_
        intro i hi
        simp at hi
        rcases hi with rfl | rfl
        · simp [wpOp, go_sem, m1]
          refine .inl ?_
          refine wpAny_all (rs := [2]) (by kernel_rfl) (by simp) ?_
          intro i hi
          simp at hi
          subst hi
          simp [wpOp, go_sem]
          refine .inl ?_
          refine wpAny_all (rs := [3]) (by kernel_rfl) (by simp) ?_
          intro i hi
          simp at hi
          subst hi
          refine wpOp_is (by rfl) (by rfl) ?_
          refine wp_append_lies _ _ _ 36 (by rfl) w.heap.size 44 i0 _ 5 72 Tryz.underlying36 hi0 hz0 hz1 hz2 rfl (by decide) (.slice none 0 0) 0 [] (by rfl) hrow ⟨w2.heap.size, 0, none⟩ 1 1 [.int .i64 (k.kind : Int), .string ⟨k.name.toArray⟩, .slice ao2 k.attrs.length cap2, .bool k.alone, .string ⟨k.data.toArray⟩] (by rfl) (by rfl) (cells_five _ _ _ _ _ _ _) (fun u hu => by simp at hu; rcases hu with rfl | rfl | rfl | rfl | rfl <;> rfl) (by omega) hq1 hq2 hz5 (w2.heap.size + 1) (by simp) ?_
          intro gg cap5 w5 hown5 hgrow _ _
          have hga := (World.grownBy_alloc w2 _ _).trans hgrow
          have hn5 := (hga.block _ (Array.getElem?_eq_some_iff.1 hR2.out.told).1 (some_ne (own_apart hR2.out.row hR2.out.told (by intro cs fr e; cases e)))).trans hR2.out.told
          have m5 : w5.cell? ⟨w.heap.size, 0, none⟩ = some (.slice none 0 0) := by unfold World.cell?; rw [hn5]; rfl
          have f5 : w5.frozen? ⟨w.heap.size, 0, none⟩ = false := by simp [World.frozen?, hn5]
          have hfin := hRd.out.more h2 g2 hov hga hown5
          have hfl := hfin.rd.left
          replace hfin := Lib.hid hfin
          clear hown5 hgrow hga hn5
          refine wpAny_all (rs := [4]) (by kernel_rfl) (by simp) ?_
          intro i hi
          simp at hi
          subst hi
          simp [wpOp, go_sem, m5, f5]
          refine .inl ?_
          refine wpAny_done (by kernel_rfl) ?_ _
          clear bT m1 m1a hk1 hk2 hrow hz5 hR2 m5 f5 hR hRd c1 c2 h2 g2 hov
          go_wp2_with fail
          go_loopw [13] (fun _ wr => ∃ (sr : ByteArray) (L : List (T.Tok × Value)) (v : Value), Hid (T.Goes true s.data.toList (L.map Prod.fst) sr.data.toList) ∧ L.length + sr.size ≤ 1000000 ∧ Hid (Rt w sr L v wr)) (fun _ wr => leftAt (w.heap.size + 2) wr)
          case atStart => exact ⟨t2, [] ++ [(k, _)], _, Lib.hid (by rw [ht]; exact hgo.out), by rw [List.nil_append, List.length_singleton, ← list_len t2, ht, list_len]; omega, hfin⟩
          case round =>
            obtain ⟨sr, L, v, hG, hLs, hR⟩ := hrel
            clear hfin hfl hgo ht
            have hleft := hR.out.rd.left
            have q0 : wr.cell? ⟨w.heap.size + 1 + 1, 0, none⟩ = some (.string sr) := hR.out.rd.cell
            by_cases h0 : sr.size = 0
            · have he := empty_is h0
              have hnil : sr.data.toList = [] := List.eq_nil_of_length_eq_zero (by rw [list_len]; exact h0)
              have hend := hG.out
              rw [hnil] at hend
              replace hend := Lib.hid (T.goes_end hend)
              obtain ⟨ao, cap, rfl, hin, hcap⟩ := hR.out.toks
              have bT : wr.cell? ⟨w.heap.size, 0, none⟩ = some (.slice ao L.length cap) := hR.out.cT
              have bE : wr.cell? ⟨w.heap.size + 1, 0, none⟩ = some (.int .i64 0) := hR.out.cE
              have fT : wr.frozen? ⟨w.heap.size, 0, none⟩ = false := hR.out.fT
              have fE : wr.frozen? ⟨w.heap.size + 1, 0, none⟩ = false := hR.out.fE
              have hR2 := Lib.hid hR.out.same.number
              clear hnil hG hin hcap
              go_wp2_with fail
              refine leaves_cons (f := 37) (args := #[.pointer (some ⟨w.heap.size, 0, none⟩), .pointer (some ⟨w.heap.size + 1, 0, none⟩)]) (by simp) (by simp [go_sem]) ?_
              refine (catch_calm w.heap.size (w.heap.size + 1) ao L.length cap _ (by omega) hR2.out.cT 0 hR2.out.cE hR2.out.fT hR2.out.fE).mono ?_
              rintro e u' w5 ⟨rfl, rfl, w6, b6, hw5⟩
              have h7 : Rt w sr L (.slice ao L.length cap) w5 := by rw [hw5]; exact (hR2.out.grow b6).same.number
              have c7T := h7.cT
              have c7E := h7.cE
              clear hw5 b6 bT bE fT fE hR2 q0
              simp [Leaves, settle, results, Tryz.results20, go_sem, c7T, c7E]
              obtain ⟨ao2, cap2, e2, hin, hcap⟩ := h7.toks
              cases e2
              rw [hend.out]
              exact ⟨ao, cap, L, rfl, rfl, hin, hcap, h7.below⟩
            · have he := ne_empty (s := sr) (by omega)
              have hne : sr.data.toList ≠ [] := by intro e; rw [← list_len sr, e] at h0; exact h0 rfl
              have bT : wr.cell? ⟨w.heap.size, 0, none⟩ = some v := hR.out.cT
              have hRd : Hid (Rt w sr L v wr.drew) := Lib.hid (hR.out.grow (Below.refl _ _).drew)
              have c2 := fun w' (h : At (w.heap.size + 2) sr w') => token_any (w.heap.size + 2) sr w' h
              cases hn : T.next false sr.data.toList with
              | error q =>
                have hr := Lib.hid (T.goes_err hG.out hne hn)
                rw [hn] at c2
                obtain ⟨ao, cap, rfl, -, -⟩ := hR.out.toks
                clear hn hne hG
                go_wp2_with fail
                apply wp_region_any mixedTok
                refine wpAny_all (rs := [0, 1]) (by kernel_rfl) (by simp) ?_
                intro i hi
                simp at hi
                rcases hi with rfl | rfl
                · simp [wpOp, go_sem, bT]
                  refine .inl ?_
                  refine wpAny_all (rs := [1]) (by kernel_rfl) (by simp) ?_
                  intro i hi
                  simp at hi
                  subst hi
                  simp [wpOp, go_sem]
                  refine .inl ?_
                  refine (c2 _ hRd.out.rd).mono ?_
                  rintro e w2 ⟨rfl, g2⟩
                  have hP := (hRd.out.below.grown g2 hRd.out.below.size (fun k e => by cases e; omega))
                  have n1 := (g2.block _ (Array.getElem?_eq_some_iff.1 hRd.out.told).1 (by simp)).trans hRd.out.told
                  have n2 := (g2.block _ (Array.getElem?_eq_some_iff.1 hRd.out.err).1 (by simp)).trans hRd.out.err
                  have m1 : w2.cell? ⟨w.heap.size, 0, none⟩ = some (.slice ao L.length cap) := by unfold World.cell?; rw [n1]; rfl
                  have m2 : w2.cell? ⟨w.heap.size + 1, 0, none⟩ = some (.int .i64 0) := by unfold World.cell?; rw [n2]; rfl
                  have m3 : w2.frozen? ⟨w.heap.size, 0, none⟩ = false := by simp [World.frozen?, n1]
                  have m4 : w2.frozen? ⟨w.heap.size + 1, 0, none⟩ = false := by simp [World.frozen?, n2]
                  refine leaves_cons (f := 37) (args := #[.pointer (some ⟨w.heap.size, 0, none⟩), .pointer (some ⟨w.heap.size + 1, 0, none⟩)]) (by simp) (by simp [go_sem]) ?_
                  refine (catch_tossed_at w.heap.size w.heap.size (w.heap.size + 1) ao L.length cap (q : Int) _ (by omega) (Nat.le_refl _) (by omega) m1 0 m2 m3 m4 hP.size).mono ?_
                  rintro e u' w5 ⟨rfl, rfl, hP5, hQ5, b5⟩
                  have b6 := hP.trans b5
                  simp [Leaves, settle, results, Tryz.results20, go_sem, hP5, hQ5]
                  exact told_none hr.out b6
                · simp [wpOp, go_sem]
                  refine .inl ?_
                  refine (c2 _ hRd.out.rd).mono ?_
                  rintro e w2 ⟨rfl, g2⟩
                  have hP := (hRd.out.below.grown g2 hRd.out.below.size (fun k e => by cases e; omega))
                  have n1 := (g2.block _ (Array.getElem?_eq_some_iff.1 hRd.out.told).1 (by simp)).trans hRd.out.told
                  have n2 := (g2.block _ (Array.getElem?_eq_some_iff.1 hRd.out.err).1 (by simp)).trans hRd.out.err
                  have m1 : w2.cell? ⟨w.heap.size, 0, none⟩ = some (.slice ao L.length cap) := by unfold World.cell?; rw [n1]; rfl
                  have m2 : w2.cell? ⟨w.heap.size + 1, 0, none⟩ = some (.int .i64 0) := by unfold World.cell?; rw [n2]; rfl
                  have m3 : w2.frozen? ⟨w.heap.size, 0, none⟩ = false := by simp [World.frozen?, n1]
                  have m4 : w2.frozen? ⟨w.heap.size + 1, 0, none⟩ = false := by simp [World.frozen?, n2]
                  refine leaves_cons (f := 37) (args := #[.pointer (some ⟨w.heap.size, 0, none⟩), .pointer (some ⟨w.heap.size + 1, 0, none⟩)]) (by simp) (by simp [go_sem]) ?_
                  refine (catch_tossed_at w.heap.size w.heap.size (w.heap.size + 1) ao L.length cap (q : Int) _ (by omega) (Nat.le_refl _) (by omega) m1 0 m2 m3 m4 hP.size).mono ?_
                  rintro e u' w5 ⟨rfl, rfl, hP5, hQ5, b5⟩
                  have b6 := hP.trans b5
                  simp [Leaves, settle, results, Tryz.results20, go_sem, hP5, hQ5]
                  exact told_none hr.out b6
              | ok x =>
                obtain ⟨k, lr⟩ := x
                obtain ⟨t, rfl⟩ := bytes_of lr
                have hG2 := T.goes_step hG.out hne hn
                have hlt := T.next_less hne hn
                rw [list_len, list_len] at hlt
                rw [hn] at c2
                obtain ⟨ao, cap, rfl, -, -⟩ := hR.out.toks
                obtain ⟨i0, hi0, hz0, hz1, hz2⟩ := info_parts infoTok
                have hq1 : L.length + 1 ≤ maxLen := by unfold maxLen; omega
                have hq2 : (L.length + 1) * 72 ≤ 140737488355328 := by omega
                have hbs := hRd.out.below.size
                replace hG2 := Lib.hid hG2
                clear hn hne hG
                go_wp2_with fail
                apply wp_region_any mixedTok
                refine wpAny_all (rs := [0, 1]) (by kernel_rfl) (by simp) ?_
                intro i hi
                simp at hi
                rcases hi with rfl | rfl
                · simp [wpOp, go_sem, bT]
                  refine .inl ?_
                  refine wpAny_all (rs := [1]) (by kernel_rfl) (by simp) ?_
                  intro i hi
                  simp at hi
                  subst hi
                  simp [wpOp, go_sem]
                  refine .inl ?_
                  refine (c2 _ hRd.out.rd).mono ?_
                  rintro e w2 ⟨t2, ht, v2, rfl, hov, h2, g2⟩
                  obtain ⟨ao2, cap2, hv2, -⟩ := pairs_of_owns hov
                  rw [List.length_map] at hv2
                  subst hv2
                  dsimp only at hov ht
                  unfold tokVal
                  have hR2 := hRd.out.on h2 g2
                  have m1 := hR2.cT
                  have hk1 := World.block_lt_of_cell? w2 _ m1
                  dsimp only at hk1
                  have hk2 : ¬ w.heap.size = w2.heap.size := by omega
                  have hrow := World.ownsRow.alloc hR2.row (.cells #[.int .i64 (k.kind : Int), .string ⟨k.name.toArray⟩, .slice ao2 k.attrs.length cap2, .bool k.alone, .string ⟨k.data.toArray⟩] 44)
                  have m1a : (w2.alloc (.cells #[.int .i64 (k.kind : Int), .string ⟨k.name.toArray⟩, .slice ao2 k.attrs.length cap2, .bool k.alone, .string ⟨k.data.toArray⟩] 44)).cell? ⟨w.heap.size, 0, none⟩ = some (.slice ao L.length cap) := (hR2.grow ((Below.refl _ _).alloc (Nat.le_refl _) (.cells #[.int .i64 (k.kind : Int), .string ⟨k.name.toArray⟩, .slice ao2 k.attrs.length cap2, .bool k.alone, .string ⟨k.data.toArray⟩] 44))).cT
                  have hz5 : w.heap.size ≤ (w2.alloc (.cells #[.int .i64 (k.kind : Int), .string ⟨k.name.toArray⟩, .slice ao2 k.attrs.length cap2, .bool k.alone, .string ⟨k.data.toArray⟩] 44)).heap.size := by simp; omega
                  replace hR2 := Lib.hid hR2
                  simp only []
                  refine wpAny_all (rs := [2]) (by kernel_rfl) (by simp) ?_
                  intro i hi
                  simp at hi
                  subst hi
                  simp [wpOp, go_sem]
                  refine .inl ?_
                  refine wpAny_all (rs := [3]) (by kernel_rfl) (by simp) ?_
                  intro i hi
                  simp at hi
                  subst hi
                  refine wpOp_is (by rfl) (by rfl) ?_
                  refine wp_append_lies _ _ _ 36 (by rfl) w.heap.size 44 i0 _ 5 72 Tryz.underlying36 hi0 hz0 hz1 hz2 rfl (by decide) (.slice ao L.length cap) L.length (rowCells L) (by rfl) hrow ⟨w2.heap.size, 0, none⟩ 1 1 [.int .i64 (k.kind : Int), .string ⟨k.name.toArray⟩, .slice ao2 k.attrs.length cap2, .bool k.alone, .string ⟨k.data.toArray⟩] (by rfl) (by rfl) (cells_five _ _ _ _ _ _ _) (fun u hu => by simp at hu; rcases hu with rfl | rfl | rfl | rfl | rfl <;> rfl) (by omega) hq1 hq2 hz5 (w2.heap.size + 1) (by simp) ?_
                  intro gg cap5 w5 hown5 hgrow _ _
                  have hga := (World.grownBy_alloc w2 _ _).trans hgrow
                  have hn5 := (hga.block _ (Array.getElem?_eq_some_iff.1 hR2.out.told).1 (some_ne (own_apart hR2.out.row hR2.out.told (by intro cs fr e; cases e)))).trans hR2.out.told
                  have m5 : w5.cell? ⟨w.heap.size, 0, none⟩ = some (.slice ao L.length cap) := by unfold World.cell?; rw [hn5]; rfl
                  have f5 : w5.frozen? ⟨w.heap.size, 0, none⟩ = false := by simp [World.frozen?, hn5]
                  have hfin := hRd.out.more h2 g2 hov hga hown5
                  have hfl := hfin.rd.left
                  replace hfin := Lib.hid hfin
                  clear hown5 hgrow hga hn5
                  refine wpAny_all (rs := [4]) (by kernel_rfl) (by simp) ?_
                  intro i hi
                  simp at hi
                  subst hi
                  simp [wpOp, go_sem, m5, f5]
                  refine .inl ?_
                  refine wpAny_done (by kernel_rfl) ?_ _
                  try (go_wp2_with fail)
                  go_roundw
                  case rel => exact ⟨t2, L ++ [(k, _)], _, Lib.hid (by rw [List.map_append, ht]; exact hG2.out), by rw [List.length_append, List.length_singleton, ← list_len t2, ht, list_len]; omega, hfin⟩
                  case measure => rw [hfl, hleft, ← list_len t2, ht, list_len]; omega
                · simp [wpOp, go_sem]
                  refine .inl ?_
                  refine (c2 _ hRd.out.rd).mono ?_
                  rintro e w2 ⟨t2, ht, v2, rfl, hov, h2, g2⟩
                  obtain ⟨ao2, cap2, hv2, -⟩ := pairs_of_owns hov
                  rw [List.length_map] at hv2
                  subst hv2
                  dsimp only at hov ht
                  unfold tokVal
                  have hR2 := hRd.out.on h2 g2
                  have m1 := hR2.cT
                  have hk1 := World.block_lt_of_cell? w2 _ m1
                  dsimp only at hk1
                  have hk2 : ¬ w.heap.size = w2.heap.size := by omega
                  have hrow := World.ownsRow.alloc hR2.row (.cells #[.int .i64 (k.kind : Int), .string ⟨k.name.toArray⟩, .slice ao2 k.attrs.length cap2, .bool k.alone, .string ⟨k.data.toArray⟩] 44)
                  have m1a : (w2.alloc (.cells #[.int .i64 (k.kind : Int), .string ⟨k.name.toArray⟩, .slice ao2 k.attrs.length cap2, .bool k.alone, .string ⟨k.data.toArray⟩] 44)).cell? ⟨w.heap.size, 0, none⟩ = some (.slice ao L.length cap) := (hR2.grow ((Below.refl _ _).alloc (Nat.le_refl _) (.cells #[.int .i64 (k.kind : Int), .string ⟨k.name.toArray⟩, .slice ao2 k.attrs.length cap2, .bool k.alone, .string ⟨k.data.toArray⟩] 44))).cT
                  have hz5 : w.heap.size ≤ (w2.alloc (.cells #[.int .i64 (k.kind : Int), .string ⟨k.name.toArray⟩, .slice ao2 k.attrs.length cap2, .bool k.alone, .string ⟨k.data.toArray⟩] 44)).heap.size := by simp; omega
                  replace hR2 := Lib.hid hR2
                  simp only []
                  refine wpAny_all (rs := [0, 2]) (by kernel_rfl) (by simp) ?_
                  intro i hi
                  simp at hi
                  rcases hi with rfl | rfl
                  · simp [wpOp, go_sem, m1]
                    refine .inl ?_
                    refine wpAny_all (rs := [2]) (by kernel_rfl) (by simp) ?_
                    intro i hi
                    simp at hi
                    subst hi
                    simp [wpOp, go_sem]
                    refine .inl ?_
                    refine wpAny_all (rs := [3]) (by kernel_rfl) (by simp) ?_
                    intro i hi
                    simp at hi
                    subst hi
                    refine wpOp_is (by rfl) (by rfl) ?_
                    refine wp_append_lies _ _ _ 36 (by rfl) w.heap.size 44 i0 _ 5 72 Tryz.underlying36 hi0 hz0 hz1 hz2 rfl (by decide) (.slice ao L.length cap) L.length (rowCells L) (by rfl) hrow ⟨w2.heap.size, 0, none⟩ 1 1 [.int .i64 (k.kind : Int), .string ⟨k.name.toArray⟩, .slice ao2 k.attrs.length cap2, .bool k.alone, .string ⟨k.data.toArray⟩] (by rfl) (by rfl) (cells_five _ _ _ _ _ _ _) (fun u hu => by simp at hu; rcases hu with rfl | rfl | rfl | rfl | rfl <;> rfl) (by omega) hq1 hq2 hz5 (w2.heap.size + 1) (by simp) ?_
                    intro gg cap5 w5 hown5 hgrow _ _
                    have hga := (World.grownBy_alloc w2 _ _).trans hgrow
                    have hn5 := (hga.block _ (Array.getElem?_eq_some_iff.1 hR2.out.told).1 (some_ne (own_apart hR2.out.row hR2.out.told (by intro cs fr e; cases e)))).trans hR2.out.told
                    have m5 : w5.cell? ⟨w.heap.size, 0, none⟩ = some (.slice ao L.length cap) := by unfold World.cell?; rw [hn5]; rfl
                    have f5 : w5.frozen? ⟨w.heap.size, 0, none⟩ = false := by simp [World.frozen?, hn5]
                    have hfin := hRd.out.more h2 g2 hov hga hown5
                    have hfl := hfin.rd.left
                    replace hfin := Lib.hid hfin
                    clear hown5 hgrow hga hn5
                    refine wpAny_all (rs := [4]) (by kernel_rfl) (by simp) ?_
                    intro i hi
                    simp at hi
                    subst hi
                    simp [wpOp, go_sem, m5, f5]
                    refine .inl ?_
                    refine wpAny_done (by kernel_rfl) ?_ _
                    try (go_wp2_with fail)
                    go_roundw
                    case rel => exact ⟨t2, L ++ [(k, _)], _, Lib.hid (by rw [List.map_append, ht]; exact hG2.out), by rw [List.length_append, List.length_singleton, ← list_len t2, ht, list_len]; omega, hfin⟩
                    case measure => rw [hfl, hleft, ← list_len t2, ht, list_len]; omega
                  · simp [wpOp, go_sem]
                    refine .inl ?_
                    refine wpAny_all (rs := [0]) (by kernel_rfl) (by simp) ?_
                    intro i hi
                    simp at hi
                    subst hi
                    simp [wpOp, go_sem]
                    rw [m1a]
                    simp
                    refine .inl ?_
                    refine wpAny_all (rs := [3]) (by kernel_rfl) (by simp) ?_
                    intro i hi
                    simp at hi
                    subst hi
                    refine wpOp_is (by rfl) (by rfl) ?_
                    refine wp_append_lies _ _ _ 36 (by rfl) w.heap.size 44 i0 _ 5 72 Tryz.underlying36 hi0 hz0 hz1 hz2 rfl (by decide) (.slice ao L.length cap) L.length (rowCells L) (by rfl) hrow ⟨w2.heap.size, 0, none⟩ 1 1 [.int .i64 (k.kind : Int), .string ⟨k.name.toArray⟩, .slice ao2 k.attrs.length cap2, .bool k.alone, .string ⟨k.data.toArray⟩] (by rfl) (by rfl) (cells_five _ _ _ _ _ _ _) (fun u hu => by simp at hu; rcases hu with rfl | rfl | rfl | rfl | rfl <;> rfl) (by omega) hq1 hq2 hz5 (w2.heap.size + 1) (by simp) ?_
                    intro gg cap5 w5 hown5 hgrow _ _
                    have hga := (World.grownBy_alloc w2 _ _).trans hgrow
                    have hn5 := (hga.block _ (Array.getElem?_eq_some_iff.1 hR2.out.told).1 (some_ne (own_apart hR2.out.row hR2.out.told (by intro cs fr e; cases e)))).trans hR2.out.told
                    have m5 : w5.cell? ⟨w.heap.size, 0, none⟩ = some (.slice ao L.length cap) := by unfold World.cell?; rw [hn5]; rfl
                    have f5 : w5.frozen? ⟨w.heap.size, 0, none⟩ = false := by simp [World.frozen?, hn5]
                    have hfin := hRd.out.more h2 g2 hov hga hown5
                    have hfl := hfin.rd.left
                    replace hfin := Lib.hid hfin
                    clear hown5 hgrow hga hn5
                    refine wpAny_all (rs := [4]) (by kernel_rfl) (by simp) ?_
                    intro i hi
                    simp at hi
                    subst hi
                    simp [wpOp, go_sem, m5, f5]
                    refine .inl ?_
                    refine wpAny_done (by kernel_rfl) ?_ _
                    try (go_wp2_with fail)
                    go_roundw
                    case rel => exact ⟨t2, L ++ [(k, _)], _, Lib.hid (by rw [List.map_append, ht]; exact hG2.out), by rw [List.length_append, List.length_singleton, ← list_len t2, ht, list_len]; omega, hfin⟩
                    case measure => rw [hfl, hleft, ← list_len t2, ht, list_len]; omega
        · simp [wpOp, go_sem]
          refine .inl ?_
          refine wpAny_all (rs := [0]) (by kernel_rfl) (by simp) ?_
          intro i hi
          simp at hi
          subst hi
          simp [wpOp, go_sem]
          rw [m1a]
          simp
          refine .inl ?_
          refine wpAny_all (rs := [3]) (by kernel_rfl) (by simp) ?_
          intro i hi
          simp at hi
          subst hi
          refine wpOp_is (by rfl) (by rfl) ?_
          refine wp_append_lies _ _ _ 36 (by rfl) w.heap.size 44 i0 _ 5 72 Tryz.underlying36 hi0 hz0 hz1 hz2 rfl (by decide) (.slice none 0 0) 0 [] (by rfl) hrow ⟨w2.heap.size, 0, none⟩ 1 1 [.int .i64 (k.kind : Int), .string ⟨k.name.toArray⟩, .slice ao2 k.attrs.length cap2, .bool k.alone, .string ⟨k.data.toArray⟩] (by rfl) (by rfl) (cells_five _ _ _ _ _ _ _) (fun u hu => by simp at hu; rcases hu with rfl | rfl | rfl | rfl | rfl <;> rfl) (by omega) hq1 hq2 hz5 (w2.heap.size + 1) (by simp) ?_
          intro gg cap5 w5 hown5 hgrow _ _
          have hga := (World.grownBy_alloc w2 _ _).trans hgrow
          have hn5 := (hga.block _ (Array.getElem?_eq_some_iff.1 hR2.out.told).1 (some_ne (own_apart hR2.out.row hR2.out.told (by intro cs fr e; cases e)))).trans hR2.out.told
          have m5 : w5.cell? ⟨w.heap.size, 0, none⟩ = some (.slice none 0 0) := by unfold World.cell?; rw [hn5]; rfl
          have f5 : w5.frozen? ⟨w.heap.size, 0, none⟩ = false := by simp [World.frozen?, hn5]
          have hfin := hRd.out.more h2 g2 hov hga hown5
          have hfl := hfin.rd.left
          replace hfin := Lib.hid hfin
          clear hown5 hgrow hga hn5
          refine wpAny_all (rs := [4]) (by kernel_rfl) (by simp) ?_
          intro i hi
          simp at hi
          subst hi
          simp [wpOp, go_sem, m5, f5]
          refine .inl ?_
          refine wpAny_done (by kernel_rfl) ?_ _
          clear bT m1 m1a hk1 hk2 hrow hz5 hR2 m5 f5 hR hRd c1 c2 h2 g2 hov
          go_wp2_with fail
          go_loopw [13] (fun _ wr => ∃ (sr : ByteArray) (L : List (T.Tok × Value)) (v : Value), Hid (T.Goes true s.data.toList (L.map Prod.fst) sr.data.toList) ∧ L.length + sr.size ≤ 1000000 ∧ Hid (Rt w sr L v wr)) (fun _ wr => leftAt (w.heap.size + 2) wr)
          case atStart => exact ⟨t2, [] ++ [(k, _)], _, Lib.hid (by rw [ht]; exact hgo.out), by rw [List.nil_append, List.length_singleton, ← list_len t2, ht, list_len]; omega, hfin⟩
          case round =>
            obtain ⟨sr, L, v, hG, hLs, hR⟩ := hrel
            clear hfin hfl hgo ht
            have hleft := hR.out.rd.left
            have q0 : wr.cell? ⟨w.heap.size + 1 + 1, 0, none⟩ = some (.string sr) := hR.out.rd.cell
            by_cases h0 : sr.size = 0
            · have he := empty_is h0
              have hnil : sr.data.toList = [] := List.eq_nil_of_length_eq_zero (by rw [list_len]; exact h0)
              have hend := hG.out
              rw [hnil] at hend
              replace hend := Lib.hid (T.goes_end hend)
              obtain ⟨ao, cap, rfl, hin, hcap⟩ := hR.out.toks
              have bT : wr.cell? ⟨w.heap.size, 0, none⟩ = some (.slice ao L.length cap) := hR.out.cT
              have bE : wr.cell? ⟨w.heap.size + 1, 0, none⟩ = some (.int .i64 0) := hR.out.cE
              have fT : wr.frozen? ⟨w.heap.size, 0, none⟩ = false := hR.out.fT
              have fE : wr.frozen? ⟨w.heap.size + 1, 0, none⟩ = false := hR.out.fE
              have hR2 := Lib.hid hR.out.same.number
              clear hnil hG hin hcap
              go_wp2_with fail
              refine leaves_cons (f := 37) (args := #[.pointer (some ⟨w.heap.size, 0, none⟩), .pointer (some ⟨w.heap.size + 1, 0, none⟩)]) (by simp) (by simp [go_sem]) ?_
              refine (catch_calm w.heap.size (w.heap.size + 1) ao L.length cap _ (by omega) hR2.out.cT 0 hR2.out.cE hR2.out.fT hR2.out.fE).mono ?_
              rintro e u' w5 ⟨rfl, rfl, w6, b6, hw5⟩
              have h7 : Rt w sr L (.slice ao L.length cap) w5 := by rw [hw5]; exact (hR2.out.grow b6).same.number
              have c7T := h7.cT
              have c7E := h7.cE
              clear hw5 b6 bT bE fT fE hR2 q0
              simp [Leaves, settle, results, Tryz.results20, go_sem, c7T, c7E]
              obtain ⟨ao2, cap2, e2, hin, hcap⟩ := h7.toks
              cases e2
              rw [hend.out]
              exact ⟨ao, cap, L, rfl, rfl, hin, hcap, h7.below⟩
            · have he := ne_empty (s := sr) (by omega)
              have hne : sr.data.toList ≠ [] := by intro e; rw [← list_len sr, e] at h0; exact h0 rfl
              have bT : wr.cell? ⟨w.heap.size, 0, none⟩ = some v := hR.out.cT
              have hRd : Hid (Rt w sr L v wr.drew) := Lib.hid (hR.out.grow (Below.refl _ _).drew)
              have c2 := fun w' (h : At (w.heap.size + 2) sr w') => token_any (w.heap.size + 2) sr w' h
              cases hn : T.next false sr.data.toList with
              | error q =>
                have hr := Lib.hid (T.goes_err hG.out hne hn)
                rw [hn] at c2
                obtain ⟨ao, cap, rfl, -, -⟩ := hR.out.toks
                clear hn hne hG
                go_wp2_with fail
                apply wp_region_any mixedTok
                refine wpAny_all (rs := [0, 1]) (by kernel_rfl) (by simp) ?_
                intro i hi
                simp at hi
                rcases hi with rfl | rfl
                · simp [wpOp, go_sem, bT]
                  refine .inl ?_
                  refine wpAny_all (rs := [1]) (by kernel_rfl) (by simp) ?_
                  intro i hi
                  simp at hi
                  subst hi
                  simp [wpOp, go_sem]
                  refine .inl ?_
                  refine (c2 _ hRd.out.rd).mono ?_
                  rintro e w2 ⟨rfl, g2⟩
                  have hP := (hRd.out.below.grown g2 hRd.out.below.size (fun k e => by cases e; omega))
                  have n1 := (g2.block _ (Array.getElem?_eq_some_iff.1 hRd.out.told).1 (by simp)).trans hRd.out.told
                  have n2 := (g2.block _ (Array.getElem?_eq_some_iff.1 hRd.out.err).1 (by simp)).trans hRd.out.err
                  have m1 : w2.cell? ⟨w.heap.size, 0, none⟩ = some (.slice ao L.length cap) := by unfold World.cell?; rw [n1]; rfl
                  have m2 : w2.cell? ⟨w.heap.size + 1, 0, none⟩ = some (.int .i64 0) := by unfold World.cell?; rw [n2]; rfl
                  have m3 : w2.frozen? ⟨w.heap.size, 0, none⟩ = false := by simp [World.frozen?, n1]
                  have m4 : w2.frozen? ⟨w.heap.size + 1, 0, none⟩ = false := by simp [World.frozen?, n2]
                  refine leaves_cons (f := 37) (args := #[.pointer (some ⟨w.heap.size, 0, none⟩), .pointer (some ⟨w.heap.size + 1, 0, none⟩)]) (by simp) (by simp [go_sem]) ?_
                  refine (catch_tossed_at w.heap.size w.heap.size (w.heap.size + 1) ao L.length cap (q : Int) _ (by omega) (Nat.le_refl _) (by omega) m1 0 m2 m3 m4 hP.size).mono ?_
                  rintro e u' w5 ⟨rfl, rfl, hP5, hQ5, b5⟩
                  have b6 := hP.trans b5
                  simp [Leaves, settle, results, Tryz.results20, go_sem, hP5, hQ5]
                  exact told_none hr.out b6
                · simp [wpOp, go_sem]
                  refine .inl ?_
                  refine (c2 _ hRd.out.rd).mono ?_
                  rintro e w2 ⟨rfl, g2⟩
                  have hP := (hRd.out.below.grown g2 hRd.out.below.size (fun k e => by cases e; omega))
                  have n1 := (g2.block _ (Array.getElem?_eq_some_iff.1 hRd.out.told).1 (by simp)).trans hRd.out.told
                  have n2 := (g2.block _ (Array.getElem?_eq_some_iff.1 hRd.out.err).1 (by simp)).trans hRd.out.err
                  have m1 : w2.cell? ⟨w.heap.size, 0, none⟩ = some (.slice ao L.length cap) := by unfold World.cell?; rw [n1]; rfl
                  have m2 : w2.cell? ⟨w.heap.size + 1, 0, none⟩ = some (.int .i64 0) := by unfold World.cell?; rw [n2]; rfl
                  have m3 : w2.frozen? ⟨w.heap.size, 0, none⟩ = false := by simp [World.frozen?, n1]
                  have m4 : w2.frozen? ⟨w.heap.size + 1, 0, none⟩ = false := by simp [World.frozen?, n2]
                  refine leaves_cons (f := 37) (args := #[.pointer (some ⟨w.heap.size, 0, none⟩), .pointer (some ⟨w.heap.size + 1, 0, none⟩)]) (by simp) (by simp [go_sem]) ?_
                  refine (catch_tossed_at w.heap.size w.heap.size (w.heap.size + 1) ao L.length cap (q : Int) _ (by omega) (Nat.le_refl _) (by omega) m1 0 m2 m3 m4 hP.size).mono ?_
                  rintro e u' w5 ⟨rfl, rfl, hP5, hQ5, b5⟩
                  have b6 := hP.trans b5
                  simp [Leaves, settle, results, Tryz.results20, go_sem, hP5, hQ5]
                  exact told_none hr.out b6
              | ok x =>
                obtain ⟨k, lr⟩ := x
                obtain ⟨t, rfl⟩ := bytes_of lr
                have hG2 := T.goes_step hG.out hne hn
                have hlt := T.next_less hne hn
                rw [list_len, list_len] at hlt
                rw [hn] at c2
                obtain ⟨ao, cap, rfl, -, -⟩ := hR.out.toks
                obtain ⟨i0, hi0, hz0, hz1, hz2⟩ := info_parts infoTok
                have hq1 : L.length + 1 ≤ maxLen := by unfold maxLen; omega
                have hq2 : (L.length + 1) * 72 ≤ 140737488355328 := by omega
                have hbs := hRd.out.below.size
                replace hG2 := Lib.hid hG2
                clear hn hne hG
                go_wp2_with fail
                apply wp_region_any mixedTok
                refine wpAny_all (rs := [0, 1]) (by kernel_rfl) (by simp) ?_
                intro i hi
                simp at hi
                rcases hi with rfl | rfl
                · simp [wpOp, go_sem, bT]
                  refine .inl ?_
                  refine wpAny_all (rs := [1]) (by kernel_rfl) (by simp) ?_
                  intro i hi
                  simp at hi
                  subst hi
                  simp [wpOp, go_sem]
                  refine .inl ?_
                  refine (c2 _ hRd.out.rd).mono ?_
                  rintro e w2 ⟨t2, ht, v2, rfl, hov, h2, g2⟩
                  obtain ⟨ao2, cap2, hv2, -⟩ := pairs_of_owns hov
                  rw [List.length_map] at hv2
                  subst hv2
                  dsimp only at hov ht
                  unfold tokVal
                  have hR2 := hRd.out.on h2 g2
                  have m1 := hR2.cT
                  have hk1 := World.block_lt_of_cell? w2 _ m1
                  dsimp only at hk1
                  have hk2 : ¬ w.heap.size = w2.heap.size := by omega
                  have hrow := World.ownsRow.alloc hR2.row (.cells #[.int .i64 (k.kind : Int), .string ⟨k.name.toArray⟩, .slice ao2 k.attrs.length cap2, .bool k.alone, .string ⟨k.data.toArray⟩] 44)
                  have m1a : (w2.alloc (.cells #[.int .i64 (k.kind : Int), .string ⟨k.name.toArray⟩, .slice ao2 k.attrs.length cap2, .bool k.alone, .string ⟨k.data.toArray⟩] 44)).cell? ⟨w.heap.size, 0, none⟩ = some (.slice ao L.length cap) := (hR2.grow ((Below.refl _ _).alloc (Nat.le_refl _) (.cells #[.int .i64 (k.kind : Int), .string ⟨k.name.toArray⟩, .slice ao2 k.attrs.length cap2, .bool k.alone, .string ⟨k.data.toArray⟩] 44))).cT
                  have hz5 : w.heap.size ≤ (w2.alloc (.cells #[.int .i64 (k.kind : Int), .string ⟨k.name.toArray⟩, .slice ao2 k.attrs.length cap2, .bool k.alone, .string ⟨k.data.toArray⟩] 44)).heap.size := by simp; omega
                  replace hR2 := Lib.hid hR2
                  simp only []
                  refine wpAny_all (rs := [2]) (by kernel_rfl) (by simp) ?_
                  intro i hi
                  simp at hi
                  subst hi
                  simp [wpOp, go_sem]
                  refine .inl ?_
                  refine wpAny_all (rs := [3]) (by kernel_rfl) (by simp) ?_
                  intro i hi
                  simp at hi
                  subst hi
                  refine wpOp_is (by rfl) (by rfl) ?_
                  refine wp_append_lies _ _ _ 36 (by rfl) w.heap.size 44 i0 _ 5 72 Tryz.underlying36 hi0 hz0 hz1 hz2 rfl (by decide) (.slice ao L.length cap) L.length (rowCells L) (by rfl) hrow ⟨w2.heap.size, 0, none⟩ 1 1 [.int .i64 (k.kind : Int), .string ⟨k.name.toArray⟩, .slice ao2 k.attrs.length cap2, .bool k.alone, .string ⟨k.data.toArray⟩] (by rfl) (by rfl) (cells_five _ _ _ _ _ _ _) (fun u hu => by simp at hu; rcases hu with rfl | rfl | rfl | rfl | rfl <;> rfl) (by omega) hq1 hq2 hz5 (w2.heap.size + 1) (by simp) ?_
                  intro gg cap5 w5 hown5 hgrow _ _
                  have hga := (World.grownBy_alloc w2 _ _).trans hgrow
                  have hn5 := (hga.block _ (Array.getElem?_eq_some_iff.1 hR2.out.told).1 (some_ne (own_apart hR2.out.row hR2.out.told (by intro cs fr e; cases e)))).trans hR2.out.told
                  have m5 : w5.cell? ⟨w.heap.size, 0, none⟩ = some (.slice ao L.length cap) := by unfold World.cell?; rw [hn5]; rfl
                  have f5 : w5.frozen? ⟨w.heap.size, 0, none⟩ = false := by simp [World.frozen?, hn5]
                  have hfin := hRd.out.more h2 g2 hov hga hown5
                  have hfl := hfin.rd.left
                  replace hfin := Lib.hid hfin
                  clear hown5 hgrow hga hn5
                  refine wpAny_all (rs := [4]) (by kernel_rfl) (by simp) ?_
                  intro i hi
                  simp at hi
                  subst hi
                  simp [wpOp, go_sem, m5, f5]
                  refine .inl ?_
                  refine wpAny_done (by kernel_rfl) ?_ _
                  try (go_wp2_with fail)
                  go_roundw
                  case rel => exact ⟨t2, L ++ [(k, _)], _, Lib.hid (by rw [List.map_append, ht]; exact hG2.out), by rw [List.length_append, List.length_singleton, ← list_len t2, ht, list_len]; omega, hfin⟩
                  case measure => rw [hfl, hleft, ← list_len t2, ht, list_len]; omega
                · simp [wpOp, go_sem]
                  refine .inl ?_
                  refine (c2 _ hRd.out.rd).mono ?_
                  rintro e w2 ⟨t2, ht, v2, rfl, hov, h2, g2⟩
                  obtain ⟨ao2, cap2, hv2, -⟩ := pairs_of_owns hov
                  rw [List.length_map] at hv2
                  subst hv2
                  dsimp only at hov ht
                  unfold tokVal
                  have hR2 := hRd.out.on h2 g2
                  have m1 := hR2.cT
                  have hk1 := World.block_lt_of_cell? w2 _ m1
                  dsimp only at hk1
                  have hk2 : ¬ w.heap.size = w2.heap.size := by omega
                  have hrow := World.ownsRow.alloc hR2.row (.cells #[.int .i64 (k.kind : Int), .string ⟨k.name.toArray⟩, .slice ao2 k.attrs.length cap2, .bool k.alone, .string ⟨k.data.toArray⟩] 44)
                  have m1a : (w2.alloc (.cells #[.int .i64 (k.kind : Int), .string ⟨k.name.toArray⟩, .slice ao2 k.attrs.length cap2, .bool k.alone, .string ⟨k.data.toArray⟩] 44)).cell? ⟨w.heap.size, 0, none⟩ = some (.slice ao L.length cap) := (hR2.grow ((Below.refl _ _).alloc (Nat.le_refl _) (.cells #[.int .i64 (k.kind : Int), .string ⟨k.name.toArray⟩, .slice ao2 k.attrs.length cap2, .bool k.alone, .string ⟨k.data.toArray⟩] 44))).cT
                  have hz5 : w.heap.size ≤ (w2.alloc (.cells #[.int .i64 (k.kind : Int), .string ⟨k.name.toArray⟩, .slice ao2 k.attrs.length cap2, .bool k.alone, .string ⟨k.data.toArray⟩] 44)).heap.size := by simp; omega
                  replace hR2 := Lib.hid hR2
                  simp only []
                  refine wpAny_all (rs := [0, 2]) (by kernel_rfl) (by simp) ?_
                  intro i hi
                  simp at hi
                  rcases hi with rfl | rfl
                  · simp [wpOp, go_sem, m1]
                    refine .inl ?_
                    refine wpAny_all (rs := [2]) (by kernel_rfl) (by simp) ?_
                    intro i hi
                    simp at hi
                    subst hi
                    simp [wpOp, go_sem]
                    refine .inl ?_
                    refine wpAny_all (rs := [3]) (by kernel_rfl) (by simp) ?_
                    intro i hi
                    simp at hi
                    subst hi
                    refine wpOp_is (by rfl) (by rfl) ?_
                    refine wp_append_lies _ _ _ 36 (by rfl) w.heap.size 44 i0 _ 5 72 Tryz.underlying36 hi0 hz0 hz1 hz2 rfl (by decide) (.slice ao L.length cap) L.length (rowCells L) (by rfl) hrow ⟨w2.heap.size, 0, none⟩ 1 1 [.int .i64 (k.kind : Int), .string ⟨k.name.toArray⟩, .slice ao2 k.attrs.length cap2, .bool k.alone, .string ⟨k.data.toArray⟩] (by rfl) (by rfl) (cells_five _ _ _ _ _ _ _) (fun u hu => by simp at hu; rcases hu with rfl | rfl | rfl | rfl | rfl <;> rfl) (by omega) hq1 hq2 hz5 (w2.heap.size + 1) (by simp) ?_
                    intro gg cap5 w5 hown5 hgrow _ _
                    have hga := (World.grownBy_alloc w2 _ _).trans hgrow
                    have hn5 := (hga.block _ (Array.getElem?_eq_some_iff.1 hR2.out.told).1 (some_ne (own_apart hR2.out.row hR2.out.told (by intro cs fr e; cases e)))).trans hR2.out.told
                    have m5 : w5.cell? ⟨w.heap.size, 0, none⟩ = some (.slice ao L.length cap) := by unfold World.cell?; rw [hn5]; rfl
                    have f5 : w5.frozen? ⟨w.heap.size, 0, none⟩ = false := by simp [World.frozen?, hn5]
                    have hfin := hRd.out.more h2 g2 hov hga hown5
                    have hfl := hfin.rd.left
                    replace hfin := Lib.hid hfin
                    clear hown5 hgrow hga hn5
                    refine wpAny_all (rs := [4]) (by kernel_rfl) (by simp) ?_
                    intro i hi
                    simp at hi
                    subst hi
                    simp [wpOp, go_sem, m5, f5]
                    refine .inl ?_
                    refine wpAny_done (by kernel_rfl) ?_ _
                    try (go_wp2_with fail)
                    go_roundw
                    case rel => exact ⟨t2, L ++ [(k, _)], _, Lib.hid (by rw [List.map_append, ht]; exact hG2.out), by rw [List.length_append, List.length_singleton, ← list_len t2, ht, list_len]; omega, hfin⟩
                    case measure => rw [hfl, hleft, ← list_len t2, ht, list_len]; omega
                  · simp [wpOp, go_sem]
                    refine .inl ?_
                    refine wpAny_all (rs := [0]) (by kernel_rfl) (by simp) ?_
                    intro i hi
                    simp at hi
                    subst hi
                    simp [wpOp, go_sem]
                    rw [m1a]
                    simp
                    refine .inl ?_
                    refine wpAny_all (rs := [3]) (by kernel_rfl) (by simp) ?_
                    intro i hi
                    simp at hi
                    subst hi
                    refine wpOp_is (by rfl) (by rfl) ?_
                    refine wp_append_lies _ _ _ 36 (by rfl) w.heap.size 44 i0 _ 5 72 Tryz.underlying36 hi0 hz0 hz1 hz2 rfl (by decide) (.slice ao L.length cap) L.length (rowCells L) (by rfl) hrow ⟨w2.heap.size, 0, none⟩ 1 1 [.int .i64 (k.kind : Int), .string ⟨k.name.toArray⟩, .slice ao2 k.attrs.length cap2, .bool k.alone, .string ⟨k.data.toArray⟩] (by rfl) (by rfl) (cells_five _ _ _ _ _ _ _) (fun u hu => by simp at hu; rcases hu with rfl | rfl | rfl | rfl | rfl <;> rfl) (by omega) hq1 hq2 hz5 (w2.heap.size + 1) (by simp) ?_
                    intro gg cap5 w5 hown5 hgrow _ _
                    have hga := (World.grownBy_alloc w2 _ _).trans hgrow
                    have hn5 := (hga.block _ (Array.getElem?_eq_some_iff.1 hR2.out.told).1 (some_ne (own_apart hR2.out.row hR2.out.told (by intro cs fr e; cases e)))).trans hR2.out.told
                    have m5 : w5.cell? ⟨w.heap.size, 0, none⟩ = some (.slice ao L.length cap) := by unfold World.cell?; rw [hn5]; rfl
                    have f5 : w5.frozen? ⟨w.heap.size, 0, none⟩ = false := by simp [World.frozen?, hn5]
                    have hfin := hRd.out.more h2 g2 hov hga hown5
                    have hfl := hfin.rd.left
                    replace hfin := Lib.hid hfin
                    clear hown5 hgrow hga hn5
                    refine wpAny_all (rs := [4]) (by kernel_rfl) (by simp) ?_
                    intro i hi
                    simp at hi
                    subst hi
                    simp [wpOp, go_sem, m5, f5]
                    refine .inl ?_
                    refine wpAny_done (by kernel_rfl) ?_ _
                    try (go_wp2_with fail)
                    go_roundw
                    case rel => exact ⟨t2, L ++ [(k, _)], _, Lib.hid (by rw [List.map_append, ht]; exact hG2.out), by rw [List.length_append, List.length_singleton, ← list_len t2, ht, list_len]; omega, hfin⟩
                    case measure => rw [hfl, hleft, ← list_len t2, ht, list_len]; omega
  | false =>
    have hgo := Lib.hid (T.goes_start hd)
    have c1 := fun w' (h : At (w.heap.size + 2) s w') => isAt_any (w.heap.size + 2) s w' h false hd
    clear hd
    go_enter_defers Tryz.func20, Tryz.ntmps20
    go_wp2_with fail
    (with_reducible refine (c1 _ hR0.rd).mono ?_); rintro e w1 ⟨rfl, rfl⟩
    go_wp2_with fail
    go_loopw [13] (fun _ wr => ∃ (sr : ByteArray) (L : List (T.Tok × Value)) (v : Value), Hid (T.Goes true s.data.toList (L.map Prod.fst) sr.data.toList) ∧ L.length + sr.size ≤ 1000000 ∧ Hid (Rt w sr L v wr)) (fun _ wr => leftAt (w.heap.size + 2) wr)
    case atStart => exact ⟨s, [], _, hgo, by simpa using hs, Lib.hid hR0⟩
    case round =>
      obtain ⟨sr, L, v, hG, hLs, hR⟩ := hrel
      clear hR0 c1 hgo
      have hleft := hR.out.rd.left
      have q0 : wr.cell? ⟨w.heap.size + 1 + 1, 0, none⟩ = some (.string sr) := hR.out.rd.cell
      by_cases h0 : sr.size = 0
      · have he := empty_is h0
        have hnil : sr.data.toList = [] := List.eq_nil_of_length_eq_zero (by rw [list_len]; exact h0)
        have hend := hG.out
        rw [hnil] at hend
        replace hend := Lib.hid (T.goes_end hend)
        obtain ⟨ao, cap, rfl, hin, hcap⟩ := hR.out.toks
        have bT : wr.cell? ⟨w.heap.size, 0, none⟩ = some (.slice ao L.length cap) := hR.out.cT
        have bE : wr.cell? ⟨w.heap.size + 1, 0, none⟩ = some (.int .i64 0) := hR.out.cE
        have fT : wr.frozen? ⟨w.heap.size, 0, none⟩ = false := hR.out.fT
        have fE : wr.frozen? ⟨w.heap.size + 1, 0, none⟩ = false := hR.out.fE
        have hR2 := Lib.hid hR.out.same.number
        clear hnil hG hin hcap
        go_wp2_with fail
        refine leaves_cons (f := 37) (args := #[.pointer (some ⟨w.heap.size, 0, none⟩), .pointer (some ⟨w.heap.size + 1, 0, none⟩)]) (by simp) (by simp [go_sem]) ?_
        refine (catch_calm w.heap.size (w.heap.size + 1) ao L.length cap _ (by omega) hR2.out.cT 0 hR2.out.cE hR2.out.fT hR2.out.fE).mono ?_
        rintro e u' w5 ⟨rfl, rfl, w6, b6, hw5⟩
        have h7 : Rt w sr L (.slice ao L.length cap) w5 := by rw [hw5]; exact (hR2.out.grow b6).same.number
        have c7T := h7.cT
        have c7E := h7.cE
        clear hw5 b6 bT bE fT fE hR2 q0
        simp [Leaves, settle, results, Tryz.results20, go_sem, c7T, c7E]
        obtain ⟨ao2, cap2, e2, hin, hcap⟩ := h7.toks
        cases e2
        rw [hend.out]
        exact ⟨ao, cap, L, rfl, rfl, hin, hcap, h7.below⟩
      · have he := ne_empty (s := sr) (by omega)
        have hne : sr.data.toList ≠ [] := by intro e; rw [← list_len sr, e] at h0; exact h0 rfl
        have bT : wr.cell? ⟨w.heap.size, 0, none⟩ = some v := hR.out.cT
        have hRd : Hid (Rt w sr L v wr.drew) := Lib.hid (hR.out.grow (Below.refl _ _).drew)
        have c2 := fun w' (h : At (w.heap.size + 2) sr w') => token_any (w.heap.size + 2) sr w' h
        cases hn : T.next false sr.data.toList with
        | error q =>
          have hr := Lib.hid (T.goes_err hG.out hne hn)
          rw [hn] at c2
          obtain ⟨ao, cap, rfl, -, -⟩ := hR.out.toks
          clear hn hne hG
          go_wp2_with fail
          apply wp_region_any mixedTok
          refine wpAny_all (rs := [0, 1]) (by kernel_rfl) (by simp) ?_
          intro i hi
          simp at hi
          rcases hi with rfl | rfl
          · simp [wpOp, go_sem, bT]
            refine .inl ?_
            refine wpAny_all (rs := [1]) (by kernel_rfl) (by simp) ?_
            intro i hi
            simp at hi
            subst hi
            simp [wpOp, go_sem]
            refine .inl ?_
            refine (c2 _ hRd.out.rd).mono ?_
            rintro e w2 ⟨rfl, g2⟩
            have hP := (hRd.out.below.grown g2 hRd.out.below.size (fun k e => by cases e; omega))
            have n1 := (g2.block _ (Array.getElem?_eq_some_iff.1 hRd.out.told).1 (by simp)).trans hRd.out.told
            have n2 := (g2.block _ (Array.getElem?_eq_some_iff.1 hRd.out.err).1 (by simp)).trans hRd.out.err
            have m1 : w2.cell? ⟨w.heap.size, 0, none⟩ = some (.slice ao L.length cap) := by unfold World.cell?; rw [n1]; rfl
            have m2 : w2.cell? ⟨w.heap.size + 1, 0, none⟩ = some (.int .i64 0) := by unfold World.cell?; rw [n2]; rfl
            have m3 : w2.frozen? ⟨w.heap.size, 0, none⟩ = false := by simp [World.frozen?, n1]
            have m4 : w2.frozen? ⟨w.heap.size + 1, 0, none⟩ = false := by simp [World.frozen?, n2]
            refine leaves_cons (f := 37) (args := #[.pointer (some ⟨w.heap.size, 0, none⟩), .pointer (some ⟨w.heap.size + 1, 0, none⟩)]) (by simp) (by simp [go_sem]) ?_
            refine (catch_tossed_at w.heap.size w.heap.size (w.heap.size + 1) ao L.length cap (q : Int) _ (by omega) (Nat.le_refl _) (by omega) m1 0 m2 m3 m4 hP.size).mono ?_
            rintro e u' w5 ⟨rfl, rfl, hP5, hQ5, b5⟩
            have b6 := hP.trans b5
            simp [Leaves, settle, results, Tryz.results20, go_sem, hP5, hQ5]
            exact told_none hr.out b6
          · simp [wpOp, go_sem]
            refine .inl ?_
            refine (c2 _ hRd.out.rd).mono ?_
            rintro e w2 ⟨rfl, g2⟩
            have hP := (hRd.out.below.grown g2 hRd.out.below.size (fun k e => by cases e; omega))
            have n1 := (g2.block _ (Array.getElem?_eq_some_iff.1 hRd.out.told).1 (by simp)).trans hRd.out.told
            have n2 := (g2.block _ (Array.getElem?_eq_some_iff.1 hRd.out.err).1 (by simp)).trans hRd.out.err
            have m1 : w2.cell? ⟨w.heap.size, 0, none⟩ = some (.slice ao L.length cap) := by unfold World.cell?; rw [n1]; rfl
            have m2 : w2.cell? ⟨w.heap.size + 1, 0, none⟩ = some (.int .i64 0) := by unfold World.cell?; rw [n2]; rfl
            have m3 : w2.frozen? ⟨w.heap.size, 0, none⟩ = false := by simp [World.frozen?, n1]
            have m4 : w2.frozen? ⟨w.heap.size + 1, 0, none⟩ = false := by simp [World.frozen?, n2]
            refine leaves_cons (f := 37) (args := #[.pointer (some ⟨w.heap.size, 0, none⟩), .pointer (some ⟨w.heap.size + 1, 0, none⟩)]) (by simp) (by simp [go_sem]) ?_
            refine (catch_tossed_at w.heap.size w.heap.size (w.heap.size + 1) ao L.length cap (q : Int) _ (by omega) (Nat.le_refl _) (by omega) m1 0 m2 m3 m4 hP.size).mono ?_
            rintro e u' w5 ⟨rfl, rfl, hP5, hQ5, b5⟩
            have b6 := hP.trans b5
            simp [Leaves, settle, results, Tryz.results20, go_sem, hP5, hQ5]
            exact told_none hr.out b6
        | ok x =>
          obtain ⟨k, lr⟩ := x
          obtain ⟨t, rfl⟩ := bytes_of lr
          have hG2 := T.goes_step hG.out hne hn
          have hlt := T.next_less hne hn
          rw [list_len, list_len] at hlt
          rw [hn] at c2
          obtain ⟨ao, cap, rfl, -, -⟩ := hR.out.toks
          obtain ⟨i0, hi0, hz0, hz1, hz2⟩ := info_parts infoTok
          have hq1 : L.length + 1 ≤ maxLen := by unfold maxLen; omega
          have hq2 : (L.length + 1) * 72 ≤ 140737488355328 := by omega
          have hbs := hRd.out.below.size
          replace hG2 := Lib.hid hG2
          clear hn hne hG
          go_wp2_with fail
          apply wp_region_any mixedTok
          refine wpAny_all (rs := [0, 1]) (by kernel_rfl) (by simp) ?_
          intro i hi
          simp at hi
          rcases hi with rfl | rfl
          · simp [wpOp, go_sem, bT]
            refine .inl ?_
            refine wpAny_all (rs := [1]) (by kernel_rfl) (by simp) ?_
            intro i hi
            simp at hi
            subst hi
            simp [wpOp, go_sem]
            refine .inl ?_
            refine (c2 _ hRd.out.rd).mono ?_
            rintro e w2 ⟨t2, ht, v2, rfl, hov, h2, g2⟩
            obtain ⟨ao2, cap2, hv2, -⟩ := pairs_of_owns hov
            rw [List.length_map] at hv2
            subst hv2
            dsimp only at hov ht
            unfold tokVal
            have hR2 := hRd.out.on h2 g2
            have m1 := hR2.cT
            have hk1 := World.block_lt_of_cell? w2 _ m1
            dsimp only at hk1
            have hk2 : ¬ w.heap.size = w2.heap.size := by omega
            have hrow := World.ownsRow.alloc hR2.row (.cells #[.int .i64 (k.kind : Int), .string ⟨k.name.toArray⟩, .slice ao2 k.attrs.length cap2, .bool k.alone, .string ⟨k.data.toArray⟩] 44)
            have m1a : (w2.alloc (.cells #[.int .i64 (k.kind : Int), .string ⟨k.name.toArray⟩, .slice ao2 k.attrs.length cap2, .bool k.alone, .string ⟨k.data.toArray⟩] 44)).cell? ⟨w.heap.size, 0, none⟩ = some (.slice ao L.length cap) := (hR2.grow ((Below.refl _ _).alloc (Nat.le_refl _) (.cells #[.int .i64 (k.kind : Int), .string ⟨k.name.toArray⟩, .slice ao2 k.attrs.length cap2, .bool k.alone, .string ⟨k.data.toArray⟩] 44))).cT
            have hz5 : w.heap.size ≤ (w2.alloc (.cells #[.int .i64 (k.kind : Int), .string ⟨k.name.toArray⟩, .slice ao2 k.attrs.length cap2, .bool k.alone, .string ⟨k.data.toArray⟩] 44)).heap.size := by simp; omega
            replace hR2 := Lib.hid hR2
            simp only []
            refine wpAny_all (rs := [2]) (by kernel_rfl) (by simp) ?_
            intro i hi
            simp at hi
            subst hi
            simp [wpOp, go_sem]
            refine .inl ?_
            refine wpAny_all (rs := [3]) (by kernel_rfl) (by simp) ?_
            intro i hi
            simp at hi
            subst hi
            refine wpOp_is (by rfl) (by rfl) ?_
            refine wp_append_lies _ _ _ 36 (by rfl) w.heap.size 44 i0 _ 5 72 Tryz.underlying36 hi0 hz0 hz1 hz2 rfl (by decide) (.slice ao L.length cap) L.length (rowCells L) (by rfl) hrow ⟨w2.heap.size, 0, none⟩ 1 1 [.int .i64 (k.kind : Int), .string ⟨k.name.toArray⟩, .slice ao2 k.attrs.length cap2, .bool k.alone, .string ⟨k.data.toArray⟩] (by rfl) (by rfl) (cells_five _ _ _ _ _ _ _) (fun u hu => by simp at hu; rcases hu with rfl | rfl | rfl | rfl | rfl <;> rfl) (by omega) hq1 hq2 hz5 (w2.heap.size + 1) (by simp) ?_
            intro gg cap5 w5 hown5 hgrow _ _
            have hga := (World.grownBy_alloc w2 _ _).trans hgrow
            have hn5 := (hga.block _ (Array.getElem?_eq_some_iff.1 hR2.out.told).1 (some_ne (own_apart hR2.out.row hR2.out.told (by intro cs fr e; cases e)))).trans hR2.out.told
            have m5 : w5.cell? ⟨w.heap.size, 0, none⟩ = some (.slice ao L.length cap) := by unfold World.cell?; rw [hn5]; rfl
            have f5 : w5.frozen? ⟨w.heap.size, 0, none⟩ = false := by simp [World.frozen?, hn5]
            have hfin := hRd.out.more h2 g2 hov hga hown5
            have hfl := hfin.rd.left
            replace hfin := Lib.hid hfin
            clear hown5 hgrow hga hn5
            refine wpAny_all (rs := [4]) (by kernel_rfl) (by simp) ?_
            intro i hi
            simp at hi
            subst hi
            simp [wpOp, go_sem, m5, f5]
            refine .inl ?_
            refine wpAny_done (by kernel_rfl) ?_ _
            try (go_wp2_with fail)
            go_roundw
            case rel => exact ⟨t2, L ++ [(k, _)], _, Lib.hid (by rw [List.map_append, ht]; exact hG2.out), by rw [List.length_append, List.length_singleton, ← list_len t2, ht, list_len]; omega, hfin⟩
            case measure => rw [hfl, hleft, ← list_len t2, ht, list_len]; omega
          · simp [wpOp, go_sem]
            refine .inl ?_
            refine (c2 _ hRd.out.rd).mono ?_
            rintro e w2 ⟨t2, ht, v2, rfl, hov, h2, g2⟩
            obtain ⟨ao2, cap2, hv2, -⟩ := pairs_of_owns hov
            rw [List.length_map] at hv2
            subst hv2
            dsimp only at hov ht
            unfold tokVal
            have hR2 := hRd.out.on h2 g2
            have m1 := hR2.cT
            have hk1 := World.block_lt_of_cell? w2 _ m1
            dsimp only at hk1
            have hk2 : ¬ w.heap.size = w2.heap.size := by omega
            have hrow := World.ownsRow.alloc hR2.row (.cells #[.int .i64 (k.kind : Int), .string ⟨k.name.toArray⟩, .slice ao2 k.attrs.length cap2, .bool k.alone, .string ⟨k.data.toArray⟩] 44)
            have m1a : (w2.alloc (.cells #[.int .i64 (k.kind : Int), .string ⟨k.name.toArray⟩, .slice ao2 k.attrs.length cap2, .bool k.alone, .string ⟨k.data.toArray⟩] 44)).cell? ⟨w.heap.size, 0, none⟩ = some (.slice ao L.length cap) := (hR2.grow ((Below.refl _ _).alloc (Nat.le_refl _) (.cells #[.int .i64 (k.kind : Int), .string ⟨k.name.toArray⟩, .slice ao2 k.attrs.length cap2, .bool k.alone, .string ⟨k.data.toArray⟩] 44))).cT
            have hz5 : w.heap.size ≤ (w2.alloc (.cells #[.int .i64 (k.kind : Int), .string ⟨k.name.toArray⟩, .slice ao2 k.attrs.length cap2, .bool k.alone, .string ⟨k.data.toArray⟩] 44)).heap.size := by simp; omega
            replace hR2 := Lib.hid hR2
            simp only []
            refine wpAny_all (rs := [0, 2]) (by kernel_rfl) (by simp) ?_
            intro i hi
            simp at hi
            rcases hi with rfl | rfl
            · simp [wpOp, go_sem, m1]
              refine .inl ?_
              refine wpAny_all (rs := [2]) (by kernel_rfl) (by simp) ?_
              intro i hi
              simp at hi
              subst hi
              simp [wpOp, go_sem]
              refine .inl ?_
              refine wpAny_all (rs := [3]) (by kernel_rfl) (by simp) ?_
              intro i hi
              simp at hi
              subst hi
              refine wpOp_is (by rfl) (by rfl) ?_
              refine wp_append_lies _ _ _ 36 (by rfl) w.heap.size 44 i0 _ 5 72 Tryz.underlying36 hi0 hz0 hz1 hz2 rfl (by decide) (.slice ao L.length cap) L.length (rowCells L) (by rfl) hrow ⟨w2.heap.size, 0, none⟩ 1 1 [.int .i64 (k.kind : Int), .string ⟨k.name.toArray⟩, .slice ao2 k.attrs.length cap2, .bool k.alone, .string ⟨k.data.toArray⟩] (by rfl) (by rfl) (cells_five _ _ _ _ _ _ _) (fun u hu => by simp at hu; rcases hu with rfl | rfl | rfl | rfl | rfl <;> rfl) (by omega) hq1 hq2 hz5 (w2.heap.size + 1) (by simp) ?_
              intro gg cap5 w5 hown5 hgrow _ _
              have hga := (World.grownBy_alloc w2 _ _).trans hgrow
              have hn5 := (hga.block _ (Array.getElem?_eq_some_iff.1 hR2.out.told).1 (some_ne (own_apart hR2.out.row hR2.out.told (by intro cs fr e; cases e)))).trans hR2.out.told
              have m5 : w5.cell? ⟨w.heap.size, 0, none⟩ = some (.slice ao L.length cap) := by unfold World.cell?; rw [hn5]; rfl
              have f5 : w5.frozen? ⟨w.heap.size, 0, none⟩ = false := by simp [World.frozen?, hn5]
              have hfin := hRd.out.more h2 g2 hov hga hown5
              have hfl := hfin.rd.left
              replace hfin := Lib.hid hfin
              clear hown5 hgrow hga hn5
              refine wpAny_all (rs := [4]) (by kernel_rfl) (by simp) ?_
              intro i hi
              simp at hi
              subst hi
              simp [wpOp, go_sem, m5, f5]
              refine .inl ?_
              refine wpAny_done (by kernel_rfl) ?_ _
              try (go_wp2_with fail)
              go_roundw
              case rel => exact ⟨t2, L ++ [(k, _)], _, Lib.hid (by rw [List.map_append, ht]; exact hG2.out), by rw [List.length_append, List.length_singleton, ← list_len t2, ht, list_len]; omega, hfin⟩
              case measure => rw [hfl, hleft, ← list_len t2, ht, list_len]; omega
            · simp [wpOp, go_sem]
              refine .inl ?_
              refine wpAny_all (rs := [0]) (by kernel_rfl) (by simp) ?_
              intro i hi
              simp at hi
              subst hi
              simp [wpOp, go_sem]
              rw [m1a]
              simp
              refine .inl ?_
              refine wpAny_all (rs := [3]) (by kernel_rfl) (by simp) ?_
              intro i hi
              simp at hi
              subst hi
              refine wpOp_is (by rfl) (by rfl) ?_
              refine wp_append_lies _ _ _ 36 (by rfl) w.heap.size 44 i0 _ 5 72 Tryz.underlying36 hi0 hz0 hz1 hz2 rfl (by decide) (.slice ao L.length cap) L.length (rowCells L) (by rfl) hrow ⟨w2.heap.size, 0, none⟩ 1 1 [.int .i64 (k.kind : Int), .string ⟨k.name.toArray⟩, .slice ao2 k.attrs.length cap2, .bool k.alone, .string ⟨k.data.toArray⟩] (by rfl) (by rfl) (cells_five _ _ _ _ _ _ _) (fun u hu => by simp at hu; rcases hu with rfl | rfl | rfl | rfl | rfl <;> rfl) (by omega) hq1 hq2 hz5 (w2.heap.size + 1) (by simp) ?_
              intro gg cap5 w5 hown5 hgrow _ _
              have hga := (World.grownBy_alloc w2 _ _).trans hgrow
              have hn5 := (hga.block _ (Array.getElem?_eq_some_iff.1 hR2.out.told).1 (some_ne (own_apart hR2.out.row hR2.out.told (by intro cs fr e; cases e)))).trans hR2.out.told
              have m5 : w5.cell? ⟨w.heap.size, 0, none⟩ = some (.slice ao L.length cap) := by unfold World.cell?; rw [hn5]; rfl
              have f5 : w5.frozen? ⟨w.heap.size, 0, none⟩ = false := by simp [World.frozen?, hn5]
              have hfin := hRd.out.more h2 g2 hov hga hown5
              have hfl := hfin.rd.left
              replace hfin := Lib.hid hfin
              clear hown5 hgrow hga hn5
              refine wpAny_all (rs := [4]) (by kernel_rfl) (by simp) ?_
              intro i hi
              simp at hi
              subst hi
              simp [wpOp, go_sem, m5, f5]
              refine .inl ?_
              refine wpAny_done (by kernel_rfl) ?_ _
              try (go_wp2_with fail)
              go_roundw
              case rel => exact ⟨t2, L ++ [(k, _)], _, Lib.hid (by rw [List.map_append, ht]; exact hG2.out), by rw [List.length_append, List.length_singleton, ← list_len t2, ht, list_len]; omega, hfin⟩
              case measure => rw [hfl, hleft, ← list_len t2, ht, list_len]; omega
end Go.Proofs.YtcoeijjmahneeaaGreatDoor
