/-
  What the parser's own words of its stack come to: end.
  How long what tokens hold can be: no name is longer than the text, no data longer than four of it.
  The stack of open elements, in plain Lean: how deep, how wide, how heavy it grows.
-/
import Derived.Test.YtcjlhdmekhifaaaGreatDoorD23
import Derived.Test.YtcjlhdmekhifaaaGreatDoorD03
import Derived.Test.YtcjlhdmekhifaaaGreatDoorD06
namespace Go.Proofs.YtcjlhdmekhifaaaGreatDoor
open Go.RowKit

/-- THE PARSER'S STATE in memory. -/
def PSs (pb : Nat) (st : Gv.St) (w : World) : Prop := ∃ es sv k sp nm d va vk, PSt pb es sv k sp nm d va vk st.root w ∧ es.map El.o = st.stack
theorem PSs.on {pb : Nat} {st : Gv.St} {w w' : World} (h : PSs pb st w) (hb : Below w.heap.size w w') : PSs pb st w' := by
  obtain ⟨es, sv, k, sp, nm, d, va, vk, h1, h2⟩ := h
  exact ⟨es, sv, k, sp, nm, d, va, vk, h1.on hb, h2⟩

set_option maxRecDepth 100000 in
set_option maxHeartbeats 6400000 in
theorem pend_any {pb : Nat} {o : Gv.Open} {s : List Gv.Open} (w : World) (h : PSs pb ⟨o :: s, none⟩ w) (hs : s.length ≤ 100) (hkl : ∀ x ∈ s, x.kids.length ≤ 1000000) :
    Calls Tryz.prog 41 #[.pointer (some ⟨pb, 0, none⟩)] w fun x w' => x = .returned (.tuple #[]) ∧ Below pb w w' ∧ PSs pb (Gv.ended s none o.node) w' := by
  obtain ⟨es, sv, k, sp, nm, d, va, vk, h, hes⟩ := h
  obtain ⟨e, es, rfl⟩ : ∃ a l, es = a :: l := by
    cases es with
    | nil => simp at hes
    | cons a l => exact ⟨a, l, rfl⟩
  simp only [List.map_cons, List.cons.injEq] at hes
  obtain ⟨rfl, rfl⟩ := hes
  rw [List.length_map] at hs
  obtain ⟨g, cap, rfl, hgp, hgl⟩ := h.svAt
  have hpl : pb < w.heap.size := h.box.lt
  have hcap : es.length + 1 ≤ cap := by
    rcases h.row.2 with ⟨e, _⟩ | ⟨_, _, _, e, _, _, hc, _⟩
    · cases e
    · injection e with e1 e2 e3; subst e3; exact hc
  have p0 : w.cell? ⟨pb, 0, none⟩ = some (.slice (some ⟨g, 0, none⟩) (es.length + 1) cap) := h.box.cell rfl
  have hN := node_ofEl h
  obtain ⟨ao, cpa, hva, _⟩ := h.stk.1.atts.at'
  obtain ⟨css, hcl, hown, hkd⟩ := h.stk.1.kids
  obtain ⟨ko, kcap, hvk⟩ : ∃ ko kcap, e.vk = .slice ko e.o.kids.length kcap := by
    rcases hown.2 with ⟨e1, e2⟩ | ⟨g', cap', _, e1, _⟩
    · exact ⟨none, 0, by rw [e1, e2]⟩
    · exact ⟨_, cap', e1⟩
  clear hcl hown hkd css
  have t0 := h.top 2 (.int .i64 0) rfl
  have t1 := h.top 3 (.string e.o.space) rfl
  have t2 := h.top 4 (.string e.o.name) rfl
  have t3 := h.top 5 e.va rfl
  have t4 := h.top 6 e.vk rfl
  have t5 := h.top 7 (.string ⟨#[]⟩) rfl
  rw [hva] at t3
  rw [hvk] at t4
  rw [hva, hvk] at hN
  replace hva := Lib.hid hva
  replace hvk := Lib.hid hvk
  generalize e.o.attrs.length = al at *
  generalize e.o.kids.length = kl at *
  have helo : pb + 1 ≤ e.lo := h.stk.1.low.1
  replace h := Lib.hid h
  replace hN := Lib.hid hN
  generalize hL : es.length = L at *
  replace hL := Lib.hid hL
  have hi1 : IntKind.i64.wrap ((L : Int) + 1 - 1) = (L : Int) := by rw [IntWalk.i64_in _ (by omega)]; omega
  have hi2 : (L : Int) ≤ (cap : Int) := by omega
  have hgp2 : ¬ g = pb := by omega
  go_enter Tryz.func41, Tryz.ntmps41
  go_wp2_with fail
  (with_reducible refine (top_cons _ p0 hs).mono ?_); rintro x w2 ⟨rfl, nq, rfl⟩
  have b2 := Cells.below_drewN (Below.refl w.heap.size w) nq
  have h2 := Lib.hid (h.out.on b2)
  have hN2 := Lib.hid (hN.out.on b2)
  have hpl2 : pb < (w.drewN nq).heap.size := hpl
  have hgl2 : g < (w.drewN nq).heap.size := hgl
  have c0 : (w.drewN nq).cell? ⟨pb, 0, none⟩ = some (.slice (some ⟨g, 0, none⟩) (L + 1) cap) := p0
  have t0 : (w.drewN nq).cell? ⟨g, L * 8 + 2, none⟩ = some (.int .i64 0) := t0
  have t1 : (w.drewN nq).cell? ⟨g, L * 8 + 2 + 1, none⟩ = some (.string e.o.space) := t1
  have t2 : (w.drewN nq).cell? ⟨g, L * 8 + 2 + 2, none⟩ = some (.string e.o.name) := t2
  have t3 : (w.drewN nq).cell? ⟨g, L * 8 + 2 + 3, none⟩ = some (.slice ao al cpa) := t3
  have t4 : (w.drewN nq).cell? ⟨g, L * 8 + 2 + 4, none⟩ = some (.slice ko kl kcap) := t4
  have t5 : (w.drewN nq).cell? ⟨g, L * 8 + 2 + 5, none⟩ = some (.string ⟨#[]⟩) := t5
  clear h hN
  generalize w.drewN nq = W at *
  have zf : W.frozen? ⟨pb, 0, none⟩ = false := h2.out.box.free 0
  have hne : ¬ pb = W.heap.size := by omega
  have hp := h2.out.pop
  rw [hL.out] at hp
  have hN3 := (hN2.out.stay hp.2)
  have bP := (Below.refl pb W).setCell (p := ⟨pb, 0, none⟩) (Nat.le_refl _) (.slice (some ⟨g, 0, none⟩) L cap)
  go_wp2_with fail
  go_region
  have hsz : (W.setCell ⟨pb, 0, none⟩ (.slice (some ⟨g, 0, none⟩) L cap)).heap.size = W.heap.size := World.size_setCell _ _ _
  have kA := Cells.new (W.setCell ⟨pb, 0, none⟩ (.slice (some ⟨g, 0, none⟩) L cap)) 26 #[.int .i64 0, .string e.o.space, .string e.o.name, .slice ao al cpa, .slice ko kl kcap, .string ⟨#[]⟩]
  rw [hsz] at kA
  have bA := ((Below.refl (W.setCell ⟨pb, 0, none⟩ (.slice (some ⟨g, 0, none⟩) L cap)).heap.size (W.setCell ⟨pb, 0, none⟩ (.slice (some ⟨g, 0, none⟩) L cap))).alloc (Nat.le_refl _) (.cells #[.int .i64 0, .string e.o.space, .string e.o.name, .slice ao al cpa, .slice ko kl kcap, .string ⟨#[]⟩] 26)).drew
  have h3 := hp.1.on bA
  have hN4 := hN3.on bA
  have b3 := (b2.mono (show pb ≤ w.heap.size by omega)).trans (bP.trans (bA.mono (by rw [hsz]; omega)))
  have hfar : ∀ e2 es2, es = e2 :: es2 → e2.lo ≤ e.lo ∧ (∀ x, e2.vk.ownBlock = some x → x < e.lo) := fun e2 es2 he => by
    have := h2.out.stk.2
    rw [he] at this
    exact ⟨this.1.low.2, this.1.far⟩
  replace kA := kA.drew
  clear hp hN3 bP bA h2 hN2 t0 t1 t2 t3 t4 t5 c0 zf p0 b2
  generalize hW3 : (((W.setCell ⟨pb, 0, none⟩ (.slice (some ⟨g, 0, none⟩) L cap)).alloc (.cells #[.int .i64 0, .string e.o.space, .string e.o.name, .slice ao al cpa, .slice ko kl kcap, .string ⟨#[]⟩] 26)).drew) = W3 at *
  clear hW3 hsz
  have q0 : W3.cell? ⟨pb, 0, none⟩ = some (.slice (some ⟨g, 0, none⟩) L cap) := h3.box.cell rfl
  have hn3 := kA.lt
  generalize W.heap.size = B at *
  cases es with
  | nil =>
    obtain rfl : L = 0 := hL.out.symm
    have y1 := h3.box.cell (i := 1) (v := .int .i64 k) rfl
    have y2 := h3.box.cell (i := 2) (v := .string sp) rfl
    have y3 := h3.box.cell (i := 3) (v := .string nm) rfl
    have y4 := h3.box.cell (i := 4) (v := va) rfl
    have y5 := h3.box.cell (i := 5) (v := vk) rfl
    have y6 := h3.box.cell (i := 6) (v := .string d) rfl
    have y7 := h3.box.cell (i := 7) (v := .bool false) rfl
    have yf := fun i => h3.box.free i
    have hdone := Lib.hid (PSt.done h3 (hN4.mono fun b hb _ => (by have := hb.1; omega)))
    clear h3 hN4
    have x0 := kA.cell (i := 0) (v := .int .i64 0) rfl
    have x1 := kA.cell (i := 1) (v := .string e.o.space) rfl
    have x2 := kA.cell (i := 2) (v := .string e.o.name) rfl
    have x3 := kA.cell (i := 3) (v := .slice ao al cpa) rfl
    have x4 := kA.cell (i := 4) (v := .slice ko kl kcap) rfl
    have x5 := kA.cell (i := 5) (v := .string ⟨#[]⟩) rfl
    clear hfar
    go_wp2_with fail
    (with_reducible refine (top_nil _ q0).mono ?_); rintro x w4 ⟨rfl, rfl⟩
    go_wp2_with fail
    refine bodyPost_ret (results_none rfl _ _ _) rfl ?_
    refine ⟨rfl, ?_, [], _, _, _, _, _, _, _, hdone.out, rfl⟩
    exact ((((((b3.setCell (p := ⟨pb, 1, none⟩) (Nat.le_refl _) _).setCell (p := ⟨pb, 2, none⟩) (Nat.le_refl _) _).setCell (p := ⟨pb, 3, none⟩) (Nat.le_refl _) _).setCell (p := ⟨pb, 4, none⟩) (Nat.le_refl _) _).setCell (p := ⟨pb, 5, none⟩) (Nat.le_refl _) _).setCell (p := ⟨pb, 6, none⟩) (Nat.le_refl _) _).setCell (p := ⟨pb, 7, none⟩) (Nat.le_refl _) _
  | cons e2 es2 =>
    obtain rfl : L = es2.length + 1 := hL.out.symm
    obtain ⟨hf1, hf2⟩ := hfar e2 es2 rfl
    have hs2 : es2.length ≤ 100 := by omega
    replace h3 := Lib.hid h3
    replace hN4 := Lib.hid hN4
    go_wp2_with fail
    (with_reducible refine (top_cons _ q0 hs2).mono ?_); rintro x w4 ⟨rfl, n4, rfl⟩
    have bq := Cells.below_drewN (Below.refl W3.heap.size W3) n4
    have hadd := Lib.hid (add_cons (W3.drewN n4) (h3.out.on bq) hs2 (hkl e2.o (by simp)) ((hN4.out.on bq).mono fun b hb _ => ⟨by have := hb.1; omega, fun e => hb.2 (by rw [e]; rfl), fun e => by have := hf2 b e.symm; have := hb.1; omega⟩))
    have b4 := b3.trans (bq.mono (Nat.le_of_lt (h3.out.box.lt)))
    replace kA := kA.drewN n4
    clear h3 hN4 hfar hf1 hf2 bq b3
    generalize W3.drewN n4 = W4 at *
    have x0 := kA.cell (i := 0) (v := .int .i64 0) rfl
    have x1 := kA.cell (i := 1) (v := .string e.o.space) rfl
    have x2 := kA.cell (i := 2) (v := .string e.o.name) rfl
    have x3 := kA.cell (i := 3) (v := .slice ao al cpa) rfl
    have x4 := kA.cell (i := 4) (v := .slice ko kl kcap) rfl
    have x5 := kA.cell (i := 5) (v := .string ⟨#[]⟩) rfl
    go_wp2_with fail
    have hadd2 : Calls Tryz.prog 21 #[.pointer (some ⟨pb, 0, none⟩), .agg #[.int .i64 0, .string e.o.space, .string e.o.name, .slice ao al cpa, .slice ko kl kcap, .string ⟨#[]⟩]] W4 _ := hadd.out
    (with_reducible refine hadd2.mono ?_); rintro x w5 ⟨rfl, b5, vk2, h5⟩
    replace h5 := Lib.hid h5
    go_wp2_with fail
    go_end0
    exact ⟨rfl, b4.trans b5, _, _, _, _, _, _, _, _, h5.out, rfl⟩
end Go.Proofs.YtcjlhdmekhifaaaGreatDoor
namespace Go.Proofs.YtcjlhdmekhifaaaGreatDoor
namespace E
theorem rune_four (n : Int) : (Lib.encodeRune n).length ≤ 4 := by
  unfold Lib.encodeRune Lib.encodeRuneZ
  repeat' split
  all_goals simp
theorem named_four {l u : List UInt8} (h : named l = some u) : u.length ≤ 4 := by
  unfold named at h
  repeat' split at h
  all_goals first
    | (cases h; done)
    | (cases h; simp; done)
    | (obtain ⟨n, _, e⟩ := Option.map_eq_some_iff.1 h; rw [← e]; exact rune_four _)
theorem expandGo_four (attr : Bool) : ∀ (f : Nat) (l r : List UInt8), expandGo attr f l = some r → r.length ≤ 4 * l.length
  | f, [], r, h => by
    unfold expandGo at h; cases h; simp
  | 0, _ :: _, r, h => by unfold expandGo at h; cases h
  | f + 1, b :: t, r, h => by
    unfold expandGo at h
    split at h
    · obtain ⟨x, hx, h⟩ := Option.bind_eq_some_iff.1 h
      obtain ⟨u, hu, h⟩ := Option.bind_eq_some_iff.1 h
      obtain ⟨y, hy, rfl⟩ := Option.map_eq_some_iff.1 h
      have h1 := expandGo_four attr f _ _ hy
      have h2 := named_four hu
      have h3 := congrArg List.length (semi_le (a := x.1) (r := x.2) hx).1
      simp only [List.length_append, List.length_cons] at h3 ⊢
      omega
    · obtain ⟨y, hy, rfl⟩ := Option.map_eq_some_iff.1 h
      have h1 := expandGo_four attr f _ _ hy
      simp only [List.length_cons]
      omega
theorem expand_four {attr : Bool} {l r : List UInt8} (h : expand attr l = some r) : r.length ≤ 4 * l.length := expandGo_four attr _ _ _ h
end E
namespace T
/-- What a token holds is no longer than this. -/
def Fit (N : Nat) (t : Tok) : Prop := t.name.length ≤ N ∧ t.data.length ≤ 4 * N ∧ ∀ p ∈ t.attrs, p.1.length ≤ N ∧ p.2.length ≤ 4 * N
theorem Fit.mono {N M : Nat} {t : Tok} (h : Fit N t) (hM : N ≤ M) : Fit M t := ⟨by have := h.1; omega, by have := h.2.1; omega, fun p hp => by have := h.2.2 p hp; omega⟩
theorem cut_fit {p l a r : List UInt8} (h : cutAt p l = some (a, r)) : a.length ≤ l.length ∧ r.length ≤ l.length := by
  have := congrArg List.length (cutAt_eq h)
  simp only [List.length_append] at this
  omega
theorem name_fit {l n r : List UInt8} (h : nameAt l = some (n, r)) : n.length ≤ l.length ∧ r.length ≤ l.length := by
  unfold nameAt at h
  split at h
  · cases h
  · cases h
    simp only [List.length_take, List.length_drop]
    omega
theorem comment_fit {l r : List UInt8} {t : Tok} (h : comment l = .ok (t, r)) : Fit l.length t := by
  unfold comment at h
  split at h
  · rename_i a r' hc
    cases h
    have := cut_fit hc
    exact ⟨by simp, by simp only; omega, by simp⟩
  · cases h
theorem cdata_fit {l r : List UInt8} {t : Tok} (h : cdata l = .ok (t, r)) : Fit l.length t := by
  unfold cdata at h
  split at h
  · rename_i a r' hc
    cases h
    have := cut_fit hc
    exact ⟨by simp, by simp only; omega, by simp⟩
  · cases h
theorem pi_fit {l r : List UInt8} {t : Tok} (h : pi l = .ok (t, r)) : Fit l.length t := by
  unfold pi at h
  split at h
  · cases h
  · rename_i n rest hn
    have h1 := name_fit hn
    split at h
    · cases h
    · split at h
      · cases h
      · rename_i a r' hc
        have h2 := cut_fit hc
        split at h
        · cases h
          have h3 := skip_le a
          exact ⟨by simp only; omega, by simp only; omega, by simp⟩
        · cases h
theorem quoted_fit {l a r : List UInt8} (h : quoted l = some (a, r)) : a.length ≤ l.length ∧ r.length ≤ l.length := by
  unfold quoted at h
  split at h
  · cases h
  · split at h
    · have := cut_fit h
      simp only [List.length_cons]
      omega
    · cases h
theorem attr_fit {l r : List UInt8} {a : List UInt8 × List UInt8} (h : attr l = .ok (a, r)) : a.1.length ≤ l.length ∧ a.2.length ≤ 4 * l.length ∧ r.length ≤ l.length := by
  unfold attr at h
  split at h
  · cases h
  · rename_i n rest hn
    have h1 := name_fit hn
    split at h
    · rename_i t hs
      have h2 := skip_le rest
      rw [hs, List.length_cons] at h2
      have h3 := skip_le t
      split at h
      · cases h
      · rename_i q r' hq
        have h4 := quoted_fit hq
        split at h
        · cases h
        · split at h
          · cases h
          · rename_i v hv
            cases h
            have h5 := E.expand_four hv
            simp only
            omega
    · cases h
theorem openGo_fit (N : Nat) : ∀ (f : Nat) (n : List UInt8) (ps : List (List UInt8 × List UInt8)) (l : List UInt8) (t : Tok) (r : List UInt8), l.length ≤ N → n.length ≤ N → (∀ p ∈ ps, p.1.length ≤ N ∧ p.2.length ≤ 4 * N) → openGo f n ps l = .ok (t, r) → Fit N t
  | 0, n, ps, l, t, r, _, _, _, h => by unfold openGo at h; cases h
  | f + 1, n, ps, l, t, r, hl, hn, hps, h => by
    have h1 := skip_le l
    unfold openGo at h
    split at h
    · cases h; exact ⟨hn, by simp, hps⟩
    · cases h; exact ⟨hn, by simp, hps⟩
    · split at h
      · cases h
      · split at h
        · cases h
        · rename_i a more ha
          have h2 := attr_fit ha
          split at h
          · cases h
          · refine openGo_fit N f _ _ _ _ _ (by omega) hn (fun p hp => ?_) h
            rcases List.mem_append.1 hp with hp | hp
            · exact hps p hp
            · rw [List.mem_singleton.1 hp]; omega
theorem opened_fit {l r : List UInt8} {t : Tok} (h : opened l = .ok (t, r)) : Fit l.length t := by
  unfold opened at h
  split at h
  · cases h
  · rename_i n rest hn
    have h1 := name_fit hn
    exact openGo_fit l.length _ _ _ _ _ _ h1.2 h1.1 (by simp) h
theorem shut_fit {l r : List UInt8} {t : Tok} (h : shut l = .ok (t, r)) : Fit l.length t := by
  unfold shut at h
  split at h
  · cases h
  · rename_i n rest hn
    have h1 := name_fit hn
    split at h
    · cases h; exact ⟨h1.1, by simp, by simp⟩
    · cases h
theorem text_fit {l r : List UInt8} {t : Tok} (h : text l = .ok (t, r)) : Fit l.length t := by
  unfold text at h
  split at h
  · cases h
  · split at h
    · cases h
    · rename_i d hd
      cases h
      have h1 := E.expand_four hd
      have h2 := (List.takeWhile_sublist (p := fun b : UInt8 => decide (b ≠ 60)) (l := l)).length_le
      exact ⟨by simp, by simp only; omega, by simp⟩
theorem decl_fit {l r : List UInt8} {t : Tok} (h : decl l = .ok (t, r)) : Fit l.length t := by
  unfold decl at h
  repeat' split at h
  all_goals first
    | (cases h; done)
    | (unfold declEnd at h; split at h
       · cases h; exact ⟨by simp, by simp, by simp⟩
       · cases h)
theorem next_fit {first : Bool} {l r : List UInt8} {t : Tok} (h : next first l = .ok (t, r)) : Fit l.length t := by
  unfold next at h
  repeat' split at h
  all_goals first
    | (cases h; done)
    | exact (decl_fit h).mono (by simp)
    | exact (comment_fit h).mono (by simp)
    | exact (cdata_fit h).mono (by simp)
    | exact (pi_fit h).mono (by simp)
    | exact (shut_fit h).mono (by simp)
    | exact (opened_fit h).mono (by simp)
    | exact (text_fit h).mono (by simp)
theorem run_fit (N : Nat) : ∀ (n : Nat) (first : Bool) (l : List UInt8) (ts : List Tok), l.length ≤ n → l.length ≤ N → run first l = .ok ts → ts.length ≤ l.length ∧ ∀ t ∈ ts, Fit N t
  | n, first, [], ts, _, _, h => by
    rw [run_nil] at h; cases h; simp
  | 0, first, b :: l, ts, hn, _, h => by simp at hn
  | n + 1, first, b :: l, ts, hn, hN, h => by
    rw [run_step (by simp)] at h
    cases hx : next first (b :: l) with
    | error e => rw [hx] at h; cases h
    | ok x =>
      obtain ⟨t, r⟩ := x
      rw [hx] at h
      simp only at h
      have h1 := next_less (by simp) hx
      cases hy : run false r with
      | error e => rw [hy] at h; cases h
      | ok ys =>
        rw [hy] at h
        cases h
        obtain ⟨h2, h3⟩ := run_fit N n false r ys (by omega) (by omega) hy
        refine ⟨by simp only [List.length_cons] at h1 ⊢; omega, fun z hz => ?_⟩
        rcases List.mem_cons.1 hz with rfl | hz
        · exact (next_fit hx).mono hN
        · exact h3 z hz
/-- TOKENS of a text: so many, and no longer than so. -/
theorem tokens_fit {l : List UInt8} {ts : List Tok} (h : tokens l = .ok ts) : ts.length ≤ 100000 ∧ ∀ t ∈ ts, Fit 100000 t := by
  obtain ⟨h1, _, h3⟩ := tokens_ok h
  have h4 := G.lines_length l
  obtain ⟨h5, h6⟩ := run_fit 100000 _ _ _ _ (Nat.le_refl _) (by omega) h3
  exact ⟨by omega, h6⟩
end T
end Go.Proofs.YtcjlhdmekhifaaaGreatDoor
namespace Go.Proofs.YtcjlhdmekhifaaaGreatDoor
namespace Gv
open T (Tok)

def Scoped : List Open → Prop
  | [] => True
  | o :: os => o.scope.length ≤ 50 * (os.length + 1) ∧ Scoped os
/-- THE STATE IS FINE after m tokens. -/
structure Fine (m : Nat) (st : St) : Prop where
  deep : st.stack.length ≤ 30
  lone : st.stack ≠ [] → st.root = none
  wide : Scoped st.stack
  kids : ∀ o ∈ st.stack, o.kids.length ≤ m ∧ ∀ x, o.kids.getLast? = some x → x.kind = 1 → x = text x.data ∧ x.data.size ≤ m * 400000
theorem fine_nil (r : Option Node) : Fine 0 ⟨[], r⟩ := ⟨by simp, fun h => absurd rfl h, trivial, fun o h => by simp at h⟩
theorem scoped_head {s : List Open} (h : Scoped s) : (scopeOf s).length ≤ 50 * s.length := by
  cases s with
  | nil => simp [scopeOf]
  | cons o os => exact h.1
theorem element_len {t : Tok} {scope sc : List Pair} {sp nm : ByteArray} {as' : List Att} (h : element t scope = .ok ((sp, nm, as'), sc)) : sc.length ≤ scope.length + 50 := by
  unfold element at h
  split at h
  · cases h
  · rename_i h50
    split at h
    · cases h
    · rename_i more rest hd
      obtain ⟨hl, _⟩ := P.declGo_kept _ _ _ _ _ hd
      simp only [List.length_nil, List.length_map] at hl
      split at h
      · cases h
      · split at h
        · cases h
        · cases h
          rw [List.length_append]
          omega
theorem kids_later {m : Nat} {st : St} (h : Fine m st) : ∀ o ∈ st.stack, o.kids.length ≤ m + 1 ∧ ∀ x, o.kids.getLast? = some x → x.kind = 1 → x = text x.data ∧ x.data.size ≤ (m + 1) * 400000 := fun o ho =>
  ⟨by have := (h.kids o ho).1; omega, fun x hx h1 => by have := (h.kids o ho).2 x hx h1; exact ⟨this.1, by omega⟩⟩
theorem fine_ended {m : Nat} {s : List Open} {r : Option Node} (n : Node) (hn : n.kind = 0) (hr : r = none) (hd : s.length ≤ 30) (hs : Scoped s) (hk : ∀ o ∈ s, o.kids.length ≤ m ∧ ∀ x, o.kids.getLast? = some x → x.kind = 1 → x = text x.data ∧ x.data.size ≤ m * 400000) : Fine (m + 1) (ended s r n) := by
  subst hr
  cases s with
  | nil => exact ⟨by simp [ended], fun h => absurd rfl h, trivial, fun o h => by simp [ended] at h⟩
  | cons p ps =>
    refine ⟨by simpa [ended] using hd, fun _ => rfl, ⟨hs.1, hs.2⟩, fun q hq => ?_⟩
    rcases List.mem_cons.1 hq with rfl | hq
    · refine ⟨by have := (hk p (by simp)).1; simp; omega, fun x hx h1 => ?_⟩
      simp only [List.getLast?_concat, Option.some.injEq] at hx
      subst hx
      omega
    · have := hk q (by simp [hq])
      exact ⟨by omega, fun x hx h1 => ⟨(this.2 x hx h1).1, Nat.le_trans (this.2 x hx h1).2 (Nat.mul_le_mul_right _ (Nat.le_succ m))⟩⟩
theorem fine_opened {m : Nat} {st st' : St} {t : Tok} (h : Fine m st) (hr : st.root = none) (ho : opened st t = .ok st') : Fine (m + 1) st' := by
  unfold opened at ho
  split at ho
  · cases ho
  · rename_i hd
    split at ho
    · cases ho
    · rename_i sp nm l sc he
      split at ho
      · cases ho
        exact fine_ended _ rfl hr h.deep h.wide h.kids
      · cases ho
        refine ⟨by simp; omega, fun _ => hr, ⟨?_, h.wide⟩, fun q hq => ?_⟩
        · have := element_len he
          have := scoped_head h.wide
          simp only
          omega
        · rcases List.mem_cons.1 hq with rfl | hq
          · exact ⟨by simp, fun x hx => by simp at hx⟩
          · exact kids_later h q hq
theorem fine_grown {m : Nat} {kids : List Node} {t : Tok} (h1 : kids.length ≤ m) (h2 : ∀ x, kids.getLast? = some x → x.kind = 1 → x = text x.data ∧ x.data.size ≤ m * 400000) (hd : t.data.length ≤ 400000) :
    (grown kids (leaf t)).length ≤ m + 1 ∧ ∀ x, (grown kids (leaf t)).getLast? = some x → x.kind = 1 → x = text x.data ∧ x.data.size ≤ (m + 1) * 400000 := by
  have hsz : (leaf t).data.size ≤ 400000 := by
    have : (leaf t).data = str t.data := by
      unfold leaf
      split
      · rfl
      · split <;> rfl
    rw [this]
    simpa [str, ByteArray.size] using hd
  have hkind : (leaf t).kind = 1 → leaf t = text (leaf t).data := by
    unfold leaf
    split
    · intro h; cases h
    · split
      · intro h; cases h
      · intro _; rfl
  unfold grown
  split
  · exact ⟨by omega, fun x hx hk => ⟨(h2 x hx hk).1, Nat.le_trans (h2 x hx hk).2 (Nat.mul_le_mul_right _ (Nat.le_succ m))⟩⟩
  · split
    · rename_i mm hm
      split
      · rename_i hb
        refine ⟨by simp; omega, fun x hx hk => ?_⟩
        simp only [List.getLast?_concat, Option.some.injEq] at hx
        subst hx
        refine ⟨rfl, ?_⟩
        have := (h2 mm hm hb.2).2
        show (mm.data ++ (leaf t).data).size ≤ _
        rw [ByteArray.size_append]
        omega
      · refine ⟨by simp; omega, fun x hx hk => ?_⟩
        simp only [List.getLast?_concat, Option.some.injEq] at hx
        subst hx
        exact ⟨hkind hk, by omega⟩
    · refine ⟨by simp, fun x hx hk => ?_⟩
      simp only [List.getLast?_singleton, Option.some.injEq] at hx
      subst hx
      exact ⟨hkind hk, by omega⟩
/-- A STEP keeps it so. -/
theorem fine_step {m : Nat} {st st' : St} {t : Tok} (h : Fine m st) (hd : t.data.length ≤ 400000) (hs : step st t = .ok st') : Fine (m + 1) st' := by
  obtain ⟨s, r⟩ := st
  cases s with
  | nil =>
    unfold step at hs
    simp only at hs
    split at hs
    · cases hs
    · split at hs
      · cases hs
      · rename_i hn
        split at hs
        · cases hs
        · split at hs
          · rename_i h0
            refine fine_opened h ?_ hs
            cases r with
            | none => rfl
            | some n => exact absurd (.inr ⟨h0, rfl⟩) hn
          · cases hs
            exact ⟨h.deep, h.lone, h.wide, kids_later h⟩
  | cons o os =>
    have hr : r = none := h.lone (by simp)
    unfold step at hs
    simp only at hs
    split at hs
    · split at hs
      · cases hs
        exact fine_ended _ rfl hr (by have := h.deep; simp at this; omega) h.wide.2 (fun q hq => h.kids q (by simp [hq]))
      · cases hs
    · split at hs
      · exact fine_opened h hr hs
      · split at hs
        · cases hs
        · cases hs
          refine ⟨h.deep, fun _ => hr, ⟨h.wide.1, h.wide.2⟩, fun q hq => ?_⟩
          rcases List.mem_cons.1 hq with rfl | hq
          · exact fine_grown (h.kids o (by simp)).1 (h.kids o (by simp)).2 hd
          · exact kids_later h q (by simp [hq])
end Gv
end Go.Proofs.YtcjlhdmekhifaaaGreatDoor
