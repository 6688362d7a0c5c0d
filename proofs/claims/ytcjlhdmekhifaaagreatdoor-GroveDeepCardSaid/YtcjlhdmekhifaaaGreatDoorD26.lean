/-
  What the parser's own words of its stack come to: addText.
  What the variables hold: see TokEnv. The words of code points are proved in ProgChars.
-/
import Derived.Test.YtcjlhdmekhifaaaGreatDoorD23
import Derived.Test.YtcjlhdmekhifaaaGreatDoorD12
import Derived.Test.YtcjlhdmekhifaaaGreatDoorD17
namespace Go.Proofs.YtcjlhdmekhifaaaGreatDoor
open Go.RowKit

set_option maxRecDepth 100000 in
set_option maxHeartbeats 25600000 in
theorem addText_any {pb g n cap : Nat} {k : Int} {es : List El} {e : El} {sp nm d : ByteArray} {va vk : Value} {root : Option Gv.Node} (s : ByteArray) (w : World)
    (h : PSt pb (e :: es) (.slice (some ⟨g, 0, none⟩) n cap) k sp nm d va vk root w) (hkl : e.o.kids.length ≤ 1000000) (hs : s.size ≤ 1000000000)
    (hlast : ∀ x, e.o.kids.getLast? = some x → x.kind = 1 → x = Gv.text x.data ∧ x.data.size ≤ 1000000000000) :
    Calls Tryz.prog 42 #[.pointer (some ⟨g, es.length * 8, none⟩), .string s] w fun x w' => x = .returned (.tuple #[]) ∧ Below pb w w' ∧
      ∃ vk2, PSt pb ({ e with o := { e.o with kids := Gv.grown e.o.kids (Gv.text s) }, vk := vk2 } :: es) (.slice (some ⟨g, 0, none⟩) n cap) k sp nm d va vk root w' := by
  obtain ⟨i0, hi, hz0, hz1, hz2⟩ := info_parts infoNode
  have hnn : n = es.length + 1 := by
    rcases h.row.2 with ⟨e, _⟩ | ⟨_, _, _, e, _⟩
    · cases e
    · injection e
  subst hnn
  have hpb : pb < w.heap.size := h.box.lt
  by_cases hd : s = ByteArray.empty
  · have hgr : Gv.grown e.o.kids (Gv.text s) = e.o.kids := Gv.grown_skip rfl hd
    have hd2 : s.toList.isEmpty = true := by rw [hd, ByteArray.toList_eq]; rfl
    rw [hgr]
    replace h := Lib.hid h
    clear hgr hd
    go_enter Tryz.func42, Tryz.ntmps42
    go_wp2_with fail
    refine bodyPost_ret (results_none rfl _ _ _) rfl ?_
    exact ⟨rfl, Below.refl _ _, e.vk, h.out⟩
  have hd2 : s.toList.isEmpty = false := ne_empty (by rw [Nat.pos_iff_ne_zero]; exact fun e => hd (ByteArray.size_eq_zero_iff.1 e))
  obtain ⟨css, hcl, hown, hkd⟩ := h.stk.1.kids
  obtain ⟨ko, kcap, hvk⟩ : ∃ ko kcap, e.vk = .slice ko e.o.kids.length kcap := by
    rcases hown.2 with ⟨e1, e2⟩ | ⟨g', cap', _, e1, _⟩
    · exact ⟨none, 0, by rw [e1, e2]⟩
    · exact ⟨_, cap', e1⟩
  have t6 := h.top 6 e.vk rfl
  rw [hvk] at t6 hown
  obtain ⟨kl, hkl0⟩ : ∃ kl, kl = e.o.kids.length := ⟨_, rfl⟩
  rw [← hkl0] at t6 hown hvk hkl
  have hgl : g < w.heap.size := (World.ownsRow.lt h.row g rfl).2
  have tf := h.row.frozenAt (es.length * 8 + 6)
  have hgk : (Value.slice ko kl kcap).ownBlock ≠ some g := by
    obtain ⟨c, fr, hc⟩ := stk_type h.row g rfl
    rcases st_apart hown hc (by decide) with x | x
    · rw [x]; simp
    · exact x
  by_cases hj : ∃ x, e.o.kids.getLast? = some x ∧ x.kind = 1
  · obtain ⟨x, hx, hx1⟩ := hj
    obtain ⟨hxt, hxs⟩ := hlast x hx hx1
    have hgr := Lib.hid (Gv.grown_join (l := e.o.kids) (n := Gv.text s) (fun e => hd e.2) rfl hx hx1)
    generalize x.data = d0 at *
    subst hxt
    have hpos : 0 < e.o.kids.length := by
      cases hk : e.o.kids with
      | nil => rw [hk] at hx; cases hx
      | cons a l => simp
    obtain ⟨q, hq⟩ : ∃ q, e.o.kids.length = q + 1 := ⟨e.o.kids.length - 1, by omega⟩
    obtain ⟨gk, rfl⟩ : ∃ gk, ko = some ⟨gk, 0, none⟩ := by
      rcases hown.2 with ⟨e1, e2⟩ | ⟨g', _, _, e1, _⟩
      · omega
      · injection e1 with e1; exact ⟨g', e1⟩
    have hOk := h.stk.1.kids
    rw [hvk] at hOk
    obtain ⟨j1, j5, jf, hO2⟩ := kids_join (d := s) hOk hq hx
    have hgg : ¬ g = gk := fun x => hgk (by rw [x]; rfl)
    have z6 : (w.setCell ⟨gk, q * 6 + 5, none⟩ (.string (d0 ++ s))).cell? ⟨g, es.length * 8 + 6, none⟩ = some (.slice (some ⟨gk, 0, none⟩) kl kcap) := by
      rw [World.cell?_of_block (a := ⟨g, es.length * 8 + 6, none⟩) (heap_setCell_other w ⟨gk, q * 6 + 5, none⟩ g (.string (d0 ++ s)) hgg)]; exact t6
    have hend := h.kids (w1 := w.setCell ⟨gk, q * 6 + 5, none⟩ (.string (d0 ++ s))) (by rw [hvk]; exact grown_put w gk _ _) (hO2.mono fun b hb _ => ⟨hb.1, hb.2.2⟩)
    rw [setCell_id _ _ _ _ z6] at hend
    replace hend := Lib.hid hend
    clear z6
    have hbel := Lib.hid (((Below.refl pb w).setCell (p := ⟨gk, q * 6 + 5, none⟩) (by have := (World.ownsRow.lt hown gk rfl).1; have := h.stk.1.low.1; show pb ≤ gk; omega) (.string (d0 ++ s))))
    have hk0 : (0 : Int) < (kl : Int) := by omega
    have hw1 : IntKind.i64.wrap ((kl : Int) - 1) = (q : Int) := by rw [IntWalk.i64_in _ (by omega)]; omega
    have hq2 : (q : Int) < (kl : Int) := by omega
    have hsm : ¬ 9223372036854775807 < d0.size + s.size := by omega
    replace hkl0 := Lib.hid hkl0
    replace hvk := Lib.hid hvk
    replace hq := Lib.hid hq
    replace hx := Lib.hid hx
    clear h hOk hown hkd hcl hx1 hd hpos hO2 hlast hxs
    go_enter Tryz.func42, Tryz.ntmps42
    go_wp2_with fail
    refine bodyPost_ret (results_none rfl _ _ _) rfl ?_
    exact ⟨rfl, hbel.out, _, by rw [hgr.out]; exact hend.out⟩
  · have hgr : Gv.grown e.o.kids (Gv.text s) = e.o.kids ++ [Gv.text s] := Gv.grown_add (fun e => hd e.2) (by
      cases hl : e.o.kids.getLast? with
      | none => exact .inr (.inl (List.getLast?_eq_none_iff.1 hl))
      | some m => exact .inr (.inr ⟨m, rfl, fun e => hj ⟨m, hl, e⟩⟩))
    rw [hgr]
    have hkind : kl = 0 ∨ ∃ (q gk : Nat) (kk : Int), kl = q + 1 ∧ ko = some ⟨gk, 0, none⟩ ∧ kk ≠ 1 ∧ w.cell? ⟨gk, q * 6, none⟩ = some (.int .i64 kk) := by
      rcases hown.2 with ⟨e1, e2⟩ | ⟨gk, _, _, e1, _⟩
      · exact .inl e2
      · injection e1 with e1
        subst e1
        by_cases h0 : kl = 0
        · exact .inl h0
        · right
          have hne : e.o.kids ≠ [] := fun x => by rw [x] at hkl0; simp at hkl0; omega
          have hj2 : kl - 1 < css.length := by omega
          have hj3 : kl - 1 < e.o.kids.length := by omega
          have hN := hkd (kl - 1) hj2 hj3
          obtain ⟨kk, sk, nk, dk, ak, kdk, aok, bok, cak, cbk, csk, e2, e3, _⟩ := hN.open'
          refine ⟨kl - 1, gk, kk, by omega, rfl, ?_, ?_⟩
          · intro x
            refine hj ⟨e.o.kids[kl - 1], ?_, ?_⟩
            · rw [List.getLast?_eq_some_getLast hne, List.getLast_eq_getElem hne]
              simp only [hkl0]
            · rw [e2]; exact x
          · have h6 : ∀ c ∈ css, c.length = 6 := fun c hc => by
              obtain ⟨j, hj, rfl⟩ := List.mem_iff_getElem.1 hc
              exact (hkd j hj (by omega)).six
            have := World.ownsRow.cells hown (g := gk) rfl ((kl - 1) * 6 + 0) (.int .i64 (kk : Int)) (by rw [flat_at css h6 (kl - 1) 0 hj2 (by omega), e3]; rfl)
            rwa [add_at, Nat.zero_add, Nat.add_zero] at this
    have hlo : e.lo ≤ w.heap.size := h.stk.1.low.2
    have hko : ko = none ∨ ∃ gk, ko = some ⟨gk, 0, none⟩ := by
      rcases hown.2 with ⟨e1, _⟩ | ⟨g', _, _, e1, _⟩
      · injection e1 with e1; exact .inl e1
      · injection e1 with e1; exact .inr ⟨g', e1⟩
    have hgH : g < w.heap.size + 1 := by omega
    have hg0 : ¬ g = w.heap.size := by omega
    have hk1 : kl + 1 ≤ maxLen := by unfold maxLen; omega
    have hk2 : (kl + 1) * 104 ≤ 140737488355328 := by omega
    have hk3 : (kl : Int) < (kl : Int) + 1 := by omega
    have h6 : Hid (∀ c ∈ css, c.length = 6) := Lib.hid (fun c hc => by
      obtain ⟨j, hj, rfl⟩ := List.mem_iff_getElem.1 hc
      exact (hkd j hj (by omega)).six)
    replace hkl0 := Lib.hid hkl0
    replace h := Lib.hid h
    replace hkd := Lib.hid hkd
    replace hcl := Lib.hid hcl
    replace hvk := Lib.hid hvk
    clear hgr hd hj hlast
    go_enter Tryz.func42, Tryz.ntmps42
    rcases hkind with hk0 | ⟨q, gk, kk, hq, hkeq, hkk, hcell⟩
    case' inl =>
      have hki : ¬ (0 : Int) < (kl : Int) := by omega
      replace hk0 := Lib.hid hk0
      go_wp2_with fail
    case' inr =>
      subst hkeq
      have hki : (0 : Int) < (kl : Int) := by omega
      have hw1 : IntKind.i64.wrap ((kl : Int) - 1) = (q : Int) := by rw [IntWalk.i64_in _ (by omega)]; omega
      have hq2 : (q : Int) < (kl : Int) := by omega
      have hkk2 : ¬ (kk : Int) = 1 := by omega
      replace hq := Lib.hid hq
      go_wp2_with fail
    all_goals
      go_region_law (
        refine step_append_lies _ rfl _ _ 24 rfl e.lo 26 i0 _ 6 104 Tryz.underlying24 hi hz0 hz1 hz2 rfl (by decide) (.slice _ kl kcap) kl css.flatten rfl (show ((w.alloc (.cells #[.int .i64 0, .string ⟨#[]⟩, .string ⟨#[]⟩, .slice none 0 0, .slice none 0 0, .string ⟨#[]⟩] 26)).drew).ownsRow _ _ _ _ _ _ from World.ownsRow.alloc hown _) ⟨w.heap.size, 0, none⟩ 1 1 [.int .i64 0, .string ⟨#[]⟩, .string ⟨#[]⟩, .slice none 0 0, .slice none 0 0, .string ⟨#[]⟩] rfl rfl (zero_new w) (zero_one) (by decide) hk1 hk2 (zero_size w hlo) (w.heap.size + 1) (by simp) ?_
        intro g5 cap5 w5 hown5 hg5 hat5 hlt5
        obtain ⟨y0, y1, y2, y3, y4, y5⟩ := put_cells hcl.out.symm hkl0.out h6.out hown5
        have yf := fun j => hown5.frozenAt j
        have hga := grown_new hg5
        obtain ⟨hgg, z6, zf⟩ := put_facts (off := es.length * 8 + 2 + 4) hga hgk hat5 hgH hgl t6 tf)
    all_goals
      have fin := add_end (Below.refl w.heap.size w) h.out hkl0.out hvk.out hcl.out (node_plain _ _ 1 ⟨#[]⟩ ⟨#[]⟩ s) hkd.out hpb hown5 hga hat5
      have fin1 : Hid (Fin pb w es e (Gv.text s) g cap k sp nm d va vk root (((((((w5.setCell ⟨g5, kl * 6, none⟩ (.int .i64 1)).setCell ⟨g5, kl * 6 + 1, none⟩ (.string ⟨#[]⟩)).setCell ⟨g5, kl * 6 + 2, none⟩ (.string ⟨#[]⟩)).setCell ⟨g5, kl * 6 + 3, none⟩ (.slice none 0 0)).setCell ⟨g5, kl * 6 + 4, none⟩ (.slice none 0 0)).setCell ⟨g5, kl * 6 + 5, none⟩ (.string s)).setCell ⟨g, es.length * 8 + 2 + 4, none⟩ (.slice (some ⟨g5, 0, none⟩) (kl + 1) cap5))) := Lib.hid fin
      have fin2 : Hid (Fin pb w es e (Gv.text s) g cap k sp nm d va vk root (((((((w5.setCell ⟨g, es.length * 8 + 2 + 4, none⟩ (.slice (some ⟨g5, 0, none⟩) (kl + 1) cap5)).setCell ⟨g5, kl * 6, none⟩ (.int .i64 1)).setCell ⟨g5, kl * 6 + 1, none⟩ (.string ⟨#[]⟩)).setCell ⟨g5, kl * 6 + 2, none⟩ (.string ⟨#[]⟩)).setCell ⟨g5, kl * 6 + 3, none⟩ (.slice none 0 0)).setCell ⟨g5, kl * 6 + 4, none⟩ (.slice none 0 0)).setCell ⟨g5, kl * 6 + 5, none⟩ (.string s))) := Lib.hid (by
        have f : Fin pb w es e (Gv.text s) g cap k sp nm d va vk root (((((((w5.setCell ⟨g5, kl * 6, none⟩ (.int .i64 1)).setCell ⟨g5, kl * 6 + 1, none⟩ (.string ⟨#[]⟩)).setCell ⟨g5, kl * 6 + 2, none⟩ (.string ⟨#[]⟩)).setCell ⟨g5, kl * 6 + 3, none⟩ (.slice none 0 0)).setCell ⟨g5, kl * 6 + 4, none⟩ (.slice none 0 0)).setCell ⟨g5, kl * 6 + 5, none⟩ (.string s)).setCell ⟨g, es.length * 8 + 2 + 4, none⟩ (.slice (some ⟨g5, 0, none⟩) (kl + 1) cap5)) := fin
        have e := six_swap w5 g g5 (es.length * 8 + 6) (kl * 6) (.slice (some ⟨g5, 0, none⟩) (kl + 1) cap5) (.int .i64 1) (.string ⟨#[]⟩) (.string ⟨#[]⟩) (.slice none 0 0) (.slice none 0 0) (.string s) hgg
        unfold sixSet at e
        rw [e]
        exact f)
      clear fin y0 y1 y2 y3 y4 y5 yf z6 zf hga hown5 hg5
      go_wp2_with fail
      go_end0
      refine ⟨rfl, show Fin pb w es e (Gv.text s) g cap k sp nm d va vk root _ from ?_⟩
      first
        | with_reducible exact fin1.out
        | with_reducible exact fin2.out
end Go.Proofs.YtcjlhdmekhifaaaGreatDoor
