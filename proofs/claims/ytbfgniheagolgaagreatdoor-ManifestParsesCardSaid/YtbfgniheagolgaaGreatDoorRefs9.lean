/-
  What the document's Parse comes to: the walk.
-/
import Derived.Test.YtbfgniheagolgaaGreatDoorRefs8
import Derived.Deep.RegionHeld3
import Derived.Deep.AppendLies
namespace Go.Proofs.YtbfgniheagolgaaGreatDoor
open Go.RowKit

theorem split_ten (s : ByteArray) (w : World) (hs : s.size ≤ 1000000) :
    Calls Tryz.prog 21 #[.string s, .int .u8 10] w fun e w' => ∃ ao cap, e = .returned (.slice ao (pieces 10 s.data.toList).length cap) ∧ StrsAt w' ao (pieces 10 s.data.toList) ∧ (∀ x, ao = some x → w.heap.size ≤ x.block) ∧ Below w.heap.size w w' :=
  refSplit_any s 10 w hs
theorem split_sp (l : List UInt8) (w : World) (hs : l.length ≤ 1000000) :
    Calls Tryz.prog 21 #[.string ⟨l.toArray⟩, .int .u8 32] w fun e w' => ∃ ao cap, e = .returned (.slice ao (pieces 32 l).length cap) ∧ StrsAt w' ao (pieces 32 l) ∧ (∀ x, ao = some x → w.heap.size ≤ x.block) ∧ Below w.heap.size w w' :=
  refSplit_any ⟨l.toArray⟩ 32 w (by have : (⟨l.toArray⟩ : ByteArray).size = l.length := by simp [ByteArray.size]
                                    omega)

theorem number_num (l : List UInt8) (w : World) (hs : l.length ≤ 1000000) :
    Calls Tryz.prog 22 #[.string ⟨l.toArray⟩] w fun e w' => e = .returned (.int .i64 (dnum l)) ∧ w' = w :=
  (refNumber_any ⟨l.toArray⟩ w (by have : (⟨l.toArray⟩ : ByteArray).size = l.length := by simp [ByteArray.size]
                                   omega)).mono fun _ _ ⟨a, b⟩ => ⟨a, b.symm⟩

theorem words_len (p : List UInt8) (m : Nat) (h : p.length ≤ m) : ∀ x ∈ pieces 32 p, x.length ≤ m := fun x hx => Nat.le_trans ((pieces_len 32 p).2.2 x hx) h

theorem parse_none {s : List UInt8} {w' : World} (h : M.parses s = false) : Answers s (.returned (.tuple #[.int .i64 0, .slice none 0 0, .int .i64 30])) w' := by
  unfold Answers; rw [h]; rfl
theorem parse_some {s : List UInt8} {w' : World} {ao : Option Addr} {cap : Nat} {n : Int} {l : List M.Row} (hg : M.good n l = true) (e : s = M.text n l) (hR : RowsAt w' ao l) : Answers s (.returned (.tuple #[.int .i64 n, .slice ao l.length cap, .int .i64 0])) w' := by
  subst e
  unfold Answers
  rw [M.parses_text hg, if_pos rfl, M.read_text hg]
  exact ⟨ao, cap, rfl, hR⟩

theorem two_of {α : Type} {l : List α} (h : l.length = 2) : ∃ a b, l = [a, b] := by
  rcases l with _ | ⟨a, _ | ⟨b, _ | ⟨c, t⟩⟩⟩ <;> simp at h
  exact ⟨a, b, rfl⟩
theorem four_of4 {α : Type} {l : List α} (h : l.length = 4) : ∃ a b c d, l = [a, b, c, d] := by
  rcases l with _ | ⟨a, _ | ⟨b, _ | ⟨c, _ | ⟨d, _ | ⟨e, t⟩⟩⟩⟩⟩ <;> simp at h
  exact ⟨a, b, c, d, rfl⟩

/-- Rows of an own slice that a machine can hold. -/
def HeldRows (l : List M.Row) : Prop := ∀ r ∈ l, r.name.size ≤ 1000000 ∧ r.file.size ≤ 1000000 ∧ (-1 ≤ r.size ∧ r.size ≤ 1099511627776) ∧ (-1 ≤ r.sum ∧ r.sum ≤ 1099511627776)
theorem HeldRows.fit {l : List M.Row} (h : HeldRows l) (hl : l.length ≤ 1000000) : Fit l := by
  refine ⟨hl, fun r hr => ?_⟩
  obtain ⟨a, b, c, d⟩ := h r hr
  unfold maxLen
  exact ⟨by omega, by omega, by omega, by omega⟩

set_option maxRecDepth 100000 in
set_option maxHeartbeats 3200000 in
theorem refParse_any (s : ByteArray) (w : World) (hs : s.size ≤ 100000) :
    Calls Tryz.prog 10 #[.string s] w fun e w' => Answers s.data.toList e w' ∧ Below w.heap.size w w' := by
  obtain ⟨i0, hi, hz0, hz1, hz2⟩ := info_parts infoRow
  have hsl : s.data.toList.length = s.size := by simp
  obtain ⟨hp1, hp2, hp3⟩ := pieces_len 10 s.data.toList
  have hp3 : ∀ p ∈ pieces 10 s.data.toList, p.length ≤ s.size := fun p hp => by rw [← hsl]; exact hp3 p hp
  go_enter Tryz.func10, Tryz.ntmps10
  go_wp2_with fail
  (with_reducible refine (split_ten s _ (by omega)).mono ?_)
  rintro e w1 ⟨aoL, capL, rfl, hS, _, b1⟩
  have hnil := track_zero s.data.toList
  have htr := fun (a b c d : List UInt8) (nn x y : Int) (acc : List M.Row) (k : Nat) => track_next (s := s.data.toList) (a := a) (b := b) (c := c) (d := d) (nn := nn) (x := x) (y := y) (acc := acc) k
  have hon := fun (x : List UInt8) (v : Int) (a : List M.Row) (g : List UInt8) (ht : ∃ m, Track s.data.toList 0 m a) => track_one (x := x) (v := v) ht hp2 (g := g)
  have hen := fun (nn : Int) (acc : List M.Row) (k : Nat) => track_end (s := s.data.toList) (nn := nn) (acc := acc) (k := k)
  have hn2 := not_two (s := s.data.toList) hp2
  have hn4 := not_four (s := s.data.toList)
  have hL : (pieces 10 s.data.toList).length ≤ 100001 := by omega
  generalize hLe : pieces 10 s.data.toList = L at hS hp1 hp2 hp3 htr hon hen hn2 hn4 hL ⊢
  obtain ⟨bL, rfl, _⟩ := hS 0 hp2
  have htr := Lib.hid htr
  have hon := Lib.hid hon
  have hen := Lib.hid hen
  have hn2 := Lib.hid hn2
  have hn4 := Lib.hid hn4
  clear hsl hp1 hLe
  go_wp2_with fail
  go_loopw [6, 7, 8] (fun v nv iv wr => ∃ (k : Nat) (nn : Int) (acc : List M.Row), k ≤ L.length ∧ iv = .int .i64 k ∧ nv = .int .i64 nn ∧ (-1 ≤ nn ∧ nn ≤ 1099511627776) ∧ acc.length ≤ k ∧ OwnsRows w1.heap.size v acc wr ∧ Hid (HeldRows acc) ∧ Hid (Track s.data.toList k nn acc) ∧ Below w1.heap.size w1 wr) (fun _ _ i _ => L.length - (intOf i).toNat)
  case atStart => exact ⟨0, -1, [], by omega, rfl, rfl, by omega, by simp, World.ownsRow_nil _ _ _ _, Lib.hid (fun r hr => by cases hr), Lib.hid hnil, Below.refl _ _⟩
  case round =>
    obtain ⟨k, nn, acc, hk, rfl, rfl, hnn, hal, hown, hheld, htrk, bw1⟩ := hrel
    have bw := b1.trans (bw1.mono b1.size)
    have hbs := bw.size
    by_cases hlt : k + 2 < L.length
    · obtain ⟨b', eb, hc⟩ := (hS.below bw1) k (by omega)
      cases eb
      have hpl := hp3 L[k] (List.getElem_mem _)
      by_cases hk0 : k = 0
      · subst hk0
        have hon2 := fun x v g => hon.out x v acc g ⟨_, htrk.out⟩
        have hn22 := hn2.out
        generalize L[0]'(by omega) = p at hc hpl hon2 hn22
        have hwl := words_len p _ hpl
        have hon2 := Lib.hid hon2
        have hn22 := Lib.hid hn22
        go_wp2_with fail
        (with_reducible refine (split_sp p _ (by omega)).mono ?_)
        rintro e w2 ⟨ao2, cap2, rfl, hS2, hB2, b2⟩
        have b02 := bw.trans (b2.mono hbs)
        have b12 := bw1.trans (b2.mono bw1.size)
        by_cases h2 : (pieces 32 p).length = 2
        · obtain ⟨g, x, hw⟩ := two_of h2
          rw [hw] at hS2 hwl ⊢
          have hxl := hwl x (by simp)
          have hon3 := Lib.hid (hon2.out x (dnum x) g hw (isNum_dnum x))
          have hnb := isNum_dnum x
          have hnb := (⟨hnb.1, hnb.2.1⟩ : -1 ≤ dnum x ∧ dnum x ≤ 1099511627776)
          obtain ⟨b3, rfl, c1⟩ := hS2 1 (by simp)
          have c1 : w2.cell? ⟨b3, 1, none⟩ = some (.string ⟨x.toArray⟩) := c1
          clear hw h2 hn22 hon2 hS2
          go_wp2_with fail
          (with_reducible refine (number_num x _ (by omega)).mono ?_)
          rintro e w3 ⟨rfl, rfl⟩
          generalize dnum x = v at hon3 hnb ⊢
          have ho2 := rows_below hown b2
          go_wp2_with fail
          go_round
          case rel => exact ⟨1, v, acc, by omega, by go_num, rfl, hnb, by omega, ho2, hheld, hon3, b12⟩
          case measure => simp [intOf]; omega
        · have hno := Lib.hid (hn22.out h2)
          have hwn : ¬ ((pieces 32 p).length : Int) = 2 := by omega
          generalize (pieces 32 p).length = m at hwn h2 ⊢
          go_wp2_with fail
          go_ret3
          exact ⟨parse_none hno.out, b02⟩
      · obtain ⟨j, rfl⟩ : ∃ j, k = j + 1 := ⟨k - 1, by omega⟩
        have htr2 := fun a b c d x y => htr.out a b c d nn x y acc j htrk.out (by omega) (by omega)
        have hn42 := hn4.out j (by omega) (by omega)
        have hkj : ¬ ((j + 1 : Nat) : Int) = 0 := by omega
        have hcj : wr.cell? ⟨bL, j + 1, none⟩ = some (.string ⟨(L[j + 1]'(by omega)).toArray⟩) := hc
        clear hc
        generalize L[j + 1]'(by omega) = p at hcj hpl htr2 hn42
        have hwl := words_len p _ hpl
        have htr2 := Lib.hid htr2
        have hn42 := Lib.hid hn42
        go_wp2_with fail
        (with_reducible refine (split_sp p _ (by omega)).mono ?_)
        rintro e w2 ⟨ao2, cap2, rfl, hS2, hB2, b2⟩
        have b02 := bw.trans (b2.mono hbs)
        have b12 := bw1.trans (b2.mono bw1.size)
        by_cases h4 : (pieces 32 p).length = 4
        · obtain ⟨a, b, c, d, hw⟩ := four_of4 h4
          rw [hw] at hS2 hwl ⊢
          have hal0 := hwl a (by simp)
          have hbl0 := hwl b (by simp)
          have hcl := hwl c (by simp)
          have hdl := hwl d (by simp)
          have htr3 := Lib.hid (htr2.out a b c d (dnum c) (dnum d) hw (isNum_dnum c) (isNum_dnum d))
          have hnc := isNum_dnum c
          have hnc := (⟨hnc.1, hnc.2.1⟩ : -1 ≤ dnum c ∧ dnum c ≤ 1099511627776)
          have hnd := isNum_dnum d
          have hnd := (⟨hnd.1, hnd.2.1⟩ : -1 ≤ dnum d ∧ dnum d ≤ 1099511627776)
          have hh2 : HeldRows (acc ++ [⟨⟨a.toArray⟩, ⟨b.toArray⟩, dnum c, dnum d⟩]) := by
            intro r hr
            rcases List.mem_append.1 hr with hr | hr
            · exact hheld.out r hr
            · simp at hr; subst hr
              exact ⟨by simp [ByteArray.size]; omega, by simp [ByteArray.size]; omega, hnc, hnd⟩
          have hh2 := Lib.hid hh2
          have ho2 := rows_below hown b2
          obtain ⟨b3, rfl, c0⟩ := hS2 0 (by simp)
          obtain ⟨_, e1, c1⟩ := hS2 1 (by simp)
          cases e1
          obtain ⟨_, e1, c2⟩ := hS2 2 (by simp)
          cases e1
          obtain ⟨_, e1, c3⟩ := hS2 3 (by simp)
          cases e1
          have c0 : w2.cell? ⟨b3, 0, none⟩ = some (.string ⟨a.toArray⟩) := c0
          have c1 : w2.cell? ⟨b3, 1, none⟩ = some (.string ⟨b.toArray⟩) := c1
          have c2 : w2.cell? ⟨b3, 2, none⟩ = some (.string ⟨c.toArray⟩) := c2
          have c3 : w2.cell? ⟨b3, 3, none⟩ = some (.string ⟨d.toArray⟩) := c3
          clear hw h4 hn42 htr2 hS2
          go_wp2_with fail
          have hlb := World.block_lt_of_cell? w2 _ c0
          have hfar : some b3 ≠ u6.ownBlock := fun e => by
            have h1 := (World.ownsRow.lt hown b3 e.symm).2
            have h2 := hB2 _ rfl
            exact absurd h1 (Nat.not_lt.2 h2)
          have hcl2 : c.length ≤ 1000000 := by omega
          have hdl2 : d.length ≤ 1000000 := by omega
          have hb1 : acc.length + 1 ≤ maxLen := by unfold maxLen; omega
          have hb2 : (acc.length + 1) * 48 ≤ 140737488355328 := by omega
          have hb3 : w1.heap.size ≤ w2.heap.size := b12.size
          clear hwl hal0 hbl0 hcl hdl hlt hpl
          go_region_held3 (fun w' => w'.cell? ⟨b3, 0, none⟩ = some (.string ⟨a.toArray⟩) ∧ w'.cell? ⟨b3, 1, none⟩ = some (.string ⟨b.toArray⟩) ∧ w'.cell? ⟨b3, 2, none⟩ = some (.string ⟨c.toArray⟩) ∧ w'.cell? ⟨b3, 3, none⟩ = some (.string ⟨d.toArray⟩))
            (first
              | go_keep
              | (go_split_ands
                 refine ⟨?_, ?_, ?_, ?_⟩
                 · (rw [hgrow.cell_far _ (by simp; omega) hfar]; assumption)
                 · (rw [hgrow.cell_far _ (by simp; omega) hfar]; assumption)
                 · (rw [hgrow.cell_far _ (by simp; omega) hfar]; assumption)
                 · (rw [hgrow.cell_far _ (by simp; omega) hfar]; assumption)))
            (first
              | (go_at_call_of 22 (Value.string { data := c.toArray }); refine (number_num c _ hcl2).mono ?_; rintro e w' ⟨rfl, rfl⟩)
              | (go_at_call_of 22 (Value.string { data := d.toArray }); refine (number_num d _ hdl2).mono ?_; rintro e w' ⟨rfl, rfl⟩)
              | (refine step_append_lies _ (by rfl) _ _ _ (by rfl) w1.heap.size 34 i0 _ 4 48 Tryz.underlying22 hi hz0 hz1 hz2 rfl (by decide) u6 acc.length (acc.flatMap rowCells) (by rfl) ((World.ownsRow.alloc ho2 _).drew)
                  ⟨w2.heap.size, 0, none⟩ 1 1 (rowCells ⟨⟨a.toArray⟩, ⟨b.toArray⟩, dnum c, dnum d⟩) (by rfl) (by rfl) (World.news_of_block (cs := #[.string ⟨a.toArray⟩, .string ⟨b.toArray⟩, .int .i64 (dnum c), .int .i64 (dnum d)]) (t := 34) (fr := (0, 0)) (heap_alloc_new w2 _)) (by simp [rowCells, Value.oneCell'])
                  (by omega) hb1 hb2 (by simp; omega) (w2.heap.size + 1) (by simp) ?_; intro gg cap5 w5 hown5 hgrow hat5 hlt5))
          have b15 : Below w1.heap.size w1 w5 := ((b12.alloc hb3 _).drew).grown hgrow (by simp; omega) (fun j e => (World.ownsRow.lt ho2 j e).1)
          have ho5 : OwnsRows w1.heap.size (.slice (some ⟨gg, 0, none⟩) (acc.length + 1) cap5) (acc ++ [⟨⟨a.toArray⟩, ⟨b.toArray⟩, dnum c, dnum d⟩]) w5 := by
            unfold OwnsRows
            rw [List.flatMap_append, List.length_append]
            simpa using hown5
          clear hown5
          go_wp2_with fail
          go_round
          case rel => exact ⟨j + 1 + 1, nn, _, by omega, by go_num, rfl, hnn, by simp; omega, ho5, hh2, htr3, b15⟩
          case measure => simp [intOf]; omega
        · have hno := Lib.hid (hn42.out h4)
          have hwn : ¬ ((pieces 32 p).length : Int) = 4 := by omega
          generalize (pieces 32 p).length = m at hwn h4 ⊢
          go_wp2_with fail
          go_ret3
          exact ⟨parse_none hno.out, b02⟩
    · have hfin := Lib.hid (hen.out nn acc k htrk.out hlt)
      have hfit := hheld.out.fit (by omega)
      have hk3 : ¬ (k : Int) + 2 < (L.length : Int) := by omega
      obtain ⟨ao, cap, rfl, hRA⟩ := rows_of_owns hown
      clear hlt
      go_wp2_with fail
      (with_reducible refine (refPrint_any nn acc _ hRA hfit).mono ?_)
      rintro e w2 ⟨rfl, b2⟩
      have b02 := bw.trans (b2.mono hbs)
      have hRA2 := hRA.below b2
      cases hg : M.good nn acc
      · have hno := Lib.hid (not_this hfin.out (fun h => by rw [hg] at h; exact absurd h.1 (by decide)))
        rw [told_no hg]
        go_wp2_with fail
        go_ret3
        exact ⟨parse_none hno.out, b02⟩
      · rw [told_yes hg]
        have hg := Lib.hid hg
        by_cases ht : M.text nn acc = s.data.toList
        · have hyes := Lib.hid (parse_some (w' := w2) (ao := ao) (cap := cap) hg.out ht.symm hRA2)
          have hts : (⟨(M.text nn acc).toArray⟩ : ByteArray) = s := (congrArg (fun z : List UInt8 => (⟨z.toArray⟩ : ByteArray)) ht).trans (M.array_toList s)
          rw [hts]
          have heq : (s.toList == s.toList) = true := beq_self_eq_true _
          clear hts ht
          go_wp2_with fail
          go_ret3
          exact ⟨hyes.out, b02⟩
        · have hno := Lib.hid (not_this hfin.out (fun h => ht h.2))
          have hne : ((⟨(M.text nn acc).toArray⟩ : ByteArray).toList == s.toList) = false := by
            rw [ByteArray.toList_eq, ByteArray.toList_eq]
            simpa using ht
          generalize (⟨(M.text nn acc).toArray⟩ : ByteArray) = t at hne ⊢
          clear ht
          go_wp2_with fail
          go_ret3
          exact ⟨parse_none hno.out, b02⟩
end Go.Proofs.YtbfgniheagolgaaGreatDoor
