/-
  What the document's own words of trees come to: Parse.
-/
import Derived.Test.YtcjlhdmekhifaaaGreatDoorD47
import Derived.Test.YtcjlhdmekhifaaaGreatDoorD45
import Derived.Test.YtcjlhdmekhifaaaGreatDoorD24
import Derived.Deep.LoopGhost
namespace Go.Proofs.YtcjlhdmekhifaaaGreatDoor
open Go.RowKit

/-- THE DOCUMENT's Parse: the tree, in blocks that the call has laid, or why there is none. -/
def RParsed (s : ByteArray) (w : World) (x : Ending) (w' : World) : Prop := Below w.heap.size w w' ∧
  ((∃ (c : List Value) (n : Gv.Node), x = .returned (.tuple #[.agg c.toArray, .int .i64 0]) ∧ Gv.parse s.data.toList = .ok n ∧ NodeAt (fun b => w.heap.size ≤ b) w' c n) ∨
  (∃ e : Nat, x = .returned (.tuple #[.agg (nodeArr 0 ⟨#[]⟩ ⟨#[]⟩ (.slice none 0 0) (.slice none 0 0) ⟨#[]⟩), .int .i64 (e : Int)]) ∧ e ≠ 0 ∧ Gv.parse s.data.toList = .error e))
theorem rparsed_bad {s : ByteArray} {w w' : World} {e : Nat} {x : Int} (hb : Below w.heap.size w w') (he : e ≠ 0) (hx : x = (e : Int)) (h : Gv.parse s.data.toList = .error e) : RParsed s w (.returned (.tuple #[.agg (nodeArr 0 ⟨#[]⟩ ⟨#[]⟩ (.slice none 0 0) (.slice none 0 0) ⟨#[]⟩), .int .i64 x])) w' :=
  ⟨hb, .inr ⟨e, by rw [hx], he, h⟩⟩

theorem cell_end {F : Func} {R : Ending → World → Prop} {tmps : Array Value} {w : World} {rb i k : Nat} {x y : Int} {sp nm d : ByteArray} {va vk : Value} (hres : F.results = #[ResultVar.cell i 26, ResultVar.tmp k])
    (h2 : tmps[i]? = some (.pointer (some ⟨rb, 0, none⟩))) (h4 : tmps[k]? = some (.int .i64 y)) (hc : Cells w rb 26 (nodeArr x sp nm va vk d))
    (hR : R (.returned (.tuple #[.agg (nodeArr x sp nm va vk d), .int .i64 y])) w) : bodyPost Tryz.prog F R .ret { tmps := tmps, defers := [] } w := by
  refine ⟨rfl, _, ?_, hR⟩
  have l2 : i < tmps.size := (Array.getElem?_eq_some_iff.1 h2).1
  have g2 : tmps[i] = .pointer (some ⟨rb, 0, none⟩) := (Array.getElem?_eq_some_iff.1 h2).2
  have l4 : k < tmps.size := (Array.getElem?_eq_some_iff.1 h4).1
  have g4 : tmps[k] = .int .i64 y := (Array.getElem?_eq_some_iff.1 h4).2
  obtain ⟨x0, x1, x2, x3, x4, x5⟩ := node_open hc
  simp [results, hres, go_sem, l2, g2, l4, g4, x0, x1, x2, x3, x4, x5]
  rfl

/-- The text is read as far as this: the tree that has been is laid in the block behind w1. -/
structure PIn (w1 : World) (r : Option Gv.Node) (w : World) : Prop where
  low : Below w1.heap.size w1 w
  sz : w1.heap.size + 1 ≤ w.heap.size
  root : ∃ (k : Int) (sp nm d : ByteArray) (ao bo : Option Addr) (n1 c1 n2 c2 : Nat), Cells w w1.heap.size 26 (nodeArr k sp nm (.slice ao n1 c1) (.slice bo n2 c2) d) ∧ ∀ n, r = some n → NodeAt (fun b => w1.heap.size + 1 ≤ b) w [.int .i64 k, .string sp, .string nm, .slice ao n1 c1, .slice bo n2 c2, .string d] n
theorem PIn.on {w1 w w' : World} {r : Option Gv.Node} (h : PIn w1 r w) (hb : Below w.heap.size w w') : PIn w1 r w' := by
  obtain ⟨k, sp, nm, d, ao, bo, n1, c1, n2, c2, hc, hn⟩ := h.root
  exact ⟨h.low.trans (hb.mono h.low.size), Nat.le_trans h.sz hb.size, k, sp, nm, d, ao, bo, n1, c1, n2, c2, hc.on hb, fun n e => (hn n e).on hb⟩
theorem PIn.first (w1 : World) : PIn w1 none (w1.alloc (.cells #[.int .i64 0, .string ⟨#[]⟩, .string ⟨#[]⟩, .slice none 0 0, .slice none 0 0, .string ⟨#[]⟩] 26)) :=
  ⟨(Below.refl _ _).alloc (Nat.le_refl _) _, by simp, _, _, _, _, _, _, _, _, _, _, Cells.new _ _ _, fun n e => by cases e⟩
theorem PIn.store {w1 w w' : World} {r : Option Gv.Node} (h : PIn w1 r w) (hb : Below w.heap.size w w') {k : Int} {sp nm d : ByteArray} {ao bo : Option Addr} {n1 c1 n2 c2 : Nat} {n : Gv.Node} (hn : NodeAt (fun b => w1.heap.size + 1 ≤ b) w' [.int .i64 k, .string sp, .string nm, .slice ao n1 c1, .slice bo n2 c2, .string d] n) :
    PIn w1 (some n) (sixSet w' w1.heap.size 0 (.int .i64 k) (.string sp) (.string nm) (.slice ao n1 c1) (.slice bo n2 c2) (.string d)) := by
  obtain ⟨_, _, _, _, _, _, _, _, _, _, hc, _⟩ := h.root
  refine ⟨six_below (h.low.trans (hb.mono h.low.size)) (Nat.le_refl _) _ _ _ _ _ _, ?_, k, sp, nm, d, ao, bo, n1, c1, n2, c2, node_set rfl (hc.on hb) k sp nm d _ _, fun n' e => ?_⟩
  · have := h.sz
    have := hb.size
    unfold sixSet
    simp only [World.size_setCell]
    omega
  · cases e
    exact hn.stay (stay_grown (grown_six w' w1.heap.size 0 _ _ _ _ _ _) (fun g e x => by injection e with e; subst e; omega))

set_option maxRecDepth 100000 in
set_option maxHeartbeats 12800000 in
theorem refParse_any (s : ByteArray) (w : World) (hs : s.size ≤ 1000000) : Calls Tryz.prog 6 #[.string s] w (RParsed s w) := by
  go_enter Tryz.func6, Tryz.ntmps6
  have b0 := (Below.refl w.heap.size w).alloc (Nat.le_refl _) (.cells #[.int .i64 0, .string ⟨#[]⟩, .string ⟨#[]⟩, .slice none 0 0, .slice none 0 0, .string ⟨#[]⟩] 26)
  have k0 := Cells.new w 26 #[.int .i64 0, .string ⟨#[]⟩, .string ⟨#[]⟩, .slice none 0 0, .slice none 0 0, .string ⟨#[]⟩]
  go_wp2_with fail
  (with_reducible refine (refTokens_any s _ hs).mono ?_)
  rintro x w1 ⟨ao, cap, L, rfl, hL1, hin, hao, bT, hle⟩
  have kR1 := k0.on bT
  have c1 := b0.trans (bT.mono b0.size)
  have hz1 : w.heap.size + 1 ≤ w1.heap.size := by have := bT.size; rw [World.size_alloc] at this; exact this
  clear k0 b0 bT
  cases ht : T.tokens s.data.toList with
  | error e =>
    obtain ⟨-, h2⟩ := T.told_err ht
    have he0 := T.tokens_err ht
    have hp : Gv.parse s.data.toList = .error e := by unfold Gv.parse; rw [ht]
    rw [h2]
    have hz2 : ¬ (e : Int) = 0 := by omega
    have hz3 : ((e : Int) != 0) = true := by rw [bne_iff_ne]; omega
    replace hp := Lib.hid hp
    replace he0 := Lib.hid he0
    have f0 := kR1.free 0
    have f1 := kR1.free 1
    have f2 := kR1.free 2
    have f3 := kR1.free 3
    have f4 := kR1.free 4
    have f5 := kR1.free 5
    obtain ⟨x0, x1, x2, x3, x4, x5⟩ := node_open kR1
    have kR8 := Lib.hid (node_set rfl kR1 0 ⟨#[]⟩ ⟨#[]⟩ ⟨#[]⟩ (.slice none 0 0) (.slice none 0 0))
    have c8 := Lib.hid (six_below c1 (Nat.le_refl w.heap.size) (.int .i64 0) (.string ⟨#[]⟩) (.string ⟨#[]⟩) (.slice none 0 0) (.slice none 0 0) (.string ⟨#[]⟩))
    clear kR1 c1 hin hao hle hL1 ht h2 hs hz1
    go_wp2_with fail
    exact cell_end (rb := w.heap.size) rfl rfl rfl kR8.out (rparsed_bad c8.out he0.out rfl hp.out)
  | ok ts =>
    obtain ⟨h1, h2⟩ := T.told_ok ht
    obtain ⟨hfl, hfit⟩ := T.tokens_fit ht
    have hpt : Gv.parse s.data.toList = Gv.tree ts := by unfold Gv.parse; rw [ht]
    rw [h2]
    rw [h1] at hL1
    subst hL1
    rw [List.length_map] at hfl
    have hO := Lib.hid (Gv.out_first (L.map Prod.fst))
    have hP := Lib.hid (PIn.first w1)
    replace hfit : Hid (∀ x ∈ L, T.Fit 100000 x.1) := Lib.hid fun x hx => hfit x.1 (List.mem_map.2 ⟨x, hx, rfl⟩)
    replace hpt := Lib.hid hpt
    replace hin := Lib.hid hin
    replace hao := Lib.hid hao
    replace hle := Lib.hid hle
    replace kR1 := Lib.hid kR1
    replace c1 := Lib.hid c1
    replace hz1 := Lib.hid hz1
    clear h1 h2 ht hs
    go_wp2_with fail
    go_loopg [7, 8, 9, 10, 11, 12] L.length (fun gg s7 s8 _ _ _ _ wr => ∃ (m : Nat) (r : Option Gv.Node), m ≤ L.length ∧ L.length - m ≤ gg ∧ s7 = .bool r.isSome ∧ s8 = .int .i64 m ∧ Hid (Gv.Outside r (L.map Prod.fst) m) ∧ Hid (PIn w1 r wr))
    case atStart => exact ⟨0, none, Nat.zero_le _, by omega, rfl, rfl, hO, hP⟩
    case round =>
      obtain ⟨m, r, hm, hg, rfl, rfl, hW, hJ⟩ := hrel
      clear hO hP
      by_cases hlt : m < L.length
      · have hmi : (m : Int) < (L.length : Int) := by omega
        have hml2 : m < (L.map Prod.fst).length := by rw [List.length_map]; exact hlt
        obtain ⟨⟨u, uv⟩, hx⟩ : ∃ x, x = L[m] := ⟨_, rfl⟩
        have hum : (L.map Prod.fst)[m]'hml2 = u := by simp only [List.getElem_map, ← hx]
        have hfu := hfit.out (u, uv) (by rw [hx]; exact List.getElem_mem hlt)
        have hLr := hin.out.below hJ.out.low
        obtain ⟨b, off, rfl, d0, d1, d2, d3, d4, hatu⟩ := hLr.cells hlt (t := u) (v := uv) hx.symm
        obtain ⟨uao, ucap, rfl, hup⟩ := hatu
        have bW := (Below.refl wr.heap.size wr).alloc (Nat.le_refl _) (.cells #[.int .i64 (u.kind : Int), .string ⟨u.name.toArray⟩, .slice uao u.attrs.length ucap, .bool u.alone, .string ⟨u.data.toArray⟩] 41)
        have kT := Cells.new wr 41 #[.int .i64 (u.kind : Int), .string ⟨u.name.toArray⟩, .slice uao u.attrs.length ucap, .bool u.alone, .string ⟨u.data.toArray⟩]
        have kTo := Lib.hid (fun W hb => kT.on (w' := W) hb)
        have y0 := kT.cell (i := 0) (v := .int .i64 (u.kind : Int)) rfl
        have y1 := kT.cell (i := 1) (v := .string ⟨u.name.toArray⟩) rfl
        have y3 := kT.cell (i := 3) (v := .bool u.alone) rfl
        have y4 := kT.cell (i := 4) (v := .string ⟨u.data.toArray⟩) rfl
        have hJW := Lib.hid (hJ.out.on bW)
        have hbl := fun W => refBlank5_any (⟨u.data.toArray⟩ : ByteArray) W (by
          have h1 : u.data.length ≤ 4 * 100000 := hfu.2.1
          have h2 : (⟨u.data.toArray⟩ : ByteArray).size = u.data.length := by simp [ByteArray.size]
          unfold maxLen
          omega)
        rw [show (⟨u.data.toArray⟩ : ByteArray).data.toList = u.data by simp] at hbl
        have hpl := fun W => refPlain_any (⟨u.name.toArray⟩ : ByteArray) W (by
          have h1 : u.name.length ≤ 100000 := hfu.1
          have h2 : (⟨u.name.toArray⟩ : ByteArray).size = u.name.length := by simp [ByteArray.size]
          unfold maxLen
          omega)
        rw [show (⟨u.name.toArray⟩ : ByteArray).data.toList = u.name by simp] at hpl
        replace hbl := Lib.hid hbl
        replace hpl := Lib.hid hpl
        have hoT := Lib.hid (fun (hk : u.kind = 2) (h : u.alone = true ∨ Gv.blankText u.data = false) => Gv.out_text hW.out hml2 (by rw [hum]; exact hk) (by rw [hum]; exact h))
        have hoN := Lib.hid (fun (hk : u.kind = 1 ∨ (u.kind = 0 ∧ r.isSome = true)) => Gv.out_nest hW.out hml2 (by rw [hum]; exact hk))
        have hoP := Lib.hid (fun (hk : u.kind = 4) (h : G.plain u.name = false) => Gv.out_prefix hW.out hml2 (by rw [hum]; exact hk) (by rw [hum]; exact h))
        have hoA := Lib.hid (fun (h : Gv.Aside u) => Gv.out_aside hW.out hml2 (by rw [hum]; exact h))
        replace kT := Lib.hid kT
        replace hfu := Lib.hid hfu
        replace hum := Lib.hid hum
        clear hup
        go_upto_region 10 with fail
        generalize hW0 : wr.alloc (.cells #[.int .i64 (u.kind : Int), .string ⟨u.name.toArray⟩, .slice uao u.attrs.length ucap, .bool u.alone, .string ⟨u.data.toArray⟩] 41) = W at *
        clear hW0 d0 d1 d2 d3 d4
        by_cases k2 : u.kind = 2
        · have k2i : (u.kind : Int) = 2 := by omega
          clear hLr hoN hoP hpl
          cases hal : u.alone with
          | true =>
            rw [hal] at y3
            have hbad := Lib.hid (hpt.out.trans (hoT.out k2 (.inl hal)))
            have kR5 := kR1.out.on (hJW.out).low
            have f0 := kR5.free 0
            have f1 := kR5.free 1
            have f2 := kR5.free 2
            have f3 := kR5.free 3
            have f4 := kR5.free 4
            have f5 := kR5.free 5
            obtain ⟨x0, x1, x2, x3, x4, x5⟩ := node_open kR5
            have kR8 := Lib.hid (node_set rfl kR5 0 ⟨#[]⟩ ⟨#[]⟩ ⟨#[]⟩ (.slice none 0 0) (.slice none 0 0))
            have c8 := Lib.hid (six_below (c1.out.trans ((hJW.out).low.mono c1.out.size)) (Nat.le_refl w.heap.size) (.int .i64 0) (.string ⟨#[]⟩) (.string ⟨#[]⟩) (.slice none 0 0) (.slice none 0 0) (.string ⟨#[]⟩))
            clear kR5 hbl hoT hoA hal hW hJ k2
            go_wp2_with fail
            exact cell_end (rb := w.heap.size) rfl rfl rfl kR8.out (rparsed_bad (e := 90) c8.out (by decide) rfl hbad.out)
          | false =>
            rw [hal] at y3
            cases hbk : T.blankL u.data with
            | false =>
              have hbad := Lib.hid (hpt.out.trans (hoT.out k2 (.inr hbk)))
              rw [hbk] at hbl
              clear hoT hoA hal hW hJ k2 hbk
              go_wp2_with fail
              (with_reducible refine (hbl.out _).mono ?_); rintro x w3 ⟨rfl, rfl⟩
              have kR5 := kR1.out.on (hJW.out).low
              have f0 := kR5.free 0
              have f1 := kR5.free 1
              have f2 := kR5.free 2
              have f3 := kR5.free 3
              have f4 := kR5.free 4
              have f5 := kR5.free 5
              obtain ⟨x0, x1, x2, x3, x4, x5⟩ := node_open kR5
              have kR8 := Lib.hid (node_set rfl kR5 0 ⟨#[]⟩ ⟨#[]⟩ ⟨#[]⟩ (.slice none 0 0) (.slice none 0 0))
              have c8 := Lib.hid (six_below (c1.out.trans ((hJW.out).low.mono c1.out.size)) (Nat.le_refl w.heap.size) (.int .i64 0) (.string ⟨#[]⟩) (.string ⟨#[]⟩) (.slice none 0 0) (.slice none 0 0) (.string ⟨#[]⟩))
              clear kR5
              go_wp2_with fail
              exact cell_end (rb := w.heap.size) rfl rfl rfl kR8.out (rparsed_bad (e := 90) c8.out (by decide) rfl hbad.out)
            | true =>
              rw [hbk] at hbl
              have hnx := Lib.hid (hoA.out ⟨by omega, by omega, fun _ => ⟨hal, hbk⟩, fun h => by omega⟩)
              clear hoT hoA hal hW hJ k2 hbk
              go_wp2_with fail
              (with_reducible refine (hbl.out _).mono ?_); rintro x w3 ⟨rfl, rfl⟩
              go_wp2_with fail
              go_roundg (L.length - (m + 1))
              case measure => omega
              case rel => exact ⟨m + 1, r, by omega, by omega, rfl, by go_num, hnx, hJW⟩
        have k2i : ¬ (u.kind : Int) = 2 := by omega
        have k2b : ((u.kind : Int) == 2) = false := by simpa using k2i
        clear hbl hoT
        by_cases k1 : u.kind = 1
        · have k1i : (u.kind : Int) = 1 := by omega
          have hbad := Lib.hid (hpt.out.trans (hoN.out (.inl k1)))
          clear hLr hoP hpl
          have kR5 := kR1.out.on (hJW.out).low
          have f0 := kR5.free 0
          have f1 := kR5.free 1
          have f2 := kR5.free 2
          have f3 := kR5.free 3
          have f4 := kR5.free 4
          have f5 := kR5.free 5
          obtain ⟨x0, x1, x2, x3, x4, x5⟩ := node_open kR5
          have kR8 := Lib.hid (node_set rfl kR5 0 ⟨#[]⟩ ⟨#[]⟩ ⟨#[]⟩ (.slice none 0 0) (.slice none 0 0))
          have c8 := Lib.hid (six_below (c1.out.trans ((hJW.out).low.mono c1.out.size)) (Nat.le_refl w.heap.size) (.int .i64 0) (.string ⟨#[]⟩) (.string ⟨#[]⟩) (.slice none 0 0) (.slice none 0 0) (.string ⟨#[]⟩))
          clear kR5 hoN hoA hW hJ k1 k2
          go_wp2_with fail
          exact cell_end (rb := w.heap.size) rfl rfl rfl kR8.out (rparsed_bad (e := 90) c8.out (by decide) rfl hbad.out)
        have k1i : ¬ (u.kind : Int) = 1 := by omega
        have k1b : ((u.kind : Int) == 1) = false := by simpa using k1i
        by_cases k0 : u.kind = 0
        · have k0i : (u.kind : Int) = 0 := by omega
          clear hpl hoP hoA
          cases hr : r with
          | some n0 =>
            subst hr
            have hbad := Lib.hid (hpt.out.trans (hoN.out (.inr ⟨k0, rfl⟩)))
            clear hLr
            have kR5 := kR1.out.on (hJW.out).low
            have f0 := kR5.free 0
            have f1 := kR5.free 1
            have f2 := kR5.free 2
            have f3 := kR5.free 3
            have f4 := kR5.free 4
            have f5 := kR5.free 5
            obtain ⟨x0, x1, x2, x3, x4, x5⟩ := node_open kR5
            have kR8 := Lib.hid (node_set rfl kR5 0 ⟨#[]⟩ ⟨#[]⟩ ⟨#[]⟩ (.slice none 0 0) (.slice none 0 0))
            have c8 := Lib.hid (six_below (c1.out.trans ((hJW.out).low.mono c1.out.size)) (Nat.le_refl w.heap.size) (.int .i64 0) (.string ⟨#[]⟩) (.string ⟨#[]⟩) (.slice none 0 0) (.slice none 0 0) (.string ⟨#[]⟩))
            clear kR5 hoN hW hJ k0 k1 k2
            go_wp2_with fail
            exact cell_end (rb := w.heap.size) rfl rfl rfl kR8.out (rparsed_bad (e := 90) c8.out (by decide) rfl hbad.out)
          | none =>
            subst hr
            clear hoN
            have hmi0 : (0 : Int) ≤ (m : Int) := by omega
            have hmi1 : (m : Int) ≤ (L.length : Int) := by omega
            have hcl : L.length ≤ cap := hle.out
            have hcm : ¬ cap = m := by omega
            have hcm2 : ¬ m = cap := by omega
            have hLW : ToksIn W (some ⟨b, off + m * 5, none⟩) (L.drop m) := toks_from (hin.out.below hJW.out.low) m
            have hdl : (L.drop m).length = L.length - m := by rw [List.length_drop]
            have hdm : ((L.drop m)[0]'(by rw [hdl]; omega)).1.kind = 0 := by
              rw [List.getElem_drop]
              simp only [Nat.add_zero, ← hx]
              exact k0
            have hcall := refBody_any 30 1 rfl (Nat.le_refl _) (L.drop m) [] (some ⟨b, off + m * 5, none⟩) none (cap - m) 0 W hLW (by rw [hdl]; omega) hdm (fun x hx => hfit.out x (List.mem_of_mem_drop hx)) (by rw [hdl]; omega) (fun j hj => by simp at hj) (fun _ => rfl) (by simp) (by rw [hdl]; omega)
            rw [hdl] at hcall
            replace hcall := Lib.hid (show Calls Tryz.prog 14 #[.slice (some ⟨b, off + m * 5, none⟩) (L.length - m) (cap - m), .slice none 0 0, .int .i64 1] W _ from hcall)
            clear hLW hdm hLr hx
            go_wp2_with fail
            (with_reducible refine hcall.out.mono ?_)
            rintro x w5 ⟨b5, ⟨c, n, k, rfl, hn5, hnk, hnd, hnb⟩ | ⟨k, e, rfl, he0, hnb⟩⟩
            · obtain ⟨kk, ksp, knm, kd, kas, kks, kao, kbo, kca, kcb, _, rfl, rfl, -, -, -, -, -⟩ := hn5.open'
              have hB := hnb [] none rfl rfl (.inr rfl)
              have hlen2 : 1 ≤ k ∧ k ≤ L.length - m := by
                have h1 := hB.2.1
                rw [List.length_map, hdl] at h1
                exact ⟨hB.1, h1⟩
              have hnx := Lib.hid (Gv.out_kid hW.out (by rw [List.map_drop] at hB; exact hB))
              have bA1 := (Below.refl w5.heap.size w5).alloc (Nat.le_refl _) (.cells #[.int .i64 kk, .string ksp, .string knm, .slice kao kas.length kca, .slice kbo kks.length kcb, .string kd] 26)
              have kK := Cells.new w5 26 #[.int .i64 kk, .string ksp, .string knm, .slice kao kas.length kca, .slice kbo kks.length kcb, .string kd]
              obtain ⟨x0, x1, x2, x3, x4, x5⟩ := node_open kK
              have hJ5 := (hJW.out.on b5).on bA1
              have hnK := (hn5.mono (S' := fun g => w1.heap.size + 1 ≤ g) (fun g hg _ => by have := hJW.out.sz; omega)).on bA1
              have hJ9 := Lib.hid (hJ5.store (Below.refl _ _) hnK)
              obtain ⟨qk, qs, qn, qd, qa, qv, qi, qj, qp, qq, hQ, -⟩ := hJ5.root
              have f0 := hQ.free 0
              have f1 := hQ.free 1
              have f2 := hQ.free 2
              have f3 := hQ.free 3
              have f4 := hQ.free 4
              have f5 := hQ.free 5
              obtain ⟨z0, z1, z2, z3, z4, z5⟩ := node_open hQ
              have hsz5 := (hJW.out.on b5).sz
              have hlw : w1.heap.size < w5.heap.size := by omega
              have hne5 : ¬ w1.heap.size = w5.heap.size := by omega
              have hmk : m + k ≤ L.length := by omega
              have hk1 : 1 ≤ k := hlen2.1
              have hkN : k ≤ 1000000 := by omega
              replace kK := Lib.hid kK
              replace hQ := Lib.hid hQ
              clear hn5 hnk hnd hnb hB hlen2 bA1 hJ5 hnK hW hJ b5 hcall hsz5 hcl hcm hcm2 hdl hlw hne5
              go_upto_region 20 with fail
              generalize w5.alloc (.cells #[.int .i64 kk, .string ksp, .string knm, .slice kao kas.length kca, .slice kbo kks.length kcb, .string kd] 26) = W6 at *
              clear y0 y1 y3 y4
              go_wp2_with fail
              go_roundg (L.length - (m + k))
              case measure => omega
              case rel => exact ⟨m + k, some _, hmk, by omega, rfl, by go_num, hnx, hJ9⟩
            · have hB := hnb [] none rfl rfl (.inr rfl)
              have hbad := Lib.hid (hpt.out.trans (Gv.out_kid_bad hW.out (by rw [List.map_drop] at hB; exact hB)))
              have hz2 : ¬ (e : Int) = 0 := by omega
              have hz3 : ((e : Int) != 0) = true := by rw [bne_iff_ne]; omega
              have bK := (Below.refl w5.heap.size w5).alloc (Nat.le_refl _) (.cells #[.int .i64 0, .string ⟨#[]⟩, .string ⟨#[]⟩, .slice none 0 0, .slice none 0 0, .string ⟨#[]⟩] 26)
              have hJ5 := Lib.hid ((hJW.out.on b5).on bK)
              have he1 := Lib.hid he0
              have hlt5 : w.heap.size < w5.heap.size := by have := hz1.out; have := (hJW.out.on b5).sz; omega
              have hne5 : ¬ w.heap.size = w5.heap.size := by omega
              unfold nodeArr
              clear hlt5 hne5
              go_upto_region 19 with fail
              generalize w5.alloc (.cells #[.int .i64 0, .string ⟨#[]⟩, .string ⟨#[]⟩, .slice none 0 0, .slice none 0 0, .string ⟨#[]⟩] 26) = W6 at *
              clear y0 y1 y3 y4
              have kR5 := kR1.out.on (hJ5.out).low
              have f0 := kR5.free 0
              have f1 := kR5.free 1
              have f2 := kR5.free 2
              have f3 := kR5.free 3
              have f4 := kR5.free 4
              have f5 := kR5.free 5
              obtain ⟨x0, x1, x2, x3, x4, x5⟩ := node_open kR5
              have kR8 := Lib.hid (node_set rfl kR5 0 ⟨#[]⟩ ⟨#[]⟩ ⟨#[]⟩ (.slice none 0 0) (.slice none 0 0))
              have c8 := Lib.hid (six_below (c1.out.trans ((hJ5.out).low.mono c1.out.size)) (Nat.le_refl w.heap.size) (.int .i64 0) (.string ⟨#[]⟩) (.string ⟨#[]⟩) (.slice none 0 0) (.slice none 0 0) (.string ⟨#[]⟩))
              clear kR5 hnb hB he0 b5 bK hcall hW hJ k0 k1 k2 hcl hcm hcm2 hdl hmi0 hmi1
              go_wp2_with fail
              exact cell_end (rb := w.heap.size) rfl rfl rfl kR8.out (rparsed_bad (e := e) c8.out he1.out rfl hbad.out)
        have k0i : ¬ (u.kind : Int) = 0 := by omega
        have k0b : ((u.kind : Int) == 0) = false := by simpa using k0i
        clear hoN hLr
        by_cases k4 : u.kind = 4
        · have k4i : (u.kind : Int) = 4 := by omega
          cases hp : G.plain u.name with
          | false =>
            have hbad := Lib.hid (hpt.out.trans (hoP.out k4 hp))
            rw [hp] at hpl
            clear hoP hoA hp hW hJ k0 k1 k2 k4
            go_wp2_with fail
            (with_reducible refine (hpl.out _).mono ?_); rintro x w3 ⟨rfl, b3⟩
            have hJ3 := Lib.hid (hJW.out.on b3)
            have kR5 := kR1.out.on (hJ3.out).low
            have f0 := kR5.free 0
            have f1 := kR5.free 1
            have f2 := kR5.free 2
            have f3 := kR5.free 3
            have f4 := kR5.free 4
            have f5 := kR5.free 5
            obtain ⟨x0, x1, x2, x3, x4, x5⟩ := node_open kR5
            have kR8 := Lib.hid (node_set rfl kR5 0 ⟨#[]⟩ ⟨#[]⟩ ⟨#[]⟩ (.slice none 0 0) (.slice none 0 0))
            have c8 := Lib.hid (six_below (c1.out.trans ((hJ3.out).low.mono c1.out.size)) (Nat.le_refl w.heap.size) (.int .i64 0) (.string ⟨#[]⟩) (.string ⟨#[]⟩) (.slice none 0 0) (.slice none 0 0) (.string ⟨#[]⟩))
            clear kR5
            clear b3 y0 y1 y3 y4
            go_wp2_with fail
            exact cell_end (rb := w.heap.size) rfl rfl rfl kR8.out (rparsed_bad (e := 80) c8.out (by decide) rfl hbad.out)
          | true =>
            rw [hp] at hpl
            have hnx := Lib.hid (hoA.out ⟨k0, k1, fun h => absurd h k2, fun _ => hp⟩)
            clear hoP hoA hp hW hJ
            go_wp2_with fail
            (with_reducible refine (hpl.out _).mono ?_); rintro x w3 ⟨rfl, b3⟩
            have kT3 := kTo.out _ b3
            have hJ3 := Lib.hid (hJW.out.on b3)
            clear y0 y1 y3 y4
            have y0 := kT3.cell (i := 0) (v := .int .i64 (u.kind : Int)) rfl
            replace kT3 := Lib.hid kT3
            clear b3
            go_wp2_with fail
            go_roundg (L.length - (m + 1))
            case measure => omega
            case rel => exact ⟨m + 1, r, by omega, by omega, rfl, by go_num, hnx, hJ3⟩
        · have k4i : ¬ (u.kind : Int) = 4 := by omega
          have k4b : ((u.kind : Int) == 4) = false := by simpa using k4i
          have hnx := Lib.hid (hoA.out ⟨k0, k1, fun h => absurd h k2, fun h => absurd h k4⟩)
          clear hoP hoA hpl hW hJ
          go_wp2_with fail
          go_roundg (L.length - (m + 1))
          case measure => omega
          case rel => exact ⟨m + 1, r, by omega, by omega, rfl, by go_num, hnx, hJW⟩
      · have hmi : ¬ (m : Int) < (L.length : Int) := by omega
        have hend := Gv.out_end hW.out (by rw [List.length_map]; exact hlt)
        cases hr : r with
        | none =>
          subst hr
          have hbad : Hid (Gv.parse s.data.toList = .error 90) := Lib.hid (hpt.out.trans hend)
          clear hend hlt
          have kR5 := kR1.out.on (hJ.out).low
          have f0 := kR5.free 0
          have f1 := kR5.free 1
          have f2 := kR5.free 2
          have f3 := kR5.free 3
          have f4 := kR5.free 4
          have f5 := kR5.free 5
          obtain ⟨x0, x1, x2, x3, x4, x5⟩ := node_open kR5
          have kR8 := Lib.hid (node_set rfl kR5 0 ⟨#[]⟩ ⟨#[]⟩ ⟨#[]⟩ (.slice none 0 0) (.slice none 0 0))
          have c8 := Lib.hid (six_below (c1.out.trans ((hJ.out).low.mono c1.out.size)) (Nat.le_refl w.heap.size) (.int .i64 0) (.string ⟨#[]⟩) (.string ⟨#[]⟩) (.slice none 0 0) (.slice none 0 0) (.string ⟨#[]⟩))
          clear kR5 hW
          go_wp2_with fail
          exact cell_end (rb := w.heap.size) rfl rfl rfl kR8.out (rparsed_bad (e := 90) c8.out (by decide) rfl hbad.out)
        | some n0 =>
          subst hr
          have hgood : Hid (Gv.parse s.data.toList = .ok n0) := Lib.hid (hpt.out.trans hend)
          obtain ⟨qk, qs, qn, qd, qa, qv, qi, qj, qp, qq, hQ, hN⟩ := hJ.out.root
          have hN0 := hN n0 rfl
          have kR5 := kR1.out.on hJ.out.low
          have f0 := kR5.free 0
          have f1 := kR5.free 1
          have f2 := kR5.free 2
          have f3 := kR5.free 3
          have f4 := kR5.free 4
          have f5 := kR5.free 5
          obtain ⟨x0, x1, x2, x3, x4, x5⟩ := node_open kR5
          obtain ⟨z0, z1, z2, z3, z4, z5⟩ := node_open hQ
          have kR8 := Lib.hid (node_set rfl kR5 qk qs qn qd (.slice qa qi qj) (.slice qv qp qq))
          have c8 := Lib.hid (six_below (c1.out.trans (hJ.out.low.mono c1.out.size)) (Nat.le_refl w.heap.size) (.int .i64 qk) (.string qs) (.string qn) (.slice qa qi qj) (.slice qv qp qq) (.string qd))
          have n8 := Lib.hid ((hN0.stay (stay_grown (grown_six wr w.heap.size 0 (.int .i64 qk) (.string qs) (.string qn) (.slice qa qi qj) (.slice qv qp qq) (.string qd)) (fun g e x => by injection e with e; subst e; have := hz1.out; omega))).mono (S' := fun b => w.heap.size ≤ b) (fun b hb _ => by have := hz1.out; omega))
          clear hend hlt hN hN0 kR5 hQ hW hJ
          go_wp2_with fail
          exact cell_end (rb := w.heap.size) rfl rfl rfl kR8.out ⟨c8.out, .inl ⟨_, _, rfl, hgood.out, n8.out⟩⟩
end Go.Proofs.YtcjlhdmekhifaaaGreatDoor
