/-
  The document's own Size of a tree: where it says that the tree is small, each text in it is.
  What the law's own makers of nodes come to: El, Plain.
-/
import Derived.Test.YtbaclacfadkjdaaGreatDoorG21
import Derived.BigQuiet
import Derived.Deep.LoopGhost
import Derived.Test.YtbaclacfadkjdaaGreatDoorG27
import Derived.Test.YtbaclacfadkjdaaGreatDoorG11
namespace Go.Proofs.YtbaclacfadkjdaaGreatDoor
open Go.RowKit
inductive Sized : Gv.Node → Prop where
  | mk {k : Int} {sp nm d : ByteArray} {as' : List Gv.Att} {kids : List Gv.Node} (h0 : as'.length ≤ 140737488355328) (h1 : sp.size ≤ 140737488355328) (h2 : nm.size ≤ 140737488355328) (h3 : d.size ≤ 140737488355328) (ha : ∀ a ∈ as', a.space.size ≤ 140737488355328 ∧ a.name.size ≤ 140737488355328 ∧ a.value.size ≤ 140737488355328) (hk : ∀ n ∈ kids, Sized n) : Sized (.mk k sp nm as' kids d)
theorem sized_parts {k : Int} {sp nm d : ByteArray} {as' : List Gv.Att} {kids : List Gv.Node} (h : Sized (.mk k sp nm as' kids d)) : as'.length ≤ 140737488355328 ∧ sp.size ≤ 140737488355328 ∧ nm.size ≤ 140737488355328 ∧ d.size ≤ 140737488355328 ∧ (∀ a ∈ as', a.space.size ≤ 140737488355328 ∧ a.name.size ≤ 140737488355328 ∧ a.value.size ≤ 140737488355328) ∧ ∀ n ∈ kids, Sized n := by
  cases h with
  | mk h0 h1 h2 h3 ha hk => exact ⟨h0, h1, h2, h3, ha, hk⟩
def Small1 (m k : Int) (sp nm d : ByteArray) (as' : List Gv.Att) (j : Nat) : Prop := k ≤ m → ((1 + as'.length + d.size + sp.size + nm.size + ((as'.take j).map Gv.attW).sum : Nat) : Int) ≤ k
def Small2 (m k : Int) (sp nm d : ByteArray) (as' : List Gv.Att) (kids : List Gv.Node) (j : Nat) : Prop := k ≤ m → ((1 + as'.length + d.size + sp.size + nm.size + (as'.map Gv.attW).sum + Gv.wts (kids.take j) : Nat) : Int) ≤ k
theorem small1_next {m k : Int} {sp nm d : ByteArray} {as' : List Gv.Att} {j : Nat} (h : Small1 m k sp nm d as' j) (hk : k ≤ m) (hj : j < as'.length) : Small1 m (k + (as'[j].space.size : Int) + (as'[j].name.size : Int) + (as'[j].value.size : Int)) sp nm d as' (j + 1) := fun _ => by
  have h1 := h hk
  have e : ((as'.take (j + 1)).map Gv.attW).sum = ((as'.take j).map Gv.attW).sum + (as'[j].space.size + as'[j].name.size + as'[j].value.size) := by
    rw [List.take_succ_eq_append_getElem hj, List.map_append, List.sum_append]
    simp [Gv.attW]
  rw [e]
  omega
theorem small2_start {m k : Int} {sp nm d : ByteArray} {as' : List Gv.Att} {kids : List Gv.Node} {j : Nat} (h : Small1 m k sp nm d as' j) (hj : k ≤ m → j = as'.length) : Small2 m k sp nm d as' kids 0 := fun hk => by
  have h1 := h hk
  rw [hj hk, List.take_length] at h1
  rw [List.take_zero, Gv.wts]
  omega
theorem small2_next {m k r : Int} {sp nm d : ByteArray} {as' : List Gv.Att} {kids : List Gv.Node} {j : Nat} (h : Small2 m k sp nm d as' kids j) (hk : k ≤ m) (hj : j < kids.length) (hr : r ≤ m - k → (Gv.wt kids[j] : Int) ≤ r) : Small2 m (k + r) sp nm d as' kids (j + 1) := fun h2 => by
  have h1 := h hk
  have h3 := hr (by omega)
  rw [Gv.wts_take hj]
  omega
theorem small2_wt {m k x : Int} {sp nm d : ByteArray} {as' : List Gv.Att} {kids : List Gv.Node} {j : Nat} (h : Small2 m k sp nm d as' kids j) (hj : j = kids.length) (hk : k ≤ m) : (Gv.wt (.mk x sp nm as' kids d) : Int) ≤ k := by
  have h1 := h hk
  rw [hj, List.take_length] at h1
  unfold Gv.wt
  exact h1
def SizeTold (m : Int) (n : Gv.Node) (w : World) (e : Ending) (w' : World) : Prop := (∃ k : Int, e = .returned (.int .i64 k) ∧ 1 ≤ k ∧ k ≤ m + 1000000000000000 ∧ (k ≤ m → (Gv.wt n : Int) ≤ k)) ∧ Below w.heap.size w w'
set_option maxRecDepth 100000 in
set_option maxHeartbeats 12800000 in
theorem refSize_any {S : Nat → Prop} {w0 : World} {c : List Value} {n : Gv.Node} (hn : NodeAt S w0 c n) : Sized n → ∀ (w : World), Below w0.heap.size w0 w → ∀ (m : Int), 0 ≤ m → m ≤ 3000 →
    Calls Tryz.prog 8 #[.agg c.toArray, .int .i64 m] w (SizeTold m n w) := by
  induction hn with
  | @mk x sp nm d as1 kids va vk cs hz ha hk hr ih =>
    intro hsz w hw m hm0 hm1
    obtain ⟨z0, z1, z2, z3, z4, z5⟩ := sized_parts hsz
    clear hsz
    obtain ⟨hz1, hz3⟩ := hz
    unfold maxLen at hz1 hz3
    obtain ⟨ao, ca, rfl, hcap, c1⟩ := ha
    obtain ⟨bo, cb, rfl, c2⟩ := hk
    have ha : AttsAt S w (.slice ao as1.length ca) as1 := AttsAt.stay ⟨ao, ca, rfl, hcap, c1⟩ (stay_below hw)
    have hk : RowsAt S w (.slice bo kids.length cb) kids.length cs := RowsAt.stay ⟨bo, cb, rfl, c2⟩ (stay_below hw)
    clear c1 c2 hcap
    have hshape : ∀ j (h : j < kids.length), ∃ (kk : Int) (ksp knm kd : ByteArray) (kao kbo : Option Addr) (ka kb kc1 kc2 : Nat), cs j = [.int .i64 kk, .string ksp, .string knm, .slice kao ka kc1, .slice kbo kb kc2, .string kd] := fun j h => by
      obtain ⟨_, _, _, _, _, _, _, _, _, _, _, _, e, _, _, _⟩ := (hr j h).open'
      exact ⟨_, _, _, _, _, _, _, _, _, _, e⟩
    clear hr
    have b0 := (Below.refl w.heap.size w).alloc (Nat.le_refl _) (.cells (nodeArr x sp nm (.slice ao as1.length ca) (.slice bo kids.length cb) d) 25)
    have kA := Cells.new w 25 (nodeArr x sp nm (.slice ao as1.length ca) (.slice bo kids.length cb) d)
    have hc := Lib.hid (fun W hb => node_open (kA.on (w' := W) hb))
    obtain ⟨x0, x1, x2, x3, x4, x5⟩ := node_open kA
    replace kA := Lib.hid kA
    replace ih := Lib.hid ih
    replace ha := Lib.hid ha
    replace hk := Lib.hid hk
    replace hshape := Lib.hid hshape
    replace z4 := Lib.hid z4
    replace z5 := Lib.hid z5
    have hI := Lib.hid (show Small1 m (1 + (as1.length : Int) + (d.size : Int) + (sp.size : Int) + (nm.size : Int)) sp nm d as1 0 from fun h => by rw [List.take_zero]; simp only [List.map_nil, List.sum_nil]; omega)
    have hkq1 : 1 ≤ (1 + (as1.length : Int) + (d.size : Int) + (sp.size : Int) + (nm.size : Int)) ∧ (1 + (as1.length : Int) + (d.size : Int) + (sp.size : Int) + (nm.size : Int)) ≤ m + 1000000000000000 := by omega
    unfold nodeArr at *
    go_enter Tryz.func8, Tryz.ntmps8
    go_wp2_with fail
    generalize hw1 : w.alloc (.cells #[.int .i64 x, .string sp, .string nm, .slice ao as1.length ca, .slice bo kids.length cb, .string d] 25) = w1 at *
    clear x0 x1 x2 x3 x4 x5
    go_loopg [5, 6] as1.length (fun gg s5 s6 wr => ∃ (j : Nat) (k : Int), j ≤ as1.length ∧ as1.length - j ≤ gg ∧ s5 = .int .i64 k ∧ s6 = .int .i64 j ∧ 1 ≤ k ∧ k ≤ m + 1000000000000000 ∧ Hid (Below w1.heap.size w1 wr) ∧ Hid (Small1 m k sp nm d as1 j))
    case atStart => exact ⟨0, _, Nat.zero_le _, by omega, rfl, rfl, hkq1.1, hkq1.2, Lib.hid (Below.refl _ _), hI⟩
    case round =>
      obtain ⟨j, k, hj, hgg, rfl, rfl, hk1, hk2, BW, hS⟩ := hrel
      clear hI hkq1
      obtain ⟨x0, x1, x2, x3, x4, x5⟩ := hc.out wr BW.out
      by_cases hlt : j < as1.length ∧ k ≤ m
      · obtain ⟨hlt, hkm⟩ := hlt
        have hltz : (j : Int) < (as1.length : Int) := by omega
        obtain ⟨q1, q2, q3⟩ := z4.out as1[j] (List.getElem_mem hlt)
        have hnew := Lib.hid (small1_next hS.out hkm hlt)
        obtain ⟨bb, off, rfl, p0, p1, p2⟩ := (ha.out.stay (stay_below ((b0.trans (BW.out.mono b0.size))))).cells hlt (sp := as1[j].space) (nm := as1[j].name) (va := as1[j].value) rfl
        have hsum : k + (as1[j].space.size : Int) + (as1[j].name.size : Int) + (as1[j].value.size : Int) ≤ m + 1000000000000000 ∧ 1 ≤ k + (as1[j].space.size : Int) + (as1[j].name.size : Int) + (as1[j].value.size : Int) := by omega
        generalize as1[j].space = us at *
        generalize as1[j].name = un at *
        generalize as1[j].value = uv at *
        clear hS
        go_wp2_with fail
        go_quiet (fail)
        go_wp2_with fail
        have BW2 := Lib.hid (Cells.below_drewN BW.out nq)
        clear BW
        go_roundg (as1.length - (j + 1))
        case measure => omega
        case rel => exact ⟨j + 1, _, by omega, by omega, rfl, by go_num, hsum.2, hsum.1, BW2, hnew⟩
      · have hX2 := Lib.hid (small2_start (kids := kids) hS.out (fun h => by
          rcases Nat.lt_or_ge j as1.length with h' | h'
          · exact absurd ⟨h', h⟩ hlt
          · omega))
        by_cases hjl : j < as1.length
        · have hltz : (j : Int) < (as1.length : Int) := by omega
          have hkm : ¬ k ≤ m := fun h => hlt ⟨hjl, h⟩
          have hkm2 := hlt
          clear hlt
          clear hj hgg hS hkm2
          go_wp2_with fail
          clear x0 x1 x2 x3 x4 x5
          go_loopg [5, 7] kids.length (fun gg s5 s7 wr => ∃ (j : Nat) (k : Int), j ≤ kids.length ∧ kids.length - j ≤ gg ∧ s5 = .int .i64 k ∧ s7 = .int .i64 j ∧ 1 ≤ k ∧ k ≤ m + 1000000000000000 ∧ Hid (Below w1.heap.size w1 wr) ∧ Hid (Small2 m k sp nm d as1 kids j))
          case atStart => exact ⟨0, k, Nat.zero_le _, by omega, rfl, rfl, hk1, hk2, BW, hX2⟩
          case round =>
            clear hX2 BW hk1 hk2
            obtain ⟨j2, k2, hj2, hgg2, rfl, rfl, hk1, hk2, BW, hS⟩ := hrel
            obtain ⟨x0, x1, x2, x3, x4, x5⟩ := hc.out wr BW.out
            by_cases hlt : j2 < kids.length
            · by_cases hkm : k2 ≤ m
              · have hltz : (j2 : Int) < (kids.length : Int) := by omega
                obtain ⟨kk, ksp, knm, kd, kao, kbo, ka, kb, kc1, kc2, e2⟩ := hshape.out j2 hlt
                have bw := b0.trans (BW.out.mono b0.size)
                obtain ⟨bb, off, rfl, p0, p1, p2, p3, p4, p5⟩ := (hk.out.stay (stay_below bw)).cells hlt e2
                have hcall := ih.out j2 hlt (z5.out _ (List.getElem_mem hlt)) wr (hw.trans (bw.mono hw.size)) (m - k2) (by omega) (by omega)
                rw [e2] at hcall
                have hnew := fun (r : Int) (h2 : r ≤ m - k2 → (Gv.wt kids[j2] : Int) ≤ r) => Lib.hid (small2_next hS.out hkm hlt h2)
                generalize kids[j2] = kn at *
                clear e2 hS
                go_wp2_with fail
                (with_reducible refine hcall.mono ?_); rintro e w3 ⟨⟨r, rfl, r1, r2, r3⟩, b3⟩
                have hnw := hnew r r3
                have BW2 := Lib.hid (BW.out.trans (b3.mono BW.out.size))
                have q1 : 1 ≤ k2 + r := by omega
                have q2 : k2 + r ≤ m + 1000000000000000 := by omega
                clear hnew r3 b3 hcall p0 p1 p2 p3 p4 p5 x0 x1 x2 x3 x4 x5 BW
                go_wp2_with fail
                go_roundg (kids.length - (j2 + 1))
                case measure => omega
                case rel => exact ⟨j2 + 1, _, by omega, by omega, rfl, by go_num, q1, q2, BW2, hnw⟩
              · have hltz : (j2 : Int) < (kids.length : Int) := by omega
                have hfin := Lib.hid (show SizeTold m (.mk x sp nm as1 kids d) w (.returned (.int .i64 k2)) wr from ⟨⟨k2, rfl, hk1, hk2, fun h => absurd h hkm⟩, b0.trans (BW.out.mono b0.size)⟩)
                clear hS BW
                go_wp2_with fail
                go_ret
                exact hfin.out
            · have hltz : ¬ (j2 : Int) < (kids.length : Int) := by omega
              have hd : decide ((j2 : Int) < (kids.length : Int)) = false := by simpa using hltz
              have hfin := Lib.hid (show SizeTold m (.mk x sp nm as1 kids d) w (.returned (.int .i64 k2)) wr from ⟨⟨k2, rfl, hk1, hk2, small2_wt hS.out (by omega)⟩, b0.trans (BW.out.mono b0.size)⟩)
              clear hS BW hlt
              go_wp2_with fail
              go_ret
              exact hfin.out
        · have hltz : ¬ (j : Int) < (as1.length : Int) := by omega
          have hd : decide ((j : Int) < (as1.length : Int)) = false := by simpa using hltz
          have hkm2 := hlt
          clear hlt hjl
          clear hj hgg hS hkm2
          go_wp2_with fail
          clear x0 x1 x2 x3 x4 x5
          go_loopg [5, 7] kids.length (fun gg s5 s7 wr => ∃ (j : Nat) (k : Int), j ≤ kids.length ∧ kids.length - j ≤ gg ∧ s5 = .int .i64 k ∧ s7 = .int .i64 j ∧ 1 ≤ k ∧ k ≤ m + 1000000000000000 ∧ Hid (Below w1.heap.size w1 wr) ∧ Hid (Small2 m k sp nm d as1 kids j))
          case atStart => exact ⟨0, k, Nat.zero_le _, by omega, rfl, rfl, hk1, hk2, BW, hX2⟩
          case round =>
            clear hX2 BW hk1 hk2
            obtain ⟨j2, k2, hj2, hgg2, rfl, rfl, hk1, hk2, BW, hS⟩ := hrel
            obtain ⟨x0, x1, x2, x3, x4, x5⟩ := hc.out wr BW.out
            by_cases hlt : j2 < kids.length
            · by_cases hkm : k2 ≤ m
              · have hltz : (j2 : Int) < (kids.length : Int) := by omega
                obtain ⟨kk, ksp, knm, kd, kao, kbo, ka, kb, kc1, kc2, e2⟩ := hshape.out j2 hlt
                have bw := b0.trans (BW.out.mono b0.size)
                obtain ⟨bb, off, rfl, p0, p1, p2, p3, p4, p5⟩ := (hk.out.stay (stay_below bw)).cells hlt e2
                have hcall := ih.out j2 hlt (z5.out _ (List.getElem_mem hlt)) wr (hw.trans (bw.mono hw.size)) (m - k2) (by omega) (by omega)
                rw [e2] at hcall
                have hnew := fun (r : Int) (h2 : r ≤ m - k2 → (Gv.wt kids[j2] : Int) ≤ r) => Lib.hid (small2_next hS.out hkm hlt h2)
                generalize kids[j2] = kn at *
                clear e2 hS
                go_wp2_with fail
                (with_reducible refine hcall.mono ?_); rintro e w3 ⟨⟨r, rfl, r1, r2, r3⟩, b3⟩
                have hnw := hnew r r3
                have BW2 := Lib.hid (BW.out.trans (b3.mono BW.out.size))
                have q1 : 1 ≤ k2 + r := by omega
                have q2 : k2 + r ≤ m + 1000000000000000 := by omega
                clear hnew r3 b3 hcall p0 p1 p2 p3 p4 p5 x0 x1 x2 x3 x4 x5 BW
                go_wp2_with fail
                go_roundg (kids.length - (j2 + 1))
                case measure => omega
                case rel => exact ⟨j2 + 1, _, by omega, by omega, rfl, by go_num, q1, q2, BW2, hnw⟩
              · have hltz : (j2 : Int) < (kids.length : Int) := by omega
                have hfin := Lib.hid (show SizeTold m (.mk x sp nm as1 kids d) w (.returned (.int .i64 k2)) wr from ⟨⟨k2, rfl, hk1, hk2, fun h => absurd h hkm⟩, b0.trans (BW.out.mono b0.size)⟩)
                clear hS BW
                go_wp2_with fail
                go_ret
                exact hfin.out
            · have hltz : ¬ (j2 : Int) < (kids.length : Int) := by omega
              have hd : decide ((j2 : Int) < (kids.length : Int)) = false := by simpa using hltz
              have hfin := Lib.hid (show SizeTold m (.mk x sp nm as1 kids d) w (.returned (.int .i64 k2)) wr from ⟨⟨k2, rfl, hk1, hk2, small2_wt hS.out (by omega)⟩, b0.trans (BW.out.mono b0.size)⟩)
              clear hS BW hlt
              go_wp2_with fail
              go_ret
              exact hfin.out
end Go.Proofs.YtbaclacfadkjdaaGreatDoor
namespace Go.Proofs.YtbaclacfadkjdaaGreatDoor
open Go.RowKit
def txtN (t : ByteArray) : Gv.Node := .mk 1 ⟨#[]⟩ ⟨#[]⟩ [] [] t
def elN (name text : ByteArray) : Gv.Node := .mk 0 ⟨#[104, 116, 116, 112, 58, 47, 47, 119, 119, 119, 46, 119, 51, 46, 111, 114, 103, 47, 50, 48, 48, 53, 47, 65, 116, 111, 109]⟩ name [] (if text.size = 0 then [] else [txtN text]) ⟨#[]⟩
theorem elN_no {name text : ByteArray} (h : text.size = 0) : elN name text = .mk 0 ⟨#[104, 116, 116, 112, 58, 47, 47, 119, 119, 119, 46, 119, 51, 46, 111, 114, 103, 47, 50, 48, 48, 53, 47, 65, 116, 111, 109]⟩ name [] [] ⟨#[]⟩ := by unfold elN; rw [if_pos h]
theorem elN_yes {name text : ByteArray} (h : ¬ text.size = 0) : elN name text = .mk 0 ⟨#[104, 116, 116, 112, 58, 47, 47, 119, 119, 119, 46, 119, 51, 46, 111, 114, 103, 47, 50, 48, 48, 53, 47, 65, 116, 111, 109]⟩ name [] [txtN text] ⟨#[]⟩ := by unfold elN; rw [if_neg h]
theorem stay_set {S : Nat → Prop} {w : World} {c i : Nat} {v : Value} (h : ¬ S c) : Stay S w (w.setCell ⟨c, i, none⟩ v) := fun b o hb _ =>
  World.cell?_setCell_other w ⟨c, i, none⟩ ⟨b, o, none⟩ v (by intro e; injection e with e1; subst e1; exact h hb)
theorem rows_one {S : Nat → Prop} {w : World} {g : Nat} {c : List Value} {n : Gv.Node} (hc : Cells w g 25 c.toArray) (hg : S g) (hn : NodeAt S w c n) : KidsAt S w (.slice (some ⟨g, 0, none⟩) 1 1) [n] := by
  refine ⟨fun _ => c, ⟨_, _, rfl, fun j hj => ?_⟩, fun j hj => ?_⟩
  · have h6 := hn.six
    have hj0 : j = 0 := by simp at hj; exact hj
    subst hj0
    refine ⟨h6, g, 0, rfl, hg, fun i u hu => ?_⟩
    have := hc.cell (i := i) (v := u) (by rw [← Array.getElem?_toList]; exact hu)
    simpa using this
  · have hj0 : j = 0 := by simp at hj; exact hj
    subst hj0
    exact hn
theorem owns_two {S : Nat → Prop} {B : Nat} {w : World} {g : Nat} {c d : List Value} {n m : Gv.Node} (hc : Cells w g 25 (c ++ d).toArray) (hB : B ≤ g) (hn : NodeAt (fun b => S b ∧ some b ≠ some g) w c n) (hm : NodeAt (fun b => S b ∧ some b ≠ some g) w d m) : OwnsKids S B (.slice (some ⟨g, 0, none⟩) 2 2) [n, m] w := by
  have h6 := hn.six
  have h7 := hm.six
  refine ⟨[c, d], rfl, ⟨by simp [h6, h7], .inr ⟨g, 2, (c ++ d).toArray, rfl, hB, hc, Nat.le_refl _, by unfold maxLen; simp, by simp [h6, h7], by rw [List.take_of_length_le (by simp [h6, h7])]; simp⟩⟩, fun j a b => ?_⟩
  have hj0 : j = 0 ∨ j = 1 := by simp at a; omega
  rcases hj0 with rfl | rfl
  · exact hn
  · exact hm
theorem OwnsKids.set {S : Nat → Prop} {B : Nat} {v : Value} {kids : List Gv.Node} {w : World} (h : OwnsKids S B v kids w) {c : Nat} (hc : ¬ S c) (hne : some c ≠ v.ownBlock) (i : Nat) (u : Value) : OwnsKids S B v kids (w.setCell ⟨c, i, none⟩ u) := by
  obtain ⟨css, h1, h2, h3⟩ := h
  refine ⟨css, h1, ?_, fun j a b => (h3 j a b).stay (stay_set (fun e => hc e.1))⟩
  obtain ⟨hl, h0 | ⟨g, cap, cur, rfl, hb, hh, r⟩⟩ := h2
  · exact ⟨hl, .inl h0⟩
  · refine ⟨hl, .inr ⟨g, cap, cur, rfl, hb, ?_, r⟩⟩
    rw [RowKit.Below.heap_setCell _ _ _ _ (by intro e; apply hne; simp [Value.ownBlock, e])]
    exact hh
theorem nd_mk {S : Nat → Prop} {w : World} {k : Int} {sp nm d : ByteArray} {va vk : Value} {as' : List Gv.Att} {kids : List Gv.Node} (ha : AttsAt S w va as') (hk : KidsAt S w vk kids) (h1 : as'.length ≤ maxLen) (h2 : kids.length ≤ maxLen) : NodeAt S w [.int .i64 k, .string sp, .string nm, va, vk, .string d] (.mk k sp nm as' kids d) := by
  obtain ⟨cs, hr, hn⟩ := hk
  exact .mk cs ⟨h1, h2⟩ ha hr hn
theorem six_cells {w : World} {b : Nat} {a0 a1 a2 a3 a4 a5 : Value} (h : Cells w b 25 #[a0, a1, a2, a3, a4, a5]) (u0 u1 u2 u3 u4 u5 : Value) :
    Cells ((((((w.setCell ⟨b, 0, none⟩ u0).setCell ⟨b, 1, none⟩ u1).setCell ⟨b, 2, none⟩ u2).setCell ⟨b, 3, none⟩ u3).setCell ⟨b, 4, none⟩ u4).setCell ⟨b, 5, none⟩ u5) b 25 #[u0, u1, u2, u3, u4, u5] :=
  (((((h.set 0 u0).set 1 u1).set 2 u2).set 3 u3).set 4 u4).set 5 u5
theorem six_below {B : Nat} {w0 w : World} {b : Nat} (h : Below B w0 w) (hb : B ≤ b) (u0 u1 u2 u3 u4 u5 : Value) :
    Below B w0 ((((((w.setCell ⟨b, 0, none⟩ u0).setCell ⟨b, 1, none⟩ u1).setCell ⟨b, 2, none⟩ u2).setCell ⟨b, 3, none⟩ u3).setCell ⟨b, 4, none⟩ u4).setCell ⟨b, 5, none⟩ u5) :=
  (((((h.setCell (p := ⟨b, 0, none⟩) hb u0).setCell (p := ⟨b, 1, none⟩) hb u1).setCell (p := ⟨b, 2, none⟩) hb u2).setCell (p := ⟨b, 3, none⟩) hb u3).setCell (p := ⟨b, 4, none⟩) hb u4).setCell (p := ⟨b, 5, none⟩) hb u5
set_option maxRecDepth 100000 in
set_option maxHeartbeats 3200000 in
theorem el_any (name text : ByteArray) (w : World) :
    Calls Tryz.prog 16 #[.string name, .string text] w fun e w' => ∃ ko kn kc, e = .returned (.agg #[.int .i64 0, .string ⟨#[104, 116, 116, 112, 58, 47, 47, 119, 119, 119, 46, 119, 51, 46, 111, 114, 103, 47, 50, 48, 48, 53, 47, 65, 116, 111, 109]⟩, .string name, .slice none 0 0, .slice ko kn kc, .string ⟨#[]⟩]) ∧ NodeAt (fun b => w.heap.size ≤ b) w' [.int .i64 0, .string ⟨#[104, 116, 116, 112, 58, 47, 47, 119, 119, 119, 46, 119, 51, 46, 111, 114, 103, 47, 50, 48, 48, 53, 47, 65, 116, 111, 109]⟩, .string name, .slice none 0 0, .slice ko kn kc, .string ⟨#[]⟩] (elN name text) ∧ (text.size = 0 → ko = none ∧ kn = 0 ∧ kc = 0) ∧ Below w.heap.size w w' := by
  have hy := Lib.hid (@elN_yes name text)
  have hn := Lib.hid (@elN_no name text)
  generalize elN name text = M at *
  have Z := (Cells.new w 25 #[.int .i64 0, .string ⟨#[]⟩, .string ⟨#[]⟩, .slice none 0 0, .slice none 0 0, .string ⟨#[]⟩])
  have bZ := (Below.refl w.heap.size w).alloc (Nat.le_refl _) (.cells #[.int .i64 0, .string ⟨#[]⟩, .string ⟨#[]⟩, .slice none 0 0, .slice none 0 0, .string ⟨#[]⟩] 25)
  go_enter Tryz.func16, Tryz.ntmps16
  replace Z := Lib.hid Z
  replace bZ := Lib.hid bZ
  go_upto_region 1 with fail
  generalize w.alloc (.cells #[.int .i64 0, .string ⟨#[]⟩, .string ⟨#[]⟩, .slice none 0 0, .slice none 0 0, .string ⟨#[]⟩] 25) = w1 at *
  have X := Cells.new w1 25 #[.int .i64 0, .string ⟨#[104, 116, 116, 112, 58, 47, 47, 119, 119, 119, 46, 119, 51, 46, 111, 114, 103, 47, 50, 48, 48, 53, 47, 65, 116, 111, 109]⟩, .string name, .slice none 0 0, .slice none 0 0, .string ⟨#[]⟩]
  have bX := (Below.refl w1.heap.size w1).alloc (Nat.le_refl _) (.cells #[.int .i64 0, .string ⟨#[104, 116, 116, 112, 58, 47, 47, 119, 119, 119, 46, 119, 51, 46, 111, 114, 103, 47, 50, 48, 48, 53, 47, 65, 116, 111, 109]⟩, .string name, .slice none 0 0, .slice none 0 0, .string ⟨#[]⟩] 25)
  have Z2 := Lib.hid (Z.out.on bX)
  have bX2 := Lib.hid (bZ.out.trans (bX.mono bZ.out.size))
  have hne := Lib.hid (show w.heap.size < w1.heap.size from Z.out.lt)
  replace X := Lib.hid X
  clear bX Z bZ
  go_upto_region 2 with fail
  generalize w1.alloc (.cells #[.int .i64 0, .string ⟨#[104, 116, 116, 112, 58, 47, 47, 119, 119, 119, 46, 119, 51, 46, 111, 114, 103, 47, 50, 48, 48, 53, 47, 65, 116, 111, 109]⟩, .string name, .slice none 0 0, .slice none 0 0, .string ⟨#[]⟩] 25) = w2 at *
  by_cases h0 : text.size = 0
  · have hM := Lib.hid (hn.out h0)
    clear hy hn
    obtain rfl : text = ByteArray.empty := ByteArray.size_eq_zero_iff.1 h0
    have he3 : (ByteArray.empty.toList == []) = true := by rw [ByteArray.toList_eq]; rfl
    have he4 : (ByteArray.empty.toList != []) = false := by rw [ByteArray.toList_eq]; rfl
    have he2 : ByteArray.empty.toList = [] := by rw [ByteArray.toList_eq]; rfl
    obtain ⟨x0, x1, x2, x3, x4, x5⟩ := node_open (show Cells w2 _ _ (nodeArr 0 ⟨#[104, 116, 116, 112, 58, 47, 47, 119, 119, 119, 46, 119, 51, 46, 111, 114, 103, 47, 50, 48, 48, 53, 47, 65, 116, 111, 109]⟩ name (.slice none 0 0) (.slice none 0 0) ⟨#[]⟩) from X.out)
    obtain ⟨z0, z1, z2, z3, z4, z5⟩ := node_open (show Cells w2 _ _ (nodeArr 0 ⟨#[]⟩ ⟨#[]⟩ (.slice none 0 0) (.slice none 0 0) ⟨#[]⟩) from Z2.out)
    have f0 := Z2.out.free 0
    have f1 := Z2.out.free 1
    have f2 := Z2.out.free 2
    have f3 := Z2.out.free 3
    have f4 := Z2.out.free 4
    have f5 := Z2.out.free 5
    have hF := Lib.hid (six_cells Z2.out (.int .i64 0) (.string ⟨#[104, 116, 116, 112, 58, 47, 47, 119, 119, 119, 46, 119, 51, 46, 111, 114, 103, 47, 50, 48, 48, 53, 47, 65, 116, 111, 109]⟩) (.string name) (.slice none 0 0) (.slice none 0 0) (.string ⟨#[]⟩))
    have hB := Lib.hid (six_below bX2.out (Nat.le_refl _) (.int .i64 0) (.string ⟨#[104, 116, 116, 112, 58, 47, 47, 119, 119, 119, 46, 119, 51, 46, 111, 114, 103, 47, 50, 48, 48, 53, 47, 65, 116, 111, 109]⟩) (.string name) (.slice none 0 0) (.slice none 0 0) (.string ⟨#[]⟩))
    clear Z2 X bX2
    go_wp2_with fail
    exact node_end (i := 4) (rb := w.heap.size) rfl rfl hF.out ⟨none, 0, 0, rfl, by rw [hM.out]; exact (node_plain _ _ 0 ⟨#[104, 116, 116, 112, 58, 47, 47, 119, 119, 119, 46, 119, 51, 46, 111, 114, 103, 47, 50, 48, 48, 53, 47, 65, 116, 111, 109]⟩ name ⟨#[]⟩), fun _ => ⟨rfl, rfl, rfl⟩, hB.out⟩
  · have hM := Lib.hid (hy.out h0)
    clear hy hn
    have hp : 0 < text.size := by omega
    have hne3 : ¬ text.toList = [] := by
      rw [ByteArray.toList_eq]
      exact lst_ne hp
    have hne2 : (text.toList == []) = false := by
      rw [beq_eq_false_iff_ne]; exact hne3
    have hne4 : (text.toList != []) = true := by rw [bne, hne2]; rfl
    have x4 := (X.out.alloc (.cells #[.int .i64 1, .string ⟨#[]⟩, .string ⟨#[]⟩, .slice none 0 0, .slice none 0 0, .string text] 25)).cell (i := 4) rfl
    have g4 := (X.out.alloc (.cells #[.int .i64 1, .string ⟨#[]⟩, .string ⟨#[]⟩, .slice none 0 0, .slice none 0 0, .string text] 25)).free 4
    have l1 := X.out.lt
    have l2 := Z2.out.lt
    have hne0 := hne.out
    have T4 := Lib.hid ((Cells.new w2 25 #[.int .i64 1, .string ⟨#[]⟩, .string ⟨#[]⟩, .slice none 0 0, .slice none 0 0, .string text]).other (c := w1.heap.size) 4 (.slice (some ⟨w2.heap.size, 0, none⟩) 1 1) (by omega))
    have X4 := Lib.hid ((X.out.alloc (.cells #[.int .i64 1, .string ⟨#[]⟩, .string ⟨#[]⟩, .slice none 0 0, .slice none 0 0, .string text] 25)).set 4 (.slice (some ⟨w2.heap.size, 0, none⟩) 1 1))
    have Z4 := Lib.hid ((Z2.out.alloc (.cells #[.int .i64 1, .string ⟨#[]⟩, .string ⟨#[]⟩, .slice none 0 0, .slice none 0 0, .string text] 25)).other (c := w1.heap.size) 4 (.slice (some ⟨w2.heap.size, 0, none⟩) 1 1) (by omega))
    have b4 := Lib.hid ((bX2.out.alloc (by omega) (.cells #[.int .i64 1, .string ⟨#[]⟩, .string ⟨#[]⟩, .slice none 0 0, .slice none 0 0, .string text] 25)).setCell (p := ⟨w1.heap.size, 4, none⟩) (by show w.heap.size ≤ w1.heap.size; omega) (.slice (some ⟨w2.heap.size, 0, none⟩) 1 1))
    have hT := Lib.hid (show ¬ w2.heap.size = w.heap.size by omega)
    have hT2 := Lib.hid (show w.heap.size ≤ w2.heap.size by omega)
    clear Z2 X bX2 l1 l2 hne0
    go_upto_region 4 with fail
    clear x4 g4
    generalize (w2.alloc (.cells #[.int .i64 1, .string ⟨#[]⟩, .string ⟨#[]⟩, .slice none 0 0, .slice none 0 0, .string text] 25)).setCell ⟨w1.heap.size, 4, none⟩ (.slice (some ⟨w2.heap.size, 0, none⟩) 1 1) = w4 at *
    obtain ⟨x0, x1, x2, x3, x4, x5⟩ := node_open (show Cells w4 _ _ (nodeArr 0 ⟨#[104, 116, 116, 112, 58, 47, 47, 119, 119, 119, 46, 119, 51, 46, 111, 114, 103, 47, 50, 48, 48, 53, 47, 65, 116, 111, 109]⟩ name (.slice none 0 0) (.slice (some ⟨w2.heap.size, 0, none⟩) 1 1) ⟨#[]⟩) from X4.out)
    obtain ⟨z0, z1, z2, z3, z4, z5⟩ := node_open (show Cells w4 _ _ (nodeArr 0 ⟨#[]⟩ ⟨#[]⟩ (.slice none 0 0) (.slice none 0 0) ⟨#[]⟩) from Z4.out)
    have f0 := Z4.out.free 0
    have f1 := Z4.out.free 1
    have f2 := Z4.out.free 2
    have f3 := Z4.out.free 3
    have f4 := Z4.out.free 4
    have f5 := Z4.out.free 5
    have hF := Lib.hid (six_cells Z4.out (.int .i64 0) (.string ⟨#[104, 116, 116, 112, 58, 47, 47, 119, 119, 119, 46, 119, 51, 46, 111, 114, 103, 47, 50, 48, 48, 53, 47, 65, 116, 111, 109]⟩) (.string name) (.slice none 0 0) (.slice (some ⟨w2.heap.size, 0, none⟩) 1 1) (.string ⟨#[]⟩))
    have hB := Lib.hid (six_below b4.out (Nat.le_refl _) (.int .i64 0) (.string ⟨#[104, 116, 116, 112, 58, 47, 47, 119, 119, 119, 46, 119, 51, 46, 111, 114, 103, 47, 50, 48, 48, 53, 47, 65, 116, 111, 109]⟩) (.string name) (.slice none 0 0) (.slice (some ⟨w2.heap.size, 0, none⟩) 1 1) (.string ⟨#[]⟩))
    have hK : Hid (Cells ((((((w4.setCell ⟨w.heap.size, 0, none⟩ (.int .i64 0)).setCell ⟨w.heap.size, 1, none⟩ (.string ⟨#[104, 116, 116, 112, 58, 47, 47, 119, 119, 119, 46, 119, 51, 46, 111, 114, 103, 47, 50, 48, 48, 53, 47, 65, 116, 111, 109]⟩)).setCell ⟨w.heap.size, 2, none⟩ (.string name)).setCell ⟨w.heap.size, 3, none⟩ (.slice none 0 0)).setCell ⟨w.heap.size, 4, none⟩ (.slice (some ⟨w2.heap.size, 0, none⟩) 1 1)).setCell ⟨w.heap.size, 5, none⟩ (.string ⟨#[]⟩)) w2.heap.size 25 #[.int .i64 1, .string ⟨#[]⟩, .string ⟨#[]⟩, .slice none 0 0, .slice none 0 0, .string text]) :=
      Lib.hid ((((((T4.out.other 0 _ hT.out).other 1 _ hT.out).other 2 _ hT.out).other 3 _ hT.out).other 4 _ hT.out).other 5 _ hT.out)
    clear X4 Z4 b4 T4
    go_wp2_with fail
    exact node_end (i := 4) (rb := w.heap.size) rfl rfl hF.out ⟨some ⟨w2.heap.size, 0, none⟩, 1, 1, rfl, by rw [hM.out]; exact nd_mk (atts_nil _ _) (rows_one hK.out hT2.out (node_plain _ _ 1 ⟨#[]⟩ ⟨#[]⟩ text)) (by unfold maxLen; simp) (by unfold maxLen; simp), (fun e => absurd e h0), hB.out⟩
theorem el_none (name : ByteArray) (w : World) :
    Calls Tryz.prog 16 #[.string name, .string ⟨#[]⟩] w fun e w' => e = .returned (.agg #[.int .i64 0, .string ⟨#[104, 116, 116, 112, 58, 47, 47, 119, 119, 119, 46, 119, 51, 46, 111, 114, 103, 47, 50, 48, 48, 53, 47, 65, 116, 111, 109]⟩, .string name, .slice none 0 0, .slice none 0 0, .string ⟨#[]⟩]) ∧ Below w.heap.size w w' := by
  refine (el_any name ⟨#[]⟩ w).mono ?_
  rintro e w' ⟨ko, kn, kc, rfl, hN, h0, hb⟩
  obtain ⟨rfl, rfl, rfl⟩ := h0 rfl
  exact ⟨rfl, hb⟩
theorem six_alloc {w : World} {b : Nat} {v0 v1 v2 v3 v4 v5 : Value} (h : w.cell? ⟨b, 0, none⟩ = some v0 ∧ w.cell? ⟨b, 1, none⟩ = some v1 ∧ w.cell? ⟨b, 2, none⟩ = some v2 ∧ w.cell? ⟨b, 3, none⟩ = some v3 ∧ w.cell? ⟨b, 4, none⟩ = some v4 ∧ w.cell? ⟨b, 5, none⟩ = some v5) (o : Obj) :
    (w.alloc o).cell? ⟨b, 0, none⟩ = some v0 ∧ (w.alloc o).cell? ⟨b, 1, none⟩ = some v1 ∧ (w.alloc o).cell? ⟨b, 2, none⟩ = some v2 ∧ (w.alloc o).cell? ⟨b, 3, none⟩ = some v3 ∧ (w.alloc o).cell? ⟨b, 4, none⟩ = some v4 ∧ (w.alloc o).cell? ⟨b, 5, none⟩ = some v5 := by
  have on := fun {a : Addr} {v : Value} (hx : w.cell? a = some v) => (((Below.refl w.heap.size w).alloc (Nat.le_refl _) o).cell (World.block_lt_of_cell? w _ hx)).trans hx
  exact ⟨on h.1, on h.2.1, on h.2.2.1, on h.2.2.2.1, on h.2.2.2.2.1, on h.2.2.2.2.2⟩
theorem six_store {w : World} {b c i : Nat} {v v0 v1 v2 v3 v4 v5 : Value} (h : w.cell? ⟨b, 0, none⟩ = some v0 ∧ w.cell? ⟨b, 1, none⟩ = some v1 ∧ w.cell? ⟨b, 2, none⟩ = some v2 ∧ w.cell? ⟨b, 3, none⟩ = some v3 ∧ w.cell? ⟨b, 4, none⟩ = some v4 ∧ w.cell? ⟨b, 5, none⟩ = some v5) (hne : ¬ b = c) :
    (w.setCell ⟨c, i, none⟩ v).cell? ⟨b, 0, none⟩ = some v0 ∧ (w.setCell ⟨c, i, none⟩ v).cell? ⟨b, 1, none⟩ = some v1 ∧ (w.setCell ⟨c, i, none⟩ v).cell? ⟨b, 2, none⟩ = some v2 ∧ (w.setCell ⟨c, i, none⟩ v).cell? ⟨b, 3, none⟩ = some v3 ∧ (w.setCell ⟨c, i, none⟩ v).cell? ⟨b, 4, none⟩ = some v4 ∧ (w.setCell ⟨c, i, none⟩ v).cell? ⟨b, 5, none⟩ = some v5 := by
  have on := fun {o : Nat} {x : Value} (hx : w.cell? ⟨b, o, none⟩ = some x) => (World.cell?_setCell_other w ⟨c, i, none⟩ ⟨b, o, none⟩ v (by simp)).trans hx
  exact ⟨on h.1, on h.2.1, on h.2.2.1, on h.2.2.2.1, on h.2.2.2.2.1, on h.2.2.2.2.2⟩
end Go.Proofs.YtbaclacfadkjdaaGreatDoor
