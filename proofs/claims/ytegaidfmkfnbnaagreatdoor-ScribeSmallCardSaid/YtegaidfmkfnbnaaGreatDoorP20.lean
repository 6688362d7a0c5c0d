/-
  How much there is in a tree; its text is no longer than thirty-two times so many bytes.
  The document's own Size of a tree: where it says that the tree is small, each text in it is.
-/
import Derived.Test.YtegaidfmkfnbnaaGreatDoorP05
import Derived.Test.YtegaidfmkfnbnaaGreatDoorP16
import Derived.Test.YtegaidfmkfnbnaaGreatDoorP09
import Derived.Deep.LoopGhost
namespace Go.Proofs.YtegaidfmkfnbnaaGreatDoor
namespace Gv
def attW (a : Att) : Nat := a.space.size + a.name.size + a.value.size
mutual
def wt : Node → Nat
  | .mk _ sp nm as' kids d => 1 + as'.length + d.size + sp.size + nm.size + (as'.map attW).sum + wts kids
def wts : List Node → Nat
  | [] => 0
  | n :: l => wt n + wts l
end
theorem wt_pos (n : Node) : 1 ≤ wt n := by
  cases n
  unfold wt
  omega
theorem wts_append : ∀ a b : List Node, wts (a ++ b) = wts a + wts b
  | [], b => by simp [wts]
  | n :: a, b => by rw [List.cons_append, wts, wts, wts_append a b]; omega
theorem wts_take {l : List Node} {j : Nat} (h : j < l.length) : wts (l.take (j + 1)) = wts (l.take j) + wt l[j] := by
  rw [List.take_succ_eq_append_getElem h, wts_append]
  simp [wts]
theorem wts_len : ∀ l : List Node, l.length ≤ wts l
  | [] => Nat.zero_le _
  | n :: l => by have := wts_len l; have := wt_pos n; rw [wts, List.length_cons]; omega
theorem wts_mem : ∀ {l : List Node} {n : Node}, n ∈ l → wt n ≤ wts l
  | [], n, h => by cases h
  | m :: l, n, h => by
    rw [wts]
    rcases List.mem_cons.1 h with rfl | h
    · omega
    · have := wts_mem h; omega
theorem attW_mem : ∀ {l : List Att} {a : Att}, a ∈ l → attW a ≤ (l.map attW).sum
  | [], a, h => by cases h
  | m :: l, a, h => by
    rw [List.map_cons, List.sum_cons]
    rcases List.mem_cons.1 h with rfl | h
    · omega
    · have := attW_mem h; omega
theorem wt_parts {x : Int} {sp nm d : ByteArray} {as' : List Att} {kids : List Node} {k : Nat} (h : wt (.mk x sp nm as' kids d) ≤ k) : sp.size ≤ k ∧ nm.size ≤ k ∧ d.size ≤ k ∧ (∀ a ∈ as', a.space.size ≤ k ∧ a.name.size ≤ k ∧ a.value.size ≤ k) ∧ (∀ n ∈ kids, wt n ≤ k) ∧ as'.length ≤ k ∧ kids.length ≤ k := by
  unfold wt at h
  have := wts_len kids
  refine ⟨by omega, by omega, by omega, fun a ha => ?_, fun n hn => ?_, by omega, by omega⟩
  · have : a.space.size + a.name.size + a.value.size ≤ (as'.map attW).sum := attW_mem ha
    omega
  · have := wts_mem hn
    omega
end Gv
theorem fits_of_wt : ∀ n : Gv.Node, Gv.wt n ≤ 1000000 → Fits n
  | .mk k sp nm as' kids d, h => by
    obtain ⟨h1, h2, h3, h4, h5, h6, h7⟩ := Gv.wt_parts h
    exact .mk h1 h2 h3 h4 (fun n hn => fits_of_wt n (h5 n hn))
namespace Sc
theorem flat_le {α β : Type} (f : α → List β) (g : α → Nat) : ∀ l : List α, (∀ x ∈ l, (f x).length ≤ g x) → (l.flatMap f).length ≤ (l.map g).sum
  | [], _ => by simp
  | a :: l, h => by
    rw [List.flatMap_cons, List.length_append, List.map_cons, List.sum_cons]
    have := flat_le f g l (fun x hx => h x (by simp [hx]))
    have := h a (by simp)
    omega
theorem dig_le (i : Nat) : (dig i).length ≤ 2 := by
  unfold dig
  split <;> simp
theorem len_size (s : ByteArray) : s.data.toList.length = s.size := by rw [Array.length_toList]; rfl
theorem rawsFrom_wide : ∀ (l : List Gv.Att) (i : Nat), ((rawsFrom i l).flatMap one).length ≤ 32 * (l.length + (l.map Gv.attW).sum)
  | [], i => by simp [rawsFrom]
  | a :: l, i => by
    have ih := rawsFrom_wide l (i + 1)
    rw [rawsFrom, List.flatMap_append, List.length_append, List.map_cons, List.sum_cons, List.length_cons]
    have hv := escape_six true a.value.data.toList
    have hs := escape_six true a.space.data.toList
    rw [len_size] at hv hs
    have hd := dig_le i
    have e : ((rawAtt i a).flatMap one).length ≤ 30 + 6 * Gv.attW a := by
      unfold rawAtt rawDecl rawName Gv.attW nI
      split
      · simp only [List.nil_append, List.flatMap_cons, List.flatMap_nil, List.append_nil, one, List.length_append, List.length_cons, List.length_nil, len_size]
        omega
      · split
        · simp only [List.nil_append, List.cons_append, List.flatMap_cons, List.flatMap_nil, List.append_nil, one, List.length_append, List.length_cons, List.length_nil, len_size]
          omega
        · simp only [List.nil_append, List.flatMap_cons, List.flatMap_nil, List.append_nil, one, List.length_append, List.length_cons, List.length_nil, len_size]
          omega
    omega
theorem leaf_le (k : Int) (sp nm d : ByteArray) (as' : List Gv.Att) (kids : List Gv.Node) : (leafText (.mk k sp nm as' kids d)).length ≤ 32 * Gv.wt (.mk k sp nm as' kids d) := by
  unfold leafText Gv.wt Gv.Node.kind Gv.Node.data Gv.Node.name
  have hs := escape_six false d.data.toList
  rw [len_size] at hs
  simp only
  split
  · omega
  · split
    · simp only [List.length_append, List.length_cons, List.length_nil, len_size]
      omega
    · split
      · simp only [List.length_append, List.length_cons, List.length_nil, len_size]
        omega
      · simp only [List.length_append, List.length_cons, List.length_nil, len_size]
        omega
theorem wts_sum : ∀ l : List Gv.Node, (l.map fun n => 32 * Gv.wt n).sum = 32 * Gv.wts l
  | [] => by simp [Gv.wts]
  | n :: l => by rw [List.map_cons, List.sum_cons, wts_sum l, Gv.wts]; omega
/-- A TEXT IS NO LONGER than so. -/
theorem spell_le : ∀ (f : Nat) (up : ByteArray) (n : Gv.Node), (spell f up n).length ≤ 32 * Gv.wt n
  | 0, up, .mk k sp nm as' kids d => by
    unfold spell
    split
    · simp
    · exact leaf_le k sp nm d as' kids
  | f + 1, up, .mk k sp nm as' kids d => by
    unfold spell
    split
    · have hk := flat_le (spell f sp) (fun n => 32 * Gv.wt n) kids fun n _ => spell_le f sp n
      rw [wts_sum] at hk
      have ha := rawsFrom_wide as' 0
      have hs := escape_six true sp.data.toList
      rw [len_size] at hs
      have hh : (headText up (.mk k sp nm as' kids d)).length ≤ 1 + nm.size + (10 + 6 * sp.size) + 32 * (as'.length + (as'.map Gv.attW).sum) := by
        unfold headText raws Gv.Node.name Gv.Node.space Gv.Node.attrs
        simp only [List.flatMap_append, List.length_append, List.length_cons, len_size]
        split
        · simp only [List.flatMap_cons, List.flatMap_nil, List.append_nil, one, List.length_append, List.length_cons, List.length_nil]
          omega
        · simp only [List.flatMap_nil, List.length_nil]
          omega
      unfold Gv.wt
      rw [List.length_append]
      split
      · simp only [List.length_cons, List.length_nil]
        omega
      · simp only [Gv.Node.kids, Gv.Node.space, Gv.Node.name, List.length_append, List.length_cons, List.length_nil, len_size] at hk ⊢
        omega
    · exact leaf_le k sp nm d as' kids
end Sc
end Go.Proofs.YtegaidfmkfnbnaaGreatDoor
namespace Go.Proofs.YtegaidfmkfnbnaaGreatDoor
open Go.RowKit

/-- A tree whose texts are no longer than what memory holds. -/
inductive Sized : Gv.Node → Prop where
  | mk {k : Int} {sp nm d : ByteArray} {as' : List Gv.Att} {kids : List Gv.Node} (h0 : as'.length ≤ 140737488355328) (h1 : sp.size ≤ 140737488355328) (h2 : nm.size ≤ 140737488355328) (h3 : d.size ≤ 140737488355328) (ha : ∀ a ∈ as', a.space.size ≤ 140737488355328 ∧ a.name.size ≤ 140737488355328 ∧ a.value.size ≤ 140737488355328) (hk : ∀ n ∈ kids, Sized n) : Sized (.mk k sp nm as' kids d)
theorem sized_parts {k : Int} {sp nm d : ByteArray} {as' : List Gv.Att} {kids : List Gv.Node} (h : Sized (.mk k sp nm as' kids d)) : as'.length ≤ 140737488355328 ∧ sp.size ≤ 140737488355328 ∧ nm.size ≤ 140737488355328 ∧ d.size ≤ 140737488355328 ∧ (∀ a ∈ as', a.space.size ≤ 140737488355328 ∧ a.name.size ≤ 140737488355328 ∧ a.value.size ≤ 140737488355328) ∧ ∀ n ∈ kids, Sized n := by
  cases h with
  | mk h0 h1 h2 h3 ha hk => exact ⟨h0, h1, h2, h3, ha, hk⟩
/-- What is known behind so many attributes. -/
def Small1 (m k : Int) (sp nm d : ByteArray) (as' : List Gv.Att) (j : Nat) : Prop := k ≤ m → ((1 + as'.length + d.size + sp.size + nm.size + ((as'.take j).map Gv.attW).sum : Nat) : Int) ≤ k
def Small2 (m k : Int) (sp nm d : ByteArray) (as' : List Gv.Att) (kids : List Gv.Node) (j : Nat) : Prop := k ≤ m → ((1 + as'.length + d.size + sp.size + nm.size + (as'.map Gv.attW).sum + Gv.wts (kids.take j) : Nat) : Int) ≤ k
theorem small1_next {m k : Int} {sp nm d : ByteArray} {as' : List Gv.Att} {j : Nat} (h : Small1 m k sp nm d as' j) (hk : k ≤ m) (hj : j < as'.length) : Small1 m (k + (as'[j].space.size : Int) + (as'[j].name.size : Int) + (as'[j].value.size : Int)) sp nm d as' (j + 1) := fun _ => by
  have h1 := h hk
  have e : ((as'.take (j + 1)).map Gv.attW).sum = ((as'.take j).map Gv.attW).sum + (as'[j].space.size + as'[j].name.size + as'[j].value.size) := by
    rw [List.take_succ_eq_append_getElem hj, List.map_append, List.sum_append]
    simp [Gv.attW]
  rw [e]
  omega
theorem small2_start {m k : Int} {sp nm d : ByteArray} {as' : List Gv.Att} {kids : List Gv.Node} {j : Nat} (h : Small1 m k sp nm d as' j) (hj : k ≤ m → j = as'.length) : Small2 m k sp nm d as' kids 0 := fun hk => by
  have h1 := h hk
  rw [hj hk, List.take_length] at h1
  rw [List.take_zero, Gv.wts]
  omega
theorem small2_next {m k r : Int} {sp nm d : ByteArray} {as' : List Gv.Att} {kids : List Gv.Node} {j : Nat} (h : Small2 m k sp nm d as' kids j) (hk : k ≤ m) (hj : j < kids.length) (hr : r ≤ m - k → (Gv.wt kids[j] : Int) ≤ r) : Small2 m (k + r) sp nm d as' kids (j + 1) := fun h2 => by
  have h1 := h hk
  have h3 := hr (by omega)
  rw [Gv.wts_take hj]
  omega
theorem small2_wt {m k x : Int} {sp nm d : ByteArray} {as' : List Gv.Att} {kids : List Gv.Node} {j : Nat} (h : Small2 m k sp nm d as' kids j) (hj : j = kids.length) (hk : k ≤ m) : (Gv.wt (.mk x sp nm as' kids d) : Int) ≤ k := by
  have h1 := h hk
  rw [hj, List.take_length] at h1
  unfold Gv.wt
  exact h1

/-- WHAT Size TELLS. -/
def SizeTold (m : Int) (n : Gv.Node) (w : World) (e : Ending) (w' : World) : Prop := (∃ k : Int, e = .returned (.int .i64 k) ∧ 1 ≤ k ∧ k ≤ m + 1000000000000000 ∧ (k ≤ m → (Gv.wt n : Int) ≤ k)) ∧ Below w.heap.size w w'

set_option maxRecDepth 100000 in
set_option maxHeartbeats 12800000 in
theorem refSize_any {S : Nat → Prop} {w0 : World} {c : List Value} {n : Gv.Node} (hn : NodeAt S w0 c n) : Sized n → ∀ (w : World), Below w0.heap.size w0 w → ∀ (m : Int), 0 ≤ m → m ≤ 3000 →
    Calls Tryz.prog 7 #[.agg c.toArray, .int .i64 m] w (SizeTold m n w) := by
  induction hn with
  | @mk x sp nm d as1 kids va vk cs hz ha hk hr ih =>
    intro hsz w hw m hm0 hm1
    obtain ⟨z0, z1, z2, z3, z4, z5⟩ := sized_parts hsz
    clear hsz
    obtain ⟨hz1, hz3⟩ := hz
    unfold maxLen at hz1 hz3
    obtain ⟨ao, ca, rfl, hcap, c1⟩ := ha
    obtain ⟨bo, cb, rfl, c2⟩ := hk
    have ha : AttsAt S w (.slice ao as1.length ca) as1 := AttsAt.stay ⟨ao, ca, rfl, hcap, c1⟩ (stay_below hw)
    have hk : RowsAt S w (.slice bo kids.length cb) kids.length cs := RowsAt.stay ⟨bo, cb, rfl, c2⟩ (stay_below hw)
    clear c1 c2 hcap
    have hshape : ∀ j (h : j < kids.length), ∃ (kk : Int) (ksp knm kd : ByteArray) (kao kbo : Option Addr) (ka kb kc1 kc2 : Nat), cs j = [.int .i64 kk, .string ksp, .string knm, .slice kao ka kc1, .slice kbo kb kc2, .string kd] := fun j h => by
      obtain ⟨_, _, _, _, _, _, _, _, _, _, _, _, e, _, _, _⟩ := (hr j h).open'
      exact ⟨_, _, _, _, _, _, _, _, _, _, e⟩
    clear hr
    have b0 := (Below.refl w.heap.size w).alloc (Nat.le_refl _) (.cells (nodeArr x sp nm (.slice ao as1.length ca) (.slice bo kids.length cb) d) 25)
    have kA := Cells.new w 25 (nodeArr x sp nm (.slice ao as1.length ca) (.slice bo kids.length cb) d)
    have hc := Lib.hid (fun W hb => node_open (kA.on (w' := W) hb))
    obtain ⟨x0, x1, x2, x3, x4, x5⟩ := node_open kA
    replace kA := Lib.hid kA
    replace ih := Lib.hid ih
    replace ha := Lib.hid ha
    replace hk := Lib.hid hk
    replace hshape := Lib.hid hshape
    replace z4 := Lib.hid z4
    replace z5 := Lib.hid z5
    have hI := Lib.hid (show Small1 m (1 + (as1.length : Int) + (d.size : Int) + (sp.size : Int) + (nm.size : Int)) sp nm d as1 0 from fun h => by rw [List.take_zero]; simp only [List.map_nil, List.sum_nil]; omega)
    have hkq1 : 1 ≤ (1 + (as1.length : Int) + (d.size : Int) + (sp.size : Int) + (nm.size : Int)) ∧ (1 + (as1.length : Int) + (d.size : Int) + (sp.size : Int) + (nm.size : Int)) ≤ m + 1000000000000000 := by omega
    unfold nodeArr at *
    go_enter Tryz.func7, Tryz.ntmps7
    go_wp2_with fail
    generalize hw1 : w.alloc (.cells #[.int .i64 x, .string sp, .string nm, .slice ao as1.length ca, .slice bo kids.length cb, .string d] 25) = w1 at *
    clear x0 x1 x2 x3 x4 x5
    go_loopg [5, 6] as1.length (fun gg s5 s6 wr => ∃ (j : Nat) (k : Int), j ≤ as1.length ∧ as1.length - j ≤ gg ∧ s5 = .int .i64 k ∧ s6 = .int .i64 j ∧ 1 ≤ k ∧ k ≤ m + 1000000000000000 ∧ Hid (Below w1.heap.size w1 wr) ∧ Hid (Small1 m k sp nm d as1 j))
    case atStart => exact ⟨0, _, Nat.zero_le _, by omega, rfl, rfl, hkq1.1, hkq1.2, Lib.hid (Below.refl _ _), hI⟩
    case round =>
      obtain ⟨j, k, hj, hgg, rfl, rfl, hk1, hk2, BW, hS⟩ := hrel
      clear hI hkq1
      obtain ⟨x0, x1, x2, x3, x4, x5⟩ := hc.out wr BW.out
      by_cases hlt : j < as1.length ∧ k ≤ m
      · obtain ⟨hlt, hkm⟩ := hlt
        have hltz : (j : Int) < (as1.length : Int) := by omega
        obtain ⟨q1, q2, q3⟩ := z4.out as1[j] (List.getElem_mem hlt)
        have hnew := Lib.hid (small1_next hS.out hkm hlt)
        obtain ⟨bb, off, rfl, p0, p1, p2⟩ := (ha.out.stay (stay_below ((b0.trans (BW.out.mono b0.size))))).cells hlt (sp := as1[j].space) (nm := as1[j].name) (va := as1[j].value) rfl
        have hsum : k + (as1[j].space.size : Int) + (as1[j].name.size : Int) + (as1[j].value.size : Int) ≤ m + 1000000000000000 ∧ 1 ≤ k + (as1[j].space.size : Int) + (as1[j].name.size : Int) + (as1[j].value.size : Int) := by omega
        generalize as1[j].space = us at *
        generalize as1[j].name = un at *
        generalize as1[j].value = uv at *
        clear hS
        go_wp2_with fail
        go_quiet (fail)
        go_wp2_with fail
        have BW2 := Lib.hid (Cells.below_drewN BW.out nq)
        clear BW
        go_roundg (as1.length - (j + 1))
        case measure => omega
        case rel => exact ⟨j + 1, _, by omega, by omega, rfl, by go_num, hsum.2, hsum.1, BW2, hnew⟩
      · have hX2 := Lib.hid (small2_start (kids := kids) hS.out (fun h => by
          rcases Nat.lt_or_ge j as1.length with h' | h'
          · exact absurd ⟨h', h⟩ hlt
          · omega))
        by_cases hjl : j < as1.length
        · have hltz : (j : Int) < (as1.length : Int) := by omega
          have hkm : ¬ k ≤ m := fun h => hlt ⟨hjl, h⟩
          have hkm2 := hlt
          clear hlt
          clear hj hgg hS hkm2
          go_wp2_with fail
          clear x0 x1 x2 x3 x4 x5
          go_loopg [5, 7] kids.length (fun gg s5 s7 wr => ∃ (j : Nat) (k : Int), j ≤ kids.length ∧ kids.length - j ≤ gg ∧ s5 = .int .i64 k ∧ s7 = .int .i64 j ∧ 1 ≤ k ∧ k ≤ m + 1000000000000000 ∧ Hid (Below w1.heap.size w1 wr) ∧ Hid (Small2 m k sp nm d as1 kids j))
          case atStart => exact ⟨0, k, Nat.zero_le _, by omega, rfl, rfl, hk1, hk2, BW, hX2⟩
          case round =>
            clear hX2 BW hk1 hk2
            obtain ⟨j2, k2, hj2, hgg2, rfl, rfl, hk1, hk2, BW, hS⟩ := hrel
            obtain ⟨x0, x1, x2, x3, x4, x5⟩ := hc.out wr BW.out
            by_cases hlt : j2 < kids.length
            · by_cases hkm : k2 ≤ m
              · have hltz : (j2 : Int) < (kids.length : Int) := by omega
                obtain ⟨kk, ksp, knm, kd, kao, kbo, ka, kb, kc1, kc2, e2⟩ := hshape.out j2 hlt
                have bw := b0.trans (BW.out.mono b0.size)
                obtain ⟨bb, off, rfl, p0, p1, p2, p3, p4, p5⟩ := (hk.out.stay (stay_below bw)).cells hlt e2
                have hcall := ih.out j2 hlt (z5.out _ (List.getElem_mem hlt)) wr (hw.trans (bw.mono hw.size)) (m - k2) (by omega) (by omega)
                rw [e2] at hcall
                have hnew := fun (r : Int) (h2 : r ≤ m - k2 → (Gv.wt kids[j2] : Int) ≤ r) => Lib.hid (small2_next hS.out hkm hlt h2)
                generalize kids[j2] = kn at *
                clear e2 hS
                go_wp2_with fail
                (with_reducible refine hcall.mono ?_); rintro e w3 ⟨⟨r, rfl, r1, r2, r3⟩, b3⟩
                have hnw := hnew r r3
                have BW2 := Lib.hid (BW.out.trans (b3.mono BW.out.size))
                have q1 : 1 ≤ k2 + r := by omega
                have q2 : k2 + r ≤ m + 1000000000000000 := by omega
                clear hnew r3 b3 hcall p0 p1 p2 p3 p4 p5 x0 x1 x2 x3 x4 x5 BW
                go_wp2_with fail
                go_roundg (kids.length - (j2 + 1))
                case measure => omega
                case rel => exact ⟨j2 + 1, _, by omega, by omega, rfl, by go_num, q1, q2, BW2, hnw⟩
              · have hltz : (j2 : Int) < (kids.length : Int) := by omega
                have hfin := Lib.hid (show SizeTold m (.mk x sp nm as1 kids d) w (.returned (.int .i64 k2)) wr from ⟨⟨k2, rfl, hk1, hk2, fun h => absurd h hkm⟩, b0.trans (BW.out.mono b0.size)⟩)
                clear hS BW
                go_wp2_with fail
                go_ret
                exact hfin.out
            · have hltz : ¬ (j2 : Int) < (kids.length : Int) := by omega
              have hd : decide ((j2 : Int) < (kids.length : Int)) = false := by simpa using hltz
              have hfin := Lib.hid (show SizeTold m (.mk x sp nm as1 kids d) w (.returned (.int .i64 k2)) wr from ⟨⟨k2, rfl, hk1, hk2, small2_wt hS.out (by omega)⟩, b0.trans (BW.out.mono b0.size)⟩)
              clear hS BW hlt
              go_wp2_with fail
              go_ret
              exact hfin.out
        · have hltz : ¬ (j : Int) < (as1.length : Int) := by omega
          have hd : decide ((j : Int) < (as1.length : Int)) = false := by simpa using hltz
          have hkm2 := hlt
          clear hlt hjl
          clear hj hgg hS hkm2
          go_wp2_with fail
          clear x0 x1 x2 x3 x4 x5
          go_loopg [5, 7] kids.length (fun gg s5 s7 wr => ∃ (j : Nat) (k : Int), j ≤ kids.length ∧ kids.length - j ≤ gg ∧ s5 = .int .i64 k ∧ s7 = .int .i64 j ∧ 1 ≤ k ∧ k ≤ m + 1000000000000000 ∧ Hid (Below w1.heap.size w1 wr) ∧ Hid (Small2 m k sp nm d as1 kids j))
          case atStart => exact ⟨0, k, Nat.zero_le _, by omega, rfl, rfl, hk1, hk2, BW, hX2⟩
          case round =>
            clear hX2 BW hk1 hk2
            obtain ⟨j2, k2, hj2, hgg2, rfl, rfl, hk1, hk2, BW, hS⟩ := hrel
            obtain ⟨x0, x1, x2, x3, x4, x5⟩ := hc.out wr BW.out
            by_cases hlt : j2 < kids.length
            · by_cases hkm : k2 ≤ m
              · have hltz : (j2 : Int) < (kids.length : Int) := by omega
                obtain ⟨kk, ksp, knm, kd, kao, kbo, ka, kb, kc1, kc2, e2⟩ := hshape.out j2 hlt
                have bw := b0.trans (BW.out.mono b0.size)
                obtain ⟨bb, off, rfl, p0, p1, p2, p3, p4, p5⟩ := (hk.out.stay (stay_below bw)).cells hlt e2
                have hcall := ih.out j2 hlt (z5.out _ (List.getElem_mem hlt)) wr (hw.trans (bw.mono hw.size)) (m - k2) (by omega) (by omega)
                rw [e2] at hcall
                have hnew := fun (r : Int) (h2 : r ≤ m - k2 → (Gv.wt kids[j2] : Int) ≤ r) => Lib.hid (small2_next hS.out hkm hlt h2)
                generalize kids[j2] = kn at *
                clear e2 hS
                go_wp2_with fail
                (with_reducible refine hcall.mono ?_); rintro e w3 ⟨⟨r, rfl, r1, r2, r3⟩, b3⟩
                have hnw := hnew r r3
                have BW2 := Lib.hid (BW.out.trans (b3.mono BW.out.size))
                have q1 : 1 ≤ k2 + r := by omega
                have q2 : k2 + r ≤ m + 1000000000000000 := by omega
                clear hnew r3 b3 hcall p0 p1 p2 p3 p4 p5 x0 x1 x2 x3 x4 x5 BW
                go_wp2_with fail
                go_roundg (kids.length - (j2 + 1))
                case measure => omega
                case rel => exact ⟨j2 + 1, _, by omega, by omega, rfl, by go_num, q1, q2, BW2, hnw⟩
              · have hltz : (j2 : Int) < (kids.length : Int) := by omega
                have hfin := Lib.hid (show SizeTold m (.mk x sp nm as1 kids d) w (.returned (.int .i64 k2)) wr from ⟨⟨k2, rfl, hk1, hk2, fun h => absurd h hkm⟩, b0.trans (BW.out.mono b0.size)⟩)
                clear hS BW
                go_wp2_with fail
                go_ret
                exact hfin.out
            · have hltz : ¬ (j2 : Int) < (kids.length : Int) := by omega
              have hd : decide ((j2 : Int) < (kids.length : Int)) = false := by simpa using hltz
              have hfin := Lib.hid (show SizeTold m (.mk x sp nm as1 kids d) w (.returned (.int .i64 k2)) wr from ⟨⟨k2, rfl, hk1, hk2, small2_wt hS.out (by omega)⟩, b0.trans (BW.out.mono b0.size)⟩)
              clear hS BW hlt
              go_wp2_with fail
              go_ret
              exact hfin.out
end Go.Proofs.YtegaidfmkfnbnaaGreatDoor
