/-
  The deferred call that recovers: what it makes of a call that returns, and of one in which an error was thrown.
  What the tokens of a text have in memory while they are gone through: the row told so far, the number, the reader.
-/
import Derived.Test.YtcoeijjmahneeaaGreatDoorG45
import Derived.Defers
import Derived.Deep.RegionHeld3
import Derived.Deep.AppendLies
namespace Go.Proofs.YtcoeijjmahneeaaGreatDoor
open Go.RowKit Go.Extern.Stop Go.Stop Go.Extern

set_option maxRecDepth 100000 in
theorem outcome_none (v : Value) (w : World) :
    Calls Tryz.prog 38 #[.nilIface, v] w fun e w' => e = .returned (.tuple #[v, .int .i64 0]) ∧ w = w' := by
  go_enter Tryz.func38, Tryz.ntmps38
  go_wp2
  go_ret2
  exact ⟨rfl, rfl⟩

theorem isWrong (v : Value) (w : World) : (Instr.typeAssert (.iface 94 v) 20 94 true).run Tryz.prog w = .ok (.tuple #[v, .bool true]) w := by kernel_rfl

set_option maxRecDepth 100000 in
theorem outcome_wrong (v : Value) (n : Int) (w : World) :
    Calls Tryz.prog 38 #[.iface 94 (.agg #[.int .i64 n]), v] w fun e w' => e = .returned (.tuple #[.slice none 0 0, .int .i64 n]) ∧ Below w.heap.size w w' := by
  have hw := fun v w => isWrong v w
  have hb := fun m => below_drewN ((Below.refl w.heap.size w).alloc (Nat.le_refl _) (.cells #[.int .i64 n] 94)) m
  go_enter Tryz.func38, Tryz.ntmps38
  go_wp2
  go_quiet (fail)
  go_wp2
  go_ret2
  exact ⟨rfl, hb _⟩

theorem mixedTok : Tryz.prog.follows .mixedOrders = true := by kernel_rfl

set_option maxRecDepth 100000 in
set_option maxHeartbeats 6400000 in
theorem catch_calm (p q : Nat) (ao : Option Addr) (n cap : Nat) (w : World) (hqp : q ≠ p) (hc : w.cell? ⟨p, 0, none⟩ = some (.slice ao n cap)) (m : Int) (hd : w.cell? ⟨q, 0, none⟩ = some (.int .i64 m)) (hf : w.frozen? ⟨p, 0, none⟩ = false) (hg : w.frozen? ⟨q, 0, none⟩ = false) :
    CallsD Tryz.prog 37 #[.pointer (some ⟨p, 0, none⟩), .pointer (some ⟨q, 0, none⟩)] .returning w fun e u' w' =>
      e = .returned (.tuple #[]) ∧ u' = .returning ∧ ∃ w1, Below w.heap.size w w1 ∧ w' = (w1.setCell ⟨p, 0, none⟩ (.slice ao n cap)).setCell ⟨q, 0, none⟩ (.int .i64 0) := by
  refine callsD_of_wpS Tryz.func37 rfl fun c₀ cs hu => ?_
  apply wpS_region_any mixedTok
  refine wpAnyS_ready (rs := [0, 1]) (by kernel_rfl) (by simp) ?_
  intro i hi
  simp at hi
  rcases hi with rfl | rfl
  · simp [wpOpS, go_sem, recoverD, hu, Tryz.ntmps37]
    refine wpAnyS_ready (rs := [1]) (by kernel_rfl) (by simp) ?_
    intro i hi
    simp at hi
    subst hi
    simp [wpOpS, go_sem, hc]
    refine wpAnyS_ready (rs := [2]) (by kernel_rfl) (by simp) ?_
    intro i hi
    simp at hi
    subst hi
    simp [wpOpS, go_sem]
    refine (outcome_none _ _).mono ?_
    rintro e w1 ⟨rfl, hw1⟩
    have b1 : Below w.heap.size w w1 := by rw [← hw1]; exact ⟨rfl, rfl, rfl, Nat.le_refl _, fun _ _ => rfl⟩
    clear hw1
    obtain ⟨hc1, hf1⟩ := kept_cells b1 (World.block_lt_of_cell? w _ hc) hc hf
    obtain ⟨hd1, hg1⟩ := kept_cells b1 (World.block_lt_of_cell? w _ hd) hd hg
    clear hc hd hf hg
    simp only []
    refine wpAnyS_ready (rs := [3]) (by kernel_rfl) (by simp) ?_
    intro i hi
    simp at hi
    subst hi
    simp [wpOpS, go_sem]
    refine wpAnyS_ready (rs := [4, 5]) (by kernel_rfl) (by simp) ?_
    intro i hi
    simp at hi
    rcases hi with rfl | rfl
    · simp [wpOpS, go_sem]
      refine wpAnyS_ready (rs := [5, 6]) (by kernel_rfl) (by simp) ?_
      intro i hi
      simp at hi
      rcases hi with rfl | rfl
      · simp [wpOpS, go_sem]
        refine wpAnyS_ready (rs := [6]) (by kernel_rfl) (by simp) ?_
        intro i hi
        simp at hi
        subst hi
        simp [wpOpS, go_sem, hf1, hc1]
        refine wpAnyS_ready (rs := [7]) (by kernel_rfl) (by simp) ?_
        intro i hi
        simp at hi
        subst hi
        simp [wpOpS, go_sem, hd1, hg1]
        refine wpAnyS_done (by kernel_rfl) ?_ _
        cases c₀
        simp_all [bodyPostS, results, Tryz.results37]
        exact ⟨_, b1, rfl⟩
      · simp [wpOpS, go_sem, hf1, hc1]
        refine wpAnyS_ready (rs := [5]) (by kernel_rfl) (by simp) ?_
        intro i hi
        simp at hi
        subst hi
        simp [wpOpS, go_sem]
        refine wpAnyS_ready (rs := [7]) (by kernel_rfl) (by simp) ?_
        intro i hi
        simp at hi
        subst hi
        simp [wpOpS, go_sem, hd1, hg1]
        refine wpAnyS_done (by kernel_rfl) ?_ _
        cases c₀
        simp_all [bodyPostS, results, Tryz.results37]
        exact ⟨_, b1, rfl⟩
    · simp [wpOpS, go_sem]
      refine wpAnyS_ready (rs := [4]) (by kernel_rfl) (by simp) ?_
      intro i hi
      simp at hi
      subst hi
      simp [wpOpS, go_sem]
      refine wpAnyS_ready (rs := [6]) (by kernel_rfl) (by simp) ?_
      intro i hi
      simp at hi
      subst hi
      simp [wpOpS, go_sem, hf1, hc1]
      refine wpAnyS_ready (rs := [7]) (by kernel_rfl) (by simp) ?_
      intro i hi
      simp at hi
      subst hi
      simp [wpOpS, go_sem, hd1, hg1]
      refine wpAnyS_done (by kernel_rfl) ?_ _
      cases c₀
      simp_all [bodyPostS, results, Tryz.results37]
      exact ⟨_, b1, rfl⟩
  · simp [wpOpS, go_sem, Tryz.ntmps37, hc]
    refine wpAnyS_ready (rs := [0]) (by kernel_rfl) (by simp) ?_
    intro i hi
    simp at hi
    subst hi
    simp [wpOpS, go_sem, recoverD, hu]
    refine wpAnyS_ready (rs := [2]) (by kernel_rfl) (by simp) ?_
    intro i hi
    simp at hi
    subst hi
    simp [wpOpS, go_sem]
    refine (outcome_none _ _).mono ?_
    rintro e w1 ⟨rfl, hw1⟩
    have b1 : Below w.heap.size w w1 := by rw [← hw1]; exact ⟨rfl, rfl, rfl, Nat.le_refl _, fun _ _ => rfl⟩
    clear hw1
    obtain ⟨hc1, hf1⟩ := kept_cells b1 (World.block_lt_of_cell? w _ hc) hc hf
    obtain ⟨hd1, hg1⟩ := kept_cells b1 (World.block_lt_of_cell? w _ hd) hd hg
    clear hc hd hf hg
    simp only []
    refine wpAnyS_ready (rs := [3]) (by kernel_rfl) (by simp) ?_
    intro i hi
    simp at hi
    subst hi
    simp [wpOpS, go_sem]
    refine wpAnyS_ready (rs := [4, 5]) (by kernel_rfl) (by simp) ?_
    intro i hi
    simp at hi
    rcases hi with rfl | rfl
    · simp [wpOpS, go_sem]
      refine wpAnyS_ready (rs := [5, 6]) (by kernel_rfl) (by simp) ?_
      intro i hi
      simp at hi
      rcases hi with rfl | rfl
      · simp [wpOpS, go_sem]
        refine wpAnyS_ready (rs := [6]) (by kernel_rfl) (by simp) ?_
        intro i hi
        simp at hi
        subst hi
        simp [wpOpS, go_sem, hf1, hc1]
        refine wpAnyS_ready (rs := [7]) (by kernel_rfl) (by simp) ?_
        intro i hi
        simp at hi
        subst hi
        simp [wpOpS, go_sem, hd1, hg1]
        refine wpAnyS_done (by kernel_rfl) ?_ _
        cases c₀
        simp_all [bodyPostS, results, Tryz.results37]
        exact ⟨_, b1, rfl⟩
      · simp [wpOpS, go_sem, hf1, hc1]
        refine wpAnyS_ready (rs := [5]) (by kernel_rfl) (by simp) ?_
        intro i hi
        simp at hi
        subst hi
        simp [wpOpS, go_sem]
        refine wpAnyS_ready (rs := [7]) (by kernel_rfl) (by simp) ?_
        intro i hi
        simp at hi
        subst hi
        simp [wpOpS, go_sem, hd1, hg1]
        refine wpAnyS_done (by kernel_rfl) ?_ _
        cases c₀
        simp_all [bodyPostS, results, Tryz.results37]
        exact ⟨_, b1, rfl⟩
    · simp [wpOpS, go_sem]
      refine wpAnyS_ready (rs := [4]) (by kernel_rfl) (by simp) ?_
      intro i hi
      simp at hi
      subst hi
      simp [wpOpS, go_sem]
      refine wpAnyS_ready (rs := [6]) (by kernel_rfl) (by simp) ?_
      intro i hi
      simp at hi
      subst hi
      simp [wpOpS, go_sem, hf1, hc1]
      refine wpAnyS_ready (rs := [7]) (by kernel_rfl) (by simp) ?_
      intro i hi
      simp at hi
      subst hi
      simp [wpOpS, go_sem, hd1, hg1]
      refine wpAnyS_done (by kernel_rfl) ?_ _
      cases c₀
      simp_all [bodyPostS, results, Tryz.results37]
      exact ⟨_, b1, rfl⟩

set_option maxRecDepth 100000 in
set_option maxHeartbeats 6400000 in
theorem catch_tossed (p q : Nat) (ao : Option Addr) (n cap : Nat) (x : Int) (w : World) (hqp : q ≠ p) (hc : w.cell? ⟨p, 0, none⟩ = some (.slice ao n cap)) (m : Int) (hd : w.cell? ⟨q, 0, none⟩ = some (.int .i64 m)) (hf : w.frozen? ⟨p, 0, none⟩ = false) (hg : w.frozen? ⟨q, 0, none⟩ = false) :
    CallsD Tryz.prog 37 #[.pointer (some ⟨p, 0, none⟩), .pointer (some ⟨q, 0, none⟩)] (.panicking (tossed x)) w fun e u' w' =>
      e = .returned (.tuple #[]) ∧ u' = (.panicking [{ v := .iface 94 (.agg #[.int .i64 x]), recovered := true }]) ∧ ∃ w1, Below w.heap.size w w1 ∧ w' = (w1.setCell ⟨p, 0, none⟩ (.slice none 0 0)).setCell ⟨q, 0, none⟩ (.int .i64 x) := by
  refine callsD_of_wpS Tryz.func37 rfl fun c₀ cs hu => ?_
  apply wpS_region_any mixedTok
  refine wpAnyS_ready (rs := [0, 1]) (by kernel_rfl) (by simp) ?_
  intro i hi
  simp at hi
  rcases hi with rfl | rfl
  · simp [wpOpS, go_sem, recoverD, hu, Tryz.ntmps37, tossed]
    refine wpAnyS_ready (rs := [1]) (by kernel_rfl) (by simp) ?_
    intro i hi
    simp at hi
    subst hi
    simp [wpOpS, go_sem, hc]
    refine wpAnyS_ready (rs := [2]) (by kernel_rfl) (by simp) ?_
    intro i hi
    simp at hi
    subst hi
    simp [wpOpS, go_sem]
    refine (outcome_wrong _ x _).mono ?_
    rintro e w1 ⟨rfl, b0⟩
    have b1 : Below w.heap.size w w1 := ⟨b0.os, b0.tape, b0.output, b0.size, b0.block⟩
    obtain ⟨hc1, hf1⟩ := kept_cells b1 (World.block_lt_of_cell? w _ hc) hc hf
    obtain ⟨hd1, hg1⟩ := kept_cells b1 (World.block_lt_of_cell? w _ hd) hd hg
    clear hc hd hf hg
    simp only []
    refine wpAnyS_ready (rs := [3]) (by kernel_rfl) (by simp) ?_
    intro i hi
    simp at hi
    subst hi
    simp [wpOpS, go_sem]
    refine wpAnyS_ready (rs := [4, 5]) (by kernel_rfl) (by simp) ?_
    intro i hi
    simp at hi
    rcases hi with rfl | rfl
    · simp [wpOpS, go_sem]
      refine wpAnyS_ready (rs := [5, 6]) (by kernel_rfl) (by simp) ?_
      intro i hi
      simp at hi
      rcases hi with rfl | rfl
      · simp [wpOpS, go_sem]
        refine wpAnyS_ready (rs := [6]) (by kernel_rfl) (by simp) ?_
        intro i hi
        simp at hi
        subst hi
        simp [wpOpS, go_sem, hf1, hc1]
        refine wpAnyS_ready (rs := [7]) (by kernel_rfl) (by simp) ?_
        intro i hi
        simp at hi
        subst hi
        simp [wpOpS, go_sem, hd1, hg1]
        refine wpAnyS_done (by kernel_rfl) ?_ _
        cases c₀
        simp_all [bodyPostS, results, Tryz.results37]
        exact ⟨_, b1, rfl⟩
      · simp [wpOpS, go_sem, hf1, hc1]
        refine wpAnyS_ready (rs := [5]) (by kernel_rfl) (by simp) ?_
        intro i hi
        simp at hi
        subst hi
        simp [wpOpS, go_sem]
        refine wpAnyS_ready (rs := [7]) (by kernel_rfl) (by simp) ?_
        intro i hi
        simp at hi
        subst hi
        simp [wpOpS, go_sem, hd1, hg1]
        refine wpAnyS_done (by kernel_rfl) ?_ _
        cases c₀
        simp_all [bodyPostS, results, Tryz.results37]
        exact ⟨_, b1, rfl⟩
    · simp [wpOpS, go_sem]
      refine wpAnyS_ready (rs := [4]) (by kernel_rfl) (by simp) ?_
      intro i hi
      simp at hi
      subst hi
      simp [wpOpS, go_sem]
      refine wpAnyS_ready (rs := [6]) (by kernel_rfl) (by simp) ?_
      intro i hi
      simp at hi
      subst hi
      simp [wpOpS, go_sem, hf1, hc1]
      refine wpAnyS_ready (rs := [7]) (by kernel_rfl) (by simp) ?_
      intro i hi
      simp at hi
      subst hi
      simp [wpOpS, go_sem, hd1, hg1]
      refine wpAnyS_done (by kernel_rfl) ?_ _
      cases c₀
      simp_all [bodyPostS, results, Tryz.results37]
      exact ⟨_, b1, rfl⟩
  · simp [wpOpS, go_sem, Tryz.ntmps37, hc]
    refine wpAnyS_ready (rs := [0]) (by kernel_rfl) (by simp) ?_
    intro i hi
    simp at hi
    subst hi
    simp [wpOpS, go_sem, recoverD, hu, tossed]
    refine wpAnyS_ready (rs := [2]) (by kernel_rfl) (by simp) ?_
    intro i hi
    simp at hi
    subst hi
    simp [wpOpS, go_sem]
    refine (outcome_wrong _ x _).mono ?_
    rintro e w1 ⟨rfl, b0⟩
    have b1 : Below w.heap.size w w1 := ⟨b0.os, b0.tape, b0.output, b0.size, b0.block⟩
    obtain ⟨hc1, hf1⟩ := kept_cells b1 (World.block_lt_of_cell? w _ hc) hc hf
    obtain ⟨hd1, hg1⟩ := kept_cells b1 (World.block_lt_of_cell? w _ hd) hd hg
    clear hc hd hf hg
    simp only []
    refine wpAnyS_ready (rs := [3]) (by kernel_rfl) (by simp) ?_
    intro i hi
    simp at hi
    subst hi
    simp [wpOpS, go_sem]
    refine wpAnyS_ready (rs := [4, 5]) (by kernel_rfl) (by simp) ?_
    intro i hi
    simp at hi
    rcases hi with rfl | rfl
    · simp [wpOpS, go_sem]
      refine wpAnyS_ready (rs := [5, 6]) (by kernel_rfl) (by simp) ?_
      intro i hi
      simp at hi
      rcases hi with rfl | rfl
      · simp [wpOpS, go_sem]
        refine wpAnyS_ready (rs := [6]) (by kernel_rfl) (by simp) ?_
        intro i hi
        simp at hi
        subst hi
        simp [wpOpS, go_sem, hf1, hc1]
        refine wpAnyS_ready (rs := [7]) (by kernel_rfl) (by simp) ?_
        intro i hi
        simp at hi
        subst hi
        simp [wpOpS, go_sem, hd1, hg1]
        refine wpAnyS_done (by kernel_rfl) ?_ _
        cases c₀
        simp_all [bodyPostS, results, Tryz.results37]
        exact ⟨_, b1, rfl⟩
      · simp [wpOpS, go_sem, hf1, hc1]
        refine wpAnyS_ready (rs := [5]) (by kernel_rfl) (by simp) ?_
        intro i hi
        simp at hi
        subst hi
        simp [wpOpS, go_sem]
        refine wpAnyS_ready (rs := [7]) (by kernel_rfl) (by simp) ?_
        intro i hi
        simp at hi
        subst hi
        simp [wpOpS, go_sem, hd1, hg1]
        refine wpAnyS_done (by kernel_rfl) ?_ _
        cases c₀
        simp_all [bodyPostS, results, Tryz.results37]
        exact ⟨_, b1, rfl⟩
    · simp [wpOpS, go_sem]
      refine wpAnyS_ready (rs := [4]) (by kernel_rfl) (by simp) ?_
      intro i hi
      simp at hi
      subst hi
      simp [wpOpS, go_sem]
      refine wpAnyS_ready (rs := [6]) (by kernel_rfl) (by simp) ?_
      intro i hi
      simp at hi
      subst hi
      simp [wpOpS, go_sem, hf1, hc1]
      refine wpAnyS_ready (rs := [7]) (by kernel_rfl) (by simp) ?_
      intro i hi
      simp at hi
      subst hi
      simp [wpOpS, go_sem, hd1, hg1]
      refine wpAnyS_done (by kernel_rfl) ?_ _
      cases c₀
      simp_all [bodyPostS, results, Tryz.results37]
      exact ⟨_, b1, rfl⟩

/-- The same, as facts of cells. -/
theorem catch_calm_at (B p q : Nat) (ao : Option Addr) (n cap : Nat) (w : World) (hqp : q ≠ p) (hp : B ≤ p) (hq : B ≤ q) (hc : w.cell? ⟨p, 0, none⟩ = some (.slice ao n cap)) (m : Int) (hd : w.cell? ⟨q, 0, none⟩ = some (.int .i64 m)) (hf : w.frozen? ⟨p, 0, none⟩ = false) (hg : w.frozen? ⟨q, 0, none⟩ = false) (hB : B ≤ w.heap.size) :
    CallsD Tryz.prog 37 #[.pointer (some ⟨p, 0, none⟩), .pointer (some ⟨q, 0, none⟩)] .returning w fun e u' w' =>
      e = .returned (.tuple #[]) ∧ u' = .returning ∧ w'.cell? ⟨p, 0, none⟩ = some (.slice ao n cap) ∧ w'.cell? ⟨q, 0, none⟩ = some (.int .i64 0) ∧ Below B w w' ∧ (∀ k, k < w.heap.size → k ≠ p → k ≠ q → w'.heap[k]? = w.heap[k]?) := by
  refine (catch_calm p q ao n cap w hqp hc m hd hf hg).mono ?_
  rintro e u' w' ⟨rfl, rfl, w1, b1, rfl⟩
  have hc1 := (b1.cell (World.block_lt_of_cell? w _ hc)).trans hc
  have hd1 := (b1.cell (World.block_lt_of_cell? w _ hd)).trans hd
  refine ⟨rfl, rfl, ?_, ?_, ?_, ?_⟩
  · rw [World.cell?_setCell_other _ _ _ _ (by simp)]
    exact World.cell?_setCell_same _ _ _ hc1
  · exact World.cell?_setCell_same _ _ _ (by rw [World.cell?_setCell_other _ _ _ _ (by simp)]; exact hd1)
  · exact ((b1.mono hB).setCell (p := ⟨p, 0, none⟩) hp _).setCell (p := ⟨q, 0, none⟩) hq _
  · intro k hk h1 h2
    rw [RowKit.Below.heap_setCell _ _ _ _ h2, RowKit.Below.heap_setCell _ _ _ _ h1]
    exact b1.block k hk
theorem catch_tossed_at (B p q : Nat) (ao : Option Addr) (n cap : Nat) (x : Int) (w : World) (hqp : q ≠ p) (hp : B ≤ p) (hq : B ≤ q) (hc : w.cell? ⟨p, 0, none⟩ = some (.slice ao n cap)) (m : Int) (hd : w.cell? ⟨q, 0, none⟩ = some (.int .i64 m)) (hf : w.frozen? ⟨p, 0, none⟩ = false) (hg : w.frozen? ⟨q, 0, none⟩ = false) (hB : B ≤ w.heap.size) :
    CallsD Tryz.prog 37 #[.pointer (some ⟨p, 0, none⟩), .pointer (some ⟨q, 0, none⟩)] (.panicking (tossed x)) w fun e u' w' =>
      e = .returned (.tuple #[]) ∧ u' = (.panicking [{ v := .iface 94 (.agg #[.int .i64 x]), recovered := true }]) ∧ w'.cell? ⟨p, 0, none⟩ = some (.slice none 0 0) ∧ w'.cell? ⟨q, 0, none⟩ = some (.int .i64 x) ∧ Below B w w' := by
  refine (catch_tossed p q ao n cap x w hqp hc m hd hf hg).mono ?_
  rintro e u' w' ⟨rfl, rfl, w1, b1, rfl⟩
  have hc1 := (b1.cell (World.block_lt_of_cell? w _ hc)).trans hc
  have hd1 := (b1.cell (World.block_lt_of_cell? w _ hd)).trans hd
  refine ⟨rfl, rfl, ?_, ?_, ?_⟩
  · rw [World.cell?_setCell_other _ _ _ _ (by simp)]
    exact World.cell?_setCell_same _ _ _ hc1
  · exact World.cell?_setCell_same _ _ _ (by rw [World.cell?_setCell_other _ _ _ _ (by simp)]; exact hd1)
  · exact ((b1.mono hB).setCell (p := ⟨p, 0, none⟩) hp _).setCell (p := ⟨q, 0, none⟩) hq _
end Go.Proofs.YtcoeijjmahneeaaGreatDoor
namespace Go.Proofs.YtcoeijjmahneeaaGreatDoor
open Go.RowKit

/-- A text's tokens and the error's number. -/
def runL (g : Except Nat (List T.Tok)) : List T.Tok := match g with | .ok a => a | .error _ => []
def runE (g : Except Nat (List T.Tok)) : Int := match g with | .ok _ => 0 | .error e => (e : Int)
/-- What the call answers. -/
def RunTold (g : Except Nat (List T.Tok)) (w : World) (e : Ending) (w' : World) : Prop :=
  ∃ (ao : Option Addr) (cap : Nat) (L : List (T.Tok × Value)), e = .returned (.tuple #[.slice ao L.length cap, .int .i64 (runE g)]) ∧ L.map Prod.fst = runL g ∧ ToksIn w' ao L ∧ (ao = none → cap = 0) ∧ Below w.heap.size w w'

/-- A row's block is none of another kind. -/
theorem own_apart {B n sz : Nat} {t : TypeId} {v : Value} {xs : List Value} {w : World} {k : Nat} {o : Obj} (h : w.ownsRow B t sz v n xs) (hk : w.heap[k]? = some o) (hne : ∀ cs fr, o ≠ .cells cs t fr) : v.ownBlock = none ∨ v.ownBlock ≠ some k := by
  obtain ⟨_, ⟨rfl, _⟩ | ⟨g, cap, cur, rfl, hb, hh, _⟩⟩ := h
  · exact .inl rfl
  · right
    simp only [Value.ownBlock, ne_eq, Option.some.injEq]
    rintro rfl
    rw [hk] at hh
    cases hh
    exact hne _ _ rfl
theorem own_two {B B' n m sz sz' : Nat} {t t' : TypeId} {v v' : Value} {xs ys : List Value} {w : World} (h : w.ownsRow B t sz v n xs) (h' : w.ownsRow B' t' sz' v' m ys) (hne : t ≠ t') : v.ownBlock = none ∨ v.ownBlock ≠ v'.ownBlock := by
  obtain ⟨_, ⟨rfl, _⟩ | ⟨g, cap, cur, rfl, hb, hh, _⟩⟩ := h'
  · cases hv : v.ownBlock with
    | none => exact .inl rfl
    | some k => exact .inr (by simp [Value.ownBlock])
  · exact own_apart h hh (by intro cs fr e; cases e; exact hne rfl)

structure Rt (w : World) (sr : ByteArray) (L : List (T.Tok × Value)) (v : Value) (wr : World) : Prop where
  box : wr.heap[w.heap.size + 2]? = some (.cells #[.string sr] 68 (0, 0))
  small : sr.size ≤ 1000000
  env : Env w
  told : wr.heap[w.heap.size]? = some (.cells #[v] 36 (0, 0))
  err : wr.heap[w.heap.size + 1]? = some (.cells #[.int .i64 0] 27 (0, 0))
  row : wr.ownsRow w.heap.size 44 5 v L.length (rowCells L)
  attrs : ∀ x ∈ L, OwnsPairs w.heap.size x.2 (x.1.attrs.map mpair) wr
  below : Below w.heap.size w wr

theorem Rt.rd {w wr : World} {sr : ByteArray} {L : List (T.Tok × Value)} {v : Value} (h : Rt w sr L v wr) : At (w.heap.size + 2) sr wr := ⟨h.box, h.small, w, h.env, by omega, h.below⟩
theorem Rt.on {w wr w1 : World} {sr t : ByteArray} {L : List (T.Tok × Value)} {v : Value} (h : Rt w sr L v wr) (hA : At (w.heap.size + 2) t w1) (g : wr.grownBy w1 (some (w.heap.size + 2))) : Rt w t L v w1 :=
  ⟨hA.box, hA.small, h.env, (g.block _ (Array.getElem?_eq_some_iff.1 h.told).1 (by simp)).trans h.told, (g.block _ (Array.getElem?_eq_some_iff.1 h.err).1 (by simp)).trans h.err, World.ownsRow.kept h.row g (own_apart h.row h.box (by intro cs fr e; cases e)), fun x hx => World.ownsRow.kept (h.attrs x hx) g (own_apart (h.attrs x hx) h.box (by intro cs fr e; cases e)), h.below.grown g h.below.size (fun k e => by cases e; omega)⟩
theorem Rt.grow {w wr w1 : World} {sr : ByteArray} {L : List (T.Tok × Value)} {v : Value} (h : Rt w sr L v wr) (hb : Below wr.heap.size wr w1) : Rt w sr L v w1 :=
  h.on (h.rd.below hb) (grown_of_below hb _)
/-- The result's cell is written. -/
theorem Rt.put {w wr : World} {sr : ByteArray} {L : List (T.Tok × Value)} {v v0 : Value} (hx : wr.heap[w.heap.size + 2]? = some (.cells #[.string sr] 68 (0, 0))) (hs : sr.size ≤ 1000000) (hE : Env w)
    (ht : wr.heap[w.heap.size]? = some (.cells #[v0] 36 (0, 0))) (he : wr.heap[w.heap.size + 1]? = some (.cells #[.int .i64 0] 27 (0, 0)))
    (hr : wr.ownsRow w.heap.size 44 5 v L.length (rowCells L)) (ha : ∀ x ∈ L, OwnsPairs w.heap.size x.2 (x.1.attrs.map mpair) wr) (hb : Below w.heap.size w wr) : Rt w sr L v (wr.setCell ⟨w.heap.size, 0, none⟩ v) := by
  have g := grown_setAny wr w.heap.size 0 v
  exact ⟨(g.block _ (Array.getElem?_eq_some_iff.1 hx).1 (by simp)).trans hx, hs, hE, one_setCell ht, (g.block _ (Array.getElem?_eq_some_iff.1 he).1 (by simp)).trans he, World.ownsRow.kept hr g (own_apart hr ht (by intro cs fr e; cases e)), fun x hx => World.ownsRow.kept (ha x hx) g (own_apart (ha x hx) ht (by intro cs fr e; cases e)), hb.setCell (p := ⟨w.heap.size, 0, none⟩) (Nat.le_refl _) v⟩
theorem Rt.same {w wr : World} {sr : ByteArray} {L : List (T.Tok × Value)} {v : Value} (h : Rt w sr L v wr) : Rt w sr L v (wr.setCell ⟨w.heap.size, 0, none⟩ v) := Rt.put h.box h.small h.env h.told h.err h.row h.attrs h.below
theorem Rt.number {w wr : World} {sr : ByteArray} {L : List (T.Tok × Value)} {v : Value} (h : Rt w sr L v wr) : Rt w sr L v (wr.setCell ⟨w.heap.size + 1, 0, none⟩ (.int .i64 0)) := by
  have g := grown_setAny wr (w.heap.size + 1) 0 (.int .i64 0)
  exact ⟨(g.block _ (Array.getElem?_eq_some_iff.1 h.box).1 (by simp)).trans h.box, h.small, h.env, (g.block _ (Array.getElem?_eq_some_iff.1 h.told).1 (by simp)).trans h.told, one_setCell h.err, World.ownsRow.kept h.row g (own_apart h.row h.err (by intro cs fr e; cases e)), fun x hx => World.ownsRow.kept (h.attrs x hx) g (own_apart (h.attrs x hx) h.err (by intro cs fr e; cases e)), h.below.setCell (p := ⟨w.heap.size + 1, 0, none⟩) (Nat.le_succ _) _⟩

theorem Rt.cT {w wr : World} {sr : ByteArray} {L : List (T.Tok × Value)} {v : Value} (h : Rt w sr L v wr) : wr.cell? ⟨w.heap.size, 0, none⟩ = some v := by unfold World.cell?; rw [h.told]; rfl
theorem Rt.cE {w wr : World} {sr : ByteArray} {L : List (T.Tok × Value)} {v : Value} (h : Rt w sr L v wr) : wr.cell? ⟨w.heap.size + 1, 0, none⟩ = some (.int .i64 0) := by unfold World.cell?; rw [h.err]; rfl
theorem Rt.fT {w wr : World} {sr : ByteArray} {L : List (T.Tok × Value)} {v : Value} (h : Rt w sr L v wr) : wr.frozen? ⟨w.heap.size, 0, none⟩ = false := by simp [World.frozen?, h.told]
theorem Rt.fE {w wr : World} {sr : ByteArray} {L : List (T.Tok × Value)} {v : Value} (h : Rt w sr L v wr) : wr.frozen? ⟨w.heap.size + 1, 0, none⟩ = false := by simp [World.frozen?, h.err]

/-- A token is appended. -/
theorem Rt.more {w wr w1 w5 : World} {sr t : ByteArray} {L : List (T.Tok × Value)} {v v1 v5 : Value} {k : T.Tok} (h : Rt w sr L v wr) (hA : At (w.heap.size + 2) t w1) (g : wr.grownBy w1 (some (w.heap.size + 2))) (hov : OwnsPairs wr.heap.size v1 (k.attrs.map mpair) w1)
    (g5 : w1.grownBy w5 v.ownBlock) (ho5 : w5.ownsRow w.heap.size 44 5 v5 (L.length + 1) (rowCells L ++ tokCells k v1)) : Rt w t (L ++ [(k, v1)]) v5 (w5.setCell ⟨w.heap.size, 0, none⟩ v5) := by
  have h1 := h.on hA g
  have l3 : ∀ j, v.ownBlock = some j → w.heap.size ≤ j := fun j e => (World.ownsRow.lt h1.row j e).1
  have ne : ∀ {j : Nat}, v.ownBlock = none ∨ v.ownBlock ≠ some j → some j ≠ v.ownBlock := by
    rintro j (h | h) e
    · rw [h] at e; cases e
    · exact h e.symm
  have n1 := ne (own_apart h1.row h1.box (by intro cs fr e; cases e))
  have n2 := ne (own_apart h1.row h1.told (by intro cs fr e; cases e))
  have n3 := ne (own_apart h1.row h1.err (by intro cs fr e; cases e))
  have hov2 := ownsPairs_base hov h.below.size
  refine Rt.put ((g5.block _ (Array.getElem?_eq_some_iff.1 h1.box).1 n1).trans h1.box) h1.small h.env ((g5.block _ (Array.getElem?_eq_some_iff.1 h1.told).1 n2).trans h1.told) ((g5.block _ (Array.getElem?_eq_some_iff.1 h1.err).1 n3).trans h1.err) ?_ ?_ (h1.below.grown g5 h1.below.size l3)
  · rw [List.length_append, rowCells_append]
    simpa [rowCells] using ho5
  · intro x hx
    rcases List.mem_append.1 hx with hx | hx
    · exact World.ownsRow.kept (h1.attrs x hx) g5 (own_two (h1.attrs x hx) h1.row (by decide))
    · rw [List.mem_singleton] at hx
      subst hx
      exact World.ownsRow.kept hov2 g5 (own_two hov2 h1.row (by decide))
theorem Rt.toks {w wr : World} {sr : ByteArray} {L : List (T.Tok × Value)} {v : Value} (h : Rt w sr L v wr) : ∃ ao cap, v = .slice ao L.length cap ∧ ToksIn wr ao L ∧ (ao = none → cap = 0) := by
  obtain ⟨ao, cap, rfl, hin⟩ := toks_of_row h.row (fun x hx => by
    obtain ⟨ao, cap, e, hp⟩ := pairs_of_owns (h.attrs x hx)
    rw [List.length_map] at e
    exact ⟨ao, cap, e, hp⟩)
  refine ⟨ao, cap, rfl, hin, ?_⟩
  rintro rfl
  obtain ⟨_, ⟨e, _⟩ | ⟨g, c, cur, e, _⟩⟩ := h.row
  · injection e
  · injection e with e1
    cases e1
end Go.Proofs.YtcoeijjmahneeaaGreatDoor
