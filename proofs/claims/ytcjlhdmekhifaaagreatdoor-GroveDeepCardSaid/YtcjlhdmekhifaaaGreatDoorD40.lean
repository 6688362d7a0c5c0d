/-
  The deferred call that recovers: what it makes of a call that returns, and of one in which an error was thrown.
  What the tokens of a text have in memory while they are gone through: the row told so far, the number, the reader.
  What the program's Tokens comes to.
-/
import Derived.Test.YtcjlhdmekhifaaaGreatDoorD39
import Derived.Defers
import Derived.Deep.RegionHeld3
import Derived.Deep.AppendLies
namespace Go.Proofs.YtcjlhdmekhifaaaGreatDoor
open Go.RowKit Go.Extern.Stop Go.Stop Go.Extern

set_option maxRecDepth 100000 in
theorem outcome_none (v : Value) (w : World) :
    Calls Tryz.prog 34 #[.nilIface, v] w fun e w' => e = .returned (.tuple #[v, .int .i64 0]) ∧ w = w' := by
  go_enter Tryz.func34, Tryz.ntmps34
  go_wp2
  go_ret2
  exact ⟨rfl, rfl⟩

theorem isWrong (v : Value) (w : World) : (Instr.typeAssert (.iface 92 v) 20 92 true).run Tryz.prog w = .ok (.tuple #[v, .bool true]) w := by kernel_rfl

set_option maxRecDepth 100000 in
theorem outcome_wrong (v : Value) (n : Int) (w : World) :
    Calls Tryz.prog 34 #[.iface 92 (.agg #[.int .i64 n]), v] w fun e w' => e = .returned (.tuple #[.slice none 0 0, .int .i64 n]) ∧ Below w.heap.size w w' := by
  have hw := fun v w => isWrong v w
  have hb := fun m => below_drewN ((Below.refl w.heap.size w).alloc (Nat.le_refl _) (.cells #[.int .i64 n] 92)) m
  go_enter Tryz.func34, Tryz.ntmps34
  go_wp2
  go_quiet (fail)
  go_wp2
  go_ret2
  exact ⟨rfl, hb _⟩

theorem mixedTok : Tryz.prog.follows .mixedOrders = true := by kernel_rfl

set_option maxRecDepth 100000 in
set_option maxHeartbeats 6400000 in
theorem catch_calm (p q : Nat) (ao : Option Addr) (n cap : Nat) (w : World) (hqp : q ≠ p) (hc : w.cell? ⟨p, 0, none⟩ = some (.slice ao n cap)) (m : Int) (hd : w.cell? ⟨q, 0, none⟩ = some (.int .i64 m)) (hf : w.frozen? ⟨p, 0, none⟩ = false) (hg : w.frozen? ⟨q, 0, none⟩ = false) :
    CallsD Tryz.prog 33 #[.pointer (some ⟨p, 0, none⟩), .pointer (some ⟨q, 0, none⟩)] .returning w fun e u' w' =>
      e = .returned (.tuple #[]) ∧ u' = .returning ∧ ∃ w1, Below w.heap.size w w1 ∧ w' = (w1.setCell ⟨p, 0, none⟩ (.slice ao n cap)).setCell ⟨q, 0, none⟩ (.int .i64 0) := by
  refine callsD_of_wpS Tryz.func33 rfl fun c₀ cs hu => ?_
  apply wpS_region_any mixedTok
  refine wpAnyS_ready (rs := [0, 1]) (by kernel_rfl) (by simp) ?_
  intro i hi
  simp at hi
  rcases hi with rfl | rfl
  · simp [wpOpS, go_sem, recoverD, hu, Tryz.ntmps33]
    refine wpAnyS_ready (rs := [1]) (by kernel_rfl) (by simp) ?_
    intro i hi
    simp at hi
    subst hi
    simp [wpOpS, go_sem, hc]
    refine wpAnyS_ready (rs := [2]) (by kernel_rfl) (by simp) ?_
    intro i hi
    simp at hi
    subst hi
    simp [wpOpS, go_sem]
    refine (outcome_none _ _).mono ?_
    rintro e w1 ⟨rfl, hw1⟩
    have b1 : Below w.heap.size w w1 := by rw [← hw1]; exact ⟨rfl, rfl, rfl, Nat.le_refl _, fun _ _ => rfl⟩
    clear hw1
    obtain ⟨hc1, hf1⟩ := kept_cells b1 (World.block_lt_of_cell? w _ hc) hc hf
    obtain ⟨hd1, hg1⟩ := kept_cells b1 (World.block_lt_of_cell? w _ hd) hd hg
    clear hc hd hf hg
    simp only []
    refine wpAnyS_ready (rs := [3]) (by kernel_rfl) (by simp) ?_
    intro i hi
    simp at hi
    subst hi
    simp [wpOpS, go_sem]
    refine wpAnyS_ready (rs := [4, 5]) (by kernel_rfl) (by simp) ?_
    intro i hi
    simp at hi
    rcases hi with rfl | rfl
    · simp [wpOpS, go_sem]
      refine wpAnyS_ready (rs := [5, 6]) (by kernel_rfl) (by simp) ?_
      intro i hi
      simp at hi
      rcases hi with rfl | rfl
      · simp [wpOpS, go_sem]
        refine wpAnyS_ready (rs := [6]) (by kernel_rfl) (by simp) ?_
        intro i hi
        simp at hi
        subst hi
        simp [wpOpS, go_sem, hf1, hc1]
        refine wpAnyS_ready (rs := [7]) (by kernel_rfl) (by simp) ?_
        intro i hi
        simp at hi
        subst hi
        simp [wpOpS, go_sem, hd1, hg1]
        refine wpAnyS_done (by kernel_rfl) ?_ _
        cases c₀
        simp_all [bodyPostS, results, Tryz.results33]
        exact ⟨_, b1, rfl⟩
      · simp [wpOpS, go_sem, hf1, hc1]
        refine wpAnyS_ready (rs := [5]) (by kernel_rfl) (by simp) ?_
        intro i hi
        simp at hi
        subst hi
        simp [wpOpS, go_sem]
        refine wpAnyS_ready (rs := [7]) (by kernel_rfl) (by simp) ?_
        intro i hi
        simp at hi
        subst hi
        simp [wpOpS, go_sem, hd1, hg1]
        refine wpAnyS_done (by kernel_rfl) ?_ _
        cases c₀
        simp_all [bodyPostS, results, Tryz.results33]
        exact ⟨_, b1, rfl⟩
    · simp [wpOpS, go_sem]
      refine wpAnyS_ready (rs := [4]) (by kernel_rfl) (by simp) ?_
      intro i hi
      simp at hi
      subst hi
      simp [wpOpS, go_sem]
      refine wpAnyS_ready (rs := [6]) (by kernel_rfl) (by simp) ?_
      intro i hi
      simp at hi
      subst hi
      simp [wpOpS, go_sem, hf1, hc1]
      refine wpAnyS_ready (rs := [7]) (by kernel_rfl) (by simp) ?_
      intro i hi
      simp at hi
      subst hi
      simp [wpOpS, go_sem, hd1, hg1]
      refine wpAnyS_done (by kernel_rfl) ?_ _
      cases c₀
      simp_all [bodyPostS, results, Tryz.results33]
      exact ⟨_, b1, rfl⟩
  · simp [wpOpS, go_sem, Tryz.ntmps33, hc]
    refine wpAnyS_ready (rs := [0]) (by kernel_rfl) (by simp) ?_
    intro i hi
    simp at hi
    subst hi
    simp [wpOpS, go_sem, recoverD, hu]
    refine wpAnyS_ready (rs := [2]) (by kernel_rfl) (by simp) ?_
    intro i hi
    simp at hi
    subst hi
    simp [wpOpS, go_sem]
    refine (outcome_none _ _).mono ?_
    rintro e w1 ⟨rfl, hw1⟩
    have b1 : Below w.heap.size w w1 := by rw [← hw1]; exact ⟨rfl, rfl, rfl, Nat.le_refl _, fun _ _ => rfl⟩
    clear hw1
    obtain ⟨hc1, hf1⟩ := kept_cells b1 (World.block_lt_of_cell? w _ hc) hc hf
    obtain ⟨hd1, hg1⟩ := kept_cells b1 (World.block_lt_of_cell? w _ hd) hd hg
    clear hc hd hf hg
    simp only []
    refine wpAnyS_ready (rs := [3]) (by kernel_rfl) (by simp) ?_
    intro i hi
    simp at hi
    subst hi
    simp [wpOpS, go_sem]
    refine wpAnyS_ready (rs := [4, 5]) (by kernel_rfl) (by simp) ?_
    intro i hi
    simp at hi
    rcases hi with rfl | rfl
    · simp [wpOpS, go_sem]
      refine wpAnyS_ready (rs := [5, 6]) (by kernel_rfl) (by simp) ?_
      intro i hi
      simp at hi
      rcases hi with rfl | rfl
      · simp [wpOpS, go_sem]
        refine wpAnyS_ready (rs := [6]) (by kernel_rfl) (by simp) ?_
        intro i hi
        simp at hi
        subst hi
        simp [wpOpS, go_sem, hf1, hc1]
        refine wpAnyS_ready (rs := [7]) (by kernel_rfl) (by simp) ?_
        intro i hi
        simp at hi
        subst hi
        simp [wpOpS, go_sem, hd1, hg1]
        refine wpAnyS_done (by kernel_rfl) ?_ _
        cases c₀
        simp_all [bodyPostS, results, Tryz.results33]
        exact ⟨_, b1, rfl⟩
      · simp [wpOpS, go_sem, hf1, hc1]
        refine wpAnyS_ready (rs := [5]) (by kernel_rfl) (by simp) ?_
        intro i hi
        simp at hi
        subst hi
        simp [wpOpS, go_sem]
        refine wpAnyS_ready (rs := [7]) (by kernel_rfl) (by simp) ?_
        intro i hi
        simp at hi
        subst hi
        simp [wpOpS, go_sem, hd1, hg1]
        refine wpAnyS_done (by kernel_rfl) ?_ _
        cases c₀
        simp_all [bodyPostS, results, Tryz.results33]
        exact ⟨_, b1, rfl⟩
    · simp [wpOpS, go_sem]
      refine wpAnyS_ready (rs := [4]) (by kernel_rfl) (by simp) ?_
      intro i hi
      simp at hi
      subst hi
      simp [wpOpS, go_sem]
      refine wpAnyS_ready (rs := [6]) (by kernel_rfl) (by simp) ?_
      intro i hi
      simp at hi
      subst hi
      simp [wpOpS, go_sem, hf1, hc1]
      refine wpAnyS_ready (rs := [7]) (by kernel_rfl) (by simp) ?_
      intro i hi
      simp at hi
      subst hi
      simp [wpOpS, go_sem, hd1, hg1]
      refine wpAnyS_done (by kernel_rfl) ?_ _
      cases c₀
      simp_all [bodyPostS, results, Tryz.results33]
      exact ⟨_, b1, rfl⟩

set_option maxRecDepth 100000 in
set_option maxHeartbeats 6400000 in
theorem catch_tossed (p q : Nat) (ao : Option Addr) (n cap : Nat) (x : Int) (w : World) (hqp : q ≠ p) (hc : w.cell? ⟨p, 0, none⟩ = some (.slice ao n cap)) (m : Int) (hd : w.cell? ⟨q, 0, none⟩ = some (.int .i64 m)) (hf : w.frozen? ⟨p, 0, none⟩ = false) (hg : w.frozen? ⟨q, 0, none⟩ = false) :
    CallsD Tryz.prog 33 #[.pointer (some ⟨p, 0, none⟩), .pointer (some ⟨q, 0, none⟩)] (.panicking (tossed x)) w fun e u' w' =>
      e = .returned (.tuple #[]) ∧ u' = (.panicking [{ v := .iface 92 (.agg #[.int .i64 x]), recovered := true }]) ∧ ∃ w1, Below w.heap.size w w1 ∧ w' = (w1.setCell ⟨p, 0, none⟩ (.slice none 0 0)).setCell ⟨q, 0, none⟩ (.int .i64 x) := by
  refine callsD_of_wpS Tryz.func33 rfl fun c₀ cs hu => ?_
  apply wpS_region_any mixedTok
  refine wpAnyS_ready (rs := [0, 1]) (by kernel_rfl) (by simp) ?_
  intro i hi
  simp at hi
  rcases hi with rfl | rfl
  · simp [wpOpS, go_sem, recoverD, hu, Tryz.ntmps33, tossed]
    refine wpAnyS_ready (rs := [1]) (by kernel_rfl) (by simp) ?_
    intro i hi
    simp at hi
    subst hi
    simp [wpOpS, go_sem, hc]
    refine wpAnyS_ready (rs := [2]) (by kernel_rfl) (by simp) ?_
    intro i hi
    simp at hi
    subst hi
    simp [wpOpS, go_sem]
    refine (outcome_wrong _ x _).mono ?_
    rintro e w1 ⟨rfl, b0⟩
    have b1 : Below w.heap.size w w1 := ⟨b0.os, b0.tape, b0.output, b0.size, b0.block⟩
    obtain ⟨hc1, hf1⟩ := kept_cells b1 (World.block_lt_of_cell? w _ hc) hc hf
    obtain ⟨hd1, hg1⟩ := kept_cells b1 (World.block_lt_of_cell? w _ hd) hd hg
    clear hc hd hf hg
    simp only []
    refine wpAnyS_ready (rs := [3]) (by kernel_rfl) (by simp) ?_
    intro i hi
    simp at hi
    subst hi
    simp [wpOpS, go_sem]
    refine wpAnyS_ready (rs := [4, 5]) (by kernel_rfl) (by simp) ?_
    intro i hi
    simp at hi
    rcases hi with rfl | rfl
    · simp [wpOpS, go_sem]
      refine wpAnyS_ready (rs := [5, 6]) (by kernel_rfl) (by simp) ?_
      intro i hi
      simp at hi
      rcases hi with rfl | rfl
      · simp [wpOpS, go_sem]
        refine wpAnyS_ready (rs := [6]) (by kernel_rfl) (by simp) ?_
        intro i hi
        simp at hi
        subst hi
        simp [wpOpS, go_sem, hf1, hc1]
        refine wpAnyS_ready (rs := [7]) (by kernel_rfl) (by simp) ?_
        intro i hi
        simp at hi
        subst hi
        simp [wpOpS, go_sem, hd1, hg1]
        refine wpAnyS_done (by kernel_rfl) ?_ _
        cases c₀
        simp_all [bodyPostS, results, Tryz.results33]
        exact ⟨_, b1, rfl⟩
      · simp [wpOpS, go_sem, hf1, hc1]
        refine wpAnyS_ready (rs := [5]) (by kernel_rfl) (by simp) ?_
        intro i hi
        simp at hi
        subst hi
        simp [wpOpS, go_sem]
        refine wpAnyS_ready (rs := [7]) (by kernel_rfl) (by simp) ?_
        intro i hi
        simp at hi
        subst hi
        simp [wpOpS, go_sem, hd1, hg1]
        refine wpAnyS_done (by kernel_rfl) ?_ _
        cases c₀
        simp_all [bodyPostS, results, Tryz.results33]
        exact ⟨_, b1, rfl⟩
    · simp [wpOpS, go_sem]
      refine wpAnyS_ready (rs := [4]) (by kernel_rfl) (by simp) ?_
      intro i hi
      simp at hi
      subst hi
      simp [wpOpS, go_sem]
      refine wpAnyS_ready (rs := [6]) (by kernel_rfl) (by simp) ?_
      intro i hi
      simp at hi
      subst hi
      simp [wpOpS, go_sem, hf1, hc1]
      refine wpAnyS_ready (rs := [7]) (by kernel_rfl) (by simp) ?_
      intro i hi
      simp at hi
      subst hi
      simp [wpOpS, go_sem, hd1, hg1]
      refine wpAnyS_done (by kernel_rfl) ?_ _
      cases c₀
      simp_all [bodyPostS, results, Tryz.results33]
      exact ⟨_, b1, rfl⟩
  · simp [wpOpS, go_sem, Tryz.ntmps33, hc]
    refine wpAnyS_ready (rs := [0]) (by kernel_rfl) (by simp) ?_
    intro i hi
    simp at hi
    subst hi
    simp [wpOpS, go_sem, recoverD, hu, tossed]
    refine wpAnyS_ready (rs := [2]) (by kernel_rfl) (by simp) ?_
    intro i hi
    simp at hi
    subst hi
    simp [wpOpS, go_sem]
    refine (outcome_wrong _ x _).mono ?_
    rintro e w1 ⟨rfl, b0⟩
    have b1 : Below w.heap.size w w1 := ⟨b0.os, b0.tape, b0.output, b0.size, b0.block⟩
    obtain ⟨hc1, hf1⟩ := kept_cells b1 (World.block_lt_of_cell? w _ hc) hc hf
    obtain ⟨hd1, hg1⟩ := kept_cells b1 (World.block_lt_of_cell? w _ hd) hd hg
    clear hc hd hf hg
    simp only []
    refine wpAnyS_ready (rs := [3]) (by kernel_rfl) (by simp) ?_
    intro i hi
    simp at hi
    subst hi
    simp [wpOpS, go_sem]
    refine wpAnyS_ready (rs := [4, 5]) (by kernel_rfl) (by simp) ?_
    intro i hi
    simp at hi
    rcases hi with rfl | rfl
    · simp [wpOpS, go_sem]
      refine wpAnyS_ready (rs := [5, 6]) (by kernel_rfl) (by simp) ?_
      intro i hi
      simp at hi
      rcases hi with rfl | rfl
      · simp [wpOpS, go_sem]
        refine wpAnyS_ready (rs := [6]) (by kernel_rfl) (by simp) ?_
        intro i hi
        simp at hi
        subst hi
        simp [wpOpS, go_sem, hf1, hc1]
        refine wpAnyS_ready (rs := [7]) (by kernel_rfl) (by simp) ?_
        intro i hi
        simp at hi
        subst hi
        simp [wpOpS, go_sem, hd1, hg1]
        refine wpAnyS_done (by kernel_rfl) ?_ _
        cases c₀
        simp_all [bodyPostS, results, Tryz.results33]
        exact ⟨_, b1, rfl⟩
      · simp [wpOpS, go_sem, hf1, hc1]
        refine wpAnyS_ready (rs := [5]) (by kernel_rfl) (by simp) ?_
        intro i hi
        simp at hi
        subst hi
        simp [wpOpS, go_sem]
        refine wpAnyS_ready (rs := [7]) (by kernel_rfl) (by simp) ?_
        intro i hi
        simp at hi
        subst hi
        simp [wpOpS, go_sem, hd1, hg1]
        refine wpAnyS_done (by kernel_rfl) ?_ _
        cases c₀
        simp_all [bodyPostS, results, Tryz.results33]
        exact ⟨_, b1, rfl⟩
    · simp [wpOpS, go_sem]
      refine wpAnyS_ready (rs := [4]) (by kernel_rfl) (by simp) ?_
      intro i hi
      simp at hi
      subst hi
      simp [wpOpS, go_sem]
      refine wpAnyS_ready (rs := [6]) (by kernel_rfl) (by simp) ?_
      intro i hi
      simp at hi
      subst hi
      simp [wpOpS, go_sem, hf1, hc1]
      refine wpAnyS_ready (rs := [7]) (by kernel_rfl) (by simp) ?_
      intro i hi
      simp at hi
      subst hi
      simp [wpOpS, go_sem, hd1, hg1]
      refine wpAnyS_done (by kernel_rfl) ?_ _
      cases c₀
      simp_all [bodyPostS, results, Tryz.results33]
      exact ⟨_, b1, rfl⟩

/-- The same, as facts of cells. -/
theorem catch_calm_at (B p q : Nat) (ao : Option Addr) (n cap : Nat) (w : World) (hqp : q ≠ p) (hp : B ≤ p) (hq : B ≤ q) (hc : w.cell? ⟨p, 0, none⟩ = some (.slice ao n cap)) (m : Int) (hd : w.cell? ⟨q, 0, none⟩ = some (.int .i64 m)) (hf : w.frozen? ⟨p, 0, none⟩ = false) (hg : w.frozen? ⟨q, 0, none⟩ = false) (hB : B ≤ w.heap.size) :
    CallsD Tryz.prog 33 #[.pointer (some ⟨p, 0, none⟩), .pointer (some ⟨q, 0, none⟩)] .returning w fun e u' w' =>
      e = .returned (.tuple #[]) ∧ u' = .returning ∧ w'.cell? ⟨p, 0, none⟩ = some (.slice ao n cap) ∧ w'.cell? ⟨q, 0, none⟩ = some (.int .i64 0) ∧ Below B w w' ∧ (∀ k, k < w.heap.size → k ≠ p → k ≠ q → w'.heap[k]? = w.heap[k]?) := by
  refine (catch_calm p q ao n cap w hqp hc m hd hf hg).mono ?_
  rintro e u' w' ⟨rfl, rfl, w1, b1, rfl⟩
  have hc1 := (b1.cell (World.block_lt_of_cell? w _ hc)).trans hc
  have hd1 := (b1.cell (World.block_lt_of_cell? w _ hd)).trans hd
  refine ⟨rfl, rfl, ?_, ?_, ?_, ?_⟩
  · rw [World.cell?_setCell_other _ _ _ _ (by simp)]
    exact World.cell?_setCell_same _ _ _ hc1
  · exact World.cell?_setCell_same _ _ _ (by rw [World.cell?_setCell_other _ _ _ _ (by simp)]; exact hd1)
  · exact ((b1.mono hB).setCell (p := ⟨p, 0, none⟩) hp _).setCell (p := ⟨q, 0, none⟩) hq _
  · intro k hk h1 h2
    rw [RowKit.Below.heap_setCell _ _ _ _ h2, RowKit.Below.heap_setCell _ _ _ _ h1]
    exact b1.block k hk
theorem catch_tossed_at (B p q : Nat) (ao : Option Addr) (n cap : Nat) (x : Int) (w : World) (hqp : q ≠ p) (hp : B ≤ p) (hq : B ≤ q) (hc : w.cell? ⟨p, 0, none⟩ = some (.slice ao n cap)) (m : Int) (hd : w.cell? ⟨q, 0, none⟩ = some (.int .i64 m)) (hf : w.frozen? ⟨p, 0, none⟩ = false) (hg : w.frozen? ⟨q, 0, none⟩ = false) (hB : B ≤ w.heap.size) :
    CallsD Tryz.prog 33 #[.pointer (some ⟨p, 0, none⟩), .pointer (some ⟨q, 0, none⟩)] (.panicking (tossed x)) w fun e u' w' =>
      e = .returned (.tuple #[]) ∧ u' = (.panicking [{ v := .iface 92 (.agg #[.int .i64 x]), recovered := true }]) ∧ w'.cell? ⟨p, 0, none⟩ = some (.slice none 0 0) ∧ w'.cell? ⟨q, 0, none⟩ = some (.int .i64 x) ∧ Below B w w' := by
  refine (catch_tossed p q ao n cap x w hqp hc m hd hf hg).mono ?_
  rintro e u' w' ⟨rfl, rfl, w1, b1, rfl⟩
  have hc1 := (b1.cell (World.block_lt_of_cell? w _ hc)).trans hc
  have hd1 := (b1.cell (World.block_lt_of_cell? w _ hd)).trans hd
  refine ⟨rfl, rfl, ?_, ?_, ?_⟩
  · rw [World.cell?_setCell_other _ _ _ _ (by simp)]
    exact World.cell?_setCell_same _ _ _ hc1
  · exact World.cell?_setCell_same _ _ _ (by rw [World.cell?_setCell_other _ _ _ _ (by simp)]; exact hd1)
  · exact ((b1.mono hB).setCell (p := ⟨p, 0, none⟩) hp _).setCell (p := ⟨q, 0, none⟩) hq _
end Go.Proofs.YtcjlhdmekhifaaaGreatDoor
namespace Go.Proofs.YtcjlhdmekhifaaaGreatDoor
open Go.RowKit

/-- A text's tokens and the error's number. -/
def runL (g : Except Nat (List T.Tok)) : List T.Tok := match g with | .ok a => a | .error _ => []
def runE (g : Except Nat (List T.Tok)) : Int := match g with | .ok _ => 0 | .error e => (e : Int)
/-- What the call answers. -/
def RunTold (g : Except Nat (List T.Tok)) (w : World) (e : Ending) (w' : World) : Prop :=
  ∃ (ao : Option Addr) (cap : Nat) (L : List (T.Tok × Value)), e = .returned (.tuple #[.slice ao L.length cap, .int .i64 (runE g)]) ∧ L.map Prod.fst = runL g ∧ ToksIn w' ao L ∧ (ao = none → cap = 0) ∧ Below w.heap.size w w'

/-- A row's block is none of another kind. -/
theorem own_apart {B n sz : Nat} {t : TypeId} {v : Value} {xs : List Value} {w : World} {k : Nat} {o : Obj} (h : w.ownsRow B t sz v n xs) (hk : w.heap[k]? = some o) (hne : ∀ cs fr, o ≠ .cells cs t fr) : v.ownBlock = none ∨ v.ownBlock ≠ some k := by
  obtain ⟨_, ⟨rfl, _⟩ | ⟨g, cap, cur, rfl, hb, hh, _⟩⟩ := h
  · exact .inl rfl
  · right
    simp only [Value.ownBlock, ne_eq, Option.some.injEq]
    rintro rfl
    rw [hk] at hh
    cases hh
    exact hne _ _ rfl
theorem own_two {B B' n m sz sz' : Nat} {t t' : TypeId} {v v' : Value} {xs ys : List Value} {w : World} (h : w.ownsRow B t sz v n xs) (h' : w.ownsRow B' t' sz' v' m ys) (hne : t ≠ t') : v.ownBlock = none ∨ v.ownBlock ≠ v'.ownBlock := by
  obtain ⟨_, ⟨rfl, _⟩ | ⟨g, cap, cur, rfl, hb, hh, _⟩⟩ := h'
  · cases hv : v.ownBlock with
    | none => exact .inl rfl
    | some k => exact .inr (by simp [Value.ownBlock])
  · exact own_apart h hh (by intro cs fr e; cases e; exact hne rfl)

structure Rt (w : World) (sr : ByteArray) (L : List (T.Tok × Value)) (v : Value) (wr : World) : Prop where
  box : wr.heap[w.heap.size + 2]? = some (.cells #[.string sr] 65 (0, 0))
  small : sr.size ≤ 1000000
  env : Env w
  told : wr.heap[w.heap.size]? = some (.cells #[v] 33 (0, 0))
  err : wr.heap[w.heap.size + 1]? = some (.cells #[.int .i64 0] 27 (0, 0))
  row : wr.ownsRow w.heap.size 41 5 v L.length (rowCells L)
  attrs : ∀ x ∈ L, OwnsPairs w.heap.size x.2 (x.1.attrs.map mpair) wr
  below : Below w.heap.size w wr

theorem Rt.rd {w wr : World} {sr : ByteArray} {L : List (T.Tok × Value)} {v : Value} (h : Rt w sr L v wr) : At (w.heap.size + 2) sr wr := ⟨h.box, h.small, w, h.env, by omega, h.below⟩
theorem Rt.on {w wr w1 : World} {sr t : ByteArray} {L : List (T.Tok × Value)} {v : Value} (h : Rt w sr L v wr) (hA : At (w.heap.size + 2) t w1) (g : wr.grownBy w1 (some (w.heap.size + 2))) : Rt w t L v w1 :=
  ⟨hA.box, hA.small, h.env, (g.block _ (Array.getElem?_eq_some_iff.1 h.told).1 (by simp)).trans h.told, (g.block _ (Array.getElem?_eq_some_iff.1 h.err).1 (by simp)).trans h.err, World.ownsRow.kept h.row g (own_apart h.row h.box (by intro cs fr e; cases e)), fun x hx => World.ownsRow.kept (h.attrs x hx) g (own_apart (h.attrs x hx) h.box (by intro cs fr e; cases e)), h.below.grown g h.below.size (fun k e => by cases e; omega)⟩
theorem Rt.grow {w wr w1 : World} {sr : ByteArray} {L : List (T.Tok × Value)} {v : Value} (h : Rt w sr L v wr) (hb : Below wr.heap.size wr w1) : Rt w sr L v w1 :=
  h.on (h.rd.below hb) (grown_of_below hb _)
/-- The result's cell is written. -/
theorem Rt.put {w wr : World} {sr : ByteArray} {L : List (T.Tok × Value)} {v v0 : Value} (hx : wr.heap[w.heap.size + 2]? = some (.cells #[.string sr] 65 (0, 0))) (hs : sr.size ≤ 1000000) (hE : Env w)
    (ht : wr.heap[w.heap.size]? = some (.cells #[v0] 33 (0, 0))) (he : wr.heap[w.heap.size + 1]? = some (.cells #[.int .i64 0] 27 (0, 0)))
    (hr : wr.ownsRow w.heap.size 41 5 v L.length (rowCells L)) (ha : ∀ x ∈ L, OwnsPairs w.heap.size x.2 (x.1.attrs.map mpair) wr) (hb : Below w.heap.size w wr) : Rt w sr L v (wr.setCell ⟨w.heap.size, 0, none⟩ v) := by
  have g := grown_setAny wr w.heap.size 0 v
  exact ⟨(g.block _ (Array.getElem?_eq_some_iff.1 hx).1 (by simp)).trans hx, hs, hE, one_setCell ht, (g.block _ (Array.getElem?_eq_some_iff.1 he).1 (by simp)).trans he, World.ownsRow.kept hr g (own_apart hr ht (by intro cs fr e; cases e)), fun x hx => World.ownsRow.kept (ha x hx) g (own_apart (ha x hx) ht (by intro cs fr e; cases e)), hb.setCell (p := ⟨w.heap.size, 0, none⟩) (Nat.le_refl _) v⟩
theorem Rt.same {w wr : World} {sr : ByteArray} {L : List (T.Tok × Value)} {v : Value} (h : Rt w sr L v wr) : Rt w sr L v (wr.setCell ⟨w.heap.size, 0, none⟩ v) := Rt.put h.box h.small h.env h.told h.err h.row h.attrs h.below
theorem Rt.number {w wr : World} {sr : ByteArray} {L : List (T.Tok × Value)} {v : Value} (h : Rt w sr L v wr) : Rt w sr L v (wr.setCell ⟨w.heap.size + 1, 0, none⟩ (.int .i64 0)) := by
  have g := grown_setAny wr (w.heap.size + 1) 0 (.int .i64 0)
  exact ⟨(g.block _ (Array.getElem?_eq_some_iff.1 h.box).1 (by simp)).trans h.box, h.small, h.env, (g.block _ (Array.getElem?_eq_some_iff.1 h.told).1 (by simp)).trans h.told, one_setCell h.err, World.ownsRow.kept h.row g (own_apart h.row h.err (by intro cs fr e; cases e)), fun x hx => World.ownsRow.kept (h.attrs x hx) g (own_apart (h.attrs x hx) h.err (by intro cs fr e; cases e)), h.below.setCell (p := ⟨w.heap.size + 1, 0, none⟩) (Nat.le_succ _) _⟩

theorem Rt.cT {w wr : World} {sr : ByteArray} {L : List (T.Tok × Value)} {v : Value} (h : Rt w sr L v wr) : wr.cell? ⟨w.heap.size, 0, none⟩ = some v := by unfold World.cell?; rw [h.told]; rfl
theorem Rt.cE {w wr : World} {sr : ByteArray} {L : List (T.Tok × Value)} {v : Value} (h : Rt w sr L v wr) : wr.cell? ⟨w.heap.size + 1, 0, none⟩ = some (.int .i64 0) := by unfold World.cell?; rw [h.err]; rfl
theorem Rt.fT {w wr : World} {sr : ByteArray} {L : List (T.Tok × Value)} {v : Value} (h : Rt w sr L v wr) : wr.frozen? ⟨w.heap.size, 0, none⟩ = false := by simp [World.frozen?, h.told]
theorem Rt.fE {w wr : World} {sr : ByteArray} {L : List (T.Tok × Value)} {v : Value} (h : Rt w sr L v wr) : wr.frozen? ⟨w.heap.size + 1, 0, none⟩ = false := by simp [World.frozen?, h.err]

/-- A token is appended. -/
theorem Rt.more {w wr w1 w5 : World} {sr t : ByteArray} {L : List (T.Tok × Value)} {v v1 v5 : Value} {k : T.Tok} (h : Rt w sr L v wr) (hA : At (w.heap.size + 2) t w1) (g : wr.grownBy w1 (some (w.heap.size + 2))) (hov : OwnsPairs wr.heap.size v1 (k.attrs.map mpair) w1)
    (g5 : w1.grownBy w5 v.ownBlock) (ho5 : w5.ownsRow w.heap.size 41 5 v5 (L.length + 1) (rowCells L ++ tokCells k v1)) : Rt w t (L ++ [(k, v1)]) v5 (w5.setCell ⟨w.heap.size, 0, none⟩ v5) := by
  have h1 := h.on hA g
  have l3 : ∀ j, v.ownBlock = some j → w.heap.size ≤ j := fun j e => (World.ownsRow.lt h1.row j e).1
  have ne : ∀ {j : Nat}, v.ownBlock = none ∨ v.ownBlock ≠ some j → some j ≠ v.ownBlock := by
    rintro j (h | h) e
    · rw [h] at e; cases e
    · exact h e.symm
  have n1 := ne (own_apart h1.row h1.box (by intro cs fr e; cases e))
  have n2 := ne (own_apart h1.row h1.told (by intro cs fr e; cases e))
  have n3 := ne (own_apart h1.row h1.err (by intro cs fr e; cases e))
  have hov2 := ownsPairs_base hov h.below.size
  refine Rt.put ((g5.block _ (Array.getElem?_eq_some_iff.1 h1.box).1 n1).trans h1.box) h1.small h.env ((g5.block _ (Array.getElem?_eq_some_iff.1 h1.told).1 n2).trans h1.told) ((g5.block _ (Array.getElem?_eq_some_iff.1 h1.err).1 n3).trans h1.err) ?_ ?_ (h1.below.grown g5 h1.below.size l3)
  · rw [List.length_append, rowCells_append]
    simpa [rowCells] using ho5
  · intro x hx
    rcases List.mem_append.1 hx with hx | hx
    · exact World.ownsRow.kept (h1.attrs x hx) g5 (own_two (h1.attrs x hx) h1.row (by decide))
    · rw [List.mem_singleton] at hx
      subst hx
      exact World.ownsRow.kept hov2 g5 (own_two hov2 h1.row (by decide))
theorem Rt.toks {w wr : World} {sr : ByteArray} {L : List (T.Tok × Value)} {v : Value} (h : Rt w sr L v wr) : ∃ ao cap, v = .slice ao L.length cap ∧ ToksIn wr ao L ∧ (ao = none → cap = 0) := by
  obtain ⟨ao, cap, rfl, hin⟩ := toks_of_row h.row (fun x hx => by
    obtain ⟨ao, cap, e, hp⟩ := pairs_of_owns (h.attrs x hx)
    rw [List.length_map] at e
    exact ⟨ao, cap, e, hp⟩)
  refine ⟨ao, cap, rfl, hin, ?_⟩
  rintro rfl
  obtain ⟨_, ⟨e, _⟩ | ⟨g, c, cur, e, _⟩⟩ := h.row
  · injection e
  · injection e with e1
    cases e1
end Go.Proofs.YtcjlhdmekhifaaaGreatDoor
namespace Go.Proofs.YtcjlhdmekhifaaaGreatDoor
open Go.RowKit

namespace T
theorem next_true {l : List UInt8} (h : declares l = true) : next true l = decl (l.drop 5) := by
  unfold next; rw [if_pos (by rw [h]; rfl)]
/-- What is told so far, and what is left. -/
def Goes (first : Bool) (l : List UInt8) (a : List Tok) (r : List UInt8) : Prop := run first l = match run false r with | .error e => .error e | .ok ts => .ok (a ++ ts)
theorem goes_start {l : List UInt8} (h : declares l = false) : Goes true l [] l := by
  unfold Goes; rw [run_first h]; cases run false l <;> rfl
theorem goes_declared {l r : List UInt8} {k : Tok} (h : declares l = true) (hd : decl (l.drop 5) = .ok (k, r)) : Goes true l [k] r := by
  have hl : l ≠ [] := by rintro rfl; cases h
  unfold Goes
  rw [run_step hl, next_true h, hd]
  rfl
theorem goes_bad {l : List UInt8} {e : Nat} (h : declares l = true) (hd : decl (l.drop 5) = .error e) : run true l = .error e := by
  have hl : l ≠ [] := by rintro rfl; cases h
  rw [run_step hl, next_true h, hd]
theorem goes_end {first : Bool} {l : List UInt8} {a : List Tok} (h : Goes first l a []) : run first l = .ok a := by
  unfold Goes at h; rw [h, run_nil]; simp
theorem goes_err {first : Bool} {l r : List UInt8} {a : List Tok} {e : Nat} (h : Goes first l a r) (hr : r ≠ []) (hn : next false r = .error e) : run first l = .error e := by
  unfold Goes at h; rw [h, run_step hr, hn]
theorem goes_step {first : Bool} {l r r2 : List UInt8} {a : List Tok} {k : Tok} (h : Goes first l a r) (hr : r ≠ []) (hn : next false r = .ok (k, r2)) : Goes first l (a ++ [k]) r2 := by
  unfold Goes at *
  rw [h, run_step hr, hn]
  simp only
  cases run false r2 with
  | error e => rfl
  | ok ts => simp
end T

theorem cells_five (w : World) (x0 x1 x2 x3 x4 : Value) (t : TypeId) : ∀ j u, [x0, x1, x2, x3, x4][j]? = some u → (w.alloc (.cells #[x0, x1, x2, x3, x4] t)).cell? ((⟨w.heap.size, 0, none⟩ : Addr).add j) = some u := by
  intro j u hj
  have hb : (w.alloc (.cells #[x0, x1, x2, x3, x4] t)).heap[w.heap.size]? = some (.cells #[x0, x1, x2, x3, x4] t (0, 0)) := heap_alloc_new w _
  rw [add_at]
  simp only [World.cell?, hb]
  simpa using hj

theorem some_ne {a : Option Nat} {k : Nat} (h : a = none ∨ a ≠ some k) : some k ≠ a := by
  rintro rfl
  rcases h with h | h
  · cases h
  · exact h rfl
/-- An operation without a guard. -/
theorem wpOp_is {P : Program} {ops : Array Oper} {Q : Exit → Act → World → Prop} {i : Nat} {o : Oper} {K : Act → World → Prop} {a : Act} {w : World} (hi : ops[i]? = some o) (hg : o.guard = none) (h : o.wp P a w K Q) : wpOp P ops Q i K a w := by
  unfold wpOp
  rw [hi]
  have : Region.wanted o (yielded ops a.tmps) = true := by simp [Region.wanted, hg]
  simp only [this, if_true]
  exact .inl h

theorem told_none {g : Except Nat (List T.Tok)} {w w' : World} {e : Nat} (h : g = .error e) (hb : Below w.heap.size w w') : RunTold g w (.returned (.tuple #[.slice none 0 0, .int .i64 (e : Int)])) w' := by
  subst h
  exact ⟨none, 0, [], rfl, rfl, fun j hj => by simp at hj, fun _ => rfl, hb⟩

set_option maxRecDepth 100000 in
set_option maxHeartbeats 12800000 in
theorem tokens_go (s : ByteArray) (w : World) (hs : s.size ≤ 1000000) (hE : Env w) :
    Calls Tryz.prog 16 #[.string s] w (RunTold (T.run true s.data.toList) w) := by
  have hmf : ∀ (fn : Fn) (first cap : Array Value) (w : World), (Instr.makeFunc fn first cap).run Tryz.prog w = .ok (.func fn first cap) w := fun _ _ _ _ => rfl
  have hR0 : Rt w s [] (.slice none 0 0) (((w.alloc (.cells #[.slice none 0 0] 33)).alloc (.cells #[.int .i64 0] 27)).alloc (.cells #[.string s] 65)) := by
    have e1 : (w.alloc (.cells #[.slice none 0 0] 33)).heap.size = w.heap.size + 1 := by simp
    have e2 : ((w.alloc (.cells #[.slice none 0 0] 33)).alloc (.cells #[.int .i64 0] 27)).heap.size = w.heap.size + 2 := by simp
    have k0 := heap_alloc_new w (.cells #[.slice none 0 0] 33)
    have k1 := heap_alloc_new (w.alloc (.cells #[.slice none 0 0] 33)) (.cells #[.int .i64 0] 27)
    have k2 := heap_alloc_new ((w.alloc (.cells #[.slice none 0 0] 33)).alloc (.cells #[.int .i64 0] 27)) (.cells #[.string s] 65)
    rw [e1] at k1
    rw [e2] at k2
    have g1 := World.grownBy_alloc (w.alloc (.cells #[.slice none 0 0] 33)) (.cells #[.int .i64 0] 27) none
    have g2 := World.grownBy_alloc ((w.alloc (.cells #[.slice none 0 0] 33)).alloc (.cells #[.int .i64 0] 27)) (.cells #[.string s] 65) none
    exact ⟨k2, hs, hE, ((g1.trans g2).block _ (by rw [e1]; omega) (by simp)).trans k0, (g2.block _ (by rw [e2]; omega) (by simp)).trans k1, World.ownsRow_nil _ _ _ _, fun x hx => (by cases hx), (((Below.refl _ _).alloc (Nat.le_refl _) _).alloc (by simp) _).alloc (by simp; omega) _⟩
  cases hd : T.declares s.data.toList with
  | true =>
    have c1 := fun w' (h : At (w.heap.size + 2) s w') => isAt_any (w.heap.size + 2) s w' h true hd
    have c2 := fun w' (h : At (w.heap.size + 2) s w') => declaration_any (w.heap.size + 2) s w' h hd
    have bT := hR0.cT
    have hW0 : Hid (Rt w s [] (.slice none 0 0) (((w.alloc (.cells #[.slice none 0 0] 33)).alloc (.cells #[.int .i64 0] 27)).alloc (.cells #[.string s] 65))) := Lib.hid hR0
    cases hn : T.decl (s.data.toList.drop 5) with
    | error q =>
      have hr := Lib.hid (T.goes_bad hd hn)
      rw [hn] at c2
      clear hn hd
      go_enter_defers Tryz.func16, Tryz.ntmps16
      go_wp2_with fail
      (with_reducible refine (c1 _ hR0.rd).mono ?_); rintro e w1 ⟨rfl, rfl⟩
      go_wp2_with fail
      generalize hW : (((w.alloc (.cells #[.slice none 0 0] 33)).alloc (.cells #[.int .i64 0] 27)).alloc (.cells #[.string s] 65)) = wr at *
      clear hW
      have hR := hW0
      have hRd : Hid (Rt w s [] (.slice none 0 0) wr.drew) := Lib.hid (hR.out.grow (Below.refl _ _).drew)
      clear hR0 hW0
      apply wp_region_any mixedTok
      refine wpAny_all (rs := [0, 1]) (by kernel_rfl) (by simp) ?_
      intro i hi
      simp at hi
      rcases hi with rfl | rfl
      · simp [wpOp, go_sem, bT]
        refine .inl ?_
        refine wpAny_all (rs := [1]) (by kernel_rfl) (by simp) ?_
        intro i hi
        simp at hi
        subst hi
        simp [wpOp, go_sem]
        refine .inl ?_
        refine (c2 _ hRd.out.rd).mono ?_
        rintro e w2 ⟨rfl, g2⟩
        have hP := (hRd.out.below.grown g2 hRd.out.below.size (fun k e => by cases e; omega))
        have n1 := (g2.block _ (Array.getElem?_eq_some_iff.1 hRd.out.told).1 (by simp)).trans hRd.out.told
        have n2 := (g2.block _ (Array.getElem?_eq_some_iff.1 hRd.out.err).1 (by simp)).trans hRd.out.err
        have m1 : w2.cell? ⟨w.heap.size, 0, none⟩ = some (.slice none 0 0) := by unfold World.cell?; rw [n1]; rfl
        have m2 : w2.cell? ⟨w.heap.size + 1, 0, none⟩ = some (.int .i64 0) := by unfold World.cell?; rw [n2]; rfl
        have m3 : w2.frozen? ⟨w.heap.size, 0, none⟩ = false := by simp [World.frozen?, n1]
        have m4 : w2.frozen? ⟨w.heap.size + 1, 0, none⟩ = false := by simp [World.frozen?, n2]
        refine leaves_cons (f := 33) (args := #[.pointer (some ⟨w.heap.size, 0, none⟩), .pointer (some ⟨w.heap.size + 1, 0, none⟩)]) (by simp) (by simp [go_sem]) ?_
        refine (catch_tossed_at w.heap.size w.heap.size (w.heap.size + 1) none 0 0 (q : Int) _ (by omega) (Nat.le_refl _) (by omega) m1 0 m2 m3 m4 hP.size).mono ?_
        rintro e u' w5 ⟨rfl, rfl, hP5, hQ5, b5⟩
        have b6 := hP.trans b5
        simp [Leaves, settle, results, Tryz.results16, go_sem, hP5, hQ5]
        exact told_none hr.out b6
      · simp [wpOp, go_sem]
        refine .inl ?_
        refine (c2 _ hRd.out.rd).mono ?_
        rintro e w2 ⟨rfl, g2⟩
        have hP := (hRd.out.below.grown g2 hRd.out.below.size (fun k e => by cases e; omega))
        have n1 := (g2.block _ (Array.getElem?_eq_some_iff.1 hRd.out.told).1 (by simp)).trans hRd.out.told
        have n2 := (g2.block _ (Array.getElem?_eq_some_iff.1 hRd.out.err).1 (by simp)).trans hRd.out.err
        have m1 : w2.cell? ⟨w.heap.size, 0, none⟩ = some (.slice none 0 0) := by unfold World.cell?; rw [n1]; rfl
        have m2 : w2.cell? ⟨w.heap.size + 1, 0, none⟩ = some (.int .i64 0) := by unfold World.cell?; rw [n2]; rfl
        have m3 : w2.frozen? ⟨w.heap.size, 0, none⟩ = false := by simp [World.frozen?, n1]
        have m4 : w2.frozen? ⟨w.heap.size + 1, 0, none⟩ = false := by simp [World.frozen?, n2]
        refine leaves_cons (f := 33) (args := #[.pointer (some ⟨w.heap.size, 0, none⟩), .pointer (some ⟨w.heap.size + 1, 0, none⟩)]) (by simp) (by simp [go_sem]) ?_
        refine (catch_tossed_at w.heap.size w.heap.size (w.heap.size + 1) none 0 0 (q : Int) _ (by omega) (Nat.le_refl _) (by omega) m1 0 m2 m3 m4 hP.size).mono ?_
        rintro e u' w5 ⟨rfl, rfl, hP5, hQ5, b5⟩
        have b6 := hP.trans b5
        simp [Leaves, settle, results, Tryz.results16, go_sem, hP5, hQ5]
        exact told_none hr.out b6
    | ok x =>
      obtain ⟨k, lr⟩ := x
      obtain ⟨t, rfl⟩ := bytes_of lr
      have hgo := Lib.hid (T.goes_declared hd hn)
      rw [hn] at c2
      obtain ⟨i0, hi0, hz0, hz1, hz2⟩ := info_parts infoTok
      have hts : t.size ≤ s.size := by
        have := (T.decl_append hn []).2.1
        have h5 : (s.data.toList.drop 5).length ≤ s.data.toList.length := by rw [List.length_drop]; omega
        rw [list_len] at this h5
        omega
      have h1s : 1 ≤ s.size := by
        rw [← list_len s]
        cases hl : s.data.toList with
        | nil => rw [hl] at hd; cases hd
        | cons b t => simp
      have hlt5 : t.size < s.size := by
        have := (T.decl_append hn []).2.1
        have h5 : (s.data.toList.drop 5).length ≤ s.data.toList.length := by rw [List.length_drop]; omega
        rw [list_len] at this h5
        omega
      have hq1 : 0 + 1 ≤ maxLen := by unfold maxLen; omega
      have hq2 : (0 + 1) * 72 ≤ 140737488355328 := by omega
      clear hn hd
      go_enter_defers Tryz.func16, Tryz.ntmps16
      go_wp2_with fail
      (with_reducible refine (c1 _ hR0.rd).mono ?_); rintro e w1 ⟨rfl, rfl⟩
      go_wp2_with fail
      generalize hW : (((w.alloc (.cells #[.slice none 0 0] 33)).alloc (.cells #[.int .i64 0] 27)).alloc (.cells #[.string s] 65)) = wr at *
      clear hW
      have hR := hW0
      have hRd : Hid (Rt w s [] (.slice none 0 0) wr.drew) := Lib.hid (hR.out.grow (Below.refl _ _).drew)
      clear hR0 hW0
      have hbs := hRd.out.below.size
      apply wp_region_any mixedTok
      refine wpAny_all (rs := [0, 1]) (by kernel_rfl) (by simp) ?_
      intro i hi
      simp at hi
      rcases hi with rfl | rfl
      · simp [wpOp, go_sem, bT]
        refine .inl ?_
        refine wpAny_all (rs := [1]) (by kernel_rfl) (by simp) ?_
        intro i hi
        simp at hi
        subst hi
        simp [wpOp, go_sem]
        refine .inl ?_
        refine (c2 _ hRd.out.rd).mono ?_
        rintro e w2 ⟨t2, ht, v2, rfl, hov, h2, g2⟩
        obtain ⟨ao2, cap2, hv2, -⟩ := pairs_of_owns hov
        rw [List.length_map] at hv2
        subst hv2
        dsimp only at hov ht
        unfold tokVal
        have hR2 := hRd.out.on h2 g2
        have m1 := hR2.cT
        have hk1 := World.block_lt_of_cell? w2 _ m1
        dsimp only at hk1
        have hk2 : ¬ w.heap.size = w2.heap.size := by omega
        have hrow := World.ownsRow.alloc hR2.row (.cells #[.int .i64 (k.kind : Int), .string ⟨k.name.toArray⟩, .slice ao2 k.attrs.length cap2, .bool k.alone, .string ⟨k.data.toArray⟩] 41)
        have m1a : (w2.alloc (.cells #[.int .i64 (k.kind : Int), .string ⟨k.name.toArray⟩, .slice ao2 k.attrs.length cap2, .bool k.alone, .string ⟨k.data.toArray⟩] 41)).cell? ⟨w.heap.size, 0, none⟩ = some (.slice none 0 0) := (hR2.grow ((Below.refl _ _).alloc (Nat.le_refl _) (.cells #[.int .i64 (k.kind : Int), .string ⟨k.name.toArray⟩, .slice ao2 k.attrs.length cap2, .bool k.alone, .string ⟨k.data.toArray⟩] 41))).cT
        have hz5 : w.heap.size ≤ (w2.alloc (.cells #[.int .i64 (k.kind : Int), .string ⟨k.name.toArray⟩, .slice ao2 k.attrs.length cap2, .bool k.alone, .string ⟨k.data.toArray⟩] 41)).heap.size := by simp; omega
        replace hR2 := Lib.hid hR2
        simp only []
        refine wpAny_all (rs := [2]) (by kernel_rfl) (by simp) ?_
        intro i hi
        simp at hi
        subst hi
        simp [wpOp, go_sem]
        refine .inl ?_
        refine wpAny_all (rs := [3]) (by kernel_rfl) (by simp) ?_
        intro i hi
        simp at hi
        subst hi
        refine wpOp_is (by rfl) (by rfl) ?_
        refine wp_append_lies _ _ _ 33 (by rfl) w.heap.size 41 i0 _ 5 72 Tryz.underlying33 hi0 hz0 hz1 hz2 rfl (by decide) (.slice none 0 0) 0 [] (by rfl) hrow ⟨w2.heap.size, 0, none⟩ 1 1 [.int .i64 (k.kind : Int), .string ⟨k.name.toArray⟩, .slice ao2 k.attrs.length cap2, .bool k.alone, .string ⟨k.data.toArray⟩] (by rfl) (by rfl) (cells_five _ _ _ _ _ _ _) (fun u hu => by simp at hu; rcases hu with rfl | rfl | rfl | rfl | rfl <;> rfl) (by omega) hq1 hq2 hz5 (w2.heap.size + 1) (by simp) ?_
        intro gg cap5 w5 hown5 hgrow _ _
        have hga := (World.grownBy_alloc w2 _ _).trans hgrow
        have hn5 := (hga.block _ (Array.getElem?_eq_some_iff.1 hR2.out.told).1 (some_ne (own_apart hR2.out.row hR2.out.told (by intro cs fr e; cases e)))).trans hR2.out.told
        have m5 : w5.cell? ⟨w.heap.size, 0, none⟩ = some (.slice none 0 0) := by unfold World.cell?; rw [hn5]; rfl
        have f5 : w5.frozen? ⟨w.heap.size, 0, none⟩ = false := by simp [World.frozen?, hn5]
        have hfin := hRd.out.more h2 g2 hov hga hown5
        have hfl := hfin.rd.left
        replace hfin := Lib.hid hfin
        clear hown5 hgrow hga hn5
        refine wpAny_all (rs := [4]) (by kernel_rfl) (by simp) ?_
        intro i hi
        simp at hi
        subst hi
        simp [wpOp, go_sem, m5, f5]
        refine .inl ?_
        refine wpAny_done (by kernel_rfl) ?_ _
        clear bT m1 m1a hk1 hk2 hrow hz5 hR2 m5 f5 hR hRd c1 c2 h2 g2 hov
        go_wp2_with fail
        go_loopw [13] (fun _ wr => ∃ (sr : ByteArray) (L : List (T.Tok × Value)) (v : Value), Hid (T.Goes true s.data.toList (L.map Prod.fst) sr.data.toList) ∧ L.length + sr.size ≤ 1000000 ∧ Hid (Rt w sr L v wr)) (fun _ wr => leftAt (w.heap.size + 2) wr)
        case atStart => exact ⟨t2, [] ++ [(k, _)], _, Lib.hid (by rw [ht]; exact hgo.out), by rw [List.nil_append, List.length_singleton, ← list_len t2, ht, list_len]; omega, hfin⟩
        case round =>
          obtain ⟨sr, L, v, hG, hLs, hR⟩ := hrel
          clear hfin hfl hgo ht
          have hleft := hR.out.rd.left
          have q0 : wr.cell? ⟨w.heap.size + 1 + 1, 0, none⟩ = some (.string sr) := hR.out.rd.cell
          by_cases h0 : sr.size = 0
          · have he := empty_is h0
            have hnil : sr.data.toList = [] := List.eq_nil_of_length_eq_zero (by rw [list_len]; exact h0)
            have hend := hG.out
            rw [hnil] at hend
            replace hend := Lib.hid (T.goes_end hend)
            obtain ⟨ao, cap, rfl, hin, hcap⟩ := hR.out.toks
            have bT : wr.cell? ⟨w.heap.size, 0, none⟩ = some (.slice ao L.length cap) := hR.out.cT
            have bE : wr.cell? ⟨w.heap.size + 1, 0, none⟩ = some (.int .i64 0) := hR.out.cE
            have fT : wr.frozen? ⟨w.heap.size, 0, none⟩ = false := hR.out.fT
            have fE : wr.frozen? ⟨w.heap.size + 1, 0, none⟩ = false := hR.out.fE
            have hR2 := Lib.hid hR.out.same.number
            clear hnil hG hin hcap
            go_wp2_with fail
            refine leaves_cons (f := 33) (args := #[.pointer (some ⟨w.heap.size, 0, none⟩), .pointer (some ⟨w.heap.size + 1, 0, none⟩)]) (by simp) (by simp [go_sem]) ?_
            refine (catch_calm w.heap.size (w.heap.size + 1) ao L.length cap _ (by omega) hR2.out.cT 0 hR2.out.cE hR2.out.fT hR2.out.fE).mono ?_
            rintro e u' w5 ⟨rfl, rfl, w6, b6, hw5⟩
            have h7 : Rt w sr L (.slice ao L.length cap) w5 := by rw [hw5]; exact (hR2.out.grow b6).same.number
            have c7T := h7.cT
            have c7E := h7.cE
            clear hw5 b6 bT bE fT fE hR2 q0
            simp [Leaves, settle, results, Tryz.results16, go_sem, c7T, c7E]
            obtain ⟨ao2, cap2, e2, hin, hcap⟩ := h7.toks
            cases e2
            rw [hend.out]
            exact ⟨ao, cap, L, rfl, rfl, hin, hcap, h7.below⟩
          · have he := ne_empty (s := sr) (by omega)
            have hne : sr.data.toList ≠ [] := by intro e; rw [← list_len sr, e] at h0; exact h0 rfl
            have bT : wr.cell? ⟨w.heap.size, 0, none⟩ = some v := hR.out.cT
            have hRd : Hid (Rt w sr L v wr.drew) := Lib.hid (hR.out.grow (Below.refl _ _).drew)
            have c2 := fun w' (h : At (w.heap.size + 2) sr w') => token_any (w.heap.size + 2) sr w' h
            cases hn : T.next false sr.data.toList with
            | error q =>
              have hr := Lib.hid (T.goes_err hG.out hne hn)
              rw [hn] at c2
              obtain ⟨ao, cap, rfl, -, -⟩ := hR.out.toks
              clear hn hne hG
              go_wp2_with fail
              apply wp_region_any mixedTok
              refine wpAny_all (rs := [0, 1]) (by kernel_rfl) (by simp) ?_
              intro i hi
              simp at hi
              rcases hi with rfl | rfl
              · simp [wpOp, go_sem, bT]
                refine .inl ?_
                refine wpAny_all (rs := [1]) (by kernel_rfl) (by simp) ?_
                intro i hi
                simp at hi
                subst hi
                simp [wpOp, go_sem]
                refine .inl ?_
                refine (c2 _ hRd.out.rd).mono ?_
                rintro e w2 ⟨rfl, g2⟩
                have hP := (hRd.out.below.grown g2 hRd.out.below.size (fun k e => by cases e; omega))
                have n1 := (g2.block _ (Array.getElem?_eq_some_iff.1 hRd.out.told).1 (by simp)).trans hRd.out.told
                have n2 := (g2.block _ (Array.getElem?_eq_some_iff.1 hRd.out.err).1 (by simp)).trans hRd.out.err
                have m1 : w2.cell? ⟨w.heap.size, 0, none⟩ = some (.slice ao L.length cap) := by unfold World.cell?; rw [n1]; rfl
                have m2 : w2.cell? ⟨w.heap.size + 1, 0, none⟩ = some (.int .i64 0) := by unfold World.cell?; rw [n2]; rfl
                have m3 : w2.frozen? ⟨w.heap.size, 0, none⟩ = false := by simp [World.frozen?, n1]
                have m4 : w2.frozen? ⟨w.heap.size + 1, 0, none⟩ = false := by simp [World.frozen?, n2]
                refine leaves_cons (f := 33) (args := #[.pointer (some ⟨w.heap.size, 0, none⟩), .pointer (some ⟨w.heap.size + 1, 0, none⟩)]) (by simp) (by simp [go_sem]) ?_
                refine (catch_tossed_at w.heap.size w.heap.size (w.heap.size + 1) ao L.length cap (q : Int) _ (by omega) (Nat.le_refl _) (by omega) m1 0 m2 m3 m4 hP.size).mono ?_
                rintro e u' w5 ⟨rfl, rfl, hP5, hQ5, b5⟩
                have b6 := hP.trans b5
                simp [Leaves, settle, results, Tryz.results16, go_sem, hP5, hQ5]
                exact told_none hr.out b6
              · simp [wpOp, go_sem]
                refine .inl ?_
                refine (c2 _ hRd.out.rd).mono ?_
                rintro e w2 ⟨rfl, g2⟩
                have hP := (hRd.out.below.grown g2 hRd.out.below.size (fun k e => by cases e; omega))
                have n1 := (g2.block _ (Array.getElem?_eq_some_iff.1 hRd.out.told).1 (by simp)).trans hRd.out.told
                have n2 := (g2.block _ (Array.getElem?_eq_some_iff.1 hRd.out.err).1 (by simp)).trans hRd.out.err
                have m1 : w2.cell? ⟨w.heap.size, 0, none⟩ = some (.slice ao L.length cap) := by unfold World.cell?; rw [n1]; rfl
                have m2 : w2.cell? ⟨w.heap.size + 1, 0, none⟩ = some (.int .i64 0) := by unfold World.cell?; rw [n2]; rfl
                have m3 : w2.frozen? ⟨w.heap.size, 0, none⟩ = false := by simp [World.frozen?, n1]
                have m4 : w2.frozen? ⟨w.heap.size + 1, 0, none⟩ = false := by simp [World.frozen?, n2]
                refine leaves_cons (f := 33) (args := #[.pointer (some ⟨w.heap.size, 0, none⟩), .pointer (some ⟨w.heap.size + 1, 0, none⟩)]) (by simp) (by simp [go_sem]) ?_
                refine (catch_tossed_at w.heap.size w.heap.size (w.heap.size + 1) ao L.length cap (q : Int) _ (by omega) (Nat.le_refl _) (by omega) m1 0 m2 m3 m4 hP.size).mono ?_
                rintro e u' w5 ⟨rfl, rfl, hP5, hQ5, b5⟩
                have b6 := hP.trans b5
                simp [Leaves, settle, results, Tryz.results16, go_sem, hP5, hQ5]
                exact told_none hr.out b6
            | ok x =>
              obtain ⟨k, lr⟩ := x
              obtain ⟨t, rfl⟩ := bytes_of lr
              have hG2 := T.goes_step hG.out hne hn
              have hlt := T.next_less hne hn
              rw [list_len, list_len] at hlt
              rw [hn] at c2
              obtain ⟨ao, cap, rfl, -, -⟩ := hR.out.toks
              obtain ⟨i0, hi0, hz0, hz1, hz2⟩ := info_parts infoTok
              have hq1 : L.length + 1 ≤ maxLen := by unfold maxLen; omega
              have hq2 : (L.length + 1) * 72 ≤ 140737488355328 := by omega
              have hbs := hRd.out.below.size
              replace hG2 := Lib.hid hG2
              clear hn hne hG
              go_wp2_with fail
              apply wp_region_any mixedTok
              refine wpAny_all (rs := [0, 1]) (by kernel_rfl) (by simp) ?_
              intro i hi
              simp at hi
              rcases hi with rfl | rfl
              · simp [wpOp, go_sem, bT]
                refine .inl ?_
                refine wpAny_all (rs := [1]) (by kernel_rfl) (by simp) ?_
                intro i hi
                simp at hi
                subst hi
                simp [wpOp, go_sem]
                refine .inl ?_
                refine (c2 _ hRd.out.rd).mono ?_
                rintro e w2 ⟨t2, ht, v2, rfl, hov, h2, g2⟩
                obtain ⟨ao2, cap2, hv2, -⟩ := pairs_of_owns hov
                rw [List.length_map] at hv2
                subst hv2
                dsimp only at hov ht
                unfold tokVal
                have hR2 := hRd.out.on h2 g2
                have m1 := hR2.cT
                have hk1 := World.block_lt_of_cell? w2 _ m1
                dsimp only at hk1
                have hk2 : ¬ w.heap.size = w2.heap.size := by omega
                have hrow := World.ownsRow.alloc hR2.row (.cells #[.int .i64 (k.kind : Int), .string ⟨k.name.toArray⟩, .slice ao2 k.attrs.length cap2, .bool k.alone, .string ⟨k.data.toArray⟩] 41)
                have m1a : (w2.alloc (.cells #[.int .i64 (k.kind : Int), .string ⟨k.name.toArray⟩, .slice ao2 k.attrs.length cap2, .bool k.alone, .string ⟨k.data.toArray⟩] 41)).cell? ⟨w.heap.size, 0, none⟩ = some (.slice ao L.length cap) := (hR2.grow ((Below.refl _ _).alloc (Nat.le_refl _) (.cells #[.int .i64 (k.kind : Int), .string ⟨k.name.toArray⟩, .slice ao2 k.attrs.length cap2, .bool k.alone, .string ⟨k.data.toArray⟩] 41))).cT
                have hz5 : w.heap.size ≤ (w2.alloc (.cells #[.int .i64 (k.kind : Int), .string ⟨k.name.toArray⟩, .slice ao2 k.attrs.length cap2, .bool k.alone, .string ⟨k.data.toArray⟩] 41)).heap.size := by simp; omega
                replace hR2 := Lib.hid hR2
                simp only []
                refine wpAny_all (rs := [2]) (by kernel_rfl) (by simp) ?_
                intro i hi
                simp at hi
                subst hi
                simp [wpOp, go_sem]
                refine .inl ?_
                refine wpAny_all (rs := [3]) (by kernel_rfl) (by simp) ?_
                intro i hi
                simp at hi
                subst hi
                refine wpOp_is (by rfl) (by rfl) ?_
                refine wp_append_lies _ _ _ 33 (by rfl) w.heap.size 41 i0 _ 5 72 Tryz.underlying33 hi0 hz0 hz1 hz2 rfl (by decide) (.slice ao L.length cap) L.length (rowCells L) (by rfl) hrow ⟨w2.heap.size, 0, none⟩ 1 1 [.int .i64 (k.kind : Int), .string ⟨k.name.toArray⟩, .slice ao2 k.attrs.length cap2, .bool k.alone, .string ⟨k.data.toArray⟩] (by rfl) (by rfl) (cells_five _ _ _ _ _ _ _) (fun u hu => by simp at hu; rcases hu with rfl | rfl | rfl | rfl | rfl <;> rfl) (by omega) hq1 hq2 hz5 (w2.heap.size + 1) (by simp) ?_
                intro gg cap5 w5 hown5 hgrow _ _
                have hga := (World.grownBy_alloc w2 _ _).trans hgrow
                have hn5 := (hga.block _ (Array.getElem?_eq_some_iff.1 hR2.out.told).1 (some_ne (own_apart hR2.out.row hR2.out.told (by intro cs fr e; cases e)))).trans hR2.out.told
                have m5 : w5.cell? ⟨w.heap.size, 0, none⟩ = some (.slice ao L.length cap) := by unfold World.cell?; rw [hn5]; rfl
                have f5 : w5.frozen? ⟨w.heap.size, 0, none⟩ = false := by simp [World.frozen?, hn5]
                have hfin := hRd.out.more h2 g2 hov hga hown5
                have hfl := hfin.rd.left
                replace hfin := Lib.hid hfin
                clear hown5 hgrow hga hn5
                refine wpAny_all (rs := [4]) (by kernel_rfl) (by simp) ?_
                intro i hi
                simp at hi
                subst hi
                simp [wpOp, go_sem, m5, f5]
                refine .inl ?_
                refine wpAny_done (by kernel_rfl) ?_ _
                try (go_wp2_with fail)
                go_roundw
                case rel => exact ⟨t2, L ++ [(k, _)], _, Lib.hid (by rw [List.map_append, ht]; exact hG2.out), by rw [List.length_append, List.length_singleton, ← list_len t2, ht, list_len]; omega, hfin⟩
                case measure => rw [hfl, hleft, ← list_len t2, ht, list_len]; omega
              · simp [wpOp, go_sem]
                refine .inl ?_
                refine (c2 _ hRd.out.rd).mono ?_
                rintro e w2 ⟨t2, ht, v2, rfl, hov, h2, g2⟩
                obtain ⟨ao2, cap2, hv2, -⟩ := pairs_of_owns hov
                rw [List.length_map] at hv2
                subst hv2
                dsimp only at hov ht
                unfold tokVal
                have hR2 := hRd.out.on h2 g2
                have m1 := hR2.cT
                have hk1 := World.block_lt_of_cell? w2 _ m1
                dsimp only at hk1
                have hk2 : ¬ w.heap.size = w2.heap.size := by omega
                have hrow := World.ownsRow.alloc hR2.row (.cells #[.int .i64 (k.kind : Int), .string ⟨k.name.toArray⟩, .slice ao2 k.attrs.length cap2, .bool k.alone, .string ⟨k.data.toArray⟩] 41)
                have m1a : (w2.alloc (.cells #[.int .i64 (k.kind : Int), .string ⟨k.name.toArray⟩, .slice ao2 k.attrs.length cap2, .bool k.alone, .string ⟨k.data.toArray⟩] 41)).cell? ⟨w.heap.size, 0, none⟩ = some (.slice ao L.length cap) := (hR2.grow ((Below.refl _ _).alloc (Nat.le_refl _) (.cells #[.int .i64 (k.kind : Int), .string ⟨k.name.toArray⟩, .slice ao2 k.attrs.length cap2, .bool k.alone, .string ⟨k.data.toArray⟩] 41))).cT
                have hz5 : w.heap.size ≤ (w2.alloc (.cells #[.int .i64 (k.kind : Int), .string ⟨k.name.toArray⟩, .slice ao2 k.attrs.length cap2, .bool k.alone, .string ⟨k.data.toArray⟩] 41)).heap.size := by simp; omega
                replace hR2 := Lib.hid hR2
                simp only []
                refine wpAny_all (rs := [0, 2]) (by kernel_rfl) (by simp) ?_
                intro i hi
                simp at hi
                rcases hi with rfl | rfl
                · simp [wpOp, go_sem, m1]
                  refine .inl ?_
                  refine wpAny_all (rs := [2]) (by kernel_rfl) (by simp) ?_
                  intro i hi
                  simp at hi
                  subst hi
                  simp [wpOp, go_sem]
                  refine .inl ?_
                  refine wpAny_all (rs := [3]) (by kernel_rfl) (by simp) ?_
                  intro i hi
                  simp at hi
                  subst hi
                  refine wpOp_is (by rfl) (by rfl) ?_
                  refine wp_append_lies _ _ _ 33 (by rfl) w.heap.size 41 i0 _ 5 72 Tryz.underlying33 hi0 hz0 hz1 hz2 rfl (by decide) (.slice ao L.length cap) L.length (rowCells L) (by rfl) hrow ⟨w2.heap.size, 0, none⟩ 1 1 [.int .i64 (k.kind : Int), .string ⟨k.name.toArray⟩, .slice ao2 k.attrs.length cap2, .bool k.alone, .string ⟨k.data.toArray⟩] (by rfl) (by rfl) (cells_five _ _ _ _ _ _ _) (fun u hu => by simp at hu; rcases hu with rfl | rfl | rfl | rfl | rfl <;> rfl) (by omega) hq1 hq2 hz5 (w2.heap.size + 1) (by simp) ?_
                  intro gg cap5 w5 hown5 hgrow _ _
                  have hga := (World.grownBy_alloc w2 _ _).trans hgrow
                  have hn5 := (hga.block _ (Array.getElem?_eq_some_iff.1 hR2.out.told).1 (some_ne (own_apart hR2.out.row hR2.out.told (by intro cs fr e; cases e)))).trans hR2.out.told
                  have m5 : w5.cell? ⟨w.heap.size, 0, none⟩ = some (.slice ao L.length cap) := by unfold World.cell?; rw [hn5]; rfl
                  have f5 : w5.frozen? ⟨w.heap.size, 0, none⟩ = false := by simp [World.frozen?, hn5]
                  have hfin := hRd.out.more h2 g2 hov hga hown5
                  have hfl := hfin.rd.left
                  replace hfin := Lib.hid hfin
                  clear hown5 hgrow hga hn5
                  refine wpAny_all (rs := [4]) (by kernel_rfl) (by simp) ?_
                  intro i hi
                  simp at hi
                  subst hi
                  simp [wpOp, go_sem, m5, f5]
                  refine .inl ?_
                  refine wpAny_done (by kernel_rfl) ?_ _
                  try (go_wp2_with fail)
                  go_roundw
                  case rel => exact ⟨t2, L ++ [(k, _)], _, Lib.hid (by rw [List.map_append, ht]; exact hG2.out), by rw [List.length_append, List.length_singleton, ← list_len t2, ht, list_len]; omega, hfin⟩
                  case measure => rw [hfl, hleft, ← list_len t2, ht, list_len]; omega
                · simp [wpOp, go_sem]
                  refine .inl ?_
                  refine wpAny_all (rs := [0]) (by kernel_rfl) (by simp) ?_
                  intro i hi
                  simp at hi
                  subst hi
                  simp [wpOp, go_sem]
                  rw [m1a]
                  simp
                  refine .inl ?_
                  refine wpAny_all (rs := [3]) (by kernel_rfl) (by simp) ?_
                  intro i hi
                  simp at hi
                  subst hi
                  refine wpOp_is (by rfl) (by rfl) ?_
                  refine wp_append_lies _ _ _ 33 (by rfl) w.heap.size 41 i0 _ 5 72 Tryz.underlying33 hi0 hz0 hz1 hz2 rfl (by decide) (.slice ao L.length cap) L.length (rowCells L) (by rfl) hrow ⟨w2.heap.size, 0, none⟩ 1 1 [.int .i64 (k.kind : Int), .string ⟨k.name.toArray⟩, .slice ao2 k.attrs.length cap2, .bool k.alone, .string ⟨k.data.toArray⟩] (by rfl) (by rfl) (cells_five _ _ _ _ _ _ _) (fun u hu => by simp at hu; rcases hu with rfl | rfl | rfl | rfl | rfl <;> rfl) (by omega) hq1 hq2 hz5 (w2.heap.size + 1) (by simp) ?_
                  intro gg cap5 w5 hown5 hgrow _ _
                  have hga := (World.grownBy_alloc w2 _ _).trans hgrow
                  have hn5 := (hga.block _ (Array.getElem?_eq_some_iff.1 hR2.out.told).1 (some_ne (own_apart hR2.out.row hR2.out.told (by intro cs fr e; cases e)))).trans hR2.out.told
                  have m5 : w5.cell? ⟨w.heap.size, 0, none⟩ = some (.slice ao L.length cap) := by unfold World.cell?; rw [hn5]; rfl
                  have f5 : w5.frozen? ⟨w.heap.size, 0, none⟩ = false := by simp [World.frozen?, hn5]
                  have hfin := hRd.out.more h2 g2 hov hga hown5
                  have hfl := hfin.rd.left
                  replace hfin := Lib.hid hfin
                  clear hown5 hgrow hga hn5
                  refine wpAny_all (rs := [4]) (by kernel_rfl) (by simp) ?_
                  intro i hi
                  simp at hi
                  subst hi
                  simp [wpOp, go_sem, m5, f5]
                  refine .inl ?_
                  refine wpAny_done (by kernel_rfl) ?_ _
                  try (go_wp2_with fail)
                  go_roundw
                  case rel => exact ⟨t2, L ++ [(k, _)], _, Lib.hid (by rw [List.map_append, ht]; exact hG2.out), by rw [List.length_append, List.length_singleton, ← list_len t2, ht, list_len]; omega, hfin⟩
                  case measure => rw [hfl, hleft, ← list_len t2, ht, list_len]; omega
      · simp [wpOp, go_sem]
        refine .inl ?_
        refine (c2 _ hRd.out.rd).mono ?_
        rintro e w2 ⟨t2, ht, v2, rfl, hov, h2, g2⟩
        obtain ⟨ao2, cap2, hv2, -⟩ := pairs_of_owns hov
        rw [List.length_map] at hv2
        subst hv2
        dsimp only at hov ht
        unfold tokVal
        have hR2 := hRd.out.on h2 g2
        have m1 := hR2.cT
        have hk1 := World.block_lt_of_cell? w2 _ m1
        dsimp only at hk1
        have hk2 : ¬ w.heap.size = w2.heap.size := by omega
        have hrow := World.ownsRow.alloc hR2.row (.cells #[.int .i64 (k.kind : Int), .string ⟨k.name.toArray⟩, .slice ao2 k.attrs.length cap2, .bool k.alone, .string ⟨k.data.toArray⟩] 41)
        have m1a : (w2.alloc (.cells #[.int .i64 (k.kind : Int), .string ⟨k.name.toArray⟩, .slice ao2 k.attrs.length cap2, .bool k.alone, .string ⟨k.data.toArray⟩] 41)).cell? ⟨w.heap.size, 0, none⟩ = some (.slice none 0 0) := (hR2.grow ((Below.refl _ _).alloc (Nat.le_refl _) (.cells #[.int .i64 (k.kind : Int), .string ⟨k.name.toArray⟩, .slice ao2 k.attrs.length cap2, .bool k.alone, .string ⟨k.data.toArray⟩] 41))).cT
        have hz5 : w.heap.size ≤ (w2.alloc (.cells #[.int .i64 (k.kind : Int), .string ⟨k.name.toArray⟩, .slice ao2 k.attrs.length cap2, .bool k.alone, .string ⟨k.data.toArray⟩] 41)).heap.size := by simp; omega
        replace hR2 := Lib.hid hR2
        simp only []
        refine wpAny_all (rs := [0, 2]) (by kernel_rfl) (by simp) ?_
        intro i hi
        simp at hi
        rcases hi with rfl | rfl
        · simp [wpOp, go_sem, m1]
          refine .inl ?_
          refine wpAny_all (rs := [2]) (by kernel_rfl) (by simp) ?_
          intro i hi
          simp at hi
          subst hi
          simp [wpOp, go_sem]
          refine .inl ?_
          refine wpAny_all (rs := [3]) (by kernel_rfl) (by simp) ?_
          intro i hi
          simp at hi
          subst hi
          refine wpOp_is (by rfl) (by rfl) ?_
          refine wp_append_lies _ _ _ 33 (by rfl) w.heap.size 41 i0 _ 5 72 Tryz.underlying33 hi0 hz0 hz1 hz2 rfl (by decide) (.slice none 0 0) 0 [] (by rfl) hrow ⟨w2.heap.size, 0, none⟩ 1 1 [.int .i64 (k.kind : Int), .string ⟨k.name.toArray⟩, .slice ao2 k.attrs.length cap2, .bool k.alone, .string ⟨k.data.toArray⟩] (by rfl) (by rfl) (cells_five _ _ _ _ _ _ _) (fun u hu => by simp at hu; rcases hu with rfl | rfl | rfl | rfl | rfl <;> rfl) (by omega) hq1 hq2 hz5 (w2.heap.size + 1) (by simp) ?_
          intro gg cap5 w5 hown5 hgrow _ _
          have hga := (World.grownBy_alloc w2 _ _).trans hgrow
          have hn5 := (hga.block _ (Array.getElem?_eq_some_iff.1 hR2.out.told).1 (some_ne (own_apart hR2.out.row hR2.out.told (by intro cs fr e; cases e)))).trans hR2.out.told
          have m5 : w5.cell? ⟨w.heap.size, 0, none⟩ = some (.slice none 0 0) := by unfold World.cell?; rw [hn5]; rfl
          have f5 : w5.frozen? ⟨w.heap.size, 0, none⟩ = false := by simp [World.frozen?, hn5]
          have hfin := hRd.out.more h2 g2 hov hga hown5
          have hfl := hfin.rd.left
          replace hfin := Lib.hid hfin
          clear hown5 hgrow hga hn5
          refine wpAny_all (rs := [4]) (by kernel_rfl) (by simp) ?_
          intro i hi
          simp at hi
          subst hi
          simp [wpOp, go_sem, m5, f5]
          refine .inl ?_
          refine wpAny_done (by kernel_rfl) ?_ _
          clear bT m1 m1a hk1 hk2 hrow hz5 hR2 m5 f5 hR hRd c1 c2 h2 g2 hov
          go_wp2_with fail
          go_loopw [13] (fun _ wr => ∃ (sr : ByteArray) (L : List (T.Tok × Value)) (v : Value), Hid (T.Goes true s.data.toList (L.map Prod.fst) sr.data.toList) ∧ L.length + sr.size ≤ 1000000 ∧ Hid (Rt w sr L v wr)) (fun _ wr => leftAt (w.heap.size + 2) wr)
          case atStart => exact ⟨t2, [] ++ [(k, _)], _, Lib.hid (by rw [ht]; exact hgo.out), by rw [List.nil_append, List.length_singleton, ← list_len t2, ht, list_len]; omega, hfin⟩
          case round =>
            obtain ⟨sr, L, v, hG, hLs, hR⟩ := hrel
            clear hfin hfl hgo ht
            have hleft := hR.out.rd.left
            have q0 : wr.cell? ⟨w.heap.size + 1 + 1, 0, none⟩ = some (.string sr) := hR.out.rd.cell
            by_cases h0 : sr.size = 0
            · have he := empty_is h0
              have hnil : sr.data.toList = [] := List.eq_nil_of_length_eq_zero (by rw [list_len]; exact h0)
              have hend := hG.out
              rw [hnil] at hend
              replace hend := Lib.hid (T.goes_end hend)
              obtain ⟨ao, cap, rfl, hin, hcap⟩ := hR.out.toks
              have bT : wr.cell? ⟨w.heap.size, 0, none⟩ = some (.slice ao L.length cap) := hR.out.cT
              have bE : wr.cell? ⟨w.heap.size + 1, 0, none⟩ = some (.int .i64 0) := hR.out.cE
              have fT : wr.frozen? ⟨w.heap.size, 0, none⟩ = false := hR.out.fT
              have fE : wr.frozen? ⟨w.heap.size + 1, 0, none⟩ = false := hR.out.fE
              have hR2 := Lib.hid hR.out.same.number
              clear hnil hG hin hcap
              go_wp2_with fail
              refine leaves_cons (f := 33) (args := #[.pointer (some ⟨w.heap.size, 0, none⟩), .pointer (some ⟨w.heap.size + 1, 0, none⟩)]) (by simp) (by simp [go_sem]) ?_
              refine (catch_calm w.heap.size (w.heap.size + 1) ao L.length cap _ (by omega) hR2.out.cT 0 hR2.out.cE hR2.out.fT hR2.out.fE).mono ?_
              rintro e u' w5 ⟨rfl, rfl, w6, b6, hw5⟩
              have h7 : Rt w sr L (.slice ao L.length cap) w5 := by rw [hw5]; exact (hR2.out.grow b6).same.number
              have c7T := h7.cT
              have c7E := h7.cE
              clear hw5 b6 bT bE fT fE hR2 q0
              simp [Leaves, settle, results, Tryz.results16, go_sem, c7T, c7E]
              obtain ⟨ao2, cap2, e2, hin, hcap⟩ := h7.toks
              cases e2
              rw [hend.out]
              exact ⟨ao, cap, L, rfl, rfl, hin, hcap, h7.below⟩
            · have he := ne_empty (s := sr) (by omega)
              have hne : sr.data.toList ≠ [] := by intro e; rw [← list_len sr, e] at h0; exact h0 rfl
              have bT : wr.cell? ⟨w.heap.size, 0, none⟩ = some v := hR.out.cT
              have hRd : Hid (Rt w sr L v wr.drew) := Lib.hid (hR.out.grow (Below.refl _ _).drew)
              have c2 := fun w' (h : At (w.heap.size + 2) sr w') => token_any (w.heap.size + 2) sr w' h
              cases hn : T.next false sr.data.toList with
              | error q =>
                have hr := Lib.hid (T.goes_err hG.out hne hn)
                rw [hn] at c2
                obtain ⟨ao, cap, rfl, -, -⟩ := hR.out.toks
                clear hn hne hG
                go_wp2_with fail
                apply wp_region_any mixedTok
                refine wpAny_all (rs := [0, 1]) (by kernel_rfl) (by simp) ?_
                intro i hi
                simp at hi
                rcases hi with rfl | rfl
                · simp [wpOp, go_sem, bT]
                  refine .inl ?_
                  refine wpAny_all (rs := [1]) (by kernel_rfl) (by simp) ?_
                  intro i hi
                  simp at hi
                  subst hi
                  simp [wpOp, go_sem]
                  refine .inl ?_
                  refine (c2 _ hRd.out.rd).mono ?_
                  rintro e w2 ⟨rfl, g2⟩
                  have hP := (hRd.out.below.grown g2 hRd.out.below.size (fun k e => by cases e; omega))
                  have n1 := (g2.block _ (Array.getElem?_eq_some_iff.1 hRd.out.told).1 (by simp)).trans hRd.out.told
                  have n2 := (g2.block _ (Array.getElem?_eq_some_iff.1 hRd.out.err).1 (by simp)).trans hRd.out.err
                  have m1 : w2.cell? ⟨w.heap.size, 0, none⟩ = some (.slice ao L.length cap) := by unfold World.cell?; rw [n1]; rfl
                  have m2 : w2.cell? ⟨w.heap.size + 1, 0, none⟩ = some (.int .i64 0) := by unfold World.cell?; rw [n2]; rfl
                  have m3 : w2.frozen? ⟨w.heap.size, 0, none⟩ = false := by simp [World.frozen?, n1]
                  have m4 : w2.frozen? ⟨w.heap.size + 1, 0, none⟩ = false := by simp [World.frozen?, n2]
                  refine leaves_cons (f := 33) (args := #[.pointer (some ⟨w.heap.size, 0, none⟩), .pointer (some ⟨w.heap.size + 1, 0, none⟩)]) (by simp) (by simp [go_sem]) ?_
                  refine (catch_tossed_at w.heap.size w.heap.size (w.heap.size + 1) ao L.length cap (q : Int) _ (by omega) (Nat.le_refl _) (by omega) m1 0 m2 m3 m4 hP.size).mono ?_
                  rintro e u' w5 ⟨rfl, rfl, hP5, hQ5, b5⟩
                  have b6 := hP.trans b5
                  simp [Leaves, settle, results, Tryz.results16, go_sem, hP5, hQ5]
                  exact told_none hr.out b6
                · simp [wpOp, go_sem]
                  refine .inl ?_
                  refine (c2 _ hRd.out.rd).mono ?_
                  rintro e w2 ⟨rfl, g2⟩
                  have hP := (hRd.out.below.grown g2 hRd.out.below.size (fun k e => by cases e; omega))
                  have n1 := (g2.block _ (Array.getElem?_eq_some_iff.1 hRd.out.told).1 (by simp)).trans hRd.out.told
                  have n2 := (g2.block _ (Array.getElem?_eq_some_iff.1 hRd.out.err).1 (by simp)).trans hRd.out.err
                  have m1 : w2.cell? ⟨w.heap.size, 0, none⟩ = some (.slice ao L.length cap) := by unfold World.cell?; rw [n1]; rfl
                  have m2 : w2.cell? ⟨w.heap.size + 1, 0, none⟩ = some (.int .i64 0) := by unfold World.cell?; rw [n2]; rfl
                  have m3 : w2.frozen? ⟨w.heap.size, 0, none⟩ = false := by simp [World.frozen?, n1]
                  have m4 : w2.frozen? ⟨w.heap.size + 1, 0, none⟩ = false := by simp [World.frozen?, n2]
                  refine leaves_cons (f := 33) (args := #[.pointer (some ⟨w.heap.size, 0, none⟩), .pointer (some ⟨w.heap.size + 1, 0, none⟩)]) (by simp) (by simp [go_sem]) ?_
                  refine (catch_tossed_at w.heap.size w.heap.size (w.heap.size + 1) ao L.length cap (q : Int) _ (by omega) (Nat.le_refl _) (by omega) m1 0 m2 m3 m4 hP.size).mono ?_
                  rintro e u' w5 ⟨rfl, rfl, hP5, hQ5, b5⟩
                  have b6 := hP.trans b5
                  simp [Leaves, settle, results, Tryz.results16, go_sem, hP5, hQ5]
                  exact told_none hr.out b6
              | ok x =>
                obtain ⟨k, lr⟩ := x
                obtain ⟨t, rfl⟩ := bytes_of lr
                have hG2 := T.goes_step hG.out hne hn
                have hlt := T.next_less hne hn
                rw [list_len, list_len] at hlt
                rw [hn] at c2
                obtain ⟨ao, cap, rfl, -, -⟩ := hR.out.toks
                obtain ⟨i0, hi0, hz0, hz1, hz2⟩ := info_parts infoTok
                have hq1 : L.length + 1 ≤ maxLen := by unfold maxLen; omega
                have hq2 : (L.length + 1) * 72 ≤ 140737488355328 := by omega
                have hbs := hRd.out.below.size
                replace hG2 := Lib.hid hG2
                clear hn hne hG
                go_wp2_with fail
                apply wp_region_any mixedTok
                refine wpAny_all (rs := [0, 1]) (by kernel_rfl) (by simp) ?_
                intro i hi
                simp at hi
                rcases hi with rfl | rfl
                · simp [wpOp, go_sem, bT]
                  refine .inl ?_
                  refine wpAny_all (rs := [1]) (by kernel_rfl) (by simp) ?_
                  intro i hi
                  simp at hi
                  subst hi
                  simp [wpOp, go_sem]
                  refine .inl ?_
                  refine (c2 _ hRd.out.rd).mono ?_
                  rintro e w2 ⟨t2, ht, v2, rfl, hov, h2, g2⟩
                  obtain ⟨ao2, cap2, hv2, -⟩ := pairs_of_owns hov
                  rw [List.length_map] at hv2
                  subst hv2
                  dsimp only at hov ht
                  unfold tokVal
                  have hR2 := hRd.out.on h2 g2
                  have m1 := hR2.cT
                  have hk1 := World.block_lt_of_cell? w2 _ m1
                  dsimp only at hk1
                  have hk2 : ¬ w.heap.size = w2.heap.size := by omega
                  have hrow := World.ownsRow.alloc hR2.row (.cells #[.int .i64 (k.kind : Int), .string ⟨k.name.toArray⟩, .slice ao2 k.attrs.length cap2, .bool k.alone, .string ⟨k.data.toArray⟩] 41)
                  have m1a : (w2.alloc (.cells #[.int .i64 (k.kind : Int), .string ⟨k.name.toArray⟩, .slice ao2 k.attrs.length cap2, .bool k.alone, .string ⟨k.data.toArray⟩] 41)).cell? ⟨w.heap.size, 0, none⟩ = some (.slice ao L.length cap) := (hR2.grow ((Below.refl _ _).alloc (Nat.le_refl _) (.cells #[.int .i64 (k.kind : Int), .string ⟨k.name.toArray⟩, .slice ao2 k.attrs.length cap2, .bool k.alone, .string ⟨k.data.toArray⟩] 41))).cT
                  have hz5 : w.heap.size ≤ (w2.alloc (.cells #[.int .i64 (k.kind : Int), .string ⟨k.name.toArray⟩, .slice ao2 k.attrs.length cap2, .bool k.alone, .string ⟨k.data.toArray⟩] 41)).heap.size := by simp; omega
                  replace hR2 := Lib.hid hR2
                  simp only []
                  refine wpAny_all (rs := [2]) (by kernel_rfl) (by simp) ?_
                  intro i hi
                  simp at hi
                  subst hi
                  simp [wpOp, go_sem]
                  refine .inl ?_
                  refine wpAny_all (rs := [3]) (by kernel_rfl) (by simp) ?_
                  intro i hi
                  simp at hi
                  subst hi
                  refine wpOp_is (by rfl) (by rfl) ?_
                  refine wp_append_lies _ _ _ 33 (by rfl) w.heap.size 41 i0 _ 5 72 Tryz.underlying33 hi0 hz0 hz1 hz2 rfl (by decide) (.slice ao L.length cap) L.length (rowCells L) (by rfl) hrow ⟨w2.heap.size, 0, none⟩ 1 1 [.int .i64 (k.kind : Int), .string ⟨k.name.toArray⟩, .slice ao2 k.attrs.length cap2, .bool k.alone, .string ⟨k.data.toArray⟩] (by rfl) (by rfl) (cells_five _ _ _ _ _ _ _) (fun u hu => by simp at hu; rcases hu with rfl | rfl | rfl | rfl | rfl <;> rfl) (by omega) hq1 hq2 hz5 (w2.heap.size + 1) (by simp) ?_
                  intro gg cap5 w5 hown5 hgrow _ _
                  have hga := (World.grownBy_alloc w2 _ _).trans hgrow
                  have hn5 := (hga.block _ (Array.getElem?_eq_some_iff.1 hR2.out.told).1 (some_ne (own_apart hR2.out.row hR2.out.told (by intro cs fr e; cases e)))).trans hR2.out.told
                  have m5 : w5.cell? ⟨w.heap.size, 0, none⟩ = some (.slice ao L.length cap) := by unfold World.cell?; rw [hn5]; rfl
                  have f5 : w5.frozen? ⟨w.heap.size, 0, none⟩ = false := by simp [World.frozen?, hn5]
                  have hfin := hRd.out.more h2 g2 hov hga hown5
                  have hfl := hfin.rd.left
                  replace hfin := Lib.hid hfin
                  clear hown5 hgrow hga hn5
                  refine wpAny_all (rs := [4]) (by kernel_rfl) (by simp) ?_
                  intro i hi
                  simp at hi
                  subst hi
                  simp [wpOp, go_sem, m5, f5]
                  refine .inl ?_
                  refine wpAny_done (by kernel_rfl) ?_ _
                  try (go_wp2_with fail)
                  go_roundw
                  case rel => exact ⟨t2, L ++ [(k, _)], _, Lib.hid (by rw [List.map_append, ht]; exact hG2.out), by rw [List.length_append, List.length_singleton, ← list_len t2, ht, list_len]; omega, hfin⟩
                  case measure => rw [hfl, hleft, ← list_len t2, ht, list_len]; omega
                · simp [wpOp, go_sem]
                  refine .inl ?_
                  refine (c2 _ hRd.out.rd).mono ?_
                  rintro e w2 ⟨t2, ht, v2, rfl, hov, h2, g2⟩
                  obtain ⟨ao2, cap2, hv2, -⟩ := pairs_of_owns hov
                  rw [List.length_map] at hv2
                  subst hv2
                  dsimp only at hov ht
                  unfold tokVal
                  have hR2 := hRd.out.on h2 g2
                  have m1 := hR2.cT
                  have hk1 := World.block_lt_of_cell? w2 _ m1
                  dsimp only at hk1
                  have hk2 : ¬ w.heap.size = w2.heap.size := by omega
                  have hrow := World.ownsRow.alloc hR2.row (.cells #[.int .i64 (k.kind : Int), .string ⟨k.name.toArray⟩, .slice ao2 k.attrs.length cap2, .bool k.alone, .string ⟨k.data.toArray⟩] 41)
                  have m1a : (w2.alloc (.cells #[.int .i64 (k.kind : Int), .string ⟨k.name.toArray⟩, .slice ao2 k.attrs.length cap2, .bool k.alone, .string ⟨k.data.toArray⟩] 41)).cell? ⟨w.heap.size, 0, none⟩ = some (.slice ao L.length cap) := (hR2.grow ((Below.refl _ _).alloc (Nat.le_refl _) (.cells #[.int .i64 (k.kind : Int), .string ⟨k.name.toArray⟩, .slice ao2 k.attrs.length cap2, .bool k.alone, .string ⟨k.data.toArray⟩] 41))).cT
                  have hz5 : w.heap.size ≤ (w2.alloc (.cells #[.int .i64 (k.kind : Int), .string ⟨k.name.toArray⟩, .slice ao2 k.attrs.length cap2, .bool k.alone, .string ⟨k.data.toArray⟩] 41)).heap.size := by simp; omega
                  replace hR2 := Lib.hid hR2
                  simp only []
                  refine wpAny_all (rs := [0, 2]) (by kernel_rfl) (by simp) ?_
                  intro i hi
                  simp at hi
                  rcases hi with rfl | rfl
                  · simp [wpOp, go_sem, m1]
                    refine .inl ?_
                    refine wpAny_all (rs := [2]) (by kernel_rfl) (by simp) ?_
                    intro i hi
                    simp at hi
                    subst hi
                    simp [wpOp, go_sem]
                    refine .inl ?_
                    refine wpAny_all (rs := [3]) (by kernel_rfl) (by simp) ?_
                    intro i hi
                    simp at hi
                    subst hi
                    refine wpOp_is (by rfl) (by rfl) ?_
                    refine wp_append_lies _ _ _ 33 (by rfl) w.heap.size 41 i0 _ 5 72 Tryz.underlying33 hi0 hz0 hz1 hz2 rfl (by decide) (.slice ao L.length cap) L.length (rowCells L) (by rfl) hrow ⟨w2.heap.size, 0, none⟩ 1 1 [.int .i64 (k.kind : Int), .string ⟨k.name.toArray⟩, .slice ao2 k.attrs.length cap2, .bool k.alone, .string ⟨k.data.toArray⟩] (by rfl) (by rfl) (cells_five _ _ _ _ _ _ _) (fun u hu => by simp at hu; rcases hu with rfl | rfl | rfl | rfl | rfl <;> rfl) (by omega) hq1 hq2 hz5 (w2.heap.size + 1) (by simp) ?_
                    intro gg cap5 w5 hown5 hgrow _ _
                    have hga := (World.grownBy_alloc w2 _ _).trans hgrow
                    have hn5 := (hga.block _ (Array.getElem?_eq_some_iff.1 hR2.out.told).1 (some_ne (own_apart hR2.out.row hR2.out.told (by intro cs fr e; cases e)))).trans hR2.out.told
                    have m5 : w5.cell? ⟨w.heap.size, 0, none⟩ = some (.slice ao L.length cap) := by unfold World.cell?; rw [hn5]; rfl
                    have f5 : w5.frozen? ⟨w.heap.size, 0, none⟩ = false := by simp [World.frozen?, hn5]
                    have hfin := hRd.out.more h2 g2 hov hga hown5
                    have hfl := hfin.rd.left
                    replace hfin := Lib.hid hfin
                    clear hown5 hgrow hga hn5
                    refine wpAny_all (rs := [4]) (by kernel_rfl) (by simp) ?_
                    intro i hi
                    simp at hi
                    subst hi
                    simp [wpOp, go_sem, m5, f5]
                    refine .inl ?_
                    refine wpAny_done (by kernel_rfl) ?_ _
                    try (go_wp2_with fail)
                    go_roundw
                    case rel => exact ⟨t2, L ++ [(k, _)], _, Lib.hid (by rw [List.map_append, ht]; exact hG2.out), by rw [List.length_append, List.length_singleton, ← list_len t2, ht, list_len]; omega, hfin⟩
                    case measure => rw [hfl, hleft, ← list_len t2, ht, list_len]; omega
                  · simp [wpOp, go_sem]
                    refine .inl ?_
                    refine wpAny_all (rs := [0]) (by kernel_rfl) (by simp) ?_
                    intro i hi
                    simp at hi
                    subst hi
                    simp [wpOp, go_sem]
                    rw [m1a]
                    simp
                    refine .inl ?_
                    refine wpAny_all (rs := [3]) (by kernel_rfl) (by simp) ?_
                    intro i hi
                    simp at hi
                    subst hi
                    refine wpOp_is (by rfl) (by rfl) ?_
                    refine wp_append_lies _ _ _ 33 (by rfl) w.heap.size 41 i0 _ 5 72 Tryz.underlying33 hi0 hz0 hz1 hz2 rfl (by decide) (.slice ao L.length cap) L.length (rowCells L) (by rfl) hrow ⟨w2.heap.size, 0, none⟩ 1 1 [.int .i64 (k.kind : Int), .string ⟨k.name.toArray⟩, .slice ao2 k.attrs.length cap2, .bool k.alone, .string ⟨k.data.toArray⟩] (by rfl) (by rfl) (cells_five _ _ _ _ _ _ _) (fun u hu => by simp at hu; rcases hu with rfl | rfl | rfl | rfl | rfl <;> rfl) (by omega) hq1 hq2 hz5 (w2.heap.size + 1) (by simp) ?_
                    intro gg cap5 w5 hown5 hgrow _ _
                    have hga := (World.grownBy_alloc w2 _ _).trans hgrow
                    have hn5 := (hga.block _ (Array.getElem?_eq_some_iff.1 hR2.out.told).1 (some_ne (own_apart hR2.out.row hR2.out.told (by intro cs fr e; cases e)))).trans hR2.out.told
                    have m5 : w5.cell? ⟨w.heap.size, 0, none⟩ = some (.slice ao L.length cap) := by unfold World.cell?; rw [hn5]; rfl
                    have f5 : w5.frozen? ⟨w.heap.size, 0, none⟩ = false := by simp [World.frozen?, hn5]
                    have hfin := hRd.out.more h2 g2 hov hga hown5
                    have hfl := hfin.rd.left
                    replace hfin := Lib.hid hfin
                    clear hown5 hgrow hga hn5
                    refine wpAny_all (rs := [4]) (by kernel_rfl) (by simp) ?_
                    intro i hi
                    simp at hi
                    subst hi
                    simp [wpOp, go_sem, m5, f5]
                    refine .inl ?_
                    refine wpAny_done (by kernel_rfl) ?_ _
                    try (go_wp2_with fail)
                    go_roundw
                    case rel => exact ⟨t2, L ++ [(k, _)], _, Lib.hid (by rw [List.map_append, ht]; exact hG2.out), by rw [List.length_append, List.length_singleton, ← list_len t2, ht, list_len]; omega, hfin⟩
                    case measure => rw [hfl, hleft, ← list_len t2, ht, list_len]; omega
        · simp [wpOp, go_sem]
          refine .inl ?_
          refine wpAny_all (rs := [0]) (by kernel_rfl) (by simp) ?_
          intro i hi
          simp at hi
          subst hi
          simp [wpOp, go_sem]
          rw [m1a]
          simp
          refine .inl ?_
          refine wpAny_all (rs := [3]) (by kernel_rfl) (by simp) ?_
          intro i hi
          simp at hi
          subst hi
          refine wpOp_is (by rfl) (by rfl) ?_
          refine wp_append_lies _ _ _ 33 (by rfl) w.heap.size 41 i0 _ 5 72 Tryz.underlying33 hi0 hz0 hz1 hz2 rfl (by decide) (.slice none 0 0) 0 [] (by rfl) hrow ⟨w2.heap.size, 0, none⟩ 1 1 [.int .i64 (k.kind : Int), .string ⟨k.name.toArray⟩, .slice ao2 k.attrs.length cap2, .bool k.alone, .string ⟨k.data.toArray⟩] (by rfl) (by rfl) (cells_five _ _ _ _ _ _ _) (fun u hu => by simp at hu; rcases hu with rfl | rfl | rfl | rfl | rfl <;> rfl) (by omega) hq1 hq2 hz5 (w2.heap.size + 1) (by simp) ?_
          intro gg cap5 w5 hown5 hgrow _ _
          have hga := (World.grownBy_alloc w2 _ _).trans hgrow
          have hn5 := (hga.block _ (Array.getElem?_eq_some_iff.1 hR2.out.told).1 (some_ne (own_apart hR2.out.row hR2.out.told (by intro cs fr e; cases e)))).trans hR2.out.told
          have m5 : w5.cell? ⟨w.heap.size, 0, none⟩ = some (.slice none 0 0) := by unfold World.cell?; rw [hn5]; rfl
          have f5 : w5.frozen? ⟨w.heap.size, 0, none⟩ = false := by simp [World.frozen?, hn5]
          have hfin := hRd.out.more h2 g2 hov hga hown5
          have hfl := hfin.rd.left
          replace hfin := Lib.hid hfin
          clear hown5 hgrow hga hn5
          refine wpAny_all (rs := [4]) (by kernel_rfl) (by simp) ?_
          intro i hi
          simp at hi
          subst hi
          simp [wpOp, go_sem, m5, f5]
          refine .inl ?_
          refine wpAny_done (by kernel_rfl) ?_ _
          clear bT m1 m1a hk1 hk2 hrow hz5 hR2 m5 f5 hR hRd c1 c2 h2 g2 hov
          go_wp2_with fail
          go_loopw [13] (fun _ wr => ∃ (sr : ByteArray) (L : List (T.Tok × Value)) (v : Value), Hid (T.Goes true s.data.toList (L.map Prod.fst) sr.data.toList) ∧ L.length + sr.size ≤ 1000000 ∧ Hid (Rt w sr L v wr)) (fun _ wr => leftAt (w.heap.size + 2) wr)
          case atStart => exact ⟨t2, [] ++ [(k, _)], _, Lib.hid (by rw [ht]; exact hgo.out), by rw [List.nil_append, List.length_singleton, ← list_len t2, ht, list_len]; omega, hfin⟩
          case round =>
            obtain ⟨sr, L, v, hG, hLs, hR⟩ := hrel
            clear hfin hfl hgo ht
            have hleft := hR.out.rd.left
            have q0 : wr.cell? ⟨w.heap.size + 1 + 1, 0, none⟩ = some (.string sr) := hR.out.rd.cell
            by_cases h0 : sr.size = 0
            · have he := empty_is h0
              have hnil : sr.data.toList = [] := List.eq_nil_of_length_eq_zero (by rw [list_len]; exact h0)
              have hend := hG.out
              rw [hnil] at hend
              replace hend := Lib.hid (T.goes_end hend)
              obtain ⟨ao, cap, rfl, hin, hcap⟩ := hR.out.toks
              have bT : wr.cell? ⟨w.heap.size, 0, none⟩ = some (.slice ao L.length cap) := hR.out.cT
              have bE : wr.cell? ⟨w.heap.size + 1, 0, none⟩ = some (.int .i64 0) := hR.out.cE
              have fT : wr.frozen? ⟨w.heap.size, 0, none⟩ = false := hR.out.fT
              have fE : wr.frozen? ⟨w.heap.size + 1, 0, none⟩ = false := hR.out.fE
              have hR2 := Lib.hid hR.out.same.number
              clear hnil hG hin hcap
              go_wp2_with fail
              refine leaves_cons (f := 33) (args := #[.pointer (some ⟨w.heap.size, 0, none⟩), .pointer (some ⟨w.heap.size + 1, 0, none⟩)]) (by simp) (by simp [go_sem]) ?_
              refine (catch_calm w.heap.size (w.heap.size + 1) ao L.length cap _ (by omega) hR2.out.cT 0 hR2.out.cE hR2.out.fT hR2.out.fE).mono ?_
              rintro e u' w5 ⟨rfl, rfl, w6, b6, hw5⟩
              have h7 : Rt w sr L (.slice ao L.length cap) w5 := by rw [hw5]; exact (hR2.out.grow b6).same.number
              have c7T := h7.cT
              have c7E := h7.cE
              clear hw5 b6 bT bE fT fE hR2 q0
              simp [Leaves, settle, results, Tryz.results16, go_sem, c7T, c7E]
              obtain ⟨ao2, cap2, e2, hin, hcap⟩ := h7.toks
              cases e2
              rw [hend.out]
              exact ⟨ao, cap, L, rfl, rfl, hin, hcap, h7.below⟩
            · have he := ne_empty (s := sr) (by omega)
              have hne : sr.data.toList ≠ [] := by intro e; rw [← list_len sr, e] at h0; exact h0 rfl
              have bT : wr.cell? ⟨w.heap.size, 0, none⟩ = some v := hR.out.cT
              have hRd : Hid (Rt w sr L v wr.drew) := Lib.hid (hR.out.grow (Below.refl _ _).drew)
              have c2 := fun w' (h : At (w.heap.size + 2) sr w') => token_any (w.heap.size + 2) sr w' h
              cases hn : T.next false sr.data.toList with
              | error q =>
                have hr := Lib.hid (T.goes_err hG.out hne hn)
                rw [hn] at c2
                obtain ⟨ao, cap, rfl, -, -⟩ := hR.out.toks
                clear hn hne hG
                go_wp2_with fail
                apply wp_region_any mixedTok
                refine wpAny_all (rs := [0, 1]) (by kernel_rfl) (by simp) ?_
                intro i hi
                simp at hi
                rcases hi with rfl | rfl
                · simp [wpOp, go_sem, bT]
                  refine .inl ?_
                  refine wpAny_all (rs := [1]) (by kernel_rfl) (by simp) ?_
                  intro i hi
                  simp at hi
                  subst hi
                  simp [wpOp, go_sem]
                  refine .inl ?_
                  refine (c2 _ hRd.out.rd).mono ?_
                  rintro e w2 ⟨rfl, g2⟩
                  have hP := (hRd.out.below.grown g2 hRd.out.below.size (fun k e => by cases e; omega))
                  have n1 := (g2.block _ (Array.getElem?_eq_some_iff.1 hRd.out.told).1 (by simp)).trans hRd.out.told
                  have n2 := (g2.block _ (Array.getElem?_eq_some_iff.1 hRd.out.err).1 (by simp)).trans hRd.out.err
                  have m1 : w2.cell? ⟨w.heap.size, 0, none⟩ = some (.slice ao L.length cap) := by unfold World.cell?; rw [n1]; rfl
                  have m2 : w2.cell? ⟨w.heap.size + 1, 0, none⟩ = some (.int .i64 0) := by unfold World.cell?; rw [n2]; rfl
                  have m3 : w2.frozen? ⟨w.heap.size, 0, none⟩ = false := by simp [World.frozen?, n1]
                  have m4 : w2.frozen? ⟨w.heap.size + 1, 0, none⟩ = false := by simp [World.frozen?, n2]
                  refine leaves_cons (f := 33) (args := #[.pointer (some ⟨w.heap.size, 0, none⟩), .pointer (some ⟨w.heap.size + 1, 0, none⟩)]) (by simp) (by simp [go_sem]) ?_
                  refine (catch_tossed_at w.heap.size w.heap.size (w.heap.size + 1) ao L.length cap (q : Int) _ (by omega) (Nat.le_refl _) (by omega) m1 0 m2 m3 m4 hP.size).mono ?_
                  rintro e u' w5 ⟨rfl, rfl, hP5, hQ5, b5⟩
                  have b6 := hP.trans b5
                  simp [Leaves, settle, results, Tryz.results16, go_sem, hP5, hQ5]
                  exact told_none hr.out b6
                · simp [wpOp, go_sem]
                  refine .inl ?_
                  refine (c2 _ hRd.out.rd).mono ?_
                  rintro e w2 ⟨rfl, g2⟩
                  have hP := (hRd.out.below.grown g2 hRd.out.below.size (fun k e => by cases e; omega))
                  have n1 := (g2.block _ (Array.getElem?_eq_some_iff.1 hRd.out.told).1 (by simp)).trans hRd.out.told
                  have n2 := (g2.block _ (Array.getElem?_eq_some_iff.1 hRd.out.err).1 (by simp)).trans hRd.out.err
                  have m1 : w2.cell? ⟨w.heap.size, 0, none⟩ = some (.slice ao L.length cap) := by unfold World.cell?; rw [n1]; rfl
                  have m2 : w2.cell? ⟨w.heap.size + 1, 0, none⟩ = some (.int .i64 0) := by unfold World.cell?; rw [n2]; rfl
                  have m3 : w2.frozen? ⟨w.heap.size, 0, none⟩ = false := by simp [World.frozen?, n1]
                  have m4 : w2.frozen? ⟨w.heap.size + 1, 0, none⟩ = false := by simp [World.frozen?, n2]
                  refine leaves_cons (f := 33) (args := #[.pointer (some ⟨w.heap.size, 0, none⟩), .pointer (some ⟨w.heap.size + 1, 0, none⟩)]) (by simp) (by simp [go_sem]) ?_
                  refine (catch_tossed_at w.heap.size w.heap.size (w.heap.size + 1) ao L.length cap (q : Int) _ (by omega) (Nat.le_refl _) (by omega) m1 0 m2 m3 m4 hP.size).mono ?_
                  rintro e u' w5 ⟨rfl, rfl, hP5, hQ5, b5⟩
                  have b6 := hP.trans b5
                  simp [Leaves, settle, results, Tryz.results16, go_sem, hP5, hQ5]
                  exact told_none hr.out b6
              | ok x =>
                obtain ⟨k, lr⟩ := x
                obtain ⟨t, rfl⟩ := bytes_of lr
                have hG2 := T.goes_step hG.out hne hn
                have hlt := T.next_less hne hn
                rw [list_len, list_len] at hlt
                rw [hn] at c2
                obtain ⟨ao, cap, rfl, -, -⟩ := hR.out.toks
                obtain ⟨i0, hi0, hz0, hz1, hz2⟩ := info_parts infoTok
                have hq1 : L.length + 1 ≤ maxLen := by unfold maxLen; omega
                have hq2 : (L.length + 1) * 72 ≤ 140737488355328 := by omega
                have hbs := hRd.out.below.size
                replace hG2 := Lib.hid hG2
                clear hn hne hG
                go_wp2_with fail
                apply wp_region_any mixedTok
                refine wpAny_all (rs := [0, 1]) (by kernel_rfl) (by simp) ?_
                intro i hi
                simp at hi
                rcases hi with rfl | rfl
                · simp [wpOp, go_sem, bT]
                  refine .inl ?_
                  refine wpAny_all (rs := [1]) (by kernel_rfl) (by simp) ?_
                  intro i hi
                  simp at hi
                  subst hi
                  simp [wpOp, go_sem]
                  refine .inl ?_
                  refine (c2 _ hRd.out.rd).mono ?_
                  rintro e w2 ⟨t2, ht, v2, rfl, hov, h2, g2⟩
                  obtain ⟨ao2, cap2, hv2, -⟩ := pairs_of_owns hov
                  rw [List.length_map] at hv2
                  subst hv2
                  dsimp only at hov ht
                  unfold tokVal
                  have hR2 := hRd.out.on h2 g2
                  have m1 := hR2.cT
                  have hk1 := World.block_lt_of_cell? w2 _ m1
                  dsimp only at hk1
                  have hk2 : ¬ w.heap.size = w2.heap.size := by omega
                  have hrow := World.ownsRow.alloc hR2.row (.cells #[.int .i64 (k.kind : Int), .string ⟨k.name.toArray⟩, .slice ao2 k.attrs.length cap2, .bool k.alone, .string ⟨k.data.toArray⟩] 41)
                  have m1a : (w2.alloc (.cells #[.int .i64 (k.kind : Int), .string ⟨k.name.toArray⟩, .slice ao2 k.attrs.length cap2, .bool k.alone, .string ⟨k.data.toArray⟩] 41)).cell? ⟨w.heap.size, 0, none⟩ = some (.slice ao L.length cap) := (hR2.grow ((Below.refl _ _).alloc (Nat.le_refl _) (.cells #[.int .i64 (k.kind : Int), .string ⟨k.name.toArray⟩, .slice ao2 k.attrs.length cap2, .bool k.alone, .string ⟨k.data.toArray⟩] 41))).cT
                  have hz5 : w.heap.size ≤ (w2.alloc (.cells #[.int .i64 (k.kind : Int), .string ⟨k.name.toArray⟩, .slice ao2 k.attrs.length cap2, .bool k.alone, .string ⟨k.data.toArray⟩] 41)).heap.size := by simp; omega
                  replace hR2 := Lib.hid hR2
                  simp only []
                  refine wpAny_all (rs := [2]) (by kernel_rfl) (by simp) ?_
                  intro i hi
                  simp at hi
                  subst hi
                  simp [wpOp, go_sem]
                  refine .inl ?_
                  refine wpAny_all (rs := [3]) (by kernel_rfl) (by simp) ?_
                  intro i hi
                  simp at hi
                  subst hi
                  refine wpOp_is (by rfl) (by rfl) ?_
                  refine wp_append_lies _ _ _ 33 (by rfl) w.heap.size 41 i0 _ 5 72 Tryz.underlying33 hi0 hz0 hz1 hz2 rfl (by decide) (.slice ao L.length cap) L.length (rowCells L) (by rfl) hrow ⟨w2.heap.size, 0, none⟩ 1 1 [.int .i64 (k.kind : Int), .string ⟨k.name.toArray⟩, .slice ao2 k.attrs.length cap2, .bool k.alone, .string ⟨k.data.toArray⟩] (by rfl) (by rfl) (cells_five _ _ _ _ _ _ _) (fun u hu => by simp at hu; rcases hu with rfl | rfl | rfl | rfl | rfl <;> rfl) (by omega) hq1 hq2 hz5 (w2.heap.size + 1) (by simp) ?_
                  intro gg cap5 w5 hown5 hgrow _ _
                  have hga := (World.grownBy_alloc w2 _ _).trans hgrow
                  have hn5 := (hga.block _ (Array.getElem?_eq_some_iff.1 hR2.out.told).1 (some_ne (own_apart hR2.out.row hR2.out.told (by intro cs fr e; cases e)))).trans hR2.out.told
                  have m5 : w5.cell? ⟨w.heap.size, 0, none⟩ = some (.slice ao L.length cap) := by unfold World.cell?; rw [hn5]; rfl
                  have f5 : w5.frozen? ⟨w.heap.size, 0, none⟩ = false := by simp [World.frozen?, hn5]
                  have hfin := hRd.out.more h2 g2 hov hga hown5
                  have hfl := hfin.rd.left
                  replace hfin := Lib.hid hfin
                  clear hown5 hgrow hga hn5
                  refine wpAny_all (rs := [4]) (by kernel_rfl) (by simp) ?_
                  intro i hi
                  simp at hi
                  subst hi
                  simp [wpOp, go_sem, m5, f5]
                  refine .inl ?_
                  refine wpAny_done (by kernel_rfl) ?_ _
                  try (go_wp2_with fail)
                  go_roundw
                  case rel => exact ⟨t2, L ++ [(k, _)], _, Lib.hid (by rw [List.map_append, ht]; exact hG2.out), by rw [List.length_append, List.length_singleton, ← list_len t2, ht, list_len]; omega, hfin⟩
                  case measure => rw [hfl, hleft, ← list_len t2, ht, list_len]; omega
                · simp [wpOp, go_sem]
                  refine .inl ?_
                  refine (c2 _ hRd.out.rd).mono ?_
                  rintro e w2 ⟨t2, ht, v2, rfl, hov, h2, g2⟩
                  obtain ⟨ao2, cap2, hv2, -⟩ := pairs_of_owns hov
                  rw [List.length_map] at hv2
                  subst hv2
                  dsimp only at hov ht
                  unfold tokVal
                  have hR2 := hRd.out.on h2 g2
                  have m1 := hR2.cT
                  have hk1 := World.block_lt_of_cell? w2 _ m1
                  dsimp only at hk1
                  have hk2 : ¬ w.heap.size = w2.heap.size := by omega
                  have hrow := World.ownsRow.alloc hR2.row (.cells #[.int .i64 (k.kind : Int), .string ⟨k.name.toArray⟩, .slice ao2 k.attrs.length cap2, .bool k.alone, .string ⟨k.data.toArray⟩] 41)
                  have m1a : (w2.alloc (.cells #[.int .i64 (k.kind : Int), .string ⟨k.name.toArray⟩, .slice ao2 k.attrs.length cap2, .bool k.alone, .string ⟨k.data.toArray⟩] 41)).cell? ⟨w.heap.size, 0, none⟩ = some (.slice ao L.length cap) := (hR2.grow ((Below.refl _ _).alloc (Nat.le_refl _) (.cells #[.int .i64 (k.kind : Int), .string ⟨k.name.toArray⟩, .slice ao2 k.attrs.length cap2, .bool k.alone, .string ⟨k.data.toArray⟩] 41))).cT
                  have hz5 : w.heap.size ≤ (w2.alloc (.cells #[.int .i64 (k.kind : Int), .string ⟨k.name.toArray⟩, .slice ao2 k.attrs.length cap2, .bool k.alone, .string ⟨k.data.toArray⟩] 41)).heap.size := by simp; omega
                  replace hR2 := Lib.hid hR2
                  simp only []
                  refine wpAny_all (rs := [0, 2]) (by kernel_rfl) (by simp) ?_
                  intro i hi
                  simp at hi
                  rcases hi with rfl | rfl
                  · simp [wpOp, go_sem, m1]
                    refine .inl ?_
                    refine wpAny_all (rs := [2]) (by kernel_rfl) (by simp) ?_
                    intro i hi
                    simp at hi
                    subst hi
                    simp [wpOp, go_sem]
                    refine .inl ?_
                    refine wpAny_all (rs := [3]) (by kernel_rfl) (by simp) ?_
                    intro i hi
                    simp at hi
                    subst hi
                    refine wpOp_is (by rfl) (by rfl) ?_
                    refine wp_append_lies _ _ _ 33 (by rfl) w.heap.size 41 i0 _ 5 72 Tryz.underlying33 hi0 hz0 hz1 hz2 rfl (by decide) (.slice ao L.length cap) L.length (rowCells L) (by rfl) hrow ⟨w2.heap.size, 0, none⟩ 1 1 [.int .i64 (k.kind : Int), .string ⟨k.name.toArray⟩, .slice ao2 k.attrs.length cap2, .bool k.alone, .string ⟨k.data.toArray⟩] (by rfl) (by rfl) (cells_five _ _ _ _ _ _ _) (fun u hu => by simp at hu; rcases hu with rfl | rfl | rfl | rfl | rfl <;> rfl) (by omega) hq1 hq2 hz5 (w2.heap.size + 1) (by simp) ?_
                    intro gg cap5 w5 hown5 hgrow _ _
                    have hga := (World.grownBy_alloc w2 _ _).trans hgrow
                    have hn5 := (hga.block _ (Array.getElem?_eq_some_iff.1 hR2.out.told).1 (some_ne (own_apart hR2.out.row hR2.out.told (by intro cs fr e; cases e)))).trans hR2.out.told
                    have m5 : w5.cell? ⟨w.heap.size, 0, none⟩ = some (.slice ao L.length cap) := by unfold World.cell?; rw [hn5]; rfl
                    have f5 : w5.frozen? ⟨w.heap.size, 0, none⟩ = false := by simp [World.frozen?, hn5]
                    have hfin := hRd.out.more h2 g2 hov hga hown5
                    have hfl := hfin.rd.left
                    replace hfin := Lib.hid hfin
                    clear hown5 hgrow hga hn5
                    refine wpAny_all (rs := [4]) (by kernel_rfl) (by simp) ?_
                    intro i hi
                    simp at hi
                    subst hi
                    simp [wpOp, go_sem, m5, f5]
                    refine .inl ?_
                    refine wpAny_done (by kernel_rfl) ?_ _
                    try (go_wp2_with fail)
                    go_roundw
                    case rel => exact ⟨t2, L ++ [(k, _)], _, Lib.hid (by rw [List.map_append, ht]; exact hG2.out), by rw [List.length_append, List.length_singleton, ← list_len t2, ht, list_len]; omega, hfin⟩
                    case measure => rw [hfl, hleft, ← list_len t2, ht, list_len]; omega
                  · simp [wpOp, go_sem]
                    refine .inl ?_
                    refine wpAny_all (rs := [0]) (by kernel_rfl) (by simp) ?_
                    intro i hi
                    simp at hi
                    subst hi
                    simp [wpOp, go_sem]
                    rw [m1a]
                    simp
                    refine .inl ?_
                    refine wpAny_all (rs := [3]) (by kernel_rfl) (by simp) ?_
                    intro i hi
                    simp at hi
                    subst hi
                    refine wpOp_is (by rfl) (by rfl) ?_
                    refine wp_append_lies _ _ _ 33 (by rfl) w.heap.size 41 i0 _ 5 72 Tryz.underlying33 hi0 hz0 hz1 hz2 rfl (by decide) (.slice ao L.length cap) L.length (rowCells L) (by rfl) hrow ⟨w2.heap.size, 0, none⟩ 1 1 [.int .i64 (k.kind : Int), .string ⟨k.name.toArray⟩, .slice ao2 k.attrs.length cap2, .bool k.alone, .string ⟨k.data.toArray⟩] (by rfl) (by rfl) (cells_five _ _ _ _ _ _ _) (fun u hu => by simp at hu; rcases hu with rfl | rfl | rfl | rfl | rfl <;> rfl) (by omega) hq1 hq2 hz5 (w2.heap.size + 1) (by simp) ?_
                    intro gg cap5 w5 hown5 hgrow _ _
                    have hga := (World.grownBy_alloc w2 _ _).trans hgrow
                    have hn5 := (hga.block _ (Array.getElem?_eq_some_iff.1 hR2.out.told).1 (some_ne (own_apart hR2.out.row hR2.out.told (by intro cs fr e; cases e)))).trans hR2.out.told
                    have m5 : w5.cell? ⟨w.heap.size, 0, none⟩ = some (.slice ao L.length cap) := by unfold World.cell?; rw [hn5]; rfl
                    have f5 : w5.frozen? ⟨w.heap.size, 0, none⟩ = false := by simp [World.frozen?, hn5]
                    have hfin := hRd.out.more h2 g2 hov hga hown5
                    have hfl := hfin.rd.left
                    replace hfin := Lib.hid hfin
                    clear hown5 hgrow hga hn5
                    refine wpAny_all (rs := [4]) (by kernel_rfl) (by simp) ?_
                    intro i hi
                    simp at hi
                    subst hi
                    simp [wpOp, go_sem, m5, f5]
                    refine .inl ?_
                    refine wpAny_done (by kernel_rfl) ?_ _
                    try (go_wp2_with fail)
                    go_roundw
                    case rel => exact ⟨t2, L ++ [(k, _)], _, Lib.hid (by rw [List.map_append, ht]; exact hG2.out), by rw [List.length_append, List.length_singleton, ← list_len t2, ht, list_len]; omega, hfin⟩
                    case measure => rw [hfl, hleft, ← list_len t2, ht, list_len]; omega
  | false =>
    have hgo := Lib.hid (T.goes_start hd)
    have c1 := fun w' (h : At (w.heap.size + 2) s w') => isAt_any (w.heap.size + 2) s w' h false hd
    clear hd
    go_enter_defers Tryz.func16, Tryz.ntmps16
    go_wp2_with fail
    (with_reducible refine (c1 _ hR0.rd).mono ?_); rintro e w1 ⟨rfl, rfl⟩
    go_wp2_with fail
    go_loopw [13] (fun _ wr => ∃ (sr : ByteArray) (L : List (T.Tok × Value)) (v : Value), Hid (T.Goes true s.data.toList (L.map Prod.fst) sr.data.toList) ∧ L.length + sr.size ≤ 1000000 ∧ Hid (Rt w sr L v wr)) (fun _ wr => leftAt (w.heap.size + 2) wr)
    case atStart => exact ⟨s, [], _, hgo, by simpa using hs, Lib.hid hR0⟩
    case round =>
      obtain ⟨sr, L, v, hG, hLs, hR⟩ := hrel
      clear hR0 c1 hgo
      have hleft := hR.out.rd.left
      have q0 : wr.cell? ⟨w.heap.size + 1 + 1, 0, none⟩ = some (.string sr) := hR.out.rd.cell
      by_cases h0 : sr.size = 0
      · have he := empty_is h0
        have hnil : sr.data.toList = [] := List.eq_nil_of_length_eq_zero (by rw [list_len]; exact h0)
        have hend := hG.out
        rw [hnil] at hend
        replace hend := Lib.hid (T.goes_end hend)
        obtain ⟨ao, cap, rfl, hin, hcap⟩ := hR.out.toks
        have bT : wr.cell? ⟨w.heap.size, 0, none⟩ = some (.slice ao L.length cap) := hR.out.cT
        have bE : wr.cell? ⟨w.heap.size + 1, 0, none⟩ = some (.int .i64 0) := hR.out.cE
        have fT : wr.frozen? ⟨w.heap.size, 0, none⟩ = false := hR.out.fT
        have fE : wr.frozen? ⟨w.heap.size + 1, 0, none⟩ = false := hR.out.fE
        have hR2 := Lib.hid hR.out.same.number
        clear hnil hG hin hcap
        go_wp2_with fail
        refine leaves_cons (f := 33) (args := #[.pointer (some ⟨w.heap.size, 0, none⟩), .pointer (some ⟨w.heap.size + 1, 0, none⟩)]) (by simp) (by simp [go_sem]) ?_
        refine (catch_calm w.heap.size (w.heap.size + 1) ao L.length cap _ (by omega) hR2.out.cT 0 hR2.out.cE hR2.out.fT hR2.out.fE).mono ?_
        rintro e u' w5 ⟨rfl, rfl, w6, b6, hw5⟩
        have h7 : Rt w sr L (.slice ao L.length cap) w5 := by rw [hw5]; exact (hR2.out.grow b6).same.number
        have c7T := h7.cT
        have c7E := h7.cE
        clear hw5 b6 bT bE fT fE hR2 q0
        simp [Leaves, settle, results, Tryz.results16, go_sem, c7T, c7E]
        obtain ⟨ao2, cap2, e2, hin, hcap⟩ := h7.toks
        cases e2
        rw [hend.out]
        exact ⟨ao, cap, L, rfl, rfl, hin, hcap, h7.below⟩
      · have he := ne_empty (s := sr) (by omega)
        have hne : sr.data.toList ≠ [] := by intro e; rw [← list_len sr, e] at h0; exact h0 rfl
        have bT : wr.cell? ⟨w.heap.size, 0, none⟩ = some v := hR.out.cT
        have hRd : Hid (Rt w sr L v wr.drew) := Lib.hid (hR.out.grow (Below.refl _ _).drew)
        have c2 := fun w' (h : At (w.heap.size + 2) sr w') => token_any (w.heap.size + 2) sr w' h
        cases hn : T.next false sr.data.toList with
        | error q =>
          have hr := Lib.hid (T.goes_err hG.out hne hn)
          rw [hn] at c2
          obtain ⟨ao, cap, rfl, -, -⟩ := hR.out.toks
          clear hn hne hG
          go_wp2_with fail
          apply wp_region_any mixedTok
          refine wpAny_all (rs := [0, 1]) (by kernel_rfl) (by simp) ?_
          intro i hi
          simp at hi
          rcases hi with rfl | rfl
          · simp [wpOp, go_sem, bT]
            refine .inl ?_
            refine wpAny_all (rs := [1]) (by kernel_rfl) (by simp) ?_
            intro i hi
            simp at hi
            subst hi
            simp [wpOp, go_sem]
            refine .inl ?_
            refine (c2 _ hRd.out.rd).mono ?_
            rintro e w2 ⟨rfl, g2⟩
            have hP := (hRd.out.below.grown g2 hRd.out.below.size (fun k e => by cases e; omega))
            have n1 := (g2.block _ (Array.getElem?_eq_some_iff.1 hRd.out.told).1 (by simp)).trans hRd.out.told
            have n2 := (g2.block _ (Array.getElem?_eq_some_iff.1 hRd.out.err).1 (by simp)).trans hRd.out.err
            have m1 : w2.cell? ⟨w.heap.size, 0, none⟩ = some (.slice ao L.length cap) := by unfold World.cell?; rw [n1]; rfl
            have m2 : w2.cell? ⟨w.heap.size + 1, 0, none⟩ = some (.int .i64 0) := by unfold World.cell?; rw [n2]; rfl
            have m3 : w2.frozen? ⟨w.heap.size, 0, none⟩ = false := by simp [World.frozen?, n1]
            have m4 : w2.frozen? ⟨w.heap.size + 1, 0, none⟩ = false := by simp [World.frozen?, n2]
            refine leaves_cons (f := 33) (args := #[.pointer (some ⟨w.heap.size, 0, none⟩), .pointer (some ⟨w.heap.size + 1, 0, none⟩)]) (by simp) (by simp [go_sem]) ?_
            refine (catch_tossed_at w.heap.size w.heap.size (w.heap.size + 1) ao L.length cap (q : Int) _ (by omega) (Nat.le_refl _) (by omega) m1 0 m2 m3 m4 hP.size).mono ?_
            rintro e u' w5 ⟨rfl, rfl, hP5, hQ5, b5⟩
            have b6 := hP.trans b5
            simp [Leaves, settle, results, Tryz.results16, go_sem, hP5, hQ5]
            exact told_none hr.out b6
          · simp [wpOp, go_sem]
            refine .inl ?_
            refine (c2 _ hRd.out.rd).mono ?_
            rintro e w2 ⟨rfl, g2⟩
            have hP := (hRd.out.below.grown g2 hRd.out.below.size (fun k e => by cases e; omega))
            have n1 := (g2.block _ (Array.getElem?_eq_some_iff.1 hRd.out.told).1 (by simp)).trans hRd.out.told
            have n2 := (g2.block _ (Array.getElem?_eq_some_iff.1 hRd.out.err).1 (by simp)).trans hRd.out.err
            have m1 : w2.cell? ⟨w.heap.size, 0, none⟩ = some (.slice ao L.length cap) := by unfold World.cell?; rw [n1]; rfl
            have m2 : w2.cell? ⟨w.heap.size + 1, 0, none⟩ = some (.int .i64 0) := by unfold World.cell?; rw [n2]; rfl
            have m3 : w2.frozen? ⟨w.heap.size, 0, none⟩ = false := by simp [World.frozen?, n1]
            have m4 : w2.frozen? ⟨w.heap.size + 1, 0, none⟩ = false := by simp [World.frozen?, n2]
            refine leaves_cons (f := 33) (args := #[.pointer (some ⟨w.heap.size, 0, none⟩), .pointer (some ⟨w.heap.size + 1, 0, none⟩)]) (by simp) (by simp [go_sem]) ?_
            refine (catch_tossed_at w.heap.size w.heap.size (w.heap.size + 1) ao L.length cap (q : Int) _ (by omega) (Nat.le_refl _) (by omega) m1 0 m2 m3 m4 hP.size).mono ?_
            rintro e u' w5 ⟨rfl, rfl, hP5, hQ5, b5⟩
            have b6 := hP.trans b5
            simp [Leaves, settle, results, Tryz.results16, go_sem, hP5, hQ5]
            exact told_none hr.out b6
        | ok x =>
          obtain ⟨k, lr⟩ := x
          obtain ⟨t, rfl⟩ := bytes_of lr
          have hG2 := T.goes_step hG.out hne hn
          have hlt := T.next_less hne hn
          rw [list_len, list_len] at hlt
          rw [hn] at c2
          obtain ⟨ao, cap, rfl, -, -⟩ := hR.out.toks
          obtain ⟨i0, hi0, hz0, hz1, hz2⟩ := info_parts infoTok
          have hq1 : L.length + 1 ≤ maxLen := by unfold maxLen; omega
          have hq2 : (L.length + 1) * 72 ≤ 140737488355328 := by omega
          have hbs := hRd.out.below.size
          replace hG2 := Lib.hid hG2
          clear hn hne hG
          go_wp2_with fail
          apply wp_region_any mixedTok
          refine wpAny_all (rs := [0, 1]) (by kernel_rfl) (by simp) ?_
          intro i hi
          simp at hi
          rcases hi with rfl | rfl
          · simp [wpOp, go_sem, bT]
            refine .inl ?_
            refine wpAny_all (rs := [1]) (by kernel_rfl) (by simp) ?_
            intro i hi
            simp at hi
            subst hi
            simp [wpOp, go_sem]
            refine .inl ?_
            refine (c2 _ hRd.out.rd).mono ?_
            rintro e w2 ⟨t2, ht, v2, rfl, hov, h2, g2⟩
            obtain ⟨ao2, cap2, hv2, -⟩ := pairs_of_owns hov
            rw [List.length_map] at hv2
            subst hv2
            dsimp only at hov ht
            unfold tokVal
            have hR2 := hRd.out.on h2 g2
            have m1 := hR2.cT
            have hk1 := World.block_lt_of_cell? w2 _ m1
            dsimp only at hk1
            have hk2 : ¬ w.heap.size = w2.heap.size := by omega
            have hrow := World.ownsRow.alloc hR2.row (.cells #[.int .i64 (k.kind : Int), .string ⟨k.name.toArray⟩, .slice ao2 k.attrs.length cap2, .bool k.alone, .string ⟨k.data.toArray⟩] 41)
            have m1a : (w2.alloc (.cells #[.int .i64 (k.kind : Int), .string ⟨k.name.toArray⟩, .slice ao2 k.attrs.length cap2, .bool k.alone, .string ⟨k.data.toArray⟩] 41)).cell? ⟨w.heap.size, 0, none⟩ = some (.slice ao L.length cap) := (hR2.grow ((Below.refl _ _).alloc (Nat.le_refl _) (.cells #[.int .i64 (k.kind : Int), .string ⟨k.name.toArray⟩, .slice ao2 k.attrs.length cap2, .bool k.alone, .string ⟨k.data.toArray⟩] 41))).cT
            have hz5 : w.heap.size ≤ (w2.alloc (.cells #[.int .i64 (k.kind : Int), .string ⟨k.name.toArray⟩, .slice ao2 k.attrs.length cap2, .bool k.alone, .string ⟨k.data.toArray⟩] 41)).heap.size := by simp; omega
            replace hR2 := Lib.hid hR2
            simp only []
            refine wpAny_all (rs := [2]) (by kernel_rfl) (by simp) ?_
            intro i hi
            simp at hi
            subst hi
            simp [wpOp, go_sem]
            refine .inl ?_
            refine wpAny_all (rs := [3]) (by kernel_rfl) (by simp) ?_
            intro i hi
            simp at hi
            subst hi
            refine wpOp_is (by rfl) (by rfl) ?_
            refine wp_append_lies _ _ _ 33 (by rfl) w.heap.size 41 i0 _ 5 72 Tryz.underlying33 hi0 hz0 hz1 hz2 rfl (by decide) (.slice ao L.length cap) L.length (rowCells L) (by rfl) hrow ⟨w2.heap.size, 0, none⟩ 1 1 [.int .i64 (k.kind : Int), .string ⟨k.name.toArray⟩, .slice ao2 k.attrs.length cap2, .bool k.alone, .string ⟨k.data.toArray⟩] (by rfl) (by rfl) (cells_five _ _ _ _ _ _ _) (fun u hu => by simp at hu; rcases hu with rfl | rfl | rfl | rfl | rfl <;> rfl) (by omega) hq1 hq2 hz5 (w2.heap.size + 1) (by simp) ?_
            intro gg cap5 w5 hown5 hgrow _ _
            have hga := (World.grownBy_alloc w2 _ _).trans hgrow
            have hn5 := (hga.block _ (Array.getElem?_eq_some_iff.1 hR2.out.told).1 (some_ne (own_apart hR2.out.row hR2.out.told (by intro cs fr e; cases e)))).trans hR2.out.told
            have m5 : w5.cell? ⟨w.heap.size, 0, none⟩ = some (.slice ao L.length cap) := by unfold World.cell?; rw [hn5]; rfl
            have f5 : w5.frozen? ⟨w.heap.size, 0, none⟩ = false := by simp [World.frozen?, hn5]
            have hfin := hRd.out.more h2 g2 hov hga hown5
            have hfl := hfin.rd.left
            replace hfin := Lib.hid hfin
            clear hown5 hgrow hga hn5
            refine wpAny_all (rs := [4]) (by kernel_rfl) (by simp) ?_
            intro i hi
            simp at hi
            subst hi
            simp [wpOp, go_sem, m5, f5]
            refine .inl ?_
            refine wpAny_done (by kernel_rfl) ?_ _
            try (go_wp2_with fail)
            go_roundw
            case rel => exact ⟨t2, L ++ [(k, _)], _, Lib.hid (by rw [List.map_append, ht]; exact hG2.out), by rw [List.length_append, List.length_singleton, ← list_len t2, ht, list_len]; omega, hfin⟩
            case measure => rw [hfl, hleft, ← list_len t2, ht, list_len]; omega
          · simp [wpOp, go_sem]
            refine .inl ?_
            refine (c2 _ hRd.out.rd).mono ?_
            rintro e w2 ⟨t2, ht, v2, rfl, hov, h2, g2⟩
            obtain ⟨ao2, cap2, hv2, -⟩ := pairs_of_owns hov
            rw [List.length_map] at hv2
            subst hv2
            dsimp only at hov ht
            unfold tokVal
            have hR2 := hRd.out.on h2 g2
            have m1 := hR2.cT
            have hk1 := World.block_lt_of_cell? w2 _ m1
            dsimp only at hk1
            have hk2 : ¬ w.heap.size = w2.heap.size := by omega
            have hrow := World.ownsRow.alloc hR2.row (.cells #[.int .i64 (k.kind : Int), .string ⟨k.name.toArray⟩, .slice ao2 k.attrs.length cap2, .bool k.alone, .string ⟨k.data.toArray⟩] 41)
            have m1a : (w2.alloc (.cells #[.int .i64 (k.kind : Int), .string ⟨k.name.toArray⟩, .slice ao2 k.attrs.length cap2, .bool k.alone, .string ⟨k.data.toArray⟩] 41)).cell? ⟨w.heap.size, 0, none⟩ = some (.slice ao L.length cap) := (hR2.grow ((Below.refl _ _).alloc (Nat.le_refl _) (.cells #[.int .i64 (k.kind : Int), .string ⟨k.name.toArray⟩, .slice ao2 k.attrs.length cap2, .bool k.alone, .string ⟨k.data.toArray⟩] 41))).cT
            have hz5 : w.heap.size ≤ (w2.alloc (.cells #[.int .i64 (k.kind : Int), .string ⟨k.name.toArray⟩, .slice ao2 k.attrs.length cap2, .bool k.alone, .string ⟨k.data.toArray⟩] 41)).heap.size := by simp; omega
            replace hR2 := Lib.hid hR2
            simp only []
            refine wpAny_all (rs := [0, 2]) (by kernel_rfl) (by simp) ?_
            intro i hi
            simp at hi
            rcases hi with rfl | rfl
            · simp [wpOp, go_sem, m1]
              refine .inl ?_
              refine wpAny_all (rs := [2]) (by kernel_rfl) (by simp) ?_
              intro i hi
              simp at hi
              subst hi
              simp [wpOp, go_sem]
              refine .inl ?_
              refine wpAny_all (rs := [3]) (by kernel_rfl) (by simp) ?_
              intro i hi
              simp at hi
              subst hi
              refine wpOp_is (by rfl) (by rfl) ?_
              refine wp_append_lies _ _ _ 33 (by rfl) w.heap.size 41 i0 _ 5 72 Tryz.underlying33 hi0 hz0 hz1 hz2 rfl (by decide) (.slice ao L.length cap) L.length (rowCells L) (by rfl) hrow ⟨w2.heap.size, 0, none⟩ 1 1 [.int .i64 (k.kind : Int), .string ⟨k.name.toArray⟩, .slice ao2 k.attrs.length cap2, .bool k.alone, .string ⟨k.data.toArray⟩] (by rfl) (by rfl) (cells_five _ _ _ _ _ _ _) (fun u hu => by simp at hu; rcases hu with rfl | rfl | rfl | rfl | rfl <;> rfl) (by omega) hq1 hq2 hz5 (w2.heap.size + 1) (by simp) ?_
              intro gg cap5 w5 hown5 hgrow _ _
              have hga := (World.grownBy_alloc w2 _ _).trans hgrow
              have hn5 := (hga.block _ (Array.getElem?_eq_some_iff.1 hR2.out.told).1 (some_ne (own_apart hR2.out.row hR2.out.told (by intro cs fr e; cases e)))).trans hR2.out.told
              have m5 : w5.cell? ⟨w.heap.size, 0, none⟩ = some (.slice ao L.length cap) := by unfold World.cell?; rw [hn5]; rfl
              have f5 : w5.frozen? ⟨w.heap.size, 0, none⟩ = false := by simp [World.frozen?, hn5]
              have hfin := hRd.out.more h2 g2 hov hga hown5
              have hfl := hfin.rd.left
              replace hfin := Lib.hid hfin
              clear hown5 hgrow hga hn5
              refine wpAny_all (rs := [4]) (by kernel_rfl) (by simp) ?_
              intro i hi
              simp at hi
              subst hi
              simp [wpOp, go_sem, m5, f5]
              refine .inl ?_
              refine wpAny_done (by kernel_rfl) ?_ _
              try (go_wp2_with fail)
              go_roundw
              case rel => exact ⟨t2, L ++ [(k, _)], _, Lib.hid (by rw [List.map_append, ht]; exact hG2.out), by rw [List.length_append, List.length_singleton, ← list_len t2, ht, list_len]; omega, hfin⟩
              case measure => rw [hfl, hleft, ← list_len t2, ht, list_len]; omega
            · simp [wpOp, go_sem]
              refine .inl ?_
              refine wpAny_all (rs := [0]) (by kernel_rfl) (by simp) ?_
              intro i hi
              simp at hi
              subst hi
              simp [wpOp, go_sem]
              rw [m1a]
              simp
              refine .inl ?_
              refine wpAny_all (rs := [3]) (by kernel_rfl) (by simp) ?_
              intro i hi
              simp at hi
              subst hi
              refine wpOp_is (by rfl) (by rfl) ?_
              refine wp_append_lies _ _ _ 33 (by rfl) w.heap.size 41 i0 _ 5 72 Tryz.underlying33 hi0 hz0 hz1 hz2 rfl (by decide) (.slice ao L.length cap) L.length (rowCells L) (by rfl) hrow ⟨w2.heap.size, 0, none⟩ 1 1 [.int .i64 (k.kind : Int), .string ⟨k.name.toArray⟩, .slice ao2 k.attrs.length cap2, .bool k.alone, .string ⟨k.data.toArray⟩] (by rfl) (by rfl) (cells_five _ _ _ _ _ _ _) (fun u hu => by simp at hu; rcases hu with rfl | rfl | rfl | rfl | rfl <;> rfl) (by omega) hq1 hq2 hz5 (w2.heap.size + 1) (by simp) ?_
              intro gg cap5 w5 hown5 hgrow _ _
              have hga := (World.grownBy_alloc w2 _ _).trans hgrow
              have hn5 := (hga.block _ (Array.getElem?_eq_some_iff.1 hR2.out.told).1 (some_ne (own_apart hR2.out.row hR2.out.told (by intro cs fr e; cases e)))).trans hR2.out.told
              have m5 : w5.cell? ⟨w.heap.size, 0, none⟩ = some (.slice ao L.length cap) := by unfold World.cell?; rw [hn5]; rfl
              have f5 : w5.frozen? ⟨w.heap.size, 0, none⟩ = false := by simp [World.frozen?, hn5]
              have hfin := hRd.out.more h2 g2 hov hga hown5
              have hfl := hfin.rd.left
              replace hfin := Lib.hid hfin
              clear hown5 hgrow hga hn5
              refine wpAny_all (rs := [4]) (by kernel_rfl) (by simp) ?_
              intro i hi
              simp at hi
              subst hi
              simp [wpOp, go_sem, m5, f5]
              refine .inl ?_
              refine wpAny_done (by kernel_rfl) ?_ _
              try (go_wp2_with fail)
              go_roundw
              case rel => exact ⟨t2, L ++ [(k, _)], _, Lib.hid (by rw [List.map_append, ht]; exact hG2.out), by rw [List.length_append, List.length_singleton, ← list_len t2, ht, list_len]; omega, hfin⟩
              case measure => rw [hfl, hleft, ← list_len t2, ht, list_len]; omega
end Go.Proofs.YtcjlhdmekhifaaaGreatDoor
