/-
  The deferred call that recovers: what it makes of a call that returns, and of one in which the error was thrown.
-/
import Derived.Test.YtmeliljioagipaaGreatDoorProgFirst
import Derived.Test.YtmeliljioagipaaGreatDoorDrawS
import Derived.Defers
namespace Go.Proofs.YtmeliljioagipaaGreatDoor
open Go.RowKit Go.Extern.Stop Go.Stop Go.Extern

set_option maxRecDepth 100000 in
theorem outcome_nil (s : ByteArray) (w : World) :
    Calls Tryz.prog 85 #[.nilIface, .string s] w fun e w' => e = .returned (.tuple #[.string s, .int .i64 0]) ∧ w = w' := by
  go_enter Tryz.func85, Tryz.ntmps85
  go_wp2
  go_ret2
  exact ⟨rfl, rfl⟩

theorem hasError (v : Value) (xT : TypeId) (w : World) : (Instr.typeAssert (.iface 161 v) xT 80 true).run Tryz.prog w = .ok (.tuple #[.iface 161 v, .bool true]) w := run_typeAssert_hasB Tryz.underlying80 (by kernel_rfl) v xT w

set_option maxRecDepth 100000 in
theorem outcome_err (s : ByteArray) (a : Addr) (w : World) (hv : w.cell? ⟨6, 0, none⟩ = some (.iface 161 (.pointer (some a)))) :
    Calls Tryz.prog 85 #[.iface 161 (.pointer (some a)), .string s] w fun e w' => e = .returned (.tuple #[.string ⟨#[]⟩, .int .i64 60]) ∧ w = w' := by
  have hE := hasError
  go_enter Tryz.func85, Tryz.ntmps85
  go_wp2_with fail
  (with_reducible refine (is_same a _).mono ?_)
  rintro e w' ⟨rfl, rfl⟩
  go_wp2
  go_ret2
  exact ⟨rfl, rfl⟩

theorem mixedOrders : Tryz.prog.follows .mixedOrders = true := by kernel_rfl

set_option maxRecDepth 100000 in
set_option maxHeartbeats 6400000 in
/-- The call returned: what it told stays. -/
theorem catch_idle (p q : Nat) (s : ByteArray) (w : World) (hqp : q ≠ p) (hc : w.cell? ⟨p, 0, none⟩ = some (.string s)) (m : Int) (hd : w.cell? ⟨q, 0, none⟩ = some (.int .i64 m)) (hf : w.frozen? ⟨p, 0, none⟩ = false) (hg : w.frozen? ⟨q, 0, none⟩ = false) :
    CallsD Tryz.prog 84 #[.pointer (some ⟨p, 0, none⟩), .pointer (some ⟨q, 0, none⟩)] .returning w fun e u' w' =>
      e = .returned (.tuple #[]) ∧ u' = .returning ∧ w' = (w.drew.setCell ⟨p, 0, none⟩ (.string s)).setCell ⟨q, 0, none⟩ (.int .i64 0) := by
  refine callsD_of_wpS Tryz.func84 rfl fun c₀ cs hu => ?_
  apply wpS_region_any mixedOrders
  refine wpAnyS_ready (rs := [0, 1]) (by kernel_rfl) (by simp) ?_
  intro i hi
  simp at hi
  rcases hi with rfl | rfl
  · simp [wpOpS, go_sem, recoverD, hu, Tryz.ntmps84]
    refine wpAnyS_ready (rs := [1]) (by kernel_rfl) (by simp) ?_
    intro i hi
    simp at hi
    subst hi
    simp [wpOpS, go_sem, hc]
    refine wpAnyS_ready (rs := [2]) (by kernel_rfl) (by simp) ?_
    intro i hi
    simp at hi
    subst hi
    simp [wpOpS, go_sem]
    refine (outcome_nil s _).mono ?_
    rintro e w1 ⟨rfl, rfl⟩
    simp only []
    refine wpAnyS_ready (rs := [3]) (by kernel_rfl) (by simp) ?_
    intro i hi
    simp at hi
    subst hi
    simp [wpOpS, go_sem]
    refine wpAnyS_ready (rs := [4, 5]) (by kernel_rfl) (by simp) ?_
    intro i hi
    simp at hi
    rcases hi with rfl | rfl
    · simp [wpOpS, go_sem]
      refine wpAnyS_ready (rs := [5, 6]) (by kernel_rfl) (by simp) ?_
      intro i hi
      simp at hi
      rcases hi with rfl | rfl
      · simp [wpOpS, go_sem]
        refine wpAnyS_ready (rs := [6]) (by kernel_rfl) (by simp) ?_
        intro i hi
        simp at hi
        subst hi
        simp [wpOpS, go_sem, hf, hc]
        refine wpAnyS_ready (rs := [7]) (by kernel_rfl) (by simp) ?_
        intro i hi
        simp at hi
        subst hi
        simp [wpOpS, go_sem, hd, hg]
        refine wpAnyS_done (by kernel_rfl) ?_ _
        cases c₀
        simp_all [bodyPostS, results, Tryz.results84]
      · simp [wpOpS, go_sem, hf, hc]
        refine wpAnyS_ready (rs := [5]) (by kernel_rfl) (by simp) ?_
        intro i hi
        simp at hi
        subst hi
        simp [wpOpS, go_sem]
        refine wpAnyS_ready (rs := [7]) (by kernel_rfl) (by simp) ?_
        intro i hi
        simp at hi
        subst hi
        simp [wpOpS, go_sem, hd, hg]
        refine wpAnyS_done (by kernel_rfl) ?_ _
        cases c₀
        simp_all [bodyPostS, results, Tryz.results84]
    · simp [wpOpS, go_sem]
      refine wpAnyS_ready (rs := [4]) (by kernel_rfl) (by simp) ?_
      intro i hi
      simp at hi
      subst hi
      simp [wpOpS, go_sem]
      refine wpAnyS_ready (rs := [6]) (by kernel_rfl) (by simp) ?_
      intro i hi
      simp at hi
      subst hi
      simp [wpOpS, go_sem, hf, hc]
      refine wpAnyS_ready (rs := [7]) (by kernel_rfl) (by simp) ?_
      intro i hi
      simp at hi
      subst hi
      simp [wpOpS, go_sem, hd, hg]
      refine wpAnyS_done (by kernel_rfl) ?_ _
      cases c₀
      simp_all [bodyPostS, results, Tryz.results84]
  · simp [wpOpS, go_sem, Tryz.ntmps84, hc]
    refine wpAnyS_ready (rs := [0]) (by kernel_rfl) (by simp) ?_
    intro i hi
    simp at hi
    subst hi
    simp [wpOpS, go_sem, recoverD, hu]
    refine wpAnyS_ready (rs := [2]) (by kernel_rfl) (by simp) ?_
    intro i hi
    simp at hi
    subst hi
    simp [wpOpS, go_sem]
    refine (outcome_nil s _).mono ?_
    rintro e w1 ⟨rfl, rfl⟩
    simp only []
    refine wpAnyS_ready (rs := [3]) (by kernel_rfl) (by simp) ?_
    intro i hi
    simp at hi
    subst hi
    simp [wpOpS, go_sem]
    refine wpAnyS_ready (rs := [4, 5]) (by kernel_rfl) (by simp) ?_
    intro i hi
    simp at hi
    rcases hi with rfl | rfl
    · simp [wpOpS, go_sem]
      refine wpAnyS_ready (rs := [5, 6]) (by kernel_rfl) (by simp) ?_
      intro i hi
      simp at hi
      rcases hi with rfl | rfl
      · simp [wpOpS, go_sem]
        refine wpAnyS_ready (rs := [6]) (by kernel_rfl) (by simp) ?_
        intro i hi
        simp at hi
        subst hi
        simp [wpOpS, go_sem, hf, hc]
        refine wpAnyS_ready (rs := [7]) (by kernel_rfl) (by simp) ?_
        intro i hi
        simp at hi
        subst hi
        simp [wpOpS, go_sem, hd, hg]
        refine wpAnyS_done (by kernel_rfl) ?_ _
        cases c₀
        simp_all [bodyPostS, results, Tryz.results84]
      · simp [wpOpS, go_sem, hf, hc]
        refine wpAnyS_ready (rs := [5]) (by kernel_rfl) (by simp) ?_
        intro i hi
        simp at hi
        subst hi
        simp [wpOpS, go_sem]
        refine wpAnyS_ready (rs := [7]) (by kernel_rfl) (by simp) ?_
        intro i hi
        simp at hi
        subst hi
        simp [wpOpS, go_sem, hd, hg]
        refine wpAnyS_done (by kernel_rfl) ?_ _
        cases c₀
        simp_all [bodyPostS, results, Tryz.results84]
    · simp [wpOpS, go_sem]
      refine wpAnyS_ready (rs := [4]) (by kernel_rfl) (by simp) ?_
      intro i hi
      simp at hi
      subst hi
      simp [wpOpS, go_sem]
      refine wpAnyS_ready (rs := [6]) (by kernel_rfl) (by simp) ?_
      intro i hi
      simp at hi
      subst hi
      simp [wpOpS, go_sem, hf, hc]
      refine wpAnyS_ready (rs := [7]) (by kernel_rfl) (by simp) ?_
      intro i hi
      simp at hi
      subst hi
      simp [wpOpS, go_sem, hd, hg]
      refine wpAnyS_done (by kernel_rfl) ?_ _
      cases c₀
      simp_all [bodyPostS, results, Tryz.results84]

set_option maxRecDepth 100000 in
set_option maxHeartbeats 6400000 in
/-- The error was thrown: nothing is told. -/
theorem catch_thrown (p q : Nat) (s : ByteArray) (a : Addr) (w : World) (hqp : q ≠ p) (hc : w.cell? ⟨p, 0, none⟩ = some (.string s)) (m : Int) (hd : w.cell? ⟨q, 0, none⟩ = some (.int .i64 m)) (hf : w.frozen? ⟨p, 0, none⟩ = false) (hg : w.frozen? ⟨q, 0, none⟩ = false) (hv : w.cell? ⟨6, 0, none⟩ = some (.iface 161 (.pointer (some a)))) :
    CallsD Tryz.prog 84 #[.pointer (some ⟨p, 0, none⟩), .pointer (some ⟨q, 0, none⟩)] (.panicking (thrown a)) w fun e u' w' =>
      e = .returned (.tuple #[]) ∧ u' = (.panicking [{ v := .iface 161 (.pointer (some a)), recovered := true }]) ∧ w' = (w.drew.setCell ⟨p, 0, none⟩ (.string ⟨#[]⟩)).setCell ⟨q, 0, none⟩ (.int .i64 60) := by
  refine callsD_of_wpS Tryz.func84 rfl fun c₀ cs hu => ?_
  apply wpS_region_any mixedOrders
  refine wpAnyS_ready (rs := [0, 1]) (by kernel_rfl) (by simp) ?_
  intro i hi
  simp at hi
  rcases hi with rfl | rfl
  · simp [wpOpS, go_sem, recoverD, hu, Tryz.ntmps84, thrown]
    refine wpAnyS_ready (rs := [1]) (by kernel_rfl) (by simp) ?_
    intro i hi
    simp at hi
    subst hi
    simp [wpOpS, go_sem, hc]
    refine wpAnyS_ready (rs := [2]) (by kernel_rfl) (by simp) ?_
    intro i hi
    simp at hi
    subst hi
    simp [wpOpS, go_sem]
    refine (outcome_err s a _ (by exact hv)).mono ?_
    rintro e w1 ⟨rfl, rfl⟩
    simp only []
    refine wpAnyS_ready (rs := [3]) (by kernel_rfl) (by simp) ?_
    intro i hi
    simp at hi
    subst hi
    simp [wpOpS, go_sem]
    refine wpAnyS_ready (rs := [4, 5]) (by kernel_rfl) (by simp) ?_
    intro i hi
    simp at hi
    rcases hi with rfl | rfl
    · simp [wpOpS, go_sem]
      refine wpAnyS_ready (rs := [5, 6]) (by kernel_rfl) (by simp) ?_
      intro i hi
      simp at hi
      rcases hi with rfl | rfl
      · simp [wpOpS, go_sem]
        refine wpAnyS_ready (rs := [6]) (by kernel_rfl) (by simp) ?_
        intro i hi
        simp at hi
        subst hi
        simp [wpOpS, go_sem, hf, hc]
        refine wpAnyS_ready (rs := [7]) (by kernel_rfl) (by simp) ?_
        intro i hi
        simp at hi
        subst hi
        simp [wpOpS, go_sem, hd, hg]
        refine wpAnyS_done (by kernel_rfl) ?_ _
        cases c₀
        simp_all [bodyPostS, results, Tryz.results84]
      · simp [wpOpS, go_sem, hf, hc]
        refine wpAnyS_ready (rs := [5]) (by kernel_rfl) (by simp) ?_
        intro i hi
        simp at hi
        subst hi
        simp [wpOpS, go_sem]
        refine wpAnyS_ready (rs := [7]) (by kernel_rfl) (by simp) ?_
        intro i hi
        simp at hi
        subst hi
        simp [wpOpS, go_sem, hd, hg]
        refine wpAnyS_done (by kernel_rfl) ?_ _
        cases c₀
        simp_all [bodyPostS, results, Tryz.results84]
    · simp [wpOpS, go_sem]
      refine wpAnyS_ready (rs := [4]) (by kernel_rfl) (by simp) ?_
      intro i hi
      simp at hi
      subst hi
      simp [wpOpS, go_sem]
      refine wpAnyS_ready (rs := [6]) (by kernel_rfl) (by simp) ?_
      intro i hi
      simp at hi
      subst hi
      simp [wpOpS, go_sem, hf, hc]
      refine wpAnyS_ready (rs := [7]) (by kernel_rfl) (by simp) ?_
      intro i hi
      simp at hi
      subst hi
      simp [wpOpS, go_sem, hd, hg]
      refine wpAnyS_done (by kernel_rfl) ?_ _
      cases c₀
      simp_all [bodyPostS, results, Tryz.results84]
  · simp [wpOpS, go_sem, Tryz.ntmps84, hc]
    refine wpAnyS_ready (rs := [0]) (by kernel_rfl) (by simp) ?_
    intro i hi
    simp at hi
    subst hi
    simp [wpOpS, go_sem, recoverD, hu, thrown]
    refine wpAnyS_ready (rs := [2]) (by kernel_rfl) (by simp) ?_
    intro i hi
    simp at hi
    subst hi
    simp [wpOpS, go_sem]
    refine (outcome_err s a _ (by exact hv)).mono ?_
    rintro e w1 ⟨rfl, rfl⟩
    simp only []
    refine wpAnyS_ready (rs := [3]) (by kernel_rfl) (by simp) ?_
    intro i hi
    simp at hi
    subst hi
    simp [wpOpS, go_sem]
    refine wpAnyS_ready (rs := [4, 5]) (by kernel_rfl) (by simp) ?_
    intro i hi
    simp at hi
    rcases hi with rfl | rfl
    · simp [wpOpS, go_sem]
      refine wpAnyS_ready (rs := [5, 6]) (by kernel_rfl) (by simp) ?_
      intro i hi
      simp at hi
      rcases hi with rfl | rfl
      · simp [wpOpS, go_sem]
        refine wpAnyS_ready (rs := [6]) (by kernel_rfl) (by simp) ?_
        intro i hi
        simp at hi
        subst hi
        simp [wpOpS, go_sem, hf, hc]
        refine wpAnyS_ready (rs := [7]) (by kernel_rfl) (by simp) ?_
        intro i hi
        simp at hi
        subst hi
        simp [wpOpS, go_sem, hd, hg]
        refine wpAnyS_done (by kernel_rfl) ?_ _
        cases c₀
        simp_all [bodyPostS, results, Tryz.results84]
      · simp [wpOpS, go_sem, hf, hc]
        refine wpAnyS_ready (rs := [5]) (by kernel_rfl) (by simp) ?_
        intro i hi
        simp at hi
        subst hi
        simp [wpOpS, go_sem]
        refine wpAnyS_ready (rs := [7]) (by kernel_rfl) (by simp) ?_
        intro i hi
        simp at hi
        subst hi
        simp [wpOpS, go_sem, hd, hg]
        refine wpAnyS_done (by kernel_rfl) ?_ _
        cases c₀
        simp_all [bodyPostS, results, Tryz.results84]
    · simp [wpOpS, go_sem]
      refine wpAnyS_ready (rs := [4]) (by kernel_rfl) (by simp) ?_
      intro i hi
      simp at hi
      subst hi
      simp [wpOpS, go_sem]
      refine wpAnyS_ready (rs := [6]) (by kernel_rfl) (by simp) ?_
      intro i hi
      simp at hi
      subst hi
      simp [wpOpS, go_sem, hf, hc]
      refine wpAnyS_ready (rs := [7]) (by kernel_rfl) (by simp) ?_
      intro i hi
      simp at hi
      subst hi
      simp [wpOpS, go_sem, hd, hg]
      refine wpAnyS_done (by kernel_rfl) ?_ _
      cases c₀
      simp_all [bodyPostS, results, Tryz.results84]
end Go.Proofs.YtmeliljioagipaaGreatDoor
