/-
  The program's contracts, gathered.
  The statements' walks: have, awake.
-/
import Derived.Test.YtpgdmoaegnehbaaGreatDoorProgBest
namespace Go.Proofs.YtpgdmoaegnehbaaGreatDoor
open Go.RowKit

namespace Ql
/-- Some types. -/
def haves : List Md.Med := [⟨⟨#[116, 101, 120, 116]⟩, ⟨#[112, 108, 97, 105, 110]⟩, []⟩, ⟨⟨#[116, 101, 120, 116]⟩, ⟨#[104, 116, 109, 108]⟩, []⟩, ⟨⟨#[105, 109, 97, 103, 101]⟩, ⟨#[112, 110, 103]⟩, []⟩,
  ⟨⟨#[97, 112, 112, 108, 105, 99, 97, 116, 105, 111, 110]⟩, ⟨#[97, 116, 111, 109, 43, 120, 109, 108]⟩, [⟨⟨#[116, 121, 112, 101]⟩, ⟨#[101, 110, 116, 114, 121]⟩⟩]⟩]
theorem haves_small : (∀ m ∈ haves, m.params.length ≤ 100000) ∧ ∀ m ∈ haves, ∀ p ∈ m.params, p.value.size ≤ 100000 := by decide
theorem haves_two : (∀ m ∈ haves.take 2, m.params.length ≤ 100000) ∧ ∀ m ∈ haves.take 2, ∀ p ∈ m.params, p.value.size ≤ 100000 := by decide
theorem haves_best : best [116, 101, 120, 116, 47, 42, 59, 113, 61, 48, 46, 53, 44, 32, 116, 101, 120, 116, 47, 104, 116, 109, 108, 44, 32, 42, 47, 42, 59, 113, 61, 48, 46, 49] (haves.take 2) = (1, 1000) := by decide +kernel
theorem weight_none : weight [49, 46, 53] = none := by decide +kernel
theorem weight_half : weight [48, 46, 53] = some 500 := by decide +kernel
end Ql
theorem MedsIn.take {w : World} {ao : Option Addr} {L : List Md.Med} (h : MedsIn w ao L) (n : Nat) : MedsIn w ao (L.take n) := by
  intro j hj
  have hj' : j < L.length := by simp at hj; omega
  obtain ⟨b, off, po, pc, e, c0, c1, c2, hp⟩ := h j hj'
  rw [List.getElem_take]
  exact ⟨b, off, po, pc, e, c0, c1, c2, hp⟩

set_option maxRecDepth 100000 in
set_option maxHeartbeats 12800000 in
theorem have_any (w : World) : Calls Tryz.prog 9 #[] w fun e w' => (∃ ao, e = .returned (.slice ao 4 4) ∧ MedsIn w' ao Ql.haves) ∧ Below w.heap.size w w' := by
  have b1 := (Below.refl w.heap.size w).alloc (Nat.le_refl _) (.cells #[.string ⟨#[116, 121, 112, 101]⟩, .string ⟨#[101, 110, 116, 114, 121]⟩] 50)
  have b2 := fun o => b1.alloc b1.size o
  go_enter Tryz.func9, Tryz.ntmps9
  go_wp2_with fail
  go_ret
  refine ⟨⟨_, rfl, ?_⟩, b2 _⟩
  clear b1 b2
  have k := fun (X : Array Value) (j : Nat) (u : Value) (hu : X.toList[j]? = some u) => cells_row (w.alloc (.cells #[.string ⟨#[116, 121, 112, 101]⟩, .string ⟨#[101, 110, 116, 114, 121]⟩] 50)) X.toList 40 j u hu
  have hp : ∀ o, PairsIn ((w.alloc (.cells #[.string ⟨#[116, 121, 112, 101]⟩, .string ⟨#[101, 110, 116, 114, 121]⟩] 50)).alloc o) (some ⟨w.heap.size, 0, none⟩) [⟨⟨#[116, 121, 112, 101]⟩, ⟨#[101, 110, 116, 114, 121]⟩⟩] := by
    intro o
    refine PairsIn.below ?_ ((Below.refl _ _).alloc (Nat.le_refl _) o)
    intro j hj
    obtain rfl : j = 0 := by simp at hj; exact hj
    have h := fun j u hu => cells_row w [.string ⟨#[116, 121, 112, 101]⟩, .string ⟨#[101, 110, 116, 114, 121]⟩] 50 j u hu
    simp only [add_at] at h
    exact ⟨w.heap.size, 0, rfl, h 0 _ rfl, h 1 _ rfl⟩
  simp only [add_at, World.size_alloc, Nat.zero_add] at k
  intro j hj
  have hj' : j < 4 := hj
  match j, hj' with
  | 0, _ => exact ⟨w.heap.size + 1, 0, none, 0, rfl, k _ 0 _ rfl, k _ 1 _ rfl, k _ 2 _ rfl, fun i hi => by simp [Ql.haves] at hi⟩
  | 1, _ => exact ⟨w.heap.size + 1, 0, none, 0, rfl, k _ 3 _ rfl, k _ 4 _ rfl, k _ 5 _ rfl, fun i hi => by simp [Ql.haves] at hi⟩
  | 2, _ => exact ⟨w.heap.size + 1, 0, none, 0, rfl, k _ 6 _ rfl, k _ 7 _ rfl, k _ 8 _ rfl, fun i hi => by simp [Ql.haves] at hi⟩
  | 3, _ => exact ⟨w.heap.size + 1, 0, some ⟨w.heap.size, 0, none⟩, 1, rfl, k _ 9 _ rfl, k _ 10 _ rfl, k _ 11 _ rfl, hp _⟩

set_option maxRecDepth 100000 in
set_option maxHeartbeats 12800000 in
theorem awake_any (w : World) (hE : Env w) : Calls Tryz.prog 6 #[] w fun e w' => e = .returned (.bool true) ∧ Below w.heap.size w w' := by
  have hh := Lib.hid (have_any w)
  go_enter Tryz.func6, Tryz.ntmps6
  go_wp2_with fail
  (with_reducible refine (hh.out).mono ?_); rintro e w1 ⟨⟨ao, rfl, hm⟩, b1⟩
  go_wp2_with fail
  have hq : Calls Tryz.prog 7 #[.string ⟨#[116, 101, 120, 116, 47, 42, 59, 113, 61, 48, 46, 53, 44, 32, 116, 101, 120, 116, 47, 104, 116, 109, 108, 44, 32, 42, 47, 42, 59, 113, 61, 48, 46, 49]⟩, .slice ao 2 4] w1 fun e w' => e = .returned (.tuple #[.int .i64 1, .float .f64 (Fl.W 1000)]) ∧ Below w1.heap.size w1 w' := by
    have := qBest_any (cap := 4) ⟨#[116, 101, 120, 116, 47, 42, 59, 113, 61, 48, 46, 53, 44, 32, 116, 101, 120, 116, 47, 104, 116, 109, 108, 44, 32, 42, 47, 42, 59, 113, 61, 48, 46, 49]⟩ (Ql.haves.take 2) w1 (by decide) (hm.take 2) (by decide) Ql.haves_two.1 Ql.haves_two.2 (hE.on b1)
    rw [show Ql.best _ (Ql.haves.take 2) = (1, 1000) from Ql.haves_best] at this
    exact this
  (refine hq.mono ?_); rintro e w2 ⟨rfl, b2⟩
  have x2 := Lib.hid (b1.trans (b2.mono b1.size))
  clear hq hm b1 b2 hh
  go_wp2_with fail
  (with_reducible refine (qWeight_any _ _ (by decide) (hE.on x2.out)).mono ?_); rintro e w3 ⟨x, rfl, hx, b3⟩
  have e1 := Ql.weight_none
  rw [e1] at hx
  have hn : Fl.nan x = true := hx
  have x3 := Lib.hid (x2.out.trans (b3.mono x2.out.size))
  have g1 : (FloatKind.f64.format.order (Fl.W 1000) 4607182418800017408 == some .eq) = true := by rw [Fl.W_one]; decide +kernel
  have g2 : (FloatKind.f64.format.order x x != some .eq) = true := by rw [Fl.ord_ne, hn]; rfl
  have g3 : (FloatKind.f64.format.order (Fl.W 500) 4602678819172646912 == some .eq) = true := by rw [Fl.W_half]; decide +kernel
  have g4 : (FloatKind.f64.format.order 0 0 == some .eq) = true := by decide +kernel
  have g5 : Fl.clamp x = 0 := by unfold Fl.clamp; rw [hn]; rfl
  clear e1 hx x2 b3
  go_wp2_with fail
  (with_reducible refine (qWeight_any _ _ (by decide) (hE.on x3.out)).mono ?_); rintro e w4 ⟨y, rfl, hy, b4⟩
  rw [show Ql.weight _ = some 500 from Ql.weight_half] at hy
  obtain rfl : y = Fl.W 500 := hy
  have x4 := Lib.hid (x3.out.trans (b4.mono x3.out.size))
  clear x3 b4
  go_wp2_with fail
  (with_reducible refine (qClamp_any x _ (hE.on x4.out)).mono ?_); rintro e w5 ⟨rfl, b5⟩
  rw [g5]
  have x5 := Lib.hid (x4.out.trans (b5.mono x4.out.size))
  clear x4 b5
  go_wp2_with fail
  go_ret
  exact ⟨rfl, x5.out⟩

theorem same_self {o : Option Nat} {x y : Nat} (hx : Ql.IsW o x) (hy : Ql.IsW o y) : Fl.same x y = true := by
  cases o with
  | none =>
    have h1 : Fl.nan x = true := hx
    have h2 : Fl.nan y = true := hy
    unfold Fl.same; simp [h1, h2]
  | some n =>
    have h1 : x = Fl.W n := hx
    have h2 : y = Fl.W n := hy
    subst h1; subst h2
    unfold Fl.same
    cases Fl.nan (Fl.W n) <;> simp
theorem same_refl (x : Nat) : Fl.same x x = true := by
  unfold Fl.same
  cases Fl.nan x <;> simp

end Go.Proofs.YtpgdmoaegnehbaaGreatDoor
