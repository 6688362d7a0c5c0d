/-
  The calendar, in plain Lean: days from the first of January 1970 by a closed form; they rise with year, month and day; each day is one of them.
-/
import Derived.Lib.Hide
namespace Go.Proofs.YtdkephbfehlodaaDoor
namespace D

def leap (y : Int) : Bool := decide (y % 4 = 0) && (decide (y % 100 ≠ 0) || decide (y % 400 = 0))
def lp (y : Int) : Int := if leap y = true then 1 else 0
def mlen (y m : Int) : Int := if m = 4 ∨ m = 6 ∨ m = 9 ∨ m = 11 then 30 else if m = 2 then 28 + lp y else 31
def yd (y : Int) : Int := 365 * (y - 1970) + ((y - 1) / 4 - (y - 1) / 100 + (y - 1) / 400) - 477
def md0 (m : Int) : Int :=
  if m ≤ 1 then 0 else if m = 2 then 31 else if m = 3 then 59 else if m = 4 then 90 else if m = 5 then 120 else if m = 6 then 151 else if m = 7 then 181 else if m = 8 then 212 else if m = 9 then 243
  else if m = 10 then 273 else if m = 11 then 304 else 334
def md (y m : Int) : Int := md0 m + (if 2 < m then lp y else 0)
def days (y m d : Int) : Int := yd y + md y m + d - 1

theorem lp_01 (y : Int) : 0 ≤ lp y ∧ lp y ≤ 1 := by unfold lp; split <;> omega

theorem yd_succ (y : Int) : yd (y + 1) = yd y + 365 + lp y := by
  unfold yd lp leap
  simp only [Bool.and_eq_true, Bool.or_eq_true, decide_eq_true_eq]
  split <;> omega

theorem yd_400 (y : Int) : yd (y + 400) = yd y + 146097 := by unfold yd; omega

theorem yd_1970 : yd 1970 = 0 := by decide

theorem yd_mono {y z : Int} (h : y < z) : yd y + 365 + lp y ≤ yd z := by
  obtain ⟨n, rfl⟩ : ∃ n : Nat, z = y + 1 + n := ⟨(z - y - 1).toNat, by omega⟩
  rw [← yd_succ]
  clear h
  induction n with
  | zero => simp
  | succ n ih =>
    have := yd_succ (y + 1 + n)
    have h0 := lp_01 (y + 1 + n)
    have e : y + 1 + ((n + 1 : Nat) : Int) = y + 1 + n + 1 := by omega
    rw [e]; omega

theorem md_succ (y m : Int) (h1 : 1 ≤ m) (h2 : m < 12) : md y (m + 1) = md y m + mlen y m := by
  have : m = 1 ∨ m = 2 ∨ m = 3 ∨ m = 4 ∨ m = 5 ∨ m = 6 ∨ m = 7 ∨ m = 8 ∨ m = 9 ∨ m = 10 ∨ m = 11 := by omega
  rcases this with rfl | rfl | rfl | rfl | rfl | rfl | rfl | rfl | rfl | rfl | rfl <;> simp [md, md0, mlen] <;> omega

theorem md_12 (y : Int) : md y 12 + mlen y 12 = 365 + lp y := by simp [md, md0, mlen]; omega
theorem md_1 (y : Int) : md y 1 = 0 := by simp [md, md0]
theorem mlen_le (y m : Int) : 28 ≤ mlen y m ∧ mlen y m ≤ 31 := by
  have := lp_01 y
  unfold mlen
  repeat' split
  all_goals omega

theorem md_mono (y : Int) {m k : Int} (h1 : 1 ≤ m) (h : m < k) (h2 : k ≤ 12) : md y m + mlen y m ≤ md y k := by
  obtain ⟨n, rfl⟩ : ∃ n : Nat, k = m + 1 + n := ⟨(k - m - 1).toNat, by omega⟩
  rw [← md_succ y m h1 (by omega)]
  clear h
  induction n with
  | zero => simp
  | succ n ih =>
    have := md_succ y (m + 1 + n) (by omega) (by omega)
    have h0 := mlen_le y (m + 1 + n)
    have e : m + 1 + ((n + 1 : Nat) : Int) = m + 1 + n + 1 := by omega
    rw [e]
    have := ih (by omega)
    omega

theorem md_nonneg (y : Int) {m : Int} (h1 : 1 ≤ m) (h2 : m ≤ 12) : 0 ≤ md y m := by
  by_cases h : m = 1
  · rw [h, md_1]; omega
  · have := md_mono y (m := 1) (k := m) (by omega) (by omega) h2
    have := mlen_le y 1
    rw [md_1] at *; omega

theorem md_end (y : Int) {m : Int} (h1 : 1 ≤ m) (h2 : m ≤ 12) : md y m + mlen y m ≤ 365 + lp y := by
  by_cases h : m = 12
  · rw [h, md_12]; omega
  · have := md_mono y (m := m) (k := 12) h1 (by omega) (by omega)
    have := md_12 y
    have := mlen_le y 12
    omega

/-- A day of the calendar. -/
structure Day (y m d : Int) : Prop where
  m1 : 1 ≤ m
  m12 : m ≤ 12
  d1 : 1 ≤ d
  dl : d ≤ mlen y m

theorem Day.bounds {y m d : Int} (h : Day y m d) : yd y ≤ days y m d ∧ days y m d < yd (y + 1) := by
  have := md_nonneg y h.m1 h.m12
  have := md_end y h.m1 h.m12
  rw [yd_succ]
  have := h.d1
  have := h.dl
  unfold days
  omega

theorem Day.lt {y m d y' m' d' : Int} (h : Day y m d) (h' : Day y' m' d') (hl : y < y' ∨ y = y' ∧ (m < m' ∨ m = m' ∧ d < d')) : days y m d < days y' m' d' := by
  rcases hl with hl | ⟨rfl, hl | ⟨rfl, hl⟩⟩
  · have a := h.bounds
    have b := h'.bounds
    have c := yd_mono hl
    rw [yd_succ] at a
    omega
  · have a := md_mono y h.m1 hl h'.m12
    have b := h.dl
    have c := h'.d1
    unfold days
    omega
  · unfold days; omega

theorem Day.inj {y m d y' m' d' : Int} (h : Day y m d) (h' : Day y' m' d') (e : days y m d = days y' m' d') : y = y' ∧ m = m' ∧ d = d' := by
  have a := fun hl => h.lt h' hl
  have b := fun hl => h'.lt h hl
  by_cases h1 : y = y'
  · subst h1
    by_cases h2 : m = m'
    · subst h2
      refine ⟨rfl, rfl, ?_⟩
      rcases Int.lt_trichotomy d d' with hd | hd | hd
      · have := a (.inr ⟨rfl, .inr ⟨rfl, hd⟩⟩); omega
      · exact hd
      · have := b (.inr ⟨rfl, .inr ⟨rfl, hd⟩⟩); omega
    · rcases Int.lt_trichotomy m m' with hd | hd | hd
      · have := a (.inr ⟨rfl, .inl hd⟩); omega
      · exact absurd hd h2
      · have := b (.inr ⟨rfl, .inl hd⟩); omega
  · rcases Int.lt_trichotomy y y' with hd | hd | hd
    · have := a (.inl hd); omega
    · exact absurd hd h1
    · have := b (.inl hd); omega

/-- The year of a day. -/
theorem year_ex (day : Int) : ∃ y, yd y ≤ day ∧ day < yd (y + 1) := by
  suffices H : ∀ (n : Nat) (y : Int), yd y ≤ day → day - yd y < n → ∃ y, yd y ≤ day ∧ day < yd (y + 1) by
    have key : ∃ y, yd y ≤ day := ⟨1970 + 400 * (day / 146097), by
      have : yd (1970 + 400 * (day / 146097)) = 146097 * (day / 146097) := by unfold yd; omega
      rw [this]; omega⟩
    obtain ⟨y, hy⟩ := key
    exact H (day - yd y + 1).toNat y hy (by omega)
  intro n
  induction n with
  | zero => intro y h1 h2; omega
  | succ n ih =>
    intro y h1 h2
    by_cases h : day < yd (y + 1)
    · exact ⟨y, h1, h⟩
    · have := yd_succ y
      have := lp_01 y
      exact ih (y + 1) (by omega) (by omega)

theorem day_ex (day : Int) : ∃ y m d, Day y m d ∧ days y m d = day := by
  obtain ⟨y, h1, h2⟩ := year_ex day
  rw [yd_succ] at h2
  have step : ∀ n : Nat, n ≤ 11 → day - yd y < md y (n + 1) + mlen y (n + 1) → ∃ m, 1 ≤ m ∧ m ≤ 12 ∧ md y m ≤ day - yd y ∧ day - yd y < md y m + mlen y m := by
    intro n
    induction n with
    | zero => intro _ h; exact ⟨1, by omega, by omega, by rw [md_1]; omega, by simpa using h⟩
    | succ n ih =>
      intro hn h
      have e : ((n + 1 : Nat) : Int) + 1 = (n : Int) + 1 + 1 := by omega
      rw [e] at h
      by_cases hd : md y (n + 1 + 1) ≤ day - yd y
      · exact ⟨n + 1 + 1, by omega, by omega, hd, h⟩
      · rw [md_succ y (n + 1) (by omega) (by omega)] at hd
        exact ih (by omega) (by omega)
  obtain ⟨m, m1, m12, ha, hb⟩ := step 11 (Nat.le_refl _) (by
    have := md_12 y
    show day - yd y < md y 12 + mlen y 12
    omega)
  exact ⟨y, m, day - yd y - md y m + 1, ⟨m1, m12, by omega, by omega⟩, by unfold days; omega⟩
end D
end Go.Proofs.YtdkephbfehlodaaDoor
