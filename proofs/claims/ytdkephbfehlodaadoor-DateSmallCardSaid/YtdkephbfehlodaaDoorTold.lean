/-
  How a point of time is told, in plain Lean: digits of a fixed number, the day of a point of time, the text; what is told is read.
-/
import Derived.Test.YtdkephbfehlodaaDoorRefParse1
import Derived.Lib.ItoaNum
namespace Go.Proofs.YtdkephbfehlodaaDoor
open Go.RowKit

namespace D
/-! ### digits -/
def dig : Nat → Nat → List UInt8
  | 0, _ => []
  | k + 1, n => dig k (n / 10) ++ [UInt8.ofNat (48 + n % 10)]
theorem dig_length (k n : Nat) : (dig k n).length = k := by
  induction k generalizing n with
  | zero => rfl
  | succ k ih => rw [dig, List.length_append, ih]; rfl
theorem one_toNat (n : Nat) : (UInt8.ofNat (48 + n % 10)).toNat = 48 + n % 10 := by simp; omega
theorem dig_all (k n : Nat) : (dig k n).all dg = true := by
  induction k generalizing n with
  | zero => rfl
  | succ k ih =>
    rw [dig, List.all_append, ih]
    simp only [List.all_cons, List.all_nil, Bool.and_true, Bool.true_and, dg, one_toNat, decide_eq_true_eq]
    omega
theorem dv_dig (k n : Nat) (h : n < 10 ^ k) : dv (dig k n) = n := by
  induction k generalizing n with
  | zero => simp at h; subst h; rfl
  | succ k ih =>
    rw [dig, dv_snoc, ih _ (by rw [Nat.pow_succ] at h; omega), one_toNat]
    omega
theorem dig_zero (k : Nat) : dig k 0 = List.replicate k 48 := by
  induction k with
  | zero => rfl
  | succ k ih => rw [dig, Nat.zero_div, ih, List.replicate_succ']; rfl
theorem pad_dig (k n : Nat) (h : n < 10 ^ (k + 1)) : List.replicate (k + 1 - (Lib.decDigits n).length) 48 ++ Lib.decDigits n = dig (k + 1) n := by
  induction k generalizing n with
  | zero =>
    have h10 : n < 10 := by simpa using h
    rw [Lib.decDigits, dif_pos h10, dig, dig]
    simp
    rw [Nat.mod_eq_of_lt h10]
  | succ k ih =>
    by_cases h10 : n < 10
    · rw [Lib.decDigits, dif_pos h10, dig, Nat.div_eq_of_lt h10, dig_zero, Nat.mod_eq_of_lt h10]
      simp
    · rw [Lib.decDigits, dif_neg h10, dig, ← ih (n / 10) (by rw [Nat.pow_succ] at h; omega)]
      simp
theorem dec_length {k n : Nat} (h : n < 10 ^ (k + 1)) : (Lib.decDigits n).length ≤ k + 1 := by
  induction k generalizing n with
  | zero =>
    have h10 : n < 10 := by simpa using h
    rw [Lib.decDigits, dif_pos h10]; simp
  | succ k ih =>
    by_cases h10 : n < 10
    · rw [Lib.decDigits, dif_pos h10]; simp
    · rw [Lib.decDigits, dif_neg h10]
      have := ih (n := n / 10) (by rw [Nat.pow_succ] at h; omega)
      simp; omega

/-! ### the day of a point of time -/
def climb (f : Int → Int) (day : Int) : Nat → Int → Int
  | 0, y => y
  | n + 1, y => if f (y + 1) ≤ day then climb f day n (y + 1) else y
theorem climb_spec (f : Int → Int) (day : Int) (n : Nat) (y : Int) (h : f y ≤ day) : f (climb f day n y) ≤ day ∧ y ≤ climb f day n y ∧ climb f day n y ≤ y + n ∧ (climb f day n y < y + n → day < f (climb f day n y + 1)) := by
  induction n generalizing y with
  | zero => simp [climb]; exact h
  | succ n ih =>
    unfold climb
    split
    · rename_i h1
      have := ih (y + 1) h1
      omega
    · refine ⟨h, by omega, by omega, fun _ => by omega⟩
def yOf (day : Int) : Int := climb yd day 10000 0
def mOf (day : Int) : Int := climb (fun m => yd (yOf day) + md (yOf day) m) day 11 1
def dOf (day : Int) : Int := day - yd (yOf day) - md (yOf day) (mOf day) + 1
theorem yd_0 : yd 0 = -719528 := by decide
theorem yd_10000 : yd 10000 = 2932897 := by decide
theorem y_spec {day : Int} (h1 : -719528 ≤ day) (h2 : day < 2932897) : yd (yOf day) ≤ day ∧ day < yd (yOf day + 1) ∧ 0 ≤ yOf day ∧ yOf day ≤ 9999 := by
  have := climb_spec yd day 10000 0 (by rw [yd_0]; exact h1)
  have h3 : yOf day ≠ 10000 := by
    intro e
    have h4 : yd (yOf day) ≤ day := this.1
    rw [e, yd_10000] at h4; omega
  unfold yOf at h3 ⊢
  omega
theorem day_of {day : Int} (h1 : -719528 ≤ day) (h2 : day < 2932897) : Day (yOf day) (mOf day) (dOf day) ∧ days (yOf day) (mOf day) (dOf day) = day := by
  obtain ⟨a, b, c, d⟩ := y_spec h1 h2
  have hm := climb_spec (fun m => yd (yOf day) + md (yOf day) m) day 11 1 (by show yd (yOf day) + md (yOf day) 1 ≤ day; rw [md_1]; omega)
  have hm' : climb (fun m => yd (yOf day) + md (yOf day) m) day 11 1 = mOf day := rfl
  rw [hm'] at hm
  rw [yd_succ] at b
  have h12 := md_12 (yOf day)
  have hl := mlen_le (yOf day) (mOf day)
  have hd : day < yd (yOf day) + md (yOf day) (mOf day) + mlen (yOf day) (mOf day) := by
    by_cases h : mOf day = 12
    · rw [h]; omega
    · have := hm.2.2.2 (by omega)
      rw [md_succ (yOf day) (mOf day) (by omega) (by omega)] at this
      omega
  refine ⟨⟨by omega, by omega, ?_, ?_⟩, ?_⟩
  · unfold dOf; omega
  · unfold dOf; omega
  · unfold days dOf; omega

/-! ### the text -/
def strip (l : List UInt8) : List UInt8 := (l.reverse.dropWhile (fun b => decide (b = 48))).reverse
/-- the day, and the second of it. -/
def hms (r : Nat) : List UInt8 := dig 2 (r / 3600) ++ 58 :: (dig 2 (r / 60 % 60) ++ 58 :: dig 2 (r % 60))
def ymd (y m d : Nat) : List UInt8 := dig 4 y ++ 45 :: (dig 2 m ++ 45 :: dig 2 d)
def head (sec : Int) : List UInt8 := ymd (yOf (sec / 86400)).toNat (mOf (sec / 86400)).toNat (dOf (sec / 86400)).toNat ++ 84 :: hms (sec % 86400).toNat
def frac (nano : Int) : List UInt8 := if 0 < nano then 46 :: strip (dig 9 nano.toNat) else []
def okB (sec nano : Int) : Bool := decide (-62167219200 ≤ sec) && decide (sec ≤ 253402300799) && decide (0 ≤ nano) && decide (nano ≤ 999999999)
def text (sec nano : Int) : List UInt8 := if okB sec nano = true then head sec ++ (frac nano ++ [90]) else []
def textE (sec nano : Int) : Int := if okB sec nano = true then 0 else 110
theorem ok_iff {sec nano : Int} : okB sec nano = true ↔ (-62167219200 ≤ sec ∧ sec ≤ 253402300799 ∧ 0 ≤ nano ∧ nano ≤ 999999999) := by
  simp only [okB, Bool.and_eq_true, decide_eq_true_eq, and_assoc]

/-! ### what is told is read -/
theorem num_at (pre p post : List UInt8) (hp : p.all dg = true) {a n : Nat} (ha : pre.length = a) (hn : p.length = n) : num (pre ++ (p ++ post)) a n = (dv p : Int) := by
  subst ha; subst hn
  unfold num
  have e : ((pre ++ (p ++ post)).drop pre.length).take p.length = p := by simp
  rw [if_neg (by simp), e, if_pos hp]
theorem sign_at (pre post : List UInt8) (c : UInt8) {a : Nat} (ha : pre.length = a) : sign (pre ++ c :: post) a c = true := by
  subst ha
  unfold sign
  simp
theorem num_dig (pre post : List UInt8) {a k n : Nat} (ha : pre.length = a) (h : n < 10 ^ k) : num (pre ++ (dig k n ++ post)) a k = (n : Int) := by
  rw [num_at pre _ post (dig_all k n) ha (dig_length k n), dv_dig k n h]

theorem while_all (p post : List UInt8) (c : UInt8) (hp : p.all dg = true) (hc : dg c = false) : (p ++ c :: post).takeWhile dg = p := by
  induction p with
  | nil => rw [List.nil_append, List.takeWhile_cons_of_neg (by rw [hc]; simp)]
  | cons b p ih =>
    simp only [List.all_cons, Bool.and_eq_true] at hp
    rw [List.cons_append, List.takeWhile_cons_of_pos hp.1, ih hp.2]

theorem dv_zeros (l : List UInt8) (j : Nat) : dv (l ++ List.replicate j 48) = dv l * 10 ^ j := by
  induction j with
  | zero => simp
  | succ j ih => rw [List.replicate_succ', ← List.append_assoc, dv_snoc, ih, Nat.pow_succ]; simp [Nat.mul_assoc]

/-- noughts at the end are taken away, and no others. -/
theorem strip_spec (l : List UInt8) : ∃ j, l = strip l ++ List.replicate j 48 ∧ (strip l = [] ∨ ∃ q c, strip l = q ++ [c] ∧ c ≠ 48) := by
  suffices H : ∀ r : List UInt8, ∃ j, r = List.replicate j 48 ++ r.dropWhile (fun b => decide (b = 48)) ∧ (r.dropWhile (fun b => decide (b = 48)) = [] ∨ ∃ q c, r.dropWhile (fun b => decide (b = 48)) = c :: q ∧ c ≠ 48) by
    obtain ⟨j, h1, h2⟩ := H l.reverse
    refine ⟨j, ?_, ?_⟩
    · have := congrArg List.reverse h1
      rw [List.reverse_reverse, List.reverse_append, List.reverse_replicate] at this
      exact this
    · rcases h2 with h2 | ⟨q, c, h2, hc⟩
      · left; unfold strip; rw [h2]; rfl
      · right; exact ⟨q.reverse, c, by unfold strip; rw [h2]; simp, hc⟩
  intro r
  induction r with
  | nil => exact ⟨0, rfl, .inl rfl⟩
  | cons b r ih =>
    by_cases hb : b = 48
    · subst hb
      obtain ⟨j, h1, h2⟩ := ih
      have e : (48 :: r).dropWhile (fun b => decide (b = 48)) = r.dropWhile (fun b => decide (b = 48)) := by rw [List.dropWhile_cons_of_pos (by simp)]
      refine ⟨j + 1, ?_, ?_⟩
      · rw [e, List.replicate_succ, List.cons_append, ← h1]
      · rw [e]; exact h2
    · have e : (b :: r).dropWhile (fun b => decide (b = 48)) = b :: r := by rw [List.dropWhile_cons_of_neg (by simp [hb])]
      exact ⟨0, by rw [e]; rfl, .inr ⟨r, b, e, hb⟩⟩

theorem strip_all (l : List UInt8) (h : l.all dg = true) : (strip l).all dg = true := by
  obtain ⟨j, h1, -⟩ := strip_spec l
  rw [h1, List.all_append, Bool.and_eq_true] at h
  exact h.1

theorem frac_read (pre post : List UInt8) (nano : Int) (c : UInt8) (h1 : 0 < nano) (h2 : nano ≤ 999999999) (hc : dg c = false) {a : Nat} (ha : pre.length = a) :
    fracN (pre ++ (frac nano ++ c :: post)) a = nano ∧ fracE (pre ++ (frac nano ++ c :: post)) a = (a + (frac nano).length : Nat) := by
  subst ha
  obtain ⟨j, e, hs⟩ := strip_spec (dig 9 nano.toNat)
  have hall := strip_all _ (dig_all 9 nano.toNat)
  have hlen := congrArg List.length e
  rw [dig_length, List.length_append, List.length_replicate] at hlen
  have hv := congrArg dv e
  rw [dv_dig 9 _ (by omega), dv_zeros] at hv
  have hf : frac nano = 46 :: strip (dig 9 nano.toNat) := if_pos h1
  rw [hf]
  generalize strip (dig 9 nano.toNat) = p at *
  have hne : p.length ≠ 0 := by
    intro h0
    have : p = [] := List.length_eq_zero_iff.1 h0
    subst this
    simp [dv] at hv
    omega
  have hsg : sign (pre ++ (46 :: p ++ c :: post)) pre.length 46 = true := sign_at pre _ 46 rfl
  have hfd : fdig (pre ++ (46 :: p ++ c :: post)) pre.length = p := by
    unfold fdig
    rw [show (pre ++ (46 :: p ++ c :: post)).drop (pre.length + 1) = p ++ c :: post by rw [← List.drop_drop]; simp]
    exact while_all p post c hall hc
  unfold fracN fracE
  rw [if_pos hsg, if_pos hsg, hfd, if_neg hne, if_neg hne]
  constructor
  · rw [List.take_of_length_le (by omega), show 9 - p.length = j by omega, ← hv]; omega
  · simp; omega

theorem no_frac (pre post : List UInt8) (c : UInt8) (hc : c ≠ 46) {a : Nat} (ha : pre.length = a) : fracN (pre ++ c :: post) a = 0 ∧ fracE (pre ++ c :: post) a = (a : Int) := by
  subst ha
  have hsg : sign (pre ++ c :: post) pre.length 46 = false := by
    unfold sign
    simp [hc]
  unfold fracN fracE
  rw [hsg]
  exact ⟨rfl, rfl⟩

theorem head_length (sec : Int) : (head sec).length = 19 := by simp [head, ymd, hms, dig_length]

/-- A head with any fraction and zone behind it: read. -/
theorem parse_told (sec nano : Int) (z : List UInt8) (c : UInt8) (zone' : Int) (h : okB sec nano = true) (hc : dg c = false) (hc2 : c ≠ 46) (hz : zone (c :: z) = some zone') :
    parse (head sec ++ (frac nano ++ c :: z)) = some (sec - zone', nano) := by
  obtain ⟨b1, b2, b3, b4⟩ := ok_iff.1 h
  have hfr : fracN (head sec ++ (frac nano ++ c :: z)) 19 = nano ∧ fracE (head sec ++ (frac nano ++ c :: z)) 19 = (19 + (frac nano).length : Nat) := by
    by_cases h0 : 0 < nano
    · exact frac_read _ _ _ _ h0 b4 hc (head_length sec)
    · have e : frac nano = [] := if_neg h0
      rw [e, List.nil_append]
      have := no_frac (head sec) z c hc2 (head_length sec)
      rw [this.1, this.2]
      exact ⟨by omega, rfl⟩
  have hdrop : (head sec ++ (frac nano ++ c :: z)).drop (19 + (frac nano).length) = c :: z := by
    rw [← List.drop_drop, show (head sec ++ (frac nano ++ c :: z)).drop 19 = frac nano ++ c :: z by rw [← head_length sec]; simp]
    simp
  generalize htl : frac nano ++ c :: z = tl at *
  obtain ⟨hD, hdays⟩ := day_of (day := sec / 86400) (by omega) (by omega)
  obtain ⟨-, -, y0, y9⟩ := y_spec (day := sec / 86400) (by omega) (by omega)
  have hml := mlen_le (yOf (sec / 86400)) (mOf (sec / 86400))
  have hd1 := hD.dl
  have hm1 := hD.m1
  have hm2 := hD.m12
  have hd0 := hD.d1
  have hh : head sec = ymd (yOf (sec / 86400)).toNat (mOf (sec / 86400)).toNat (dOf (sec / 86400)).toNat ++ 84 :: hms (sec % 86400).toNat := rfl
  have hmd : days ((yOf (sec / 86400)).toNat : Int) ((mOf (sec / 86400)).toNat : Int) ((dOf (sec / 86400)).toNat : Int) = sec / 86400 := by
    rw [Int.toNat_of_nonneg y0, Int.toNat_of_nonneg (by omega), Int.toNat_of_nonneg (by omega)]; exact hdays
  have hml2 : ((dOf (sec / 86400)).toNat : Int) ≤ mlen ((yOf (sec / 86400)).toNat : Int) ((mOf (sec / 86400)).toNat : Int) := by
    rw [Int.toNat_of_nonneg y0, Int.toNat_of_nonneg (by omega), Int.toNat_of_nonneg (by omega)]; exact hd1
  have hm1' : 1 ≤ (mOf (sec / 86400)).toNat := by omega
  have hm2' : (mOf (sec / 86400)).toNat ≤ 12 := by omega
  have hd0' : 1 ≤ (dOf (sec / 86400)).toNat := by omega
  generalize hy : (yOf (sec / 86400)).toNat = y at *
  generalize hm : (mOf (sec / 86400)).toNat = m at *
  generalize hd : (dOf (sec / 86400)).toNat = d at *
  have by1 : y < 10 ^ 4 := by omega
  have bm1 : m < 10 ^ 2 := by omega
  have bd1 : d < 10 ^ 2 := by omega
  obtain ⟨r, hr⟩ : ∃ r : Nat, sec % 86400 = (r : Int) := ⟨(sec % 86400).toNat, by omega⟩
  have hrl : r < 86400 := by omega
  rw [hr, Int.toNat_natCast] at hh
  clear hD hdays hml hd1 hm1 hm2 hd0
  have n0 : num (head sec ++ tl) 0 4 = (y : Int) := by
    rw [hh, ymd, List.append_assoc, List.append_assoc]
    exact num_dig [] _ rfl by1
  have s4 : sign (head sec ++ tl) 4 45 = true := by
    rw [hh, ymd, List.append_assoc, List.append_assoc]
    exact sign_at (dig 4 y) _ 45 (dig_length _ _)
  have n5 : num (head sec ++ tl) 5 2 = (m : Int) := by
    rw [hh, ymd, show (dig 4 y ++ 45 :: (dig 2 m ++ 45 :: dig 2 d) ++ 84 :: hms r) ++ tl = (dig 4 y ++ [45]) ++ (dig 2 m ++ (45 :: dig 2 d ++ 84 :: hms r ++ tl)) by simp]
    exact num_dig _ _ (by simp [dig_length]) bm1
  have s7 : sign (head sec ++ tl) 7 45 = true := by
    rw [hh, ymd, show (dig 4 y ++ 45 :: (dig 2 m ++ 45 :: dig 2 d) ++ 84 :: hms r) ++ tl = (dig 4 y ++ 45 :: dig 2 m) ++ (45 :: (dig 2 d ++ 84 :: hms r ++ tl)) by simp]
    exact sign_at _ _ 45 (by simp [dig_length])
  have n8 : num (head sec ++ tl) 8 2 = (d : Int) := by
    rw [hh, ymd, show (dig 4 y ++ 45 :: (dig 2 m ++ 45 :: dig 2 d) ++ 84 :: hms r) ++ tl = (dig 4 y ++ 45 :: (dig 2 m ++ [45])) ++ (dig 2 d ++ (84 :: hms r ++ tl)) by simp]
    exact num_dig _ _ (by simp [dig_length]) bd1
  have hyl : (ymd y m d).length = 10 := by simp [ymd, dig_length]
  have s10 : sign (head sec ++ tl) 10 84 = true := by
    rw [hh, List.append_assoc]
    exact sign_at _ _ 84 hyl
  have n11 : num (head sec ++ tl) 11 2 = (r / 3600 : Nat) := by
    rw [hh, hms, show (ymd y m d ++ 84 :: (dig 2 (r / 3600) ++ 58 :: (dig 2 (r / 60 % 60) ++ 58 :: dig 2 (r % 60)))) ++ tl = (ymd y m d ++ [84]) ++ (dig 2 (r / 3600) ++ (58 :: (dig 2 (r / 60 % 60) ++ 58 :: dig 2 (r % 60)) ++ tl)) by simp]
    exact num_dig _ _ (by simp [hyl]) (by omega)
  have s13 : sign (head sec ++ tl) 13 58 = true := by
    rw [hh, hms, show (ymd y m d ++ 84 :: (dig 2 (r / 3600) ++ 58 :: (dig 2 (r / 60 % 60) ++ 58 :: dig 2 (r % 60)))) ++ tl = (ymd y m d ++ 84 :: dig 2 (r / 3600)) ++ (58 :: ((dig 2 (r / 60 % 60) ++ 58 :: dig 2 (r % 60)) ++ tl)) by simp]
    exact sign_at _ _ 58 (by simp [hyl, dig_length])
  have n14 : num (head sec ++ tl) 14 2 = (r / 60 % 60 : Nat) := by
    rw [hh, hms, show (ymd y m d ++ 84 :: (dig 2 (r / 3600) ++ 58 :: (dig 2 (r / 60 % 60) ++ 58 :: dig 2 (r % 60)))) ++ tl = (ymd y m d ++ 84 :: (dig 2 (r / 3600) ++ [58])) ++ (dig 2 (r / 60 % 60) ++ (58 :: dig 2 (r % 60) ++ tl)) by simp]
    exact num_dig _ _ (by simp [hyl, dig_length]) (by omega)
  have s16 : sign (head sec ++ tl) 16 58 = true := by
    rw [hh, hms, show (ymd y m d ++ 84 :: (dig 2 (r / 3600) ++ 58 :: (dig 2 (r / 60 % 60) ++ 58 :: dig 2 (r % 60)))) ++ tl = (ymd y m d ++ 84 :: (dig 2 (r / 3600) ++ 58 :: dig 2 (r / 60 % 60))) ++ (58 :: (dig 2 (r % 60) ++ tl)) by simp]
    exact sign_at _ _ 58 (by simp [hyl, dig_length])
  have n17 : num (head sec ++ tl) 17 2 = (r % 60 : Nat) := by
    rw [hh, hms, show (ymd y m d ++ 84 :: (dig 2 (r / 3600) ++ 58 :: (dig 2 (r / 60 % 60) ++ 58 :: dig 2 (r % 60)))) ++ tl = (ymd y m d ++ 84 :: (dig 2 (r / 3600) ++ 58 :: (dig 2 (r / 60 % 60) ++ [58]))) ++ (dig 2 (r % 60) ++ tl) by simp]
    exact num_dig _ _ (by simp [hyl, dig_length]) (by omega)
  have hsig : signs (head sec ++ tl) = true := by unfold signs; rw [s4, s7, s10, s13, s16]; rfl
  have hib : inBounds (num (head sec ++ tl) 0 4) (num (head sec ++ tl) 5 2) (num (head sec ++ tl) 8 2) (num (head sec ++ tl) 11 2) (num (head sec ++ tl) 14 2) (num (head sec ++ tl) 17 2) = true := by
    rw [n0, n5, n8, n11, n14, n17]
    simp only [inBounds, Bool.and_eq_true, decide_eq_true_eq]
    omega
  have := pa_is (z := zone') hsig hib (by rw [hfr.2]; omega) (by rw [hfr.2, Int.toNat_natCast, hdrop]; exact hz)
  rw [this, n0, n5, n8, n11, n14, n17, hfr.1, hmd]
  congr 2
  omega

theorem text_back {sec nano : Int} (h : okB sec nano = true) : parse (text sec nano) = some (sec, nano) := by
  unfold text
  rw [if_pos h, parse_told sec nano [] 90 0 h (by decide) (by decide) (by unfold zone; rw [if_pos rfl])]
  simp
end D
end Go.Proofs.YtdkephbfehlodaaDoor
