/-
  The program's own Weight: a text cut at its point, and the number that its digits are.
-/
import Derived.Test.YtpgdmoaegnehbaaGreatDoorRefWeight
import Derived.Test.YtpgdmoaegnehbaaGreatDoorQualityEnv
import Derived.Test.YtpgdmoaegnehbaaGreatDoorCut
namespace Go.Proofs.YtpgdmoaegnehbaaGreatDoor
open Go.RowKit
namespace Ql
/-- What is at most one, of a number of thousandths. -/
def most (o : Option Nat) : Option Nat := match o with
  | some n => if n ≤ 1000 then some n else none
  | none => none
theorem dig_val (b : UInt8) : Lib.digitVal b = if digB b = true then some (b.toNat - 48) else none := by
  unfold Lib.digitVal digB
  by_cases h : 48 ≤ b.toNat ∧ b.toNat ≤ 57
  · rw [if_pos h, if_pos (by simp [h])]
  · rw [if_neg h, if_neg (by simpa using h)]
theorem dec_nought (n : Nat) (r : List UInt8) : Lib.decFrom n (48 :: r) = Lib.decFrom (n * 10) r := rfl
theorem dec_digit (n : Nat) (b : UInt8) (r : List UInt8) : Lib.decFrom n (b :: r) = if digB b = true then Lib.decFrom (n * 10 + (b.toNat - 48)) r else none := by
  rw [Lib.decFrom, dig_val]
  by_cases h : digB b = true
  · rw [if_pos h, if_pos h]
  · rw [if_neg h, if_neg h]
theorem frac_dec (n : Nat) : ∀ d : List UInt8, d.length ≤ 3 → frac 100 (n * 1000) d = most (Lib.decFrom n (d ++ List.replicate (3 - d.length) 48))
  | [], _ => by
    show _ = most (some (((n * 10) * 10) * 10))
    rw [show ((n * 10) * 10) * 10 = n * 1000 by omega]
    rfl
  | [x], _ => by
    show (if digB x = true then _ else _) = most (Lib.decFrom n (x :: 48 :: 48 :: []))
    rw [dec_digit]
    by_cases h : digB x = true
    · rw [if_pos h, if_pos h]
      show (if _ then _ else _) = most (some (((n * 10 + (x.toNat - 48)) * 10) * 10))
      rw [show ((n * 10 + (x.toNat - 48)) * 10) * 10 = n * 1000 + (x.toNat - 48) * 100 by omega]
      rfl
    · rw [if_neg h, if_neg h]; rfl
  | [x, y], _ => by
    show (if digB x = true then (if digB y = true then _ else _) else _) = most (Lib.decFrom n (x :: y :: 48 :: []))
    rw [dec_digit]
    by_cases h : digB x = true
    · rw [if_pos h, if_pos h, dec_digit]
      by_cases g : digB y = true
      · rw [if_pos g, if_pos g]
        show (if _ then _ else _) = most (some ((((n * 10 + (x.toNat - 48)) * 10) + (y.toNat - 48)) * 10))
        rw [show (((n * 10 + (x.toNat - 48)) * 10) + (y.toNat - 48)) * 10 = n * 1000 + (x.toNat - 48) * 100 + (y.toNat - 48) * (100 / 10) by omega]
        rfl
      · rw [if_neg g, if_neg g]; rfl
    · rw [if_neg h, if_neg h]; rfl
  | [x, y, z], _ => by
    show (if digB x = true then (if digB y = true then (if digB z = true then _ else _) else _) else _) = most (Lib.decFrom n (x :: y :: z :: []))
    rw [dec_digit]
    by_cases h : digB x = true
    · rw [if_pos h, if_pos h, dec_digit]
      by_cases g : digB y = true
      · rw [if_pos g, if_pos g, dec_digit]
        by_cases k : digB z = true
        · rw [if_pos k, if_pos k]
          show (if _ then _ else _) = most (some ((((n * 10 + (x.toNat - 48)) * 10) + (y.toNat - 48)) * 10 + (z.toNat - 48)))
          rw [show (((n * 10 + (x.toNat - 48)) * 10) + (y.toNat - 48)) * 10 + (z.toNat - 48) = n * 1000 + (x.toNat - 48) * 100 + (y.toNat - 48) * (100 / 10) + (z.toNat - 48) * (100 / 10 / 10) by omega]
          rfl
        · rw [if_neg k, if_neg k]; rfl
      · rw [if_neg g, if_neg g]; rfl
    · rw [if_neg h, if_neg h]; rfl
  | _ :: _ :: _ :: _ :: _, h => by simp at h
theorem byte_head {b : UInt8} (h : b.toNat = 48 ∨ b.toNat = 49) : b = 48 ∨ b = 49 := by
  rcases h with h | h
  · exact .inl (UInt8.toNat_inj.1 h)
  · exact .inr (UInt8.toNat_inj.1 h)
/-- A text cut at its point: what stands ahead of it, and behind it. -/
theorem weight_no {l : List UInt8} (h : ∀ x ∈ l, x ≠ 46) : weight l = if l = [48] ∨ l = [49] then frac 100 ((l.headD 0).toNat * 1000 - 48000) [] else none := by
  match l with
  | [] => rfl
  | [b] =>
    show (if (b.toNat = 48 ∨ b.toNat = 49) ∧ _ then _ else none) = _
    by_cases hb : b.toNat = 48 ∨ b.toNat = 49
    · rw [if_pos ⟨hb, by simp, .inl rfl⟩, if_pos (by rcases byte_head hb with h | h <;> simp [h])]
      simp only [List.headD_cons, List.drop_nil]
      rw [show b.toNat * 1000 - 48000 = (b.toNat - 48) * 1000 by omega]
    · rw [if_neg (fun h => hb h.1), if_neg (by rintro (h | h) <;> (injection h with h; subst h; exact hb (by decide)))]
  | b :: c :: t =>
    rw [if_neg (by rintro (h | h) <;> cases h)]
    show (if _ then _ else none) = _
    rw [if_neg]
    rintro ⟨_, _, h1 | h1⟩
    · cases h1
    · injection h1 with h1; exact h c (by simp) h1
theorem weight_at {a d : List UInt8} (h : ∀ x ∈ a, x ≠ 46) : weight (a ++ 46 :: d) = if (a = [48] ∨ a = [49]) ∧ d.length ≤ 3 then frac 100 ((a.headD 0).toNat * 1000 - 48000) d else none := by
  match a with
  | [] => rw [if_neg (by rintro ⟨h | h, _⟩ <;> cases h)]; rfl
  | [b] =>
    show (if (b.toNat = 48 ∨ b.toNat = 49) ∧ (46 :: d).length ≤ 4 ∧ _ then _ else none) = _
    by_cases hb : b.toNat = 48 ∨ b.toNat = 49
    · have hb2 : [b] = [48] ∨ [b] = [(49 : UInt8)] := by rcases byte_head hb with h | h <;> simp [h]
      by_cases hd : d.length ≤ 3
      · rw [if_pos ⟨hb, by simpa using hd, .inr rfl⟩, if_pos ⟨hb2, hd⟩]
        simp only [List.headD_cons]
        rw [show b.toNat * 1000 - 48000 = (b.toNat - 48) * 1000 by omega]
        rfl
      · rw [if_neg (fun h => hd (by simpa using h.2.1)), if_neg (fun h => hd h.2)]
    · rw [if_neg (fun h => hb h.1), if_neg (by rintro ⟨h | h, _⟩ <;> (injection h with h; subst h; exact hb (by decide)))]
  | b :: c :: t =>
    rw [if_neg (by rintro ⟨h | h, _⟩ <;> cases h)]
    show (if _ then _ else none) = _
    rw [if_neg]
    rintro ⟨_, _, h1 | h1⟩
    · cases h1
    · injection h1 with h1; exact h c (by simp) h1
/-- The number that the program's text is. -/
theorem atoi_is {b : UInt8} (hb : b = 48 ∨ b = 49) (d : List UInt8) : Lib.atoi (b :: d) = (Lib.decFrom (b.toNat - 48) d).map Int.ofNat := by
  have h : ∀ n : Nat, Lib.decFrom 0 (b :: d) = (if digB b = true then Lib.decFrom (0 * 10 + (b.toNat - 48)) d else none) := fun _ => dec_digit 0 b d
  rcases hb with rfl | rfl
  · show (Lib.decNat (48 :: d)).map _ = _
    show (Lib.decFrom 0 (48 :: d)).map _ = _
    rw [h 0, if_pos (by decide), show 0 * 10 + (UInt8.toNat 48 - 48) = UInt8.toNat 48 - 48 by decide]
    rfl
  · show (Lib.decNat (49 :: d)).map _ = _
    show (Lib.decFrom 0 (49 :: d)).map _ = _
    rw [h 0, if_pos (by decide), show 0 * 10 + (UInt8.toNat 49 - 48) = UInt8.toNat 49 - 48 by decide]
    rfl
/-- How the program takes a text apart. -/
structure Apart (l h d : List UInt8) : Prop where
  w : weight l = if (h = [48] ∨ h = [49]) ∧ d.length ≤ 3 then frac 100 ((h.headD 0).toNat * 1000 - 48000) d else none
end Ql

set_option maxRecDepth 100000 in
theorem mathNaN_any (w : World) : Calls Tryz.prog 28 #[] w fun e w' => e = .returned (.float .f64 9221120237041090561) ∧ w = w' := by
  go_enter Tryz.func28, Tryz.ntmps28
  go_wp2
  rw [run_callFunc_extern Tryz.func44 (by kernel_rfl) (by kernel_rfl) (by kernel_rfl) (e := Extern.MathFloatBits.float64frombits) (by kernel_rfl)]
  rw [show (Extern.MathFloatBits.float64frombits #[.int .u64 9221120237041090561]).run Tryz.prog w = .ok (.float .f64 9221120237041090561) w from rfl]
  simp only [Result.andThen]
  rw [Oper.upon_value]
  go_wp2
  go_ret
  exact ⟨rfl, rfl⟩
theorem nan_is : Fl.nan 9221120237041090561 = true := by decide
theorem cutWeight_any (s : ByteArray) (w : World) (hs : s.size ≤ 100000) (hE : Env w) : ∃ (h d : ByteArray) (b : Bool), Ql.Apart s.data.toList h.data.toList d.data.toList ∧
    Calls Tryz.prog 27 #[.string s, .string ⟨#[46]⟩] w fun e w' => e = .returned (.tuple #[.string h, .string d, .bool b]) ∧ Below w.heap.size w w' := by
  cases hp : Cu.parts 46 s.data.toList with
  | none =>
    refine ⟨s, ⟨#[]⟩, false, ⟨?_⟩, Cu.no rfl w (by omega) hE hp⟩
    rw [Ql.weight_no (Cu.parts_no hp)]
    simp
  | some x =>
    obtain ⟨t, u, ht, hu⟩ := Cu.parted hp
    refine ⟨t, u, true, ⟨?_⟩, Cu.yes rfl w (by omega) hE (by rw [hp, ht, hu])⟩
    rw [ht, hu, Cu.parts_append hp, Ql.weight_at (Cu.parts_ahead hp)]

theorem atoi_text (X : ByteArray) (b : UInt8) (r : List UInt8) (hb : b = 48 ∨ b = 49) (hX : X.data.toList = b :: r) (hl : X.size ≤ 18) (w : World) (hE : Env w) :
    Calls Tryz.prog 29 #[.string X] w fun e w' => Below w.heap.size w w' ∧ ((∃ k : Nat, e = .returned (.tuple #[.int .i64 k, .nilIface]) ∧ Lib.decFrom (b.toNat - 48) r = some k) ∨ (∃ t p, e = .returned (.tuple #[.int .i64 0, .iface t (.pointer (some p))]) ∧ Lib.decFrom (b.toNat - 48) r = none)) := by
  have ha := Ql.atoi_is hb r
  rw [← hX] at ha
  cases hd : Lib.decFrom (b.toNat - 48) r with
  | some k =>
    rw [hd] at ha
    refine (Tryz.strconv_Atoi X k hl ha w).mono ?_
    rintro e w' ⟨rfl, t, rfl⟩
    exact ⟨Lib.bytesWorld_below _ _ _, .inl ⟨k, rfl, rfl⟩⟩
  | none =>
    rw [hd] at ha
    obtain ⟨v, hv, hk⟩ := hE.text
    refine (Tryz.strconv_Atoi_err X hl ha v w hv hk).mono ?_
    rintro e w' ⟨N, rfl, -, -, h⟩
    exact ⟨h, .inr ⟨_, _, rfl, rfl⟩⟩
theorem noughts_list {n : Nat} (h : n ≤ 3) : ((⟨#[48, 48, 48]⟩ : ByteArray).extract n 3).data.toList = List.replicate (3 - n) 48 := by
  rw [extract_list]
  match n, h with
  | 0, _ => rfl
  | 1, _ => rfl
  | 2, _ => rfl
  | 3, _ => rfl

set_option maxRecDepth 100000 in
set_option maxHeartbeats 6400000 in
theorem qWeight_any (s : ByteArray) (w : World) (hs : s.size ≤ 100000) (hE : Env w) :
    Calls Tryz.prog 16 #[.string s] w fun e w' => ∃ x, e = .returned (.float .f64 x) ∧ Ql.IsW (Ql.weight s.data.toList) x ∧ Below w.heap.size w w' := by
  obtain ⟨h, d, b, hW, hcut⟩ := cutWeight_any s w hs hE
  have hW := hW.w
  obtain ⟨Q, hQ⟩ : ∃ Q, Q = Ql.weight s.data.toList := ⟨_, rfl⟩
  rw [← hQ] at hW ⊢
  have hbad : Hid (Q = none → ∀ w', Below w.heap.size w w' → ∃ x, Ending.returned (.float .f64 9221120237041090561) = .returned (.float .f64 x) ∧ Ql.IsW Q x ∧ Below w.heap.size w w') := Lib.hid (fun h w' b => ⟨_, rfl, Ql.isW_none h nan_is, b⟩)
  replace hQ := Lib.hid hQ
  replace hcut := Lib.hid hcut
  replace hE := Lib.hid hE
  have hdl := list_len d
  by_cases hh : h.data.toList = [48] ∨ h.data.toList = [49]
  case neg =>
    have n0 : (h.toList != [48]) = true := by rw [ByteArray.toList_eq, bne_iff_ne]; exact fun e => hh (.inl e)
    have n1 : (h.toList != [49]) = true := by rw [ByteArray.toList_eq, bne_iff_ne]; exact fun e => hh (.inr e)
    have n2 : (h.toList == [48]) = false := by rw [ByteArray.toList_eq, beq_eq_false_iff_ne]; exact fun e => hh (.inl e)
    have n3 : (h.toList == [49]) = false := by rw [ByteArray.toList_eq, beq_eq_false_iff_ne]; exact fun e => hh (.inr e)
    have hq : Hid (Q = none) := Lib.hid (by rw [hW, if_neg (fun g => hh g.1)])
    replace hW := Lib.hid hW
    replace hh := Lib.hid hh
    go_enter Tryz.func16, Tryz.ntmps16
    go_wp2_with fail
    (refine (hcut.out).mono ?_); rintro e w1 ⟨rfl, b1⟩
    go_wp2_with fail
    (refine (mathNaN_any _).mono ?_); rintro e w2 ⟨rfl, rfl⟩
    go_wp2_with fail
    go_ret
    exact hbad.out hq.out _ b1
  have hor : ((h.toList != [48]) = false ∧ (h.toList == [48]) = true) ∨ ((h.toList != [48]) = true ∧ (h.toList == [48]) = false ∧ (h.toList != [49]) = false ∧ (h.toList == [49]) = true) := by
    rw [ByteArray.toList_eq]
    rcases hh with e | e <;> rw [e]
    · exact .inl ⟨by decide, by decide⟩
    · exact .inr ⟨by decide, by decide, by decide, by decide⟩
  by_cases hd : d.size ≤ 3
  case neg =>
    have hq : Hid (Q = none) := Lib.hid (by rw [hW, if_neg (fun g => hd (by rw [← hdl]; exact g.2))])
    have j1 : (3 : Int) < (d.size : Int) := by omega
    replace hW := Lib.hid hW
    replace hh := Lib.hid hh
    rcases hor with ⟨n0, n1⟩ | ⟨n0, n1, n2, n3⟩
    all_goals
      go_enter Tryz.func16, Tryz.ntmps16
      go_wp2_with fail
      (refine (hcut.out).mono ?_); rintro e w1 ⟨rfl, b1⟩
      go_wp2_with fail
      (refine (mathNaN_any _).mono ?_); rintro e w2 ⟨rfl, rfl⟩
      go_wp2_with fail
      go_ret
      exact hbad.out hq.out _ b1
  have j1 : ¬ (3 : Int) < (d.size : Int) := by omega
  have j2 : (d.size : Int) ≤ 3 := by omega
  obtain ⟨c, hc, hcl⟩ : ∃ c : UInt8, (c = 48 ∨ c = 49) ∧ h.data.toList = [c] := by
    rcases hh with e | e
    · exact ⟨48, .inl rfl, e⟩
    · exact ⟨49, .inr rfl, e⟩
  have hhl := list_len h
  rw [hcl] at hhl
  have z1 : h.size ≤ 1 := by rw [← hhl]; exact Nat.le_refl _
  have z2 : (h ++ d).size ≤ 4 := by rw [ByteArray.size_append]; omega
  have z3 : ((⟨#[48, 48, 48]⟩ : ByteArray).extract d.size 3).size ≤ 3 := by rw [ByteArray.size_extract]; omega
  have hXl : (h ++ d ++ (⟨#[48, 48, 48]⟩ : ByteArray).extract d.size 3).data.toList = c :: (d.data.toList ++ List.replicate (3 - d.data.toList.length) 48) := by
    rw [ByteArray.data_append, ByteArray.data_append, Array.toList_append, Array.toList_append, noughts_list hd, hcl, hdl]
    rfl
  have hat := Lib.hid (fun W hE => atoi_text _ c _ hc hXl (by rw [ByteArray.size_append]; omega) W hE)
  have hq : Hid (Q = Ql.most (Lib.decFrom (c.toNat - 48) (d.data.toList ++ List.replicate (3 - d.data.toList.length) 48))) := Lib.hid (by
    rw [hW, if_pos ⟨hh, by omega⟩, hcl, ← Ql.frac_dec _ _ (by omega)]
    simp only [List.headD_cons]
    rw [show c.toNat * 1000 - 48000 = (c.toNat - 48) * 1000 by omega])
  replace hW := Lib.hid hW
  replace hh := Lib.hid hh
  replace hc := Lib.hid hc
  replace hcl := Lib.hid hcl
  replace hXl := Lib.hid hXl
  clear hhl
  go_enter Tryz.func16, Tryz.ntmps16
  go_wp2_with fail
  (refine (hcut.out).mono ?_); rintro e w1 ⟨rfl, b1⟩
  have hE1 := hE.out.on b1
  replace hE1 := Lib.hid hE1
  rcases hor with ⟨n0, n1⟩ | ⟨n0, n1, n2, n3⟩
  all_goals
    go_wp2_with fail
    (refine (hat.out _ hE1.out).mono ?_); rintro e w2 ⟨b2, ⟨k, rfl, hk⟩ | ⟨t, p, rfl, hk⟩⟩
    · rw [hk] at hq
      have bz := Lib.hid (b1.trans (b2.mono b1.size))
      by_cases hle : k ≤ 1000
      · have hw := Fl.W_is hle
        have hdv := fun (w : World) => run_float_arith (P := Tryz.prog) (w := w) .quo 25 .f64 _ _ _ hw
        have hl1 : ¬ (1000 : Int) < (k : Int) := by omega
        have hq3 : Hid (Q = some k) := Lib.hid (hq.out.trans (if_pos hle))
        clear hw hk hat hq b1 b2
        go_wp2_with fail
        go_ret
        exact ⟨_, rfl, by rw [hq3.out]; rfl, bz.out⟩
      · have hl1 : (1000 : Int) < (k : Int) := by omega
        have hq3 : Hid (Q = none) := Lib.hid (hq.out.trans (if_neg hle))
        clear hk hat hq b1 b2
        go_wp2_with fail
        (refine (mathNaN_any _).mono ?_); rintro e w3 ⟨rfl, rfl⟩
        go_wp2_with fail
        go_ret
        exact hbad.out hq3.out _ bz.out
    · rw [hk] at hq
      have bz := Lib.hid (b1.trans (b2.mono b1.size))
      have hq3 : Hid (Q = none) := Lib.hid hq.out
      clear hk hat hq b1 b2
      go_wp2_with fail
      (refine (mathNaN_any _).mono ?_); rintro e w3 ⟨rfl, rfl⟩
      go_wp2_with fail
      go_ret
      exact hbad.out hq3.out _ bz.out
end Go.Proofs.YtpgdmoaegnehbaaGreatDoor
