/-
  Media types in plain Lean: tokens, quoted texts, parameters; what is told, and that it is read as it was.
  What the document's own words of tokens come to: contracts of TokenByte, Token, Skip, Lower.
  What the document's own words of small letters, of quoted texts and of values come to: contracts of Lower, Quoted, value.
  What the document's own words of quoted texts and of values come to: contracts of Quoted, value.
  What the document's own word of values comes to: contract of value.
-/
import Derived.Test.YtbaclacfadkjdaaGreatDoorG02
import Derived.BigQuiet
import Derived.Deep.QuietTactic
import Derived.WalkSmall
namespace Go.Proofs.YtbaclacfadkjdaaGreatDoor
namespace Md
def inB (b : UInt8) (x y : Nat) : Bool := decide (x ≤ b.toNat) && decide (b.toNat ≤ y)
def tokB (b : UInt8) : Bool :=
  inB b 48 57 || inB b 65 90 || inB b 97 122 || inB b 33 33 || inB b 35 39 || inB b 42 43 || inB b 45 46 || inB b 94 96 || inB b 124 124 || inB b 126 126
def blankB (b : UInt8) : Bool := inB b 32 32 || inB b 9 9
def badB (b : UInt8) : Bool := (decide (b.toNat < 32) && decide (b.toNat ≠ 9)) || decide (b.toNat = 127)
def lowB (b : UInt8) : UInt8 := if 65 ≤ b.toNat ∧ b.toNat ≤ 90 then b + 32 else b
def lower (l : List UInt8) : List UInt8 := l.map lowB
def tok (l : List UInt8) : List UInt8 := l.takeWhile tokB
def tokR (l : List UInt8) : List UInt8 := l.dropWhile tokB
def skip (l : List UInt8) : List UInt8 := l.dropWhile blankB
theorem tok_tokR (l : List UInt8) : tok l ++ tokR l = l := List.takeWhile_append_dropWhile
theorem tokR_length (l : List UInt8) : (tokR l).length ≤ l.length := (List.dropWhile_sublist _).length_le
theorem tok_length (l : List UInt8) : (tok l).length ≤ l.length := (List.takeWhile_sublist _).length_le
theorem skip_length (l : List UInt8) : (skip l).length ≤ l.length := (List.dropWhile_sublist _).length_le
def quo : List UInt8 → List UInt8 → Option (List UInt8 × List UInt8)
  | _, [] => none
  | acc, [b] => if b = 34 then some (acc, []) else none
  | acc, b :: c :: t =>
    if b = 34 then some (acc, c :: t)
    else if b = 92 then (if badB c = true then none else quo (acc ++ [c]) t)
    else if badB b = true then none
    else quo (acc ++ [b]) (c :: t)
theorem quo_end (acc : List UInt8) (t : List UInt8) : quo acc (34 :: t) = some (acc, t) := by
  cases t <;> simp [quo]
theorem quo_esc (acc : List UInt8) (c : UInt8) (t : List UInt8) (h : badB c = false) : quo acc (92 :: c :: t) = quo (acc ++ [c]) t := by
  simp [quo, h]
theorem quo_esc_bad (acc : List UInt8) (c : UInt8) (t : List UInt8) (h : badB c = true) : quo acc (92 :: c :: t) = none := by
  simp [quo, h]
theorem quo_esc_end (acc : List UInt8) : quo acc [92] = none := by simp [quo]
theorem quo_bad (acc : List UInt8) (b : UInt8) (t : List UInt8) (h1 : b ≠ 34) (h2 : b ≠ 92) (h : badB b = true) : quo acc (b :: t) = none := by
  cases t <;> simp [quo, h1, h2, h]
theorem quo_one (acc : List UInt8) (b : UInt8) (t : List UInt8) (h1 : b ≠ 34) (h2 : b ≠ 92) (h : badB b = false) : quo acc (b :: t) = quo (acc ++ [b]) t := by
  cases t with
  | nil => simp [quo, h1]
  | cons c t => simp [quo, h1, h2, h]
theorem quo_nil (acc : List UInt8) : quo acc [] = none := by simp [quo]
theorem quo_length : ∀ (l acc v r : List UInt8), quo acc l = some (v, r) → r.length < l.length := by
  suffices H : ∀ n (l acc v r : List UInt8), l.length ≤ n → quo acc l = some (v, r) → r.length < l.length from fun l acc v r h => H _ l acc v r (Nat.le_refl _) h
  intro n
  induction n with
  | zero =>
    intro l acc v r hn h
    have : l = [] := List.length_eq_zero_iff.1 (by omega)
    subst this; rw [quo_nil] at h; cases h
  | succ n ih =>
    intro l acc v r hn h
    cases l with
    | nil => rw [quo_nil] at h; cases h
    | cons b t =>
      rw [List.length_cons] at hn ⊢
      by_cases h1 : b = 34
      · subst h1; rw [quo_end] at h; injection h with h; injection h with _ h; subst h; omega
      · by_cases h2 : b = 92
        · subst h2
          cases t with
          | nil => rw [quo_esc_end] at h; cases h
          | cons c u =>
            rw [List.length_cons] at hn ⊢
            cases hb : badB c with
            | true => rw [quo_esc_bad _ _ _ hb] at h; cases h
            | false => rw [quo_esc _ _ _ hb] at h; have := ih u _ v r (by omega) h; omega
        · cases hb : badB b with
          | true => rw [quo_bad _ _ _ h1 h2 hb] at h; cases h
          | false => rw [quo_one _ _ _ h1 h2 hb] at h; have := ih t _ v r (by omega) h; omega
def value (l : List UInt8) : Option (List UInt8 × List UInt8) := if l.head? = some 34 then quo [] (l.drop 1) else if tok l = [] then none else some (tok l, tokR l)
theorem value_length {l v r : List UInt8} (h : value l = some (v, r)) : r.length ≤ l.length := by
  unfold value at h
  split at h
  · have := quo_length _ _ _ _ h
    rw [List.length_drop] at this; omega
  · split at h
    · cases h
    · injection h with h; injection h with _ h; subst h; exact tokR_length l
def paramsN : Nat → List Pair → List UInt8 → Option (List Pair)
  | 0, _, _ => none
  | n + 1, acc, s =>
    if skip s = [] then some acc
    else if (skip s).head? ≠ some 59 then none
    else if tok (skip ((skip s).drop 1)) = [] then none
    else if (tokR (skip ((skip s).drop 1))).head? ≠ some 61 then none
    else match value ((tokR (skip ((skip s).drop 1))).drop 1) with
      | none => none
      | some (v, r) => paramsN n (acc ++ [⟨⟨(lower (tok (skip ((skip s).drop 1)))).toArray⟩, ⟨v.toArray⟩⟩]) r
def params (s : List UInt8) : Option (List Pair) := paramsN (s.length + 1) [] s
theorem params_shorter {s v r : List UInt8} (h0 : skip s ≠ []) (h : value ((tokR (skip ((skip s).drop 1))).drop 1) = some (v, r)) : r.length < s.length := by
  have a := value_length h
  have b := tokR_length (skip ((skip s).drop 1))
  have c := skip_length ((skip s).drop 1)
  have d := skip_length s
  have e := List.length_pos_iff.2 h0
  rw [List.length_drop] at a c
  omega
theorem paramsN_same : ∀ (n m : Nat) (acc : List Pair) (s : List UInt8), s.length < n → s.length < m → paramsN n acc s = paramsN m acc s
  | 0, _, _, _, h, _ => by omega
  | _ + 1, 0, _, _, _, h => by omega
  | n + 1, m + 1, acc, s, h1, h2 => by
    unfold paramsN
    split
    · rfl
    · rename_i hne
      split
      · rfl
      · split
        · rfl
        · split
          · rfl
          · split
            · rfl
            · rename_i v r hv
              have := params_shorter hne hv
              exact paramsN_same n m _ _ (by omega) (by omega)
def paramsG (acc : List Pair) (s : List UInt8) : Option (List Pair) := paramsN (s.length + 1) acc s
theorem pg_end {acc : List Pair} {s : List UInt8} (h : skip s = []) : paramsG acc s = some acc := by unfold paramsG paramsN; rw [if_pos h]
theorem pg_semi {acc : List Pair} {s : List UInt8} (h : skip s ≠ []) (h1 : (skip s).head? ≠ some 59) : paramsG acc s = none := by unfold paramsG paramsN; rw [if_neg h, if_pos h1]
theorem pg_name {acc : List Pair} {s : List UInt8} (h : skip s ≠ []) (h1 : (skip s).head? = some 59) (h2 : tok (skip ((skip s).drop 1)) = []) : paramsG acc s = none := by
  unfold paramsG paramsN; rw [if_neg h, if_neg (fun e => e h1), if_pos h2]
theorem pg_sign {acc : List Pair} {s : List UInt8} (h : skip s ≠ []) (h1 : (skip s).head? = some 59) (h2 : tok (skip ((skip s).drop 1)) ≠ []) (h3 : (tokR (skip ((skip s).drop 1))).head? ≠ some 61) : paramsG acc s = none := by
  unfold paramsG paramsN; rw [if_neg h, if_neg (fun e => e h1), if_neg h2, if_pos h3]
theorem pg_value {acc : List Pair} {s : List UInt8} (h : skip s ≠ []) (h1 : (skip s).head? = some 59) (h2 : tok (skip ((skip s).drop 1)) ≠ []) (h3 : (tokR (skip ((skip s).drop 1))).head? = some 61)
    (h4 : value ((tokR (skip ((skip s).drop 1))).drop 1) = none) : paramsG acc s = none := by
  unfold paramsG paramsN; rw [if_neg h, if_neg (fun e => e h1), if_neg h2, if_neg (fun e => e h3), h4]
theorem pg_step {acc : List Pair} {s v r : List UInt8} (h : skip s ≠ []) (h1 : (skip s).head? = some 59) (h2 : tok (skip ((skip s).drop 1)) ≠ []) (h3 : (tokR (skip ((skip s).drop 1))).head? = some 61)
    (h4 : value ((tokR (skip ((skip s).drop 1))).drop 1) = some (v, r)) : paramsG acc s = paramsG (acc ++ [⟨⟨(lower (tok (skip ((skip s).drop 1)))).toArray⟩, ⟨v.toArray⟩⟩]) r := by
  have := params_shorter h h4
  conv => lhs; unfold paramsG paramsN
  rw [if_neg h, if_neg (fun e => e h1), if_neg h2, if_neg (fun e => e h3), h4]
  exact paramsN_same _ _ _ _ (by omega) (by omega)
structure Med where
  ty : ByteArray
  sub : ByteArray
  params : List Pair
  deriving DecidableEq
def none' : Med := ⟨ByteArray.empty, ByteArray.empty, []⟩
def parse (l : List UInt8) : Option Med :=
  if tok (skip l) = [] ∨ (tokR (skip l)).head? ≠ some 47 then none
  else if tok ((tokR (skip l)).drop 1) = [] then none
  else match paramsG [] (tokR ((tokR (skip l)).drop 1)) with
    | none => none
    | some ps => if tok (skip l) = [42] ∧ tok ((tokR (skip l)).drop 1) ≠ [42] then none
      else some ⟨⟨(lower (tok (skip l))).toArray⟩, ⟨(lower (tok ((tokR (skip l)).drop 1))).toArray⟩, ps⟩
def param (ps : List Pair) (n : ByteArray) : Option ByteArray := (ps.find? fun p => decide (p.name = n)).map (·.value)
def star : ByteArray := ⟨#[42]⟩
def fitsP (m : List Pair) (p : Pair) : Bool :=
  decide (p.name = ⟨#[113]⟩) || (match param m p.name with | none => false | some v => decide (lower v.data.toList = lower p.value.data.toList))
def fits (r m : Med) : Bool := (decide (r.ty = star) || decide (r.ty = m.ty)) && (decide (r.sub = star) || decide (r.sub = m.sub)) && r.params.all (fitsP m.params)
def esc (l : List UInt8) : List UInt8 := l.flatMap fun b => if b = 34 ∨ b = 92 then [92, b] else [b]
def isTok (l : List UInt8) : Bool := !l.isEmpty && l.all tokB
def quote (l : List UInt8) : List UInt8 := if isTok l = true then l else 34 :: (esc l ++ [34])
end Md
end Go.Proofs.YtbaclacfadkjdaaGreatDoor
namespace Go.Proofs.YtbaclacfadkjdaaGreatDoor
open Go.RowKit
namespace Md
theorem tok_at {l : List UInt8} {k : Nat} (h : (l.take k).all tokB = true) (h2 : ∀ h : k < l.length, tokB l[k] = false) : tok l = l.take k ∧ tokR l = l.drop k := by
  unfold tok tokR
  induction l generalizing k with
  | nil => simp
  | cons b m ih =>
    cases k with
    | zero =>
      have := h2 (by simp)
      simp only [List.getElem_cons_zero] at this
      rw [List.takeWhile_cons_of_neg (by rw [this]; simp), List.dropWhile_cons_of_neg (by rw [this]; simp)]
      exact ⟨rfl, rfl⟩
    | succ k =>
      simp only [List.take_succ_cons, List.all_cons, Bool.and_eq_true] at h
      have := ih h.2 (fun hk => by
        have := h2 (by simp; omega)
        rw [List.getElem_cons_succ] at this; exact this)
      rw [List.takeWhile_cons_of_pos h.1, List.dropWhile_cons_of_pos h.1, List.take_succ_cons, this.1, this.2]
      exact ⟨rfl, rfl⟩
theorem skip_stop (b : UInt8) (t : List UInt8) (h : blankB b = false) : skip (b :: t) = b :: t := List.dropWhile_cons_of_neg (by rw [h]; simp)
theorem skip_one (b : UInt8) (t : List UInt8) (h : blankB b = true) : skip (b :: t) = skip t := List.dropWhile_cons_of_pos h
end Md
theorem ret_strs {a b c d : ByteArray} (h1 : a = c) (h2 : b = d) : Ending.returned (.tuple #[.string a, .string b]) = .returned (.tuple #[.string c, .string d]) := by rw [h1, h2]
def tkA (s : ByteArray) : ByteArray := ⟨(Md.tok s.data.toList).toArray⟩
def tkB (s : ByteArray) : ByteArray := ⟨(Md.tokR s.data.toList).toArray⟩
def skA (s : ByteArray) : ByteArray := ⟨(Md.skip s.data.toList).toArray⟩
def loA (s : ByteArray) : ByteArray := ⟨(Md.lower s.data.toList).toArray⟩
theorem mk_list (l : List UInt8) : (⟨l.toArray⟩ : ByteArray).data.toList = l := by simp
theorem tkA_list (s : ByteArray) : (tkA s).data.toList = Md.tok s.data.toList := mk_list _
theorem tkB_list (s : ByteArray) : (tkB s).data.toList = Md.tokR s.data.toList := mk_list _
theorem skA_list (s : ByteArray) : (skA s).data.toList = Md.skip s.data.toList := mk_list _
theorem loA_list (s : ByteArray) : (loA s).data.toList = Md.lower s.data.toList := mk_list _
theorem size_le {a b : ByteArray} (h : a.data.toList.length ≤ b.data.toList.length) : a.size ≤ b.size := by rw [list_len, list_len] at h; exact h
theorem tkA_size (s : ByteArray) : (tkA s).size ≤ s.size := size_le (by rw [tkA_list]; exact Md.tok_length _)
theorem tkB_size (s : ByteArray) : (tkB s).size ≤ s.size := size_le (by rw [tkB_list]; exact Md.tokR_length _)
theorem skA_size (s : ByteArray) : (skA s).size ≤ s.size := size_le (by rw [skA_list]; exact Md.skip_length _)
set_option maxRecDepth 100000 in
set_option maxHeartbeats 3200000 in
theorem refTokB_any (b : UInt8) (w : World) : Calls Tryz.prog 124 #[.int .u8 (b.toNat : Int)] w fun e w' => e = .returned (.bool (Md.tokB b)) ∧ w = w' := by
  have hm : Md.tokB b = (decide ((48 ≤ b.toNat ∧ b.toNat ≤ 57) ∨ (65 ≤ b.toNat ∧ b.toNat ≤ 90) ∨ (97 ≤ b.toNat ∧ b.toNat ≤ 122) ∨ b.toNat = 33 ∨ (35 ≤ b.toNat ∧ b.toNat ≤ 39) ∨ (42 ≤ b.toNat ∧ b.toNat ≤ 43) ∨ (45 ≤ b.toNat ∧ b.toNat ≤ 46) ∨ (94 ≤ b.toNat ∧ b.toNat ≤ 96) ∨ b.toNat = 124 ∨ b.toNat = 126)) := by
    rw [Bool.eq_iff_iff, decide_eq_true_eq]
    simp only [Md.tokB, Md.inB, Bool.or_eq_true, Bool.and_eq_true, decide_eq_true_eq]
    omega
  rw [hm]
  have hb := b.toNat_lt
  generalize b.toNat = n at *
  clear hm
  go_enter Tryz.func124, Tryz.ntmps124
  by_cases hd : (48 ≤ n ∧ n ≤ 57) ∨ (65 ≤ n ∧ n ≤ 90) ∨ (97 ≤ n ∧ n ≤ 122)
  · rw [decide_eq_true (by omega)]
    rcases hd with ⟨h1, h2⟩ | ⟨h1, h2⟩ | ⟨h1, h2⟩
    all_goals
      go_wp2
      go_ret
      exact ⟨rfl, rfl⟩
  · obtain ⟨Q, hQ⟩ : ∃ Q : Bool, Q = decide ((48 ≤ n ∧ n ≤ 57) ∨ (65 ≤ n ∧ n ≤ 90) ∨ (97 ≤ n ∧ n ≤ 122) ∨ n = 33 ∨ (35 ≤ n ∧ n ≤ 39) ∨ (42 ≤ n ∧ n ≤ 43) ∨ (45 ≤ n ∧ n ≤ 46) ∨ (94 ≤ n ∧ n ≤ 96) ∨ n = 124 ∨ n = 126) := ⟨_, rfl⟩
    rw [← hQ]
    replace hQ := Lib.hid hQ
    have hn : (n < 48 ∨ (57 < n ∧ n < 65) ∨ (90 < n ∧ n < 97) ∨ 122 < n) := by omega
    clear hd
    rcases hn with h | ⟨h, h'⟩ | ⟨h, h'⟩ | h
    all_goals
      go_wp2
      all_goals
        go_ret
        refine ⟨ret_bool ?_, rfl⟩
        rw [hQ.out]
        first
          | (rw [eq_comm, decide_eq_true_eq]; omega)
          | (rw [eq_comm, decide_eq_false_iff_not]; omega)
          | (simp only [beq_eq_false_iff_ne, ne_eq, beq_iff_eq] at *; rw [eq_comm, decide_eq_false_iff_not]; omega)
          | (simp only [beq_eq_false_iff_ne, ne_eq, beq_iff_eq] at *; rw [eq_comm, decide_eq_true_eq]; omega)
set_option maxHeartbeats 800000 in
theorem refToken_any (s : ByteArray) (w : World) (hs : s.size ≤ maxLen) :
    Calls Tryz.prog 92 #[.string s] w fun e w' => e = .returned (.tuple #[.string (tkA s), .string (tkB s)]) ∧ Below w.heap.size w w' := by
  have hsm : s.size ≤ 9223372036854775807 := hs
  have hlen := Lib.hid (list_len s)
  have hend : Hid (∀ k, k ≤ s.size → (s.data.toList.take k).all Md.tokB = true → (∀ h : k < s.size, Md.tokB s[k] = false) → s.extract 0 k = tkA s ∧ s.extract k s.size = tkB s) := Lib.hid (fun k _ h1 h2 => by
    obtain ⟨e1, e2⟩ := Md.tok_at h1 (fun h => h2 (by rw [← list_len]; exact h))
    exact ⟨bytes_eq (by rw [take_list, tkA_list, e1]), bytes_eq (by rw [drop_list, tkB_list, e2])⟩)
  go_enter Tryz.func92, Tryz.ntmps92
  go_wp2_with fail
  go_loop [4] (fun i => ∃ k : Nat, k ≤ s.size ∧ i = .int .i64 k ∧ Hid ((s.data.toList.take k).all Md.tokB = true)) (fun i => s.size - (intOf i).toNat)
  case atStart => exact ⟨0, Nat.zero_le _, rfl, Lib.hid (by simp)⟩
  case round =>
    obtain ⟨k, hk, rfl, hall⟩ := hrel
    by_cases hlt : k < s.size
    · go_wp2_with fail
      (with_reducible refine (refTokB_any s[k] _).mono ?_); rintro e w1 ⟨rfl, rfl⟩
      cases hb : Md.tokB s[k]
      · obtain ⟨r1, r2⟩ := hend.out k hk hall.out (fun _ => hb)
        replace r1 := Lib.hid r1
        replace r2 := Lib.hid r2
        replace hb := Lib.hid hb
        go_wp2_with fail
        go_quiet (fail)
        go_wp2_with fail
        go_ret2
        exact ⟨ret_strs r1.out r2.out, below_drewN (Below.refl _ _) _⟩
      · have hst := Lib.hid (all_take Md.tokB s.data.toList k (by rw [hlen.out]; exact hlt))
        have hr := Lib.hid (hst.out.trans (show _ = true by rw [hall.out]; exact hb))
        replace hb := Lib.hid hb
        clear hst
        go_wp2_with fail
        go_round
        case rel => exact ⟨k + 1, by omega, by go_num, hr⟩
        case measure => simp [intOf]; omega
    · obtain ⟨r1, r2⟩ := hend.out k hk hall.out (fun h => absurd h hlt)
      replace r1 := Lib.hid r1
      replace r2 := Lib.hid r2
      go_wp2_with fail
      go_quiet (fail)
      go_wp2_with fail
      go_ret2
      exact ⟨ret_strs r1.out r2.out, below_drewN (Below.refl _ _) _⟩
end Go.Proofs.YtbaclacfadkjdaaGreatDoor
namespace Go.Proofs.YtbaclacfadkjdaaGreatDoor
open Go.RowKit
namespace Md
theorem low_at {L acc : List UInt8} {s : ByteArray} {k : Nat} (hk : k < s.size) (h : L = acc ++ lower (s.data.toList.drop k)) (d : UInt8) (hd : lowB s[k] = d) : L = (acc ++ [d]) ++ lower (s.data.toList.drop (k + 1)) := by
  rw [h, drop_cons s k hk, lower, List.map_cons, hd]; simp [lower]
theorem low_end {L acc : List UInt8} {s : ByteArray} {k : Nat} (hk : ¬ k < s.size) (h : L = acc ++ lower (s.data.toList.drop k)) : L = acc := by
  rw [h, List.drop_of_length_le (by rw [list_len]; omega)]; simp [lower]
theorem low_small {b : UInt8} (h : 65 ≤ b.toNat ∧ b.toNat ≤ 90) : (lowB b).toNat = b.toNat + 32 := by
  unfold lowB; rw [if_pos h]; simp; omega
theorem low_same {b : UInt8} (h : ¬ (65 ≤ b.toNat ∧ b.toNat ≤ 90)) : lowB b = b := by unfold lowB; rw [if_neg h]
end Md
theorem blank_is {b : UInt8} : Md.blankB b = decide (b.toNat = 32 ∨ b.toNat = 9) := by
  rw [Bool.eq_iff_iff, decide_eq_true_eq]
  simp only [Md.blankB, Md.inB, Bool.or_eq_true, Bool.and_eq_true, decide_eq_true_eq]
  omega
theorem bad_cases (b : UInt8) : (Md.badB b = true ∧ ((b.toNat < 32 ∧ ((b.toNat : Int) != 9) = true) ∨ (¬ b.toNat < 32 ∧ ((b.toNat : Int) == 127) = true))) ∨
    (Md.badB b = false ∧ ((b.toNat < 32 ∧ ((b.toNat : Int) != 9) = false ∧ ((b.toNat : Int) == 127) = false) ∨ (¬ b.toNat < 32 ∧ ((b.toNat : Int) == 127) = false ∧ True))) := by
  have h9 : ((b.toNat : Int) != 9) = decide (b.toNat ≠ 9) := by rw [Bool.eq_iff_iff, bne_iff_ne, decide_eq_true_eq]; omega
  have h127 : ((b.toNat : Int) == 127) = decide (b.toNat = 127) := by rw [Bool.eq_iff_iff, beq_iff_eq, decide_eq_true_eq]; omega
  rw [h9, h127]
  unfold Md.badB
  by_cases h1 : b.toNat < 32 <;> by_cases h2 : b.toNat = 9 <;> by_cases h3 : b.toNat = 127 <;> simp [h1, h2, h3] <;> omega
theorem head_byte {s : ByteArray} (h : 0 < s.size) : s.data.toList.head? = some s[0] := by
  have := drop_cons s 0 h
  rw [List.drop_zero] at this
  rw [this]; rfl
theorem nil_of_size {s : ByteArray} (h : s.size = 0) : s.data.toList = [] := by
  obtain rfl : s = ByteArray.empty := ByteArray.size_eq_zero_iff.1 h
  rfl
theorem not_nil {s : ByteArray} (h : 0 < s.size) : s.data.toList ≠ [] := lst_ne h
theorem empty_yes {s : ByteArray} (h : s.size = 0) : s.toList.isEmpty = true := by
  rw [ByteArray.toList_eq, nil_of_size h]; rfl
set_option maxHeartbeats 800000 in
theorem refSkip_any (s : ByteArray) (w : World) (hs : s.size ≤ maxLen) :
    Calls Tryz.prog 93 #[.string s] w fun e w' => e = .returned (.string (skA s)) ∧ w = w' := by
  have hsm : s.size ≤ 9223372036854775807 := hs
  go_enter Tryz.func93, Tryz.ntmps93
  go_wp2_with fail
  go_loop [0] (fun v => ∃ t : ByteArray, v = .string t ∧ t.size ≤ s.size ∧ Hid (skA s = skA t)) (fun v => strLen v)
  case atStart => exact ⟨s, rfl, Nat.le_refl _, Lib.hid rfl⟩
  case round =>
    obtain ⟨t, rfl, ht, hr⟩ := hrel
    by_cases h0 : t.size = 0
    · obtain rfl : t = ByteArray.empty := ByteArray.size_eq_zero_iff.1 h0
      go_wp2
      go_ret
      exact ⟨ret_str (by rw [hr.out]; rfl), rfl⟩
    · have h1 : 0 < t.size := by omega
      have hc := drop_cons t 0 h1
      rw [List.drop_zero] at hc
      by_cases hb : (t[0]).toNat = 32 ∨ (t[0]).toNat = 9
      · have hr2 : Hid (skA s = skA (t.extract 1 t.size)) := Lib.hid (by
          rw [hr.out]
          apply bytes_eq
          rw [skA_list, skA_list, drop_list, hc, Md.skip_one _ _ (by rw [blank_is]; exact decide_eq_true hb)]
          rfl)
        have hc := Lib.hid hc
        rcases hb with hb | hb
        all_goals
          have hb' : ((t[0]).toNat : Int) = _ := congrArg Int.ofNat hb
          go_wp2
          go_round
          case rel => exact ⟨_, rfl, by simp; omega, hr2⟩
          case measure => simp [strLen]; omega
      · have hr2 : Hid (skA s = t) := Lib.hid (by
          rw [hr.out]
          apply bytes_eq
          rw [skA_list, hc, Md.skip_stop _ _ (by rw [blank_is]; exact decide_eq_false hb)])
        have hb1 : (((t[0]).toNat : Int) == 32) = false := beq_false_of_ne (fun e => hb (.inl (by omega)))
        have hb2 : (((t[0]).toNat : Int) == 9) = false := beq_false_of_ne (fun e => hb (.inr (by omega)))
        clear hb hc
        go_wp2
        go_ret
        exact ⟨ret_str hr2.out.symm, rfl⟩
set_option maxRecDepth 100000 in
set_option maxHeartbeats 1600000 in
theorem refLower_any (s : ByteArray) (w : World) (hs : s.size ≤ 70368744177664) :
    Calls Tryz.prog 47 #[.string s] w fun e w' => e = .returned (.string (loA s)) ∧ Below w.heap.size w w' := by
  obtain ⟨i0, hi, hz0, hz1, hz2⟩ := info_parts infoByte
  have hlen := Lib.hid (list_len s)
  go_enter Tryz.func47, Tryz.ntmps47
  go_wp2_with fail
  go_loopw [3, 4, 5] (fun v i _ wr => ∃ (k : Nat) (acc : List UInt8), k ≤ s.size ∧ i = .int .i64 k ∧ Hid (Md.lower s.data.toList = acc ++ Md.lower (s.data.toList.drop k)) ∧ acc.length ≤ k ∧ (acc = [] → v = .slice none 0 0) ∧ Owns w.heap.size v acc wr ∧ Below w.heap.size w wr) (fun _ i _ _ => s.size - (intOf i).toNat)
  case atStart => exact ⟨0, [], Nat.zero_le _, rfl, Lib.hid (by simp), by simp, fun _ => rfl, owns_nil _ _, Below.refl _ _⟩
  case round =>
    obtain ⟨k, acc, hk, rfl, hL, hacc, hnil, ho, bw⟩ := hrel
    have hsz := bw.size
    have hacch := Lib.hid hacc
    have hnilh := Lib.hid hnil
    clear hnil
    by_cases hlt : k < s.size
    · obtain ⟨d, hd⟩ : ∃ d, Md.lowB s[k] = d := ⟨_, rfl⟩
      have hr := Lib.hid (Md.low_at hlt hL.out d hd)
      by_cases hq : 65 ≤ (s[k]).toNat ∧ (s[k]).toNat ≤ 90
      · have hn : ((s[k]).toNat : Int) + 32 = (d.toNat : Int) := by rw [← hd, Md.low_small hq]; omega
        obtain ⟨q1, q2⟩ := hq
        have hdl := d.toNat_lt
        clear hL hd
        go_wp2_with (at_builtin; refine wpList_append_own _ rfl _ _ 54 rfl w.heap.size 5 i0 (.int .u8 0) 1 1 Tryz.underlying54 hi hz0 hz1 hz2 rfl (by decide) _ _ _ rfl (World.ownsRow.alloc ho _) ⟨wr.heap.size, 0, none⟩ 1 1 [.int .u8 (d.toNat : Int)] rfl rfl (cell_one_new _ _ _) (fun u hu => by simp at hu; subst hu; rfl) (by have := hacch.out; unfold maxLen; omega) (by have := hacch.out; omega) (by simp; omega) ?_)
        intro v2 w2 hown2 hg2 hnil2
        have hga : wr.grownBy w2 u3.ownBlock := (World.grownBy_alloc wr _ _).trans hg2
        have b2 := ho.below hga (by omega)
        have ho2 : Owns w.heap.size v2 (acc ++ [d]) w2 := owns_of hown2 (by simp) (by simp [Lib.byteCells])
        have hlen2 : (acc ++ [d]).length ≤ k + 1 := by rw [List.length_append, List.length_singleton]; omega
        clear hown2 hg2 hnil2 hga ho
        go_wp2_with fail
        go_roundw
        case rel => exact ⟨k + 1, acc ++ [d], by omega, by go_num, hr, by omega, fun e => by simp at e, ho2, bw.trans b2⟩
        case measure => simp [intOf]; omega
      · have hdd : d = s[k] := by rw [← hd, Md.low_same hq]
        subst hdd
        have hq' : (s[k]).toNat < 65 ∨ (65 ≤ (s[k]).toNat ∧ 90 < (s[k]).toNat) := by omega
        clear hL hd hq
        rcases hq' with q1 | ⟨q1, q2⟩
        all_goals
          go_wp2_with (at_builtin; refine wpList_append_own _ rfl _ _ 54 rfl w.heap.size 5 i0 (.int .u8 0) 1 1 Tryz.underlying54 hi hz0 hz1 hz2 rfl (by decide) _ _ _ rfl (World.ownsRow.alloc ho _) ⟨wr.heap.size, 0, none⟩ 1 1 [.int .u8 ((s[k]).toNat : Int)] rfl rfl (cell_one_new _ _ _) (fun u hu => by simp at hu; subst hu; rfl) (by have := hacch.out; unfold maxLen; omega) (by have := hacch.out; omega) (by simp; omega) ?_)
          intro v2 w2 hown2 hg2 hnil2
          have hga : wr.grownBy w2 u3.ownBlock := (World.grownBy_alloc wr _ _).trans hg2
          have b2 := ho.below hga (by omega)
          have ho2 : Owns w.heap.size v2 (acc ++ [s[k]]) w2 := owns_of hown2 (by simp) (by simp [Lib.byteCells])
          have hlen2 : (acc ++ [s[k]]).length ≤ k + 1 := by rw [List.length_append, List.length_singleton]; omega
          clear hown2 hg2 hnil2 hga ho
          go_wp2_with fail
          go_roundw
          case rel => exact ⟨k + 1, acc ++ [s[k]], by omega, by go_num, hr, by omega, fun e => by simp at e, ho2, bw.trans b2⟩
          case measure => simp [intOf]; omega
    · have hcv := owns_string ho hnilh.out
      have hr := Lib.hid (Md.low_end hlt hL.out)
      clear hL
      go_wp2
      go_ret
      exact ⟨ret_str (by unfold loA; rw [hr.out]), bw⟩
end Go.Proofs.YtbaclacfadkjdaaGreatDoor
namespace Go.Proofs.YtbaclacfadkjdaaGreatDoor
open Go.RowKit
def quA (s : ByteArray) : ByteArray := match Md.quo [] s.data.toList with | some x => ⟨x.1.toArray⟩ | none => ⟨#[]⟩
def quB (s : ByteArray) : ByteArray := match Md.quo [] s.data.toList with | some x => ⟨x.2.toArray⟩ | none => ⟨#[]⟩
def quC (s : ByteArray) : Bool := (Md.quo [] s.data.toList).isSome
theorem qu_none {s : ByteArray} (h : Md.quo [] s.data.toList = none) : quA s = ⟨#[]⟩ ∧ quB s = ⟨#[]⟩ ∧ quC s = false := by unfold quA quB quC; rw [h]; exact ⟨rfl, rfl, rfl⟩
theorem qu_some {s : ByteArray} {v r : List UInt8} (h : Md.quo [] s.data.toList = some (v, r)) : quA s = ⟨v.toArray⟩ ∧ quB s = ⟨r.toArray⟩ ∧ quC s = true := by unfold quA quB quC; rw [h]; exact ⟨rfl, rfl, rfl⟩
theorem ret_quo {a b c d : ByteArray} {x y : Bool} (h1 : a = c) (h2 : b = d) (h3 : x = y) : Ending.returned (.tuple #[.string a, .string b, .bool x]) = .returned (.tuple #[.string c, .string d, .bool y]) := by rw [h1, h2, h3]
set_option maxRecDepth 100000 in
set_option maxHeartbeats 3200000 in
theorem refQuoted_any (s : ByteArray) (w : World) (hs : s.size ≤ 70368744177664) :
    Calls Tryz.prog 155 #[.string s] w fun e w' => e = .returned (.tuple #[.string (quA s), .string (quB s), .bool (quC s)]) ∧ Below w.heap.size w w' := by
  obtain ⟨i0, hi, hz0, hz1, hz2⟩ := info_parts infoByte
  have hlen := Lib.hid (list_len s)
  go_enter Tryz.func155, Tryz.ntmps155
  go_wp2_with fail
  go_loopw [5, 6] (fun v i wr => ∃ (k : Nat) (acc : List UInt8), k ≤ s.size ∧ i = .int .i64 k ∧ Hid (Md.quo [] s.data.toList = Md.quo acc (s.data.toList.drop k)) ∧ acc.length ≤ k ∧ (acc = [] → v = .slice none 0 0) ∧ Owns w.heap.size v acc wr ∧ Below w.heap.size w wr) (fun _ i _ => s.size - (intOf i).toNat)
  case atStart => exact ⟨0, [], Nat.zero_le _, rfl, Lib.hid (by simp), by simp, fun _ => rfl, owns_nil _ _, Below.refl _ _⟩
  case round =>
    obtain ⟨k, acc, hk, rfl, hL, hacc, hnil, ho, bw⟩ := hrel
    have hsz := bw.size
    have hacch := Lib.hid hacc
    have hnilh := Lib.hid hnil
    clear hnil
    by_cases hlt : k < s.size
    · have hdk := Lib.hid (drop_cons s k hlt)
      by_cases h34 : (s[k]).toNat = 34
      · obtain ⟨r1, r2, r3⟩ := qu_some (hL.out.trans (by rw [hdk.out, byte_is (c := 34) h34, Md.quo_end]))
        replace r1 := Lib.hid r1
        replace r2 := Lib.hid (r2.trans (show _ = s.extract (k + 1) s.size from bytes_eq (by rw [mk_list, drop_list])))
        replace r3 := Lib.hid r3
        have h34i : ((s[k]).toNat : Int) = 34 := by omega
        have hcv : ∀ n, (convert 54 9 u5).run Tryz.prog (wr.drewN n) = .ok (.string ⟨acc.toArray⟩) (wr.drewN n) := fun n => owns_string (w := wr.drewN n) ho hnilh.out
        clear hL hdk h34
        go_wp2_with fail
        go_quiet (fail)
        go_wp2_with fail
        go_ret3
        exact ⟨ret_quo r1.out.symm r2.out.symm r3.out.symm, below_drewN bw _⟩
      · have h34b : (((s[k]).toNat : Int) == 34) = false := beq_false_of_ne (fun e => h34 (by omega))
        have n34 : s[k] ≠ 34 := fun e => h34 (by rw [e]; rfl)
        by_cases h92 : (s[k]).toNat = 92
        · have h92i : ((s[k]).toNat : Int) = 92 := by omega
          have e92 := byte_is (c := 92) h92
          by_cases h1 : k + 1 < s.size
          · have hd2 := Lib.hid (drop_cons s (k + 1) h1)
            rcases bad_cases s[k + 1] with ⟨hb, hc⟩ | ⟨hb, hc⟩
            · obtain ⟨r1, r2, r3⟩ := qu_none (hL.out.trans (by rw [hdk.out, hd2.out, e92, Md.quo_esc_bad _ _ _ hb]))
              replace r1 := Lib.hid r1
              replace r2 := Lib.hid r2
              replace r3 := Lib.hid r3
              have hne : ¬ (k : Int) + 1 = (s.size : Int) := by omega
              clear hL hdk hd2 h92 hb e92 h34 n34
              rcases hc with ⟨c1, c2⟩ | ⟨c1, c2⟩
              all_goals
                go_wp2_with fail
                go_ret3
                exact ⟨ret_quo r1.out.symm r2.out.symm r3.out.symm, bw⟩
            · have hr : Hid (Md.quo [] s.data.toList = Md.quo (acc ++ [s[k + 1]]) (s.data.toList.drop (k + 2))) := Lib.hid (hL.out.trans (by rw [hdk.out, hd2.out, e92, Md.quo_esc _ _ _ hb]))
              have hne : ¬ (k : Int) + 1 = (s.size : Int) := by omega
              clear hL hdk hd2 h92 hb e92 h34 n34
              rcases hc with ⟨c1, c2, c3⟩ | ⟨c1, c2, c3⟩
              all_goals
                go_wp2_with (at_builtin; refine wpList_append_own _ rfl _ _ 54 rfl w.heap.size 5 i0 (.int .u8 0) 1 1 Tryz.underlying54 hi hz0 hz1 hz2 rfl (by decide) _ _ _ rfl (World.ownsRow.alloc ho _) ⟨wr.heap.size, 0, none⟩ 1 1 [.int .u8 ((s[k + 1]).toNat : Int)] rfl rfl (cell_one_new _ _ _) (fun u hu => by simp at hu; subst hu; rfl) (by have := hacch.out; unfold maxLen; omega) (by have := hacch.out; omega) (by simp; omega) ?_)
                intro v2 w2 hown2 hg2 hnil2
                have hga : wr.grownBy w2 u5.ownBlock := (World.grownBy_alloc wr _ _).trans hg2
                have b2 := ho.below hga (by omega)
                have ho2 : Owns w.heap.size v2 (acc ++ [s[k + 1]]) w2 := owns_of hown2 (by simp) (by simp [Lib.byteCells])
                have hlen2 : (acc ++ [s[k + 1]]).length ≤ k + 2 := by rw [List.length_append, List.length_singleton]; omega
                clear hown2 hg2 hnil2 hga ho
                go_wp2_with fail
                go_roundw
                case rel => exact ⟨k + 2, acc ++ [s[k + 1]], by omega, by go_num, hr, by omega, fun e => by simp at e, ho2, bw.trans b2⟩
                case measure => simp [intOf]; omega
          · obtain ⟨r1, r2, r3⟩ := qu_none (hL.out.trans (by rw [hdk.out, e92, List.drop_of_length_le (by rw [hlen.out]; omega), Md.quo_esc_end]))
            replace r1 := Lib.hid r1
            replace r2 := Lib.hid r2
            replace r3 := Lib.hid r3
            have hne : (k : Int) + 1 = (s.size : Int) := by omega
            clear hL hdk h92 e92 h34 n34
            go_wp2_with fail
            go_ret3
            exact ⟨ret_quo r1.out.symm r2.out.symm r3.out.symm, bw⟩
        · have h92b : (((s[k]).toNat : Int) == 92) = false := beq_false_of_ne (fun e => h92 (by omega))
          have n92 : s[k] ≠ 92 := fun e => h92 (by rw [e]; rfl)
          rcases bad_cases s[k] with ⟨hb, hc⟩ | ⟨hb, hc⟩
          · obtain ⟨r1, r2, r3⟩ := qu_none (hL.out.trans (by rw [hdk.out, Md.quo_bad _ _ _ n34 n92 hb]))
            replace r1 := Lib.hid r1
            replace r2 := Lib.hid r2
            replace r3 := Lib.hid r3
            clear hL hdk h92 hb h34 n34 n92
            rcases hc with ⟨c1, c2⟩ | ⟨c1, c2⟩
            all_goals
              go_wp2_with fail
              go_ret3
              exact ⟨ret_quo r1.out.symm r2.out.symm r3.out.symm, bw⟩
          · have hr : Hid (Md.quo [] s.data.toList = Md.quo (acc ++ [s[k]]) (s.data.toList.drop (k + 1))) := Lib.hid (hL.out.trans (by rw [hdk.out, Md.quo_one _ _ _ n34 n92 hb]))
            clear hL hdk h92 hb h34 n34 n92
            rcases hc with ⟨c1, c2, c3⟩ | ⟨c1, c2, c3⟩
            all_goals
              go_wp2_with (at_builtin; refine wpList_append_own _ rfl _ _ 54 rfl w.heap.size 5 i0 (.int .u8 0) 1 1 Tryz.underlying54 hi hz0 hz1 hz2 rfl (by decide) _ _ _ rfl (World.ownsRow.alloc ho _) ⟨wr.heap.size, 0, none⟩ 1 1 [.int .u8 ((s[k]).toNat : Int)] rfl rfl (cell_one_new _ _ _) (fun u hu => by simp at hu; subst hu; rfl) (by have := hacch.out; unfold maxLen; omega) (by have := hacch.out; omega) (by simp; omega) ?_)
              intro v2 w2 hown2 hg2 hnil2
              have hga : wr.grownBy w2 u5.ownBlock := (World.grownBy_alloc wr _ _).trans hg2
              have b2 := ho.below hga (by omega)
              have ho2 : Owns w.heap.size v2 (acc ++ [s[k]]) w2 := owns_of hown2 (by simp) (by simp [Lib.byteCells])
              have hlen2 : (acc ++ [s[k]]).length ≤ k + 1 := by rw [List.length_append, List.length_singleton]; omega
              clear hown2 hg2 hnil2 hga ho
              go_wp2_with fail
              go_roundw
              case rel => exact ⟨k + 1, acc ++ [s[k]], by omega, by go_num, hr, by omega, fun e => by simp at e, ho2, bw.trans b2⟩
              case measure => simp [intOf]; omega
    · obtain ⟨r1, r2, r3⟩ := qu_none (hL.out.trans (by rw [List.drop_of_length_le (by rw [hlen.out]; omega), Md.quo_nil]))
      replace r1 := Lib.hid r1
      replace r2 := Lib.hid r2
      replace r3 := Lib.hid r3
      clear hL
      go_wp2_with fail
      go_ret3
      exact ⟨ret_quo r1.out.symm r2.out.symm r3.out.symm, bw⟩
end Go.Proofs.YtbaclacfadkjdaaGreatDoor
namespace Go.Proofs.YtbaclacfadkjdaaGreatDoor
open Go.RowKit
def vaA (s : ByteArray) : ByteArray := if s.data.toList.head? = some 34 then quA (s.extract 1 s.size) else tkA s
def vaB (s : ByteArray) : ByteArray := if s.data.toList.head? = some 34 then quB (s.extract 1 s.size) else tkB s
def vaC (s : ByteArray) : Bool := if s.data.toList.head? = some 34 then quC (s.extract 1 s.size) else !(tkA s).toList.isEmpty
theorem va_none {s : ByteArray} (h : Md.value s.data.toList = none) : vaC s = false := by
  unfold Md.value at h
  unfold vaC
  split at h
  · rename_i h34
    rw [if_pos h34]
    exact (qu_none (by rw [drop_list]; exact h)).2.2
  · rename_i h34
    rw [if_neg h34]
    split at h
    · rename_i ht
      rw [ByteArray.toList_eq, tkA_list, ht]; rfl
    · cases h
theorem va_some {s : ByteArray} {v r : List UInt8} (h : Md.value s.data.toList = some (v, r)) : vaA s = ⟨v.toArray⟩ ∧ vaB s = ⟨r.toArray⟩ ∧ vaC s = true := by
  unfold Md.value at h
  unfold vaA vaB vaC
  split at h
  · rename_i h34
    rw [if_pos h34, if_pos h34, if_pos h34]
    exact qu_some (by rw [drop_list]; exact h)
  · rename_i h34
    rw [if_neg h34, if_neg h34, if_neg h34]
    split at h
    · cases h
    · rename_i ht
      injection h with h; injection h with h1 h2
      subst h1; subst h2
      refine ⟨rfl, rfl, ?_⟩
      rw [ByteArray.toList_eq, tkA_list]
      simpa using ht
set_option maxHeartbeats 800000 in
theorem refValue_any (s : ByteArray) (w : World) (hs : s.size ≤ 70368744177664) :
    Calls Tryz.prog 125 #[.string s] w fun e w' => e = .returned (.tuple #[.string (vaA s), .string (vaB s), .bool (vaC s)]) ∧ Below w.heap.size w w' := by
  have hsm : s.size ≤ maxLen := by unfold maxLen; omega
  go_enter Tryz.func125, Tryz.ntmps125
  by_cases h0 : s.size = 0
  · obtain rfl : s = ByteArray.empty := ByteArray.size_eq_zero_iff.1 h0
    go_wp2_with fail
    (with_reducible refine (refToken_any ByteArray.empty _ hsm).mono ?_); rintro e w1 ⟨rfl, b1⟩
    go_wp2
    go_ret3
    exact ⟨rfl, b1⟩
  · have h1 : 0 < s.size := by omega
    have hne := ne_empty h1
    have hh := head_byte h1
    by_cases h34 : (s[0]).toNat = 34
    · have hc : s.data.toList.head? = some 34 := by rw [hh, byte_is (c := 34) h34]
      have r1 := Lib.hid (show vaA s = quA (s.extract 1 s.size) from if_pos hc)
      have r2 := Lib.hid (show vaB s = quB (s.extract 1 s.size) from if_pos hc)
      have r3 := Lib.hid (show vaC s = quC (s.extract 1 s.size) from if_pos hc)
      have h34b : (((s[0]).toNat : Int) == 34) = true := by rw [h34]; rfl
      clear hc hh h34
      go_wp2_with fail
      (with_reducible refine (refQuoted_any (s.extract 1 s.size) _ (by simp; omega)).mono ?_); rintro e w1 ⟨rfl, b1⟩
      go_wp2
      go_ret3
      exact ⟨ret_quo r1.out.symm r2.out.symm r3.out.symm, b1⟩
    · have hc : ¬ s.data.toList.head? = some 34 := by
        rw [hh]; intro e; exact h34 (by rw [Option.some.inj e]; rfl)
      have r1 := Lib.hid (show vaA s = tkA s from if_neg hc)
      have r2 := Lib.hid (show vaB s = tkB s from if_neg hc)
      have r3 := Lib.hid (show vaC s = !(tkA s).toList.isEmpty from if_neg hc)
      have h34b : (((s[0]).toNat : Int) == 34) = false := beq_false_of_ne (fun e => h34 (by omega))
      clear hc hh h34
      go_wp2_with fail
      (with_reducible refine (refToken_any s _ hsm).mono ?_); rintro e w1 ⟨rfl, b1⟩
      go_wp2
      go_ret3
      exact ⟨ret_quo r1.out.symm r2.out.symm r3.out.symm, b1⟩
end Go.Proofs.YtbaclacfadkjdaaGreatDoor
