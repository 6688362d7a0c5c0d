/-
  What stands between commas of a text without quotes: where, and what of two such texts with a comma between.
  The statements' walks: QualityMore.
  The statements' walks: QualityWhole.
  The statements' walks: QualitySmall.
-/
import Derived.Test.YtpgdmoaegnehbaaGreatDoorRefRanges
import Derived.Test.YtpgdmoaegnehbaaGreatDoorT01
import Derived.Deep.Cut
import Derived.Deep.DeepCutAuto
import Derived.Deep.QuietTactic
import Derived.Test.YtpgdmoaegnehbaaGreatDoorPieces
namespace Go.Proofs.YtpgdmoaegnehbaaGreatDoor
namespace Ql
/-- Texts stand in a text one behind the other, from a place on. -/
def Placed (l : List UInt8) : Nat → List (List UInt8) → Prop
  | _, [] => True
  | f, p :: t => ∃ a, f ≤ a ∧ a + p.length ≤ l.length ∧ (l.drop a).take p.length = p ∧ Placed l (a + p.length) t
theorem Placed.less {l : List UInt8} : ∀ {P : List (List UInt8)} {f g : Nat}, Placed l f P → g ≤ f → Placed l g P
  | [], _, _, _, _ => trivial
  | _ :: _, _, _, ⟨a, h1, h2, h3, h4⟩, hg => ⟨a, Nat.le_trans hg h1, h2, h3, h4⟩
theorem Placed.keep {l cur : List UInt8} {f : Nat} {P : List (List UInt8)} (h : Placed l (f + cur.length) P) (h1 : f + cur.length ≤ l.length) (h2 : (l.drop f).take cur.length = cur) : Placed l f (keep cur P) := by
  unfold Ql.keep
  split
  · exact h.less (by omega)
  · exact ⟨f, Nat.le_refl _, h1, h2, h⟩
theorem splitG_placed : ∀ (rest pre cur : List UInt8), 34 ∉ rest → Placed (pre ++ cur ++ rest) pre.length (splitG cur false rest)
  | [], pre, cur, _ => by
    unfold splitG
    exact Placed.keep trivial (by simp) (by simp)
  | b :: t, pre, cur, h => by
    have ht : 34 ∉ t := fun e => h (List.mem_cons_of_mem _ e)
    by_cases hb : b = 44
    · subst hb
      rw [splitG_comma]
      have ih := splitG_placed t (pre ++ cur ++ [44]) [] ht
      rw [List.append_nil] at ih
      have e : pre ++ cur ++ [44] ++ t = pre ++ cur ++ 44 :: t := by simp
      rw [e] at ih
      exact Placed.keep (ih.less (by simp)) (by simp) (by simp)
    · rw [splitG_other (by rintro ⟨h, _⟩; exact hb h) (fun e => h (by simp [e])) (by rintro ⟨_, h, _⟩; cases h)]
      have ih := splitG_placed t pre (cur ++ [b]) ht
      have e : pre ++ (cur ++ [b]) ++ t = pre ++ cur ++ b :: t := by simp
      rwa [e] at ih
theorem split_placed {l : List UInt8} (h : 34 ∉ l) : Placed l 0 (split l) := splitG_placed l [] [] h
theorem keep_length (cur : List UInt8) (P : List (List UInt8)) : (Ql.keep cur P).length ≤ P.length + 1 := by
  unfold Ql.keep; split
  · omega
  · simp
theorem mem_keep {cur p : List UInt8} {P : List (List UInt8)} (h : p ∈ Ql.keep cur P) : (p = cur ∧ Md.skip cur ≠ []) ∨ p ∈ P := by
  unfold Ql.keep at h; split at h
  · exact .inr h
  · next hn => rcases List.mem_cons.1 h with h | h
               · exact .inl ⟨h, hn⟩
               · exact .inr h
theorem splitG_plain : ∀ (rest cur : List UInt8), 34 ∉ rest → 44 ∉ cur → (splitG cur false rest).length ≤ rest.count 44 + 1 ∧ ∀ p ∈ splitG cur false rest, p ≠ [] ∧ 44 ∉ p
  | [], cur, _, hc => by
    unfold splitG
    refine ⟨by have := keep_length cur []; simpa using this, fun p hp => ?_⟩
    rcases mem_keep hp with ⟨rfl, hn⟩ | hp
    · exact ⟨fun e => hn (by rw [e]; rfl), hc⟩
    · cases hp
  | b :: t, cur, h, hc => by
    have ht : 34 ∉ t := fun e => h (List.mem_cons_of_mem _ e)
    by_cases hb : b = 44
    · subst hb
      rw [splitG_comma]
      have ih := splitG_plain t [] ht (by simp)
      refine ⟨?_, fun p hp => ?_⟩
      · have := keep_length cur (splitG [] false t)
        rw [List.count_cons_self]
        omega
      · rcases mem_keep hp with ⟨rfl, hn⟩ | hp
        · exact ⟨fun e => hn (by rw [e]; rfl), hc⟩
        · exact ih.2 p hp
    · rw [splitG_other (by rintro ⟨h, _⟩; exact hb h) (fun e => h (by simp [e])) (by rintro ⟨_, h, _⟩; cases h)]
      have ih := splitG_plain t (cur ++ [b]) ht (by
        rw [List.mem_append, List.mem_singleton]
        rintro (h | h)
        · exact hc h
        · exact hb h.symm)
      rw [List.count_cons_of_ne hb]
      exact ih
theorem split_plain {l : List UInt8} (h : 34 ∉ l) : (split l).length ≤ l.count 44 + 1 ∧ ∀ p ∈ split l, p ≠ [] ∧ 44 ∉ p := splitG_plain l [] h (by simp)
/-- Two texts with a comma between, the first without quotes. -/
theorem splitG_append : ∀ (s cur t : List UInt8), 34 ∉ s → splitG cur false (s ++ 44 :: t) = splitG cur false s ++ split t
  | [], cur, t, _ => by
    rw [List.nil_append, splitG_comma]
    conv => rhs; unfold splitG
    unfold Ql.keep split
    split <;> rfl
  | b :: s, cur, t, h => by
    have hs : 34 ∉ s := fun e => h (List.mem_cons_of_mem _ e)
    rw [List.cons_append]
    by_cases hb : b = 44
    · subst hb
      rw [splitG_comma, splitG_comma, splitG_append s [] t hs]
      unfold Ql.keep
      split <;> rfl
    · have h1 : ¬ (b = 44 ∧ false = false) := by rintro ⟨h, _⟩; exact hb h
      have h2 : b ≠ 34 := fun e => h (by simp [e])
      rw [splitG_other h1 h2 (by rintro ⟨_, h, _⟩; cases h), splitG_other h1 h2 (by rintro ⟨_, h, _⟩; cases h), splitG_append s (cur ++ [b]) t hs]
theorem split_append {s : List UInt8} (t : List UInt8) (h : 34 ∉ s) : split (s ++ 44 :: t) = split s ++ split t := splitG_append s [] t h
end Ql
end Go.Proofs.YtpgdmoaegnehbaaGreatDoor
namespace Go.Proofs.YtpgdmoaegnehbaaGreatDoor
open Go.RowKit

namespace Ql
theorem ofG_more {m : Md.Med} {r : List Rg} (h : ∀ x ∈ r, Md.fits x.m m = false) : ∀ (l : List Rg) (w : Option Nat) (n : Int), ofG (l ++ r) m w n = ofG l m w n
  | [], w, n => by
    rw [List.nil_append]
    induction r generalizing w n with
    | nil => rfl
    | cons x r ih =>
      conv => lhs; unfold ofG
      rw [h x (by simp), if_neg (by rintro ⟨h, _⟩; cases h)]
      exact ih (fun y hy => h y (by simp [hy])) w n
  | x :: l, w, n => by
    rw [List.cons_append]
    unfold ofG
    split
    · exact ofG_more h l _ _
    · exact ofG_more h l _ _
theorem ofG_ahead {m : Md.Med} : ∀ (r l : List Rg) (_ : ∀ x ∈ r, Md.fits x.m m = false) (w : Option Nat) (n : Int), ofG (r ++ l) m w n = ofG l m w n
  | [], _, _, _, _ => rfl
  | x :: r, l, h, w, n => by
    rw [List.cons_append]
    conv => lhs; unfold ofG
    rw [h x (by simp), if_neg (by rintro ⟨h, _⟩; cases h)]
    exact ofG_ahead r l (fun y hy => h y (by simp [hy])) w n
theorem bestG_same {l l' : List Rg} : ∀ (H : List Md.Med) (_ : ∀ m ∈ H, ofL l m = ofL l' m) (k : Nat) (a : Int) (w : Nat), bestG l H k a w = bestG l' H k a w
  | [], _, _, _, _ => rfl
  | m :: H, h, k, a, w => by
    unfold bestG
    rw [h m (by simp)]
    split
    · exact bestG_same H (fun y hy => h y (by simp [hy])) _ _ _
    · exact bestG_same H (fun y hy => h y (by simp [hy])) _ _ _
/-- ' audio/*, x'. -/
def tailT : List UInt8 := [32, 97, 117, 100, 105, 111, 47, 42, 44, 32, 120]
/-- 'audio/ogg;q=0.7,,/'. -/
def headT : List UInt8 := [97, 117, 100, 105, 111, 47, 111, 103, 103, 59, 113, 61, 48, 46, 55, 44, 44, 47]
theorem tail_fits : ∀ x ∈ ranges tailT, ∀ m ∈ haves, Md.fits x.m m = false := by decide +kernel
theorem head_fits : ∀ x ∈ ranges headT, ∀ m ∈ haves, Md.fits x.m m = false := by decide +kernel
theorem ranges_append {s : List UInt8} (t : List UInt8) (h : 34 ∉ s) : ranges (s ++ 44 :: t) = ranges s ++ ranges t := by
  unfold ranges
  rw [split_append t h, List.filterMap_append]
theorem best_more {s : List UInt8} (h : 34 ∉ s) : best (s ++ 44 :: tailT) haves = best s haves := by
  unfold best
  rw [ranges_append _ h]
  refine bestG_same _ (fun m hm => ?_) _ _ _
  unfold ofL
  rw [ofG_more (fun x hx => tail_fits x hx m hm)]
theorem best_ahead (s : List UInt8) : best (headT ++ 44 :: s) haves = best s haves := by
  unfold best
  rw [ranges_append _ (by decide)]
  refine bestG_same _ (fun m hm => ?_) _ _ _
  unfold ofL
  rw [ofG_ahead _ _ (fun x hx => head_fits x hx m hm)]
end Ql

theorem Ql.none_more {l : List UInt8} {k : Nat} {c : UInt8} (h : k < l.length) (hn : c ∉ l.take k) (he : ¬ l[k] = c) : c ∉ l.take (k + 1) := by
  rw [List.take_succ_eq_append_getElem h, List.mem_append, List.mem_singleton]
  rintro (e | e)
  · exact hn e
  · exact he e.symm
theorem Ql.byte_yes {b c : UInt8} {n : Nat} (hc : c.toNat = n) (h : b = c) : ((b.toNat : Int) == (n : Int)) = true := by subst h; rw [hc]; exact beq_self_eq_true _
theorem Ql.byte_no {b c : UInt8} {n : Nat} (hc : c.toNat = n) (h : ¬ b = c) : ((b.toNat : Int) == (n : Int)) = false := by
  rw [beq_eq_false_iff_ne]
  exact fun e => h (UInt8.toNat_inj.1 (by omega))

theorem qBest_have {ao : Option Addr} {A : Int} {W : Nat} (s : ByteArray) (w : World) (hs : s.size ≤ 100000) (hm : MedsIn w ao Ql.haves) (hE : Env w) (hA : (Ql.best s.data.toList Ql.haves).1 = A) (hW : (Ql.best s.data.toList Ql.haves).2 = W) :
    Calls Tryz.prog 7 #[.string s, .slice ao 4 4] w fun e w' => e = .returned (.tuple #[.int .i64 A, .float .f64 (Fl.W W)]) ∧ Below w.heap.size w w' := by
  subst hA; subst hW
  exact qBest_any (cap := 4) s Ql.haves w hs hm (by decide) Ql.haves_small.1 Ql.haves_small.2 hE
theorem refBest_have {ao : Option Addr} {A : Int} {W : Nat} (s : ByteArray) (w : World) (hs : s.size ≤ 100000) (hm : MedsIn w ao Ql.haves) (hA : (Ql.best s.data.toList Ql.haves).1 = A) (hW : (Ql.best s.data.toList Ql.haves).2 = W) :
    Calls Tryz.prog 8 #[.string s, .slice ao 4 4] w fun e w' => e = .returned (.tuple #[.int .i64 A, .float .f64 (Fl.W W)]) ∧ Below w.heap.size w w' := by
  subst hA; subst hW
  exact refBest_any (cap := 4) s Ql.haves w hs hm (by decide) (fun m hm => Nat.le_trans (Ql.haves_small.1 m hm) (by decide)) (fun m hm p hp => Nat.le_trans (Ql.haves_small.2 m hm p hp) (by decide))

end Go.Proofs.YtpgdmoaegnehbaaGreatDoor
namespace Go.Proofs.YtpgdmoaegnehbaaGreatDoor
open Go.RowKit

theorem Ql.count_more {l : List UInt8} {k : Nat} (h : k < l.length) : (l.take (k + 1)).count 44 = (l.take k).count 44 + (if l[k] = 44 then 1 else 0) := by
  rw [List.take_succ_eq_append_getElem h, List.count_append]
  by_cases e : l[k] = 44
  · rw [if_pos e, e]; rfl
  · rw [if_neg e, List.count_cons_of_ne e]; rfl
theorem str_piece (s : ByteArray) (p : List UInt8) (a n : Nat) (h : (s.data.toList.drop a).take n = p) : s.extract a (a + n) = ⟨p.toArray⟩ := by
  rw [piece_str]
  refine congrArg (fun l : List UInt8 => (⟨l.toArray⟩ : ByteArray)) ?_
  rw [← h, List.drop_take, Nat.add_sub_cancel_left]

end Go.Proofs.YtpgdmoaegnehbaaGreatDoor
namespace Go.Proofs.YtpgdmoaegnehbaaGreatDoor
open Go.RowKit

set_option maxRecDepth 100000 in
set_option maxHeartbeats 1600000 in
theorem pieces_more {ao : Option Addr} {cap b cap' n m : Nat} (L : List UInt8) (P : List ByteArray) (w : World) (hL : BytesAt ao L w) (hn : L.length = n) (hP : StrsAt b P w) (hm : P.length = m) (h0 : 0 < m) (h1 : m ≤ 256) (_hl : n ≤ maxLen) (hs : ∀ p ∈ P, p.size ≤ 20) :
    Calls Tryz.prog 11 #[.slice ao n cap, .slice (some ⟨b, 0, none⟩) m cap'] w fun e w' => (∃ t : ByteArray, e = .returned (.string t) ∧ t.size ≤ 240) ∧ Below w.heap.size w w' := by
  unfold maxLen at _hl
  have hn := Lib.hid hn
  have hm := Lib.hid hm
  go_enter Tryz.func11, Tryz.ntmps11
  go_wp2_with fail
  go_loopw [5, 6] (fun v i wr => ∃ (k : Nat) (t : ByteArray), k ≤ n ∧ k ≤ 12 ∧ i = .int .i64 k ∧ v = .string t ∧ t.size ≤ 20 * k ∧ Below w.heap.size w wr) (fun _ i _ => 12 - (intOf i).toNat)
  case atStart => exact ⟨0, ⟨#[]⟩, Nat.zero_le _, by omega, rfl, rfl, by decide, Below.refl _ _⟩
  case round =>
    obtain ⟨k, t, hk, hk2, rfl, rfl, ht, bw⟩ := hrel
    by_cases hlt : k < n
    · by_cases h12 : k < 12
      · obtain ⟨b', off, rfl, c0⟩ := (hL.below bw) k (by rw [hn.out]; exact hlt)
        generalize L[k]'(by rw [hn.out]; exact hlt) = x at c0
        have hx := x.toNat_lt
        obtain ⟨j, hj, hje⟩ : ∃ j : Nat, j < m ∧ ((x.toNat : Int)).tmod (m : Int) = (j : Int) := ⟨x.toNat % m, Nat.mod_lt _ h0, by rw [Int.ofNat_tmod]⟩
        have c1 := (bw.cell (World.block_lt_of_cell? w _ (hP j (by rw [hm.out]; exact hj)))).trans (hP j (by rw [hm.out]; exact hj))
        have hz := hs (P[j]'(by rw [hm.out]; exact hj)) (List.getElem_mem _)
        generalize P[j]'(by rw [hm.out]; exact hj) = p at c1 hz
        clear hL hP hs
        go_wp2_with fail
        go_round
        case rel => exact ⟨k + 1, _, by omega, by omega, by go_num, rfl, by simp; omega, bw⟩
        case measure => simp [intOf]; omega
      · clear hL hP hs
        go_wp2
        go_ret
        exact ⟨⟨_, rfl, by omega⟩, bw⟩
    · clear hL hP hs
      go_wp2
      go_ret
      exact ⟨⟨_, rfl, by omega⟩, bw⟩

set_option maxRecDepth 100000 in
set_option maxHeartbeats 12800000 in
theorem small_any {eo : Option Addr} {ce m1 : Nat} (L : List UInt8) (w : World) (hL : BytesAt eo L w) (hm1 : L.length = m1) (hz1 : m1 ≤ maxLen) (hE : Env w) :
    Calls Tryz.prog 4 #[.slice eo m1 ce] w fun e w' => e = .returned (.bool true) ∧ Below w.heap.size w w' := by
  replace hm1 := Lib.hid hm1
  have xA := (Below.refl w.heap.size w).alloc (Nat.le_refl _) (.cells #[.string ⟨#[116, 101, 120, 116, 47, 104, 116, 109, 108]⟩, .string ⟨#[116, 101, 120, 116, 47, 42]⟩, .string ⟨#[42, 47, 42]⟩, .string ⟨#[105, 109, 97, 103, 101, 47, 112, 110, 103]⟩, .string ⟨#[59, 113, 61, 48, 46, 53]⟩, .string ⟨#[59, 113, 61, 48]⟩, .string ⟨#[59, 113, 61, 49]⟩, .string ⟨#[59, 113, 61, 57]⟩, .string ⟨#[44]⟩, .string ⟨#[44, 32]⟩, .string ⟨#[97, 112, 112, 108, 105, 99, 97, 116, 105, 111, 110, 47, 97, 116, 111, 109, 43, 120, 109, 108]⟩, .string ⟨#[59, 116, 121, 112, 101, 61, 101, 110, 116, 114, 121]⟩, .string ⟨#[120]⟩, .string ⟨#[34]⟩, .string ⟨#[59, 97, 61, 34, 98, 44, 99, 34]⟩, .string ⟨#[116, 101, 120, 116, 47, 112, 108, 97, 105, 110]⟩] 9)
  have hS : StrsAt w.heap.size [⟨#[116, 101, 120, 116, 47, 104, 116, 109, 108]⟩, ⟨#[116, 101, 120, 116, 47, 42]⟩, ⟨#[42, 47, 42]⟩, ⟨#[105, 109, 97, 103, 101, 47, 112, 110, 103]⟩, ⟨#[59, 113, 61, 48, 46, 53]⟩, ⟨#[59, 113, 61, 48]⟩, ⟨#[59, 113, 61, 49]⟩, ⟨#[59, 113, 61, 57]⟩, ⟨#[44]⟩, ⟨#[44, 32]⟩, ⟨#[97, 112, 112, 108, 105, 99, 97, 116, 105, 111, 110, 47, 97, 116, 111, 109, 43, 120, 109, 108]⟩, ⟨#[59, 116, 121, 112, 101, 61, 101, 110, 116, 114, 121]⟩, ⟨#[120]⟩, ⟨#[34]⟩, ⟨#[59, 97, 61, 34, 98, 44, 99, 34]⟩, ⟨#[116, 101, 120, 116, 47, 112, 108, 97, 105, 110]⟩] (w.alloc (.cells #[.string ⟨#[116, 101, 120, 116, 47, 104, 116, 109, 108]⟩, .string ⟨#[116, 101, 120, 116, 47, 42]⟩, .string ⟨#[42, 47, 42]⟩, .string ⟨#[105, 109, 97, 103, 101, 47, 112, 110, 103]⟩, .string ⟨#[59, 113, 61, 48, 46, 53]⟩, .string ⟨#[59, 113, 61, 48]⟩, .string ⟨#[59, 113, 61, 49]⟩, .string ⟨#[59, 113, 61, 57]⟩, .string ⟨#[44]⟩, .string ⟨#[44, 32]⟩, .string ⟨#[97, 112, 112, 108, 105, 99, 97, 116, 105, 111, 110, 47, 97, 116, 111, 109, 43, 120, 109, 108]⟩, .string ⟨#[59, 116, 121, 112, 101, 61, 101, 110, 116, 114, 121]⟩, .string ⟨#[120]⟩, .string ⟨#[34]⟩, .string ⟨#[59, 97, 61, 34, 98, 44, 99, 34]⟩, .string ⟨#[116, 101, 120, 116, 47, 112, 108, 97, 105, 110]⟩] 9)) := strsAt_cells (heap_alloc_new w _)
  have hS1 : ∀ p ∈ ([⟨#[116, 101, 120, 116, 47, 104, 116, 109, 108]⟩, ⟨#[116, 101, 120, 116, 47, 42]⟩, ⟨#[42, 47, 42]⟩, ⟨#[105, 109, 97, 103, 101, 47, 112, 110, 103]⟩, ⟨#[59, 113, 61, 48, 46, 53]⟩, ⟨#[59, 113, 61, 48]⟩, ⟨#[59, 113, 61, 49]⟩, ⟨#[59, 113, 61, 57]⟩, ⟨#[44]⟩, ⟨#[44, 32]⟩, ⟨#[97, 112, 112, 108, 105, 99, 97, 116, 105, 111, 110, 47, 97, 116, 111, 109, 43, 120, 109, 108]⟩, ⟨#[59, 116, 121, 112, 101, 61, 101, 110, 116, 114, 121]⟩, ⟨#[120]⟩, ⟨#[34]⟩, ⟨#[59, 97, 61, 34, 98, 44, 99, 34]⟩, ⟨#[116, 101, 120, 116, 47, 112, 108, 97, 105, 110]⟩] : List ByteArray), p.size ≤ 20 := by decide
  have hLA := Lib.hid (hL.below xA)
  have hlen : ([⟨#[116, 101, 120, 116, 47, 104, 116, 109, 108]⟩, ⟨#[116, 101, 120, 116, 47, 42]⟩, ⟨#[42, 47, 42]⟩, ⟨#[105, 109, 97, 103, 101, 47, 112, 110, 103]⟩, ⟨#[59, 113, 61, 48, 46, 53]⟩, ⟨#[59, 113, 61, 48]⟩, ⟨#[59, 113, 61, 49]⟩, ⟨#[59, 113, 61, 57]⟩, ⟨#[44]⟩, ⟨#[44, 32]⟩, ⟨#[97, 112, 112, 108, 105, 99, 97, 116, 105, 111, 110, 47, 97, 116, 111, 109, 43, 120, 109, 108]⟩, ⟨#[59, 116, 121, 112, 101, 61, 101, 110, 116, 114, 121]⟩, ⟨#[120]⟩, ⟨#[34]⟩, ⟨#[59, 97, 61, 34, 98, 44, 99, 34]⟩, ⟨#[116, 101, 120, 116, 47, 112, 108, 97, 105, 110]⟩] : List ByteArray).length = 16 := rfl
  generalize ([⟨#[116, 101, 120, 116, 47, 104, 116, 109, 108]⟩, ⟨#[116, 101, 120, 116, 47, 42]⟩, ⟨#[42, 47, 42]⟩, ⟨#[105, 109, 97, 103, 101, 47, 112, 110, 103]⟩, ⟨#[59, 113, 61, 48, 46, 53]⟩, ⟨#[59, 113, 61, 48]⟩, ⟨#[59, 113, 61, 49]⟩, ⟨#[59, 113, 61, 57]⟩, ⟨#[44]⟩, ⟨#[44, 32]⟩, ⟨#[97, 112, 112, 108, 105, 99, 97, 116, 105, 111, 110, 47, 97, 116, 111, 109, 43, 120, 109, 108]⟩, ⟨#[59, 116, 121, 112, 101, 61, 101, 110, 116, 114, 121]⟩, ⟨#[120]⟩, ⟨#[34]⟩, ⟨#[59, 97, 61, 34, 98, 44, 99, 34]⟩, ⟨#[116, 101, 120, 116, 47, 112, 108, 97, 105, 110]⟩] : List ByteArray) = PS at hS hS1 hlen
  replace hlen := Lib.hid hlen
  replace hS1 := Lib.hid hS1
  replace hS := Lib.hid hS
  replace xA := Lib.hid xA
  clear hL
  have aw := Lib.hid awake_any
  have hh := Lib.hid have_any
  go_enter Tryz.func4, Tryz.ntmps4
  go_wp2_with fail
  (with_reducible refine (pieces_more L PS _ hLA.out hm1.out hS.out hlen.out (by decide) (by decide) hz1 hS1.out).mono ?_); rintro e wp ⟨⟨s, rfl, hs⟩, bp⟩
  replace xA := Lib.hid (xA.out.trans (bp.mono xA.out.size))
  clear bp hS hLA
  go_wp2_with fail
  (with_reducible refine (hh.out _).mono ?_); rintro e w2 ⟨⟨ao, rfl, hm⟩, b2⟩
  replace xA := Lib.hid (xA.out.trans (b2.mono xA.out.size))
  clear b2
  obtain ⟨A, hA⟩ : ∃ A, (Ql.best s.data.toList Ql.haves).1 = A := ⟨_, rfl⟩
  obtain ⟨V, hV⟩ : ∃ V, (Ql.best s.data.toList Ql.haves).2 = V := ⟨_, rfl⟩
  go_wp2_with fail
  (with_reducible refine (qBest_have s _ (by omega) hm (hE.on xA.out) hA hV).mono ?_); rintro e w3 ⟨rfl, b3⟩
  replace xA := Lib.hid (xA.out.trans (b3.mono xA.out.size))
  clear b3 hm
  go_wp2_with fail
  (with_reducible refine (hh.out _).mono ?_); rintro e w4 ⟨⟨ao2, rfl, hm⟩, b4⟩
  replace xA := Lib.hid (xA.out.trans (b4.mono xA.out.size))
  clear b4
  go_wp2_with fail
  (with_reducible refine (refBest_have s _ (by omega) hm hA hV).mono ?_); rintro e w5 ⟨rfl, b5⟩
  replace xA := Lib.hid (xA.out.trans (b5.mono xA.out.size))
  clear b5 hm
  go_wp2_with fail
  (with_reducible refine (aw.out _ (hE.on xA.out)).mono ?_); rintro e w6 ⟨rfl, b6⟩
  replace xA := Lib.hid (xA.out.trans (b6.mono xA.out.size))
  clear b6
  go_wp2_with fail
  (with_reducible refine (qSplit_any s _ (by omega) (hE.on xA.out)).mono ?_); rintro e w7 ⟨so, ca, rfl, hT, b7⟩
  replace xA := Lib.hid (xA.out.trans (b7.mono xA.out.size))
  clear b7
  go_wp2_with fail
  (with_reducible refine (refSplit_any s _ (by omega)).mono ?_); rintro e w8 ⟨uo, cb, rfl, hU, -, b8⟩
  replace xA := Lib.hid (xA.out.trans (b8.mono xA.out.size))
  have hT2 := hT.below b8
  have hll : (Ql.split s.data.toList).length ≤ maxLen := by
    have h1 := (Ql.split_small s.data.toList).2
    have h2 := list_len s
    unfold maxLen; omega
  clear b8 hT hA hV
  generalize Ql.split s.data.toList = P at *
  go_wp2_with fail
  (with_reducible refine (sameTexts_any P P _ hT2 hU hll hll).mono ?_); rintro e w9 ⟨rfl, b9⟩
  rw [decide_eq_true rfl]
  replace xA := Lib.hid (xA.out.trans (b9.mono xA.out.size))
  clear b9
  have e0 : (A == A) = true := beq_self_eq_true _
  go_wp2_with fail
  (with_reducible refine (same_any (Fl.W V) (Fl.W V) _).mono ?_); rintro e wA ⟨rfl, rfl⟩
  rw [same_refl]
  go_wp2_with fail
  go_ret
  exact ⟨rfl, xA.out⟩
end Go.Proofs.YtpgdmoaegnehbaaGreatDoor
