/-
  A row of bytes that a call owns.
  What the document's own words of code points come to: contracts of in, Char.
  What the document's own words of references come to: contracts of Space, digit, number, utf8.
  What the document's own words of references come to: contracts of number, named.
  What the document's own words of code points come to: contracts of Start, Part.
  What the document's own word of the code point at a text's head comes to: contract of First.
  What the document's own words of texts come to: contracts of Check, Name, Plain.
  What the document's own words of texts come to: contracts of Plain, Lines.
  What the document's own words of texts come to: contract of Lines.
  What the packages' variables hold that the library's functions read: a bound of a search; a table of letters.
  What the variables hold: see TokEnv.
-/
import Derived.Test.YtegaidfmkfnbnaaGreatDoorP01
import Derived.Lib.AppendStr
import Derived.Lib.OthersKept
import Derived.Maps.AppendAt
import Derived.Test.YtegaidfmkfnbnaaGreatDoorP02
import Derived.Deep.DeepCutAuto
import Derived.Lib.Hide
namespace Go.Proofs.YtegaidfmkfnbnaaGreatDoor
open Go.RowKit

theorem grown_of_below {w w' : World} (h : Below w.heap.size w w') (row : Option Nat) : w.grownBy w' row := ⟨h.os, h.tape, h.output, h.size, fun k hk _ => h.block k hk⟩

theorem infoByte : (Tryz.prog.info? 5).map (fun i => (i.zero, i.size, i.bytes)) = some (some (.int .u8 0), 1, 1) := by kernel_rfl

/-- The call owns a row of these bytes. -/
def Owns (B : Nat) (v : Value) (l : List UInt8) (w : World) : Prop := w.ownsRow B 5 1 v l.length (Lib.byteCells l)

theorem Owns.below {B : Nat} {v : Value} {l : List UInt8} {w w' : World} (h : Owns B v l w) (hg : w.grownBy w' v.ownBlock) (hB : B ≤ w.heap.size) : Below B w w' :=
  (Below.refl _ _).grown hg hB (fun j e => (World.ownsRow.lt h j e).1)

theorem owns_of {B n : Nat} {v : Value} {l : List UInt8} {xs : List Value} {w : World} (h : w.ownsRow B 5 1 v n xs) (hn : n = l.length) (hx : xs = Lib.byteCells l) : Owns B v l w := by
  subst hn; subst hx; exact h

theorem row_form {w : World} {B : Nat} {e : TypeId} {size n : Nat} {v : Value} {xs : List Value} (h : w.ownsRow B e size v n xs) (hn : 0 < n) :
    ∃ g cap, v = .slice (some ⟨g, 0, none⟩) n cap ∧ B ≤ g := by
  obtain ⟨_, ⟨_, rfl⟩ | ⟨g, cap, cur, rfl, hb, _⟩⟩ := h
  · omega
  · exact ⟨g, cap, rfl, hb⟩

/-- A row of the call's own that is not empty, as text. -/
theorem text_of {B : Nat} {v : Value} {l : List UInt8} {w : World} (h : Owns B v l w) (hl : 0 < l.length) : ∃ g cap, v = .slice (some ⟨g, 0, none⟩) l.length cap ∧ ∀ j (hj : j < l.length), w.cell? ((⟨g, 0, none⟩ : Addr).add j) = some (.int .u8 (l[j].toNat : Int)) := by
  obtain ⟨g, cap, rfl, hb⟩ := row_form h hl
  exact ⟨g, cap, rfl, fun j hj => World.ownsRow.cells h (g := g) rfl j _ (by simp [Lib.byteCells, hj])⟩

theorem owns_nil (B : Nat) (w : World) : Owns B (.slice none 0 0) [] w := World.ownsRow_nil _ _ _ _
theorem owns_alloc {B : Nat} {v : Value} {l : List UInt8} {w : World} (h : Owns B v l w) (o : Obj) : Owns B v l (w.alloc o) := World.ownsRow.alloc h o
theorem owns_below {B : Nat} {v : Value} {l : List UInt8} {w w' : World} (h : Owns B v l w) (hb : Below w.heap.size w w') : Owns B v l w' := World.ownsRow.kept h (grown_of_below hb none) (by
  obtain ⟨_, ⟨rfl, _⟩ | ⟨g, cap, cur, rfl, _⟩⟩ := h
  · exact .inl rfl
  · right; simp [Value.ownBlock])

set_option maxRecDepth 100000 in
/-- Converted to a string. -/
theorem owns_string {B : Nat} {v : Value} {l : List UInt8} {w : World} (h : Owns B v l w) (h0 : l = [] → v = .slice none 0 0) : (convert 36 9 v).run Tryz.prog w = .ok (.string ⟨l.toArray⟩) w := by
  by_cases hl : l = []
  · rw [h0 hl, hl]
    rfl
  · obtain ⟨g, cap, rfl, hc⟩ := text_of h (List.length_pos_iff.2 hl)
    exact run_convert_bytes_back (l := l) w 36 9 5 ⟨g, 0, none⟩ cap Tryz.underlying36 Tryz.underlying5 Tryz.underlying9 hc
end Go.Proofs.YtegaidfmkfnbnaaGreatDoor
namespace Go.Proofs.YtegaidfmkfnbnaaGreatDoor
open Go.RowKit

namespace G
def any (c : Int) (L : List (Int × Int)) : Bool := L.any fun p => inR c p.1 p.2
theorem any_take (c : Int) (L : List (Int × Int)) (k : Nat) (h : k < L.length) : any c (L.take (k + 1)) = (any c (L.take k) || inR c L[k].1 L[k].2) := by
  unfold any
  rw [List.take_succ_eq_append_getElem h, List.any_append, List.any_cons, List.any_nil, Bool.or_false]
theorem any_at (c : Int) (L : List (Int × Int)) (k : Nat) (h : k < L.length) (hi : inR c L[k].1 L[k].2 = true) : any c L = true := by
  unfold any
  rw [List.any_eq_true]
  exact ⟨_, List.getElem_mem h, hi⟩
end G

/-- A ROW OF PAIRS OF NUMBERS LIES AT THE HEAD OF BLOCK b. -/
def PairsAt (b : Nat) (L : List (Int × Int)) (w : World) : Prop := ∀ j (h : j < L.length), w.cell? ⟨b, 2 * j, none⟩ = some (.int .i64 L[j].1) ∧ w.cell? ⟨b, 2 * j + 1, none⟩ = some (.int .i64 L[j].2)

set_option maxHeartbeats 800000 in
theorem refIn_any (c : Int) (L : List (Int × Int)) (b n cap : Nat) (w : World) (hL : PairsAt b L w) (hn : L.length ≤ 1000) (hln : 2 * L.length = n) :
    Calls Tryz.prog 95 #[.int .i64 c, .slice (some ⟨b, 0, none⟩) n cap] w fun e w' => e = .returned (.bool (G.any c L)) ∧ w = w' := by
  have hln := Lib.hid hln
  go_enter Tryz.func95, Tryz.ntmps95
  go_wp2_with fail
  go_loop [5] (fun i => ∃ k : Nat, 2 * k ≤ n ∧ i = .int .i64 ((2 * k : Nat) : Int) ∧ G.any c (L.take k) = false) (fun i => n - (intOf i).toNat)
  case atStart => exact ⟨0, Nat.zero_le _, rfl, rfl⟩
  case round =>
    obtain ⟨k, hk, rfl, hall⟩ := hrel
    by_cases hlt : k < L.length
    · obtain ⟨c0, c1⟩ := hL k hlt
      have hst := Lib.hid (G.any_take c L k hlt)
      have hat := Lib.hid (G.any_at c L k hlt)
      have hk2 : 2 * k + 1 < n := by rw [← hln.out]; omega
      generalize L[k].1 = x at c0 hst hat
      generalize L[k].2 = y at c1 hst hat
      have hall := Lib.hid hall
      by_cases hx : x ≤ c
      · by_cases hy : c ≤ y
        · have hr := Lib.hid (hat.out (by simp [G.inR, hx, hy]))
          go_wp2
          go_ret
          exact ⟨ret_bool hr.out.symm, rfl⟩
        · have hr := Lib.hid (show G.any c (L.take (k + 1)) = false by rw [hst.out, hall.out]; simp [G.inR, hx, hy])
          go_wp2
          go_round
          case rel => exact ⟨k + 1, by omega, by go_num, hr.out⟩
          case measure => simp [intOf]; omega
      · have hr := Lib.hid (show G.any c (L.take (k + 1)) = false by rw [hst.out, hall.out]; simp [G.inR, hx])
        go_wp2
        go_round
        case rel => exact ⟨k + 1, by omega, by go_num, hr.out⟩
        case measure => simp [intOf]; omega
    · have hk2 : 2 * k = n := by rw [← hln.out]; rw [← hln.out] at hk; omega
      have hfull : L.take k = L := List.take_of_length_le (by omega)
      have hr := Lib.hid (show G.any c L = false by rw [← hfull]; exact hall)
      clear hfull
      go_wp2
      go_ret
      exact ⟨ret_bool hr.out.symm, rfl⟩

/-- the cells of pairs. -/
def cellsOf (L : List (Int × Int)) : List Value := L.flatMap fun p => [.int .i64 p.1, .int .i64 p.2]
theorem cellsOf_at (L : List (Int × Int)) : ∀ (j : Nat) (h : j < L.length), (cellsOf L)[2 * j]? = some (.int .i64 L[j].1) ∧ (cellsOf L)[2 * j + 1]? = some (.int .i64 L[j].2) := by
  induction L with
  | nil => intro j h; simp at h
  | cons p L ih =>
    intro j h
    have e : cellsOf (p :: L) = .int .i64 p.1 :: .int .i64 p.2 :: cellsOf L := rfl
    cases j with
    | zero => rw [e]; exact ⟨rfl, rfl⟩
    | succ j =>
      have := ih j (by simpa using h)
      rw [e, show 2 * (j + 1) = 2 * j + 1 + 1 by omega]
      simpa using this

theorem pairsAt_cells {b : Nat} {L : List (Int × Int)} {w : World} {T : TypeId} {fr : Nat × Nat} (h : w.heap[b]? = some (.cells (cellsOf L).toArray T fr)) : PairsAt b L w := by
  intro j hj
  have := cellsOf_at L j hj
  simp only [World.cell?, h]
  simpa using this

set_option maxRecDepth 100000 in
set_option maxHeartbeats 1600000 in
theorem refChar_any (c : Int) (w : World) :
    Calls Tryz.prog 67 #[.int .i64 c] w fun e w' => e = .returned (.bool (G.char c)) ∧ Below w.heap.size w w' := by
  have hm : G.char c = G.any c [(9, 10), (13, 13), (32, 55295), (57344, 65533), (65536, 1114111)] := by simp [G.any, G.char, Bool.or_assoc]
  rw [hm]
  clear hm
  go_enter Tryz.func67, Tryz.ntmps67
  go_wp2_with fail
  (with_reducible refine (refIn_any c [(9, 10), (13, 13), (32, 55295), (57344, 65533), (65536, 1114111)] w.heap.size 10 _ _ ?_ (by decide) rfl).mono ?_)
  · exact pairsAt_cells (heap_alloc_new w _)
  rintro e w1 ⟨rfl, rfl⟩
  go_wp2
  go_ret
  exact ⟨rfl, (Below.refl _ _).alloc (Nat.le_refl _) _⟩

end Go.Proofs.YtegaidfmkfnbnaaGreatDoor
namespace Go.Proofs.YtegaidfmkfnbnaaGreatDoor
open Go.RowKit

theorem refSpace_any (c : Int) (w : World) :
    Calls Tryz.prog 43 #[.int .i64 c] w fun e w' => e = .returned (.bool (G.space c)) ∧ w = w' := by
  have H : G.space c = (decide (c = 32) || decide (c = 9) || decide (c = 10) || decide (c = 13)) := rfl
  have HH := Lib.hid H
  clear H
  go_enter Tryz.func43, Tryz.ntmps43
  go_wp2
  all_goals go_ret
  all_goals refine ⟨ret_bool ?_, rfl⟩
  all_goals rw [HH.out, Bool.eq_iff_iff]
  all_goals simp
  all_goals omega

namespace E
/-- a digit's worth, -1: none. -/
def digitN (c : UInt8) (base : Nat) : Int := match digit c base with | some k => (k : Int) | none => -1
def numN (base : Nat) (l : List UInt8) : Int := match number base l with | some k => (k : Int) | none => -1
theorem digitN_cases (c : UInt8) (base : Nat) : digitN c base =
    (let n : Int := if 48 ≤ c.toNat ∧ c.toNat ≤ 57 then (c.toNat : Int) - 48 else if 65 ≤ c.toNat ∧ c.toNat ≤ 70 then (c.toNat : Int) - 55 else if 97 ≤ c.toNat ∧ c.toNat ≤ 102 then (c.toNat : Int) - 87 else -1
     if n < (base : Int) then n else -1) := by
  unfold digitN digit
  by_cases h1 : 48 ≤ c.toNat ∧ c.toNat ≤ 57
  · simp only [if_pos h1, Option.bind_some]
    by_cases hb : c.toNat - 48 < base
    · simp only [if_pos hb]; rw [if_pos (by omega)]; omega
    · simp only [if_neg hb]; rw [if_neg (by omega)]
  · by_cases h2 : 65 ≤ c.toNat ∧ c.toNat ≤ 70
    · simp only [if_neg h1, if_pos h2, Option.bind_some]
      by_cases hb : c.toNat - 55 < base
      · simp only [if_pos hb]; rw [if_pos (by omega)]; omega
      · simp only [if_neg hb]; rw [if_neg (by omega)]
    · by_cases h3 : 97 ≤ c.toNat ∧ c.toNat ≤ 102
      · simp only [if_neg h1, if_neg h2, if_pos h3, Option.bind_some]
        by_cases hb : c.toNat - 87 < base
        · simp only [if_pos hb]; rw [if_pos (by omega)]; omega
        · simp only [if_neg hb]; rw [if_neg (by omega)]
      · simp only [if_neg h1, if_neg h2, if_neg h3, Option.bind_none]
        split <;> rfl
end E

theorem refDigit_any (c : UInt8) (base : Nat) (w : World) (hb : base ≤ 100) :
    Calls Tryz.prog 147 #[.int .u8 (c.toNat : Int), .int .i64 (base : Int)] w fun e w' => e = .returned (.int .i64 (E.digitN c base)) ∧ w = w' := by
  have H := E.digitN_cases c base
  generalize E.digitN c base = r at H
  have hc := c.toNat_lt
  generalize c.toNat = n at *
  replace H := Lib.hid H
  go_enter Tryz.func147, Tryz.ntmps147
  go_wp2
  all_goals go_ret
  all_goals refine ⟨ret_int ?_, rfl⟩
  all_goals rw [H.out]
  all_goals repeat' split
  all_goals omega

theorem cells_new (w : World) (xs : List Value) (t : TypeId) (fr : Nat × Nat) : ∀ j u, xs[j]? = some u → (w.alloc (.cells xs.toArray t fr)).cell? ((⟨w.heap.size, 0, none⟩ : Addr).add j) = some u := by
  intro j u hj
  have e := heap_alloc_new w (.cells xs.toArray t fr)
  have a : (⟨w.heap.size, 0, none⟩ : Addr).add j = ⟨w.heap.size, j, none⟩ := by unfold Addr.add; split <;> simp_all
  rw [a]
  unfold World.cell?
  rw [e]
  simp [hj]

theorem byteCells_rune (r : Int) : (Lib.encodeRuneZ r).map (fun x => Value.int .u8 x) = Lib.byteCells (Lib.encodeRune r) := (Lib.byteCells_encodeRune r).symm

set_option maxRecDepth 100000 in
set_option maxHeartbeats 1600000 in
theorem refUtf8_any (c : Nat) (w : World) (hc : G.char (c : Int) = true) :
    Calls Tryz.prog 140 #[.int .i64 (c : Int)] w fun e w' => e = .returned (.string ⟨(Lib.encodeRune (c : Int)).toArray⟩) ∧ Below w.heap.size w w' := by
  obtain ⟨i0, hi, hz0, hz1, hz2⟩ := info_parts infoByte
  have hb : c ≤ 1114111 ∧ (c < 55296 ∨ 57343 < c) := by
    simp [G.char, G.inR] at hc
    omega
  clear hc
  obtain ⟨hb1, hb2⟩ := hb
  go_enter Tryz.func140, Tryz.ntmps140
  by_cases h1 : c < 128
  · have hE := Lib.hid (Lib.encodeRuneZ_one (r := (c : Int)) (by omega) (by omega))
    go_wp2_with (at_builtin; refine wpList_append_own _ rfl _ _ 36 rfl w.heap.size 5 i0 (.int .u8 0) 1 1 Tryz.underlying36 hi hz0 hz1 hz2 rfl (by decide) _ _ _ rfl (owns_nil w.heap.size _) ⟨w.heap.size, 0, none⟩ 1 1 [.int .u8 ((c : Int))] rfl rfl (cells_new w [.int .u8 ((c : Int))] _ _) (fun u hu => by simp at hu; rcases hu with rfl <;> rfl) (by unfold maxLen; decide) (by decide) (by simp) ?_)
    intro v2 w2 hown2 hg2 _
    have hga : w.grownBy w2 _ := (World.grownBy_alloc w _ _).trans hg2
    have b2 := (owns_nil w.heap.size w).below hga (Nat.le_refl _)
    have ho2 : Owns w.heap.size v2 (Lib.encodeRune (c : Int)) w2 := owns_of hown2 (by unfold Lib.encodeRune; rw [hE.out]; rfl) (by rw [← byteCells_rune, hE.out]; rfl)
    have hcv := owns_string ho2 (fun e => by unfold Lib.encodeRune at e; rw [hE.out] at e; cases e)
    clear hown2 hg2 hga
    go_wp2
    go_ret
    exact ⟨rfl, b2⟩
  by_cases h2 : c < 2048
  · have hE := Lib.hid (Lib.encodeRuneZ_two (r := (c : Int)) (by omega) (by omega))
    go_wp2_with (at_builtin; refine wpList_append_own _ rfl _ _ 36 rfl w.heap.size 5 i0 (.int .u8 0) 1 1 Tryz.underlying36 hi hz0 hz1 hz2 rfl (by decide) _ _ _ rfl (owns_nil w.heap.size _) ⟨w.heap.size, 0, none⟩ 2 2 [.int .u8 (192 + (c : Int) / 64), .int .u8 (128 + (c : Int) % 64)] rfl rfl (cells_new w [.int .u8 (192 + (c : Int) / 64), .int .u8 (128 + (c : Int) % 64)] _ _) (fun u hu => by simp at hu; rcases hu with rfl | rfl <;> rfl) (by unfold maxLen; decide) (by decide) (by simp) ?_)
    intro v2 w2 hown2 hg2 _
    have hga : w.grownBy w2 _ := (World.grownBy_alloc w _ _).trans hg2
    have b2 := (owns_nil w.heap.size w).below hga (Nat.le_refl _)
    have ho2 : Owns w.heap.size v2 (Lib.encodeRune (c : Int)) w2 := owns_of hown2 (by unfold Lib.encodeRune; rw [hE.out]; rfl) (by rw [← byteCells_rune, hE.out]; rfl)
    have hcv := owns_string ho2 (fun e => by unfold Lib.encodeRune at e; rw [hE.out] at e; cases e)
    clear hown2 hg2 hga
    go_wp2
    go_ret
    exact ⟨rfl, b2⟩
  by_cases h3 : c < 65536
  · have hE := Lib.encodeRuneZ_three (r := (c : Int)) (by omega)
    obtain ⟨q1, e1, l1⟩ : ∃ q : Nat, (c : Int) / 4096 = (q : Int) ∧ q < 16 := ⟨((c : Int) / 4096).toNat, by omega, by omega⟩
    obtain ⟨q2, e2, l2⟩ : ∃ q : Nat, (c : Int) / 64 % 64 = (q : Int) ∧ q < 64 := ⟨((c : Int) / 64 % 64).toNat, by omega, by omega⟩
    obtain ⟨q3, e3, l3⟩ : ∃ q : Nat, (c : Int) % 64 = (q : Int) ∧ q < 64 := ⟨((c : Int) % 64).toNat, by omega, by omega⟩
    rw [e1, e2, e3] at hE
    replace hE := Lib.hid hE
    replace h3 : (c : Int) < 65536 := by omega
    replace h2 : ¬ (c : Int) < 2048 := by omega
    replace h1 : ¬ (c : Int) < 128 := by omega
    clear hb1 hb2
    go_wp2_with (at_builtin; refine wpList_append_own _ rfl _ _ 36 rfl w.heap.size 5 i0 (.int .u8 0) 1 1 Tryz.underlying36 hi hz0 hz1 hz2 rfl (by decide) _ _ _ rfl (owns_nil w.heap.size _) ⟨w.heap.size, 0, none⟩ 3 3 [.int .u8 (224 + (q1 : Int)), .int .u8 (128 + (q2 : Int)), .int .u8 (128 + (q3 : Int))] rfl rfl (cells_new w [.int .u8 (224 + (q1 : Int)), .int .u8 (128 + (q2 : Int)), .int .u8 (128 + (q3 : Int))] _ _) (fun u hu => by simp at hu; rcases hu with rfl | rfl | rfl <;> rfl) (by unfold maxLen; decide) (by decide) (by simp) ?_)
    intro v2 w2 hown2 hg2 _
    have hga : w.grownBy w2 _ := (World.grownBy_alloc w _ _).trans hg2
    have b2 := (owns_nil w.heap.size w).below hga (Nat.le_refl _)
    have ho2 : Owns w.heap.size v2 (Lib.encodeRune (c : Int)) w2 := owns_of hown2 (by unfold Lib.encodeRune; rw [hE.out]; rfl) (by rw [← byteCells_rune, hE.out]; rfl)
    have hcv := owns_string ho2 (fun e => by unfold Lib.encodeRune at e; rw [hE.out] at e; cases e)
    clear hown2 hg2 hga
    go_wp2
    go_ret
    exact ⟨rfl, b2⟩
  · have hE := Lib.encodeRuneZ_four (r := (c : Int)) (by omega) (by omega)
    obtain ⟨q1, e1, l1⟩ : ∃ q : Nat, (c : Int) / 262144 = (q : Int) ∧ q < 8 := ⟨((c : Int) / 262144).toNat, by omega, by omega⟩
    obtain ⟨q2, e2, l2⟩ : ∃ q : Nat, (c : Int) / 4096 % 64 = (q : Int) ∧ q < 64 := ⟨((c : Int) / 4096 % 64).toNat, by omega, by omega⟩
    obtain ⟨q3, e3, l3⟩ : ∃ q : Nat, (c : Int) / 64 % 64 = (q : Int) ∧ q < 64 := ⟨((c : Int) / 64 % 64).toNat, by omega, by omega⟩
    obtain ⟨q4, e4, l4⟩ : ∃ q : Nat, (c : Int) % 64 = (q : Int) ∧ q < 64 := ⟨((c : Int) % 64).toNat, by omega, by omega⟩
    rw [e1, e2, e3, e4] at hE
    replace hE := Lib.hid hE
    replace h3 : ¬ (c : Int) < 65536 := by omega
    replace h2 : ¬ (c : Int) < 2048 := by omega
    replace h1 : ¬ (c : Int) < 128 := by omega
    clear hb1 hb2
    go_wp2_with (at_builtin; refine wpList_append_own _ rfl _ _ 36 rfl w.heap.size 5 i0 (.int .u8 0) 1 1 Tryz.underlying36 hi hz0 hz1 hz2 rfl (by decide) _ _ _ rfl (owns_nil w.heap.size _) ⟨w.heap.size, 0, none⟩ 4 4 [.int .u8 (240 + (q1 : Int)), .int .u8 (128 + (q2 : Int)), .int .u8 (128 + (q3 : Int)), .int .u8 (128 + (q4 : Int))] rfl rfl (cells_new w [.int .u8 (240 + (q1 : Int)), .int .u8 (128 + (q2 : Int)), .int .u8 (128 + (q3 : Int)), .int .u8 (128 + (q4 : Int))] _ _) (fun u hu => by simp at hu; rcases hu with rfl | rfl | rfl | rfl <;> rfl) (by unfold maxLen; decide) (by decide) (by simp) ?_)
    intro v2 w2 hown2 hg2 _
    have hga : w.grownBy w2 _ := (World.grownBy_alloc w _ _).trans hg2
    have b2 := (owns_nil w.heap.size w).below hga (Nat.le_refl _)
    have ho2 : Owns w.heap.size v2 (Lib.encodeRune (c : Int)) w2 := owns_of hown2 (by unfold Lib.encodeRune; rw [hE.out]; rfl) (by rw [← byteCells_rune, hE.out]; rfl)
    have hcv := owns_string ho2 (fun e => by unfold Lib.encodeRune at e; rw [hE.out] at e; cases e)
    clear hown2 hg2 hga
    go_wp2
    go_ret
    exact ⟨rfl, b2⟩
end Go.Proofs.YtegaidfmkfnbnaaGreatDoor
namespace Go.Proofs.YtegaidfmkfnbnaaGreatDoor
open Go.RowKit

namespace E
def numR (base m : Nat) (l : List UInt8) : Int := match numGo base m l with | some n => if G.char (n : Int) = true then (n : Int) else -1 | none => -1
theorem numN_of (base : Nat) (l : List UInt8) (h : l ≠ []) : numN base l = numR base 0 l := by
  unfold numN numR number
  rw [if_neg h]
  cases numGo base 0 l with
  | none => rfl
  | some n =>
    simp only [Option.bind_some]
    by_cases hc : G.char (n : Int) = true
    · rw [if_pos hc, if_pos hc]
    · rw [if_neg hc, if_neg hc]
theorem numN_nil (base : Nat) : numN base [] = -1 := rfl
theorem numR_nil (base m : Nat) : numR base m [] = if G.char (m : Int) = true then (m : Int) else -1 := rfl
theorem numR_bad (base m : Nat) (b : UInt8) (t : List UInt8) (h : digit b base = none) : numR base m (b :: t) = -1 := by
  unfold numR numGo; rw [h]; rfl
theorem numR_step (base m d : Nat) (b : UInt8) (t : List UInt8) (h : digit b base = some d) : numR base m (b :: t) = numR base (min (m * base + d) 1114112) t := by
  unfold numR; rw [numGo, h]; rfl
theorem digit_lt {b : UInt8} {base d : Nat} (h : digit b base = some d) : d < base := by
  unfold digit at h
  revert h
  generalize (if 48 ≤ b.toNat ∧ b.toNat ≤ 57 then some (b.toNat - 48) else if 65 ≤ b.toNat ∧ b.toNat ≤ 70 then some (b.toNat - 55) else if 97 ≤ b.toNat ∧ b.toNat ≤ 102 then some (b.toNat - 87) else none) = o
  intro h
  cases o with
  | none => cases h
  | some k =>
    simp only [Option.bind_some] at h
    split at h
    · cases h; assumption
    · cases h
end E

set_option maxRecDepth 100000 in
set_option maxHeartbeats 1600000 in
theorem refNumber_any (s : ByteArray) (base : Nat) (w : World) (hs : s.size ≤ maxLen) (hb : base ≤ 16) :
    Calls Tryz.prog 139 #[.string s, .int .i64 (base : Int)] w fun e w' => e = .returned (.int .i64 (E.numN base s.data.toList)) ∧ Below w.heap.size w w' := by
  have hsm : s.size ≤ 9223372036854775807 := hs
  go_enter Tryz.func139, Tryz.ntmps139
  go_wp2_with fail
  go_loop [5, 6, 7] (fun n i d => ∃ k m : Nat, k ≤ s.size ∧ m ≤ 1114112 ∧ n = .int .i64 m ∧ i = .int .i64 k ∧ Hid (E.numR base m (s.data.toList.drop k) = E.numR base 0 s.data.toList)) (fun _ i _ => s.size - (intOf i).toNat)
  case atStart => exact ⟨0, 0, Nat.zero_le _, by omega, rfl, rfl, Lib.hid rfl⟩
  case round =>
    obtain ⟨k, m, hk, hm, rfl, rfl, hR⟩ := hrel
    by_cases hlt : k < s.size
    · have hne := Lib.hid (E.numN_of base s.data.toList (lst_ne (by omega)))
      have hdc := drop_cons s k hlt
      have hR1 := hR.out
      rw [hdc] at hR1
      clear hdc
      go_wp2_with fail
      (with_reducible refine (refDigit_any s[k] base _ (by omega)).mono ?_); rintro e w1 ⟨rfl, rfl⟩
      cases hd : E.digit s[k] base with
      | none =>
        have e1 : E.digitN s[k] base = -1 := by unfold E.digitN; rw [hd]
        have hr := Lib.hid (hne.out.trans (hR1.symm.trans (E.numR_bad base m _ _ hd)))
        rw [e1]
        clear e1 hR1 hd
        go_wp2
        go_ret
        exact ⟨ret_int hr.out.symm, Below.refl _ _⟩
      | some d =>
        have e1 : E.digitN s[k] base = (d : Int) := by unfold E.digitN; rw [hd]
        have hr := Lib.hid ((E.numR_step base m d _ _ hd).symm.trans hR1)
        have hl := E.digit_lt hd
        rw [e1]
        clear e1 hR1 hd
        have hmul : m * base ≤ 1114112 * 16 := Nat.mul_le_mul hm hb
        obtain ⟨q, hq⟩ : ∃ q : Nat, q = m * base := ⟨_, rfl⟩
        have hqi : (m : Int) * (base : Int) = (q : Int) := by rw [hq]; simp
        rw [← hq] at hr hmul
        clear hq
        go_wp2
        go_round
        case rel => exact ⟨k + 1, min (q + d) 1114112, by omega, by omega, by congr 1; split <;> omega, by go_num, hr⟩
        case measure => simp [intOf]; omega
    · have hnil : s.data.toList.drop k = [] := List.drop_of_length_le (by rw [list_len]; omega)
      have hR1 := hR.out
      rw [hnil, E.numR_nil] at hR1
      clear hnil
      by_cases h0 : s.size = 0
      · obtain rfl : s = ByteArray.empty := ByteArray.size_eq_zero_iff.1 h0
        have hr := Lib.hid (E.numN_nil base)
        clear hR1
        go_wp2
        go_ret
        exact ⟨ret_int hr.out.symm, Below.refl _ _⟩
      · have hne := (E.numN_of base s.data.toList (lst_ne (by omega))).trans hR1.symm
        have hem := ne_empty (s := s) (by omega)
        clear hR1
        go_wp2_with fail
        (with_reducible refine (refChar_any (m : Int) _).mono ?_); rintro e w1 ⟨rfl, b1⟩
        cases hc : G.char (m : Int)
        · rw [hc] at hne
          have hr := Lib.hid hne
          clear hne hc
          go_wp2
          go_ret
          exact ⟨ret_int hr.out.symm, b1⟩
        · rw [hc] at hne
          have hr := Lib.hid hne
          clear hne hc
          go_wp2
          go_ret
          exact ⟨ret_int hr.out.symm, b1⟩

namespace E
/-- what a reference's name is, as a string: empty, if nothing. -/
def namedB (s : ByteArray) : ByteArray := match named s.data.toList with | some u => ⟨u.toArray⟩ | none => ByteArray.empty
end E

theorem str_ne {s : ByteArray} {l : List UInt8} (h : ¬ s.data.toList = l) : (s.toList == l) = false := by
  rw [ByteArray.toList_eq]; exact beq_false_of_ne h
theorem str_is {s : ByteArray} {l : List UInt8} (h : s.data.toList = l) : (s.toList == l) = true := by
  rw [ByteArray.toList_eq, h]; exact beq_self_eq_true l

namespace E
theorem number_char {base n : Nat} {l : List UInt8} (h : number base l = some n) : G.char (n : Int) = true := by
  unfold number at h
  split at h
  · cases h
  · cases hg : numGo base 0 l with
    | none => rw [hg] at h; cases h
    | some k =>
      rw [hg] at h
      simp only [Option.bind_some] at h
      split at h
      · cases h; assumption
      · cases h
theorem numN_some {base n : Nat} {l : List UInt8} (h : number base l = some n) : numN base l = (n : Int) := by unfold numN; rw [h]
theorem numN_none {base : Nat} {l : List UInt8} (h : number base l = none) : numN base l = -1 := by unfold numN; rw [h]
theorem namedB_of {s : ByteArray} {u : List UInt8} (h : named s.data.toList = some u) : namedB s = ⟨u.toArray⟩ := by unfold namedB; rw [h]
theorem namedB_no {s : ByteArray} (h : named s.data.toList = none) : namedB s = ByteArray.empty := by unfold namedB; rw [h]
theorem named_hash {l : List UInt8} (h1 : ¬ l = [108, 116]) (h2 : ¬ l = [103, 116]) (h3 : ¬ l = [97, 109, 112]) (h4 : ¬ l = [113, 117, 111, 116]) (h5 : ¬ l = [97, 112, 111, 115]) :
    named l = if 2 < l.length ∧ l.take 2 = [35, 120] then (number 16 (l.drop 2)).map fun n => Lib.encodeRune n else if 1 < l.length ∧ l.take 1 = [35] then (number 10 (l.drop 1)).map fun n => Lib.encodeRune n else none := by
  unfold named
  rw [if_neg h1, if_neg h2, if_neg h3, if_neg h4, if_neg h5]
end E

set_option maxRecDepth 100000 in
set_option maxHeartbeats 3200000 in
theorem refNamed_any (s : ByteArray) (w : World) (hs : s.size ≤ maxLen) :
    Calls Tryz.prog 129 #[.string s] w fun e w' => e = .returned (.string (E.namedB s)) ∧ Below w.heap.size w w' := by
  have hsm : s.size ≤ 9223372036854775807 := hs
  have hlen := list_len s
  go_enter Tryz.func129, Tryz.ntmps129
  by_cases h1 : s.data.toList = [108, 116]
  · obtain rfl : s = ⟨#[108, 116]⟩ := bytes_eq h1
    have hr : E.namedB ⟨#[108, 116]⟩ = ⟨#[60]⟩ := by decide +kernel
    rw [hr]
    clear hlen 
    go_wp2
    go_ret
    exact ⟨rfl, Below.refl _ _⟩
  have n1 := str_ne h1
  by_cases h2 : s.data.toList = [103, 116]
  · obtain rfl : s = ⟨#[103, 116]⟩ := bytes_eq h2
    have hr : E.namedB ⟨#[103, 116]⟩ = ⟨#[62]⟩ := by decide +kernel
    rw [hr]
    clear hlen h1 n1
    go_wp2
    go_ret
    exact ⟨rfl, Below.refl _ _⟩
  have n2 := str_ne h2
  by_cases h3 : s.data.toList = [97, 109, 112]
  · obtain rfl : s = ⟨#[97, 109, 112]⟩ := bytes_eq h3
    have hr : E.namedB ⟨#[97, 109, 112]⟩ = ⟨#[38]⟩ := by decide +kernel
    rw [hr]
    clear hlen h1 n1 h2 n2
    go_wp2
    go_ret
    exact ⟨rfl, Below.refl _ _⟩
  have n3 := str_ne h3
  by_cases h4 : s.data.toList = [113, 117, 111, 116]
  · obtain rfl : s = ⟨#[113, 117, 111, 116]⟩ := bytes_eq h4
    have hr : E.namedB ⟨#[113, 117, 111, 116]⟩ = ⟨#[34]⟩ := by decide +kernel
    rw [hr]
    clear hlen h1 n1 h2 n2 h3 n3
    go_wp2
    go_ret
    exact ⟨rfl, Below.refl _ _⟩
  have n4 := str_ne h4
  by_cases h5 : s.data.toList = [97, 112, 111, 115]
  · obtain rfl : s = ⟨#[97, 112, 111, 115]⟩ := bytes_eq h5
    have hr : E.namedB ⟨#[97, 112, 111, 115]⟩ = ⟨#[39]⟩ := by decide +kernel
    rw [hr]
    clear hlen h1 n1 h2 n2 h3 n3 h4 n4
    go_wp2
    go_ret
    exact ⟨rfl, Below.refl _ _⟩
  have n5 := str_ne h5
  have hN := E.named_hash h1 h2 h3 h4 h5
  rw [hlen] at hN
  clear h1 h2 h3 h4 h5
  by_cases hx : 2 < s.size ∧ s.data.toList.take 2 = [35, 120]
  · rw [if_pos hx] at hN
    obtain ⟨hx1, hx2⟩ := hx
    rw [← take_list] at hx2
    rw [← drop_list] at hN
    have m1 := str_is hx2
    have hz : (s.extract 2 s.size).size ≤ maxLen := by simp; unfold maxLen at *; omega
    clear hx2
    replace hN := Lib.hid hN
    have key : ∀ {Q : Ending → World → Prop} (w0 : World), (∀ e w1, (e = Ending.returned (.int .i64 (E.numN 16 (s.extract 2 s.size).data.toList)) ∧ Below w0.heap.size w0 w1) → Q e w1) → Calls Tryz.prog 139 #[.string (s.extract 2 s.size), .int .i64 16] w0 Q := fun w0 h =>
      (refNumber_any (s.extract 2 s.size) 16 w0 hz (by decide)).mono h
    go_wp2_with fail
    refine key _ ?_
    rintro e w1 ⟨rfl, b1⟩
    cases hn : E.number 16 (s.extract 2 s.size).data.toList with
    | none =>
      have hr := Lib.hid (E.namedB_no (hN.out.trans (by rw [hn]; rfl)))
      rw [E.numN_none hn]
      clear hn
      go_wp2
      go_ret
      exact ⟨ret_str hr.out.symm, b1⟩
    | some n =>
      have hr := Lib.hid (E.namedB_of (hN.out.trans (by rw [hn]; rfl)))
      rw [E.numN_some hn]
      have hc := E.number_char hn
      clear hn
      go_wp2_with fail
      (with_reducible refine (refUtf8_any n _ hc).mono ?_); rintro e w2 ⟨rfl, b2⟩
      have b3 := b1.trans (b2.mono b1.size)
      go_wp2
      go_ret
      exact ⟨ret_str hr.out.symm, b3⟩
  · rw [if_neg hx] at hN
    by_cases hy : 1 < s.size ∧ s.data.toList.take 1 = [35]
    · rw [if_pos hy] at hN
      obtain ⟨hy1, hy2⟩ := hy
      rw [← drop_list] at hN
      have h0 : (s[0]).toNat = 35 := by
        have e := drop_cons s 0 (by omega)
        rw [List.drop_zero] at e
        rw [e, List.take_succ_cons, List.take_zero] at hy2
        have := List.head_eq_of_cons_eq hy2
        rw [this]; rfl
      have hz : (s.extract 1 s.size).size ≤ maxLen := by simp; unfold maxLen at *; omega
      have hx' : 2 < s.size → ((s.extract 0 2).toList == [35, 120]) = false := fun h => str_ne (by rw [take_list]; exact fun e => hx ⟨h, e⟩)
      clear hx hy2
      replace hN := Lib.hid hN
      have key : ∀ {Q : Ending → World → Prop} (w0 : World), (∀ e w1, (e = Ending.returned (.int .i64 (E.numN 10 (s.extract 1 s.size).data.toList)) ∧ Below w0.heap.size w0 w1) → Q e w1) → Calls Tryz.prog 139 #[.string (s.extract 1 s.size), .int .i64 10] w0 Q := fun w0 h =>
        (refNumber_any (s.extract 1 s.size) 10 w0 hz (by decide)).mono h
      by_cases h2 : 2 < s.size
      · have hx2 := hx' h2
        clear hx'
        go_wp2_with fail
        refine key _ ?_
        rintro e w1 ⟨rfl, b1⟩
        cases hn : E.number 10 (s.extract 1 s.size).data.toList with
        | none =>
          have hr := Lib.hid (E.namedB_no (hN.out.trans (by rw [hn]; rfl)))
          rw [E.numN_none hn]
          clear hn
          go_wp2
          go_ret
          exact ⟨ret_str hr.out.symm, b1⟩
        | some n =>
          have hr := Lib.hid (E.namedB_of (hN.out.trans (by rw [hn]; rfl)))
          rw [E.numN_some hn]
          have hc := E.number_char hn
          clear hn
          go_wp2_with fail
          (with_reducible refine (refUtf8_any n _ hc).mono ?_); rintro e w2 ⟨rfl, b2⟩
          have b3 := b1.trans (b2.mono b1.size)
          go_wp2
          go_ret
          exact ⟨ret_str hr.out.symm, b3⟩
      · clear hx'
        go_wp2_with fail
        refine key _ ?_
        rintro e w1 ⟨rfl, b1⟩
        cases hn : E.number 10 (s.extract 1 s.size).data.toList with
        | none =>
          have hr := Lib.hid (E.namedB_no (hN.out.trans (by rw [hn]; rfl)))
          rw [E.numN_none hn]
          clear hn
          go_wp2
          go_ret
          exact ⟨ret_str hr.out.symm, b1⟩
        | some n =>
          have hr := Lib.hid (E.namedB_of (hN.out.trans (by rw [hn]; rfl)))
          rw [E.numN_some hn]
          have hc := E.number_char hn
          clear hn
          go_wp2_with fail
          (with_reducible refine (refUtf8_any n _ hc).mono ?_); rintro e w2 ⟨rfl, b2⟩
          have b3 := b1.trans (b2.mono b1.size)
          go_wp2
          go_ret
          exact ⟨ret_str hr.out.symm, b3⟩
    · rw [if_neg hy] at hN
      have hr := Lib.hid (E.namedB_no hN)
      have hx' : 2 < s.size → ((s.extract 0 2).toList == [35, 120]) = false := fun h => str_ne (by rw [take_list]; exact fun e => hx ⟨h, e⟩)
      have hy' : (h : 1 < s.size) → ¬ ((s[0]).toNat : Int) = 35 := fun h e => hy ⟨h, by
        have e1 := drop_cons s 0 (by omega)
        rw [List.drop_zero] at e1
        rw [e1, List.take_succ_cons, List.take_zero, byte_is (b := s[0]) (c := 35) (by have : (35 : UInt8).toNat = 35 := rfl; omega)]⟩
      clear hx hy hN
      by_cases h2 : 2 < s.size
      · have hx2 := hx' h2
        have hy2 := hy' (by omega)
        clear hx' hy'
        go_wp2
        go_ret
        exact ⟨ret_str hr.out.symm, Below.refl _ _⟩
      · by_cases h1 : 1 < s.size
        · have hy2 := hy' h1
          clear hx' hy'
          go_wp2
          go_ret
          exact ⟨ret_str hr.out.symm, Below.refl _ _⟩
        · clear hx' hy'
          go_wp2
          go_ret
          exact ⟨ret_str hr.out.symm, Below.refl _ _⟩
end Go.Proofs.YtegaidfmkfnbnaaGreatDoor
namespace Go.Proofs.YtegaidfmkfnbnaaGreatDoor
open Go.RowKit

set_option maxRecDepth 100000 in
set_option maxHeartbeats 1600000 in
theorem refStart_any (c : Int) (w : World) :
    Calls Tryz.prog 78 #[.int .i64 c] w fun e w' => e = .returned (.bool (G.start c)) ∧ Below w.heap.size w w' := by
  have hm : G.start c = G.any c [(58, 58), (65, 90), (95, 95), (97, 122), (192, 214), (216, 246), (248, 767), (880, 893), (895, 8191), (8204, 8205), (8304, 8591), (11264, 12271), (12289, 55295), (63744, 64975), (65008, 65533), (65536, 983039)] := by simp [G.any, G.start, Bool.or_assoc]
  rw [hm]
  clear hm
  go_enter Tryz.func78, Tryz.ntmps78
  go_wp2_with fail
  (with_reducible refine (refIn_any c [(58, 58), (65, 90), (95, 95), (97, 122), (192, 214), (216, 246), (248, 767), (880, 893), (895, 8191), (8204, 8205), (8304, 8591), (11264, 12271), (12289, 55295), (63744, 64975), (65008, 65533), (65536, 983039)] w.heap.size 32 _ _ ?_ (by decide) rfl).mono ?_)
  · exact pairsAt_cells (heap_alloc_new w _)
  rintro e w1 ⟨rfl, rfl⟩
  go_wp2
  go_ret
  exact ⟨rfl, (Below.refl _ _).alloc (Nat.le_refl _) _⟩

set_option maxRecDepth 100000 in
set_option maxHeartbeats 1600000 in
theorem refPart_any (c : Int) (w : World) :
    Calls Tryz.prog 77 #[.int .i64 c] w fun e w' => e = .returned (.bool (G.part c)) ∧ Below w.heap.size w w' := by
  have hm : G.part c = (G.start c || G.any c [(45, 46), (48, 57), (183, 183), (768, 879), (8255, 8256)]) := by simp [G.any, G.part, Bool.or_assoc]
  rw [hm]
  clear hm
  go_enter Tryz.func77, Tryz.ntmps77
  go_wp2_with fail
  (with_reducible refine (refStart_any c _).mono ?_); rintro e w1 ⟨rfl, b1⟩
  cases hs : G.start c
  · have hs := Lib.hid hs
    go_wp2_with fail
    (with_reducible refine (refIn_any c [(45, 46), (48, 57), (183, 183), (768, 879), (8255, 8256)] w1.heap.size 10 _ _ ?_ (by decide) rfl).mono ?_)
    · exact pairsAt_cells (heap_alloc_new w1 _)
    rintro e w2 ⟨rfl, rfl⟩
    go_wp2
    go_ret
    exact ⟨ret_bool (by rw [hs.out]; rfl), b1.alloc b1.size _⟩
  · have hs := Lib.hid hs
    go_wp2
    go_ret
    exact ⟨ret_bool (by rw [hs.out]; rfl), b1⟩
end Go.Proofs.YtegaidfmkfnbnaaGreatDoor
namespace Go.Proofs.YtegaidfmkfnbnaaGreatDoor
open Go.RowKit

set_option maxRecDepth 100000 in
set_option maxHeartbeats 3200000 in
theorem refFirst_any (s : ByteArray) (w : World) (hs : s.size ≤ maxLen) :
    Calls Tryz.prog 66 #[.string s] w fun e w' => e = .returned (.tuple #[.int .i64 ((G.first s.data.toList).1 : Int), .int .i64 ((G.first s.data.toList).2 : Int)]) ∧ w = w' := by
  unfold maxLen at hs
  have hlen : s.data.toList.length = s.size := by simp
  by_cases h1 : s.size = 0
  · obtain rfl : s = ByteArray.empty := ByteArray.size_eq_zero_iff.1 h1
    clear hlen
    go_enter Tryz.func66, Tryz.ntmps66
    go_wp2
    go_ret2
    exact ⟨rfl, rfl⟩
  have h0 : 0 < s.size := by omega
  have hne : s.toList.isEmpty = false := by
    rw [List.isEmpty_eq_false_iff]; intro h
    rw [ByteArray.toList_eq] at h
    exact lst_ne h0 h
  have hF := G.first_N s.data.toList (lst_ne h0)
  rw [hlen, getD_of s 0 h0] at hF
  generalize hq1 : (s.data.toList.getD 1 0).toNat = q1 at hF
  generalize hq2 : (s.data.toList.getD 2 0).toNat = q2 at hF
  generalize hq3 : (s.data.toList.getD 3 0).toNat = q3 at hF
  have g1 : (h : 1 < s.size) → (s[1]).toNat = q1 := fun h => by rw [← hq1, getD_of s 1 h]
  have g2 : (h : 2 < s.size) → (s[2]).toNat = q2 := fun h => by rw [← hq2, getD_of s 2 h]
  have g3 : (h : 3 < s.size) → (s[3]).toNat = q3 := fun h => by rw [← hq3, getD_of s 3 h]
  have l1 : q1 < 256 := by rw [← hq1]; exact UInt8.toNat_lt _
  have l2 : q2 < 256 := by rw [← hq2]; exact UInt8.toNat_lt _
  have l3 : q3 < 256 := by rw [← hq3]; exact UInt8.toNat_lt _
  have l0 := (s[0]).toNat_lt
  generalize hb0 : (s[0]).toNat = b0 at hF l0
  clear hq1 hq2 hq3 hlen
  replace hF := Lib.hid hF
  by_cases ha : b0 < 128
  · have hr := Lib.hid (hF.out.trans (G.firstN_ascii ha))
    clear g1 g2 g3
    go_enter Tryz.func66, Tryz.ntmps66
    go_wp2_with fail
    go_ret2
    exact ⟨ret_two hr.out rfl rfl, rfl⟩
  by_cases hbad : b0 < 192 ∨ 248 ≤ b0
  · have hr := Lib.hid (hF.out.trans (G.firstN_bad (by omega) hbad l0))
    clear g1 g2 g3
    go_enter Tryz.func66, Tryz.ntmps66
    go_wp2
    all_goals first
      | (exfalso; omega)
      | (go_ret2; exact ⟨ret_two hr.out rfl rfl, rfl⟩)
  by_cases h2 : b0 < 224
  · have hT := Lib.hid (hF.out.trans (G.firstN_two (by omega) h2 l1))
    by_cases hn : s.size < 2
    · have hr := Lib.hid (hT.out.trans (if_neg (by omega)))
      clear hT g1 g2 g3
      go_enter Tryz.func66, Tryz.ntmps66
      go_wp2
      all_goals first
        | (exfalso; omega)
        | (go_ret2; exact ⟨ret_two hr.out (by omega) rfl, rfl⟩)
    replace g1 := g1 (by omega)
    clear g2 g3
    by_cases hc1 : ¬ (128 ≤ q1 ∧ q1 ≤ 191)
    · have hr := Lib.hid (hT.out.trans (if_neg (by omega)))
      clear hT
      go_enter Tryz.func66, Tryz.ntmps66
      go_wp2_with fail
      refine wp_loop_rounds 1 ?_
      rw [rounds_succ]
      go_wp2
      all_goals first
        | (exfalso; omega)
        | (go_ret2; exact ⟨ret_two hr.out (by omega) rfl, rfl⟩)
    by_cases hv : 128 ≤ (b0 - 192) * 64 + (q1 - 128)
    · have hr := Lib.hid (hT.out.trans (if_pos (by omega)))
      clear hT
      go_enter Tryz.func66, Tryz.ntmps66
      go_wp2_with fail
      refine wp_loop_rounds 2 ?_
      rw [rounds_succ]
      go_wp2
      rw [rounds_succ]
      go_wp2
      all_goals first
        | (exfalso; omega)
        | (go_ret2; exact ⟨ret_two hr.out (by omega) rfl, rfl⟩)
    · have hr := Lib.hid (hT.out.trans (if_neg (by omega)))
      clear hT
      go_enter Tryz.func66, Tryz.ntmps66
      go_wp2_with fail
      refine wp_loop_rounds 2 ?_
      rw [rounds_succ]
      go_wp2
      rw [rounds_succ]
      go_wp2
      all_goals first
        | (exfalso; omega)
        | (go_ret2; exact ⟨ret_two hr.out (by omega) rfl, rfl⟩)
  by_cases h3 : b0 < 240
  · have hT := Lib.hid (hF.out.trans (G.firstN_three (by omega) h3 l1 l2))
    by_cases hn : s.size < 3
    · have hr := Lib.hid (hT.out.trans (if_neg (by omega)))
      clear hT g1 g2 g3
      go_enter Tryz.func66, Tryz.ntmps66
      go_wp2
      all_goals first
        | (exfalso; omega)
        | (go_ret2; exact ⟨ret_two hr.out (by omega) rfl, rfl⟩)
    replace g1 := g1 (by omega)
    replace g2 := g2 (by omega)
    clear g3
    by_cases hc1 : ¬ (128 ≤ q1 ∧ q1 ≤ 191)
    · have hr := Lib.hid (hT.out.trans (if_neg (by omega)))
      clear hT
      go_enter Tryz.func66, Tryz.ntmps66
      go_wp2_with fail
      refine wp_loop_rounds 1 ?_
      rw [rounds_succ]
      go_wp2
      all_goals first
        | (exfalso; omega)
        | (go_ret2; exact ⟨ret_two hr.out (by omega) rfl, rfl⟩)
    by_cases hc2 : ¬ (128 ≤ q2 ∧ q2 ≤ 191)
    · have hr := Lib.hid (hT.out.trans (if_neg (by omega)))
      clear hT
      go_enter Tryz.func66, Tryz.ntmps66
      go_wp2_with fail
      refine wp_loop_rounds 2 ?_
      rw [rounds_succ]
      go_wp2
      rw [rounds_succ]
      go_wp2
      all_goals first
        | (exfalso; omega)
        | (go_ret2; exact ⟨ret_two hr.out (by omega) rfl, rfl⟩)
    by_cases hv : 2048 ≤ ((b0 - 224) * 64 + (q1 - 128)) * 64 + (q2 - 128) ∧ (((b0 - 224) * 64 + (q1 - 128)) * 64 + (q2 - 128) < 55296 ∨ 57344 ≤ ((b0 - 224) * 64 + (q1 - 128)) * 64 + (q2 - 128))
    · have hr := Lib.hid (hT.out.trans (if_pos (by omega)))
      clear hT
      go_enter Tryz.func66, Tryz.ntmps66
      go_wp2_with fail
      refine wp_loop_rounds 3 ?_
      rw [rounds_succ]
      go_wp2
      rw [rounds_succ]
      go_wp2
      rw [rounds_succ]
      go_wp2
      all_goals first
        | (exfalso; omega)
        | (go_ret2; exact ⟨ret_two hr.out (by omega) rfl, rfl⟩)
    · have hr := Lib.hid (hT.out.trans (if_neg (by omega)))
      clear hT
      go_enter Tryz.func66, Tryz.ntmps66
      go_wp2_with fail
      refine wp_loop_rounds 3 ?_
      rw [rounds_succ]
      go_wp2
      rw [rounds_succ]
      go_wp2
      rw [rounds_succ]
      go_wp2
      all_goals first
        | (exfalso; omega)
        | (go_ret2; exact ⟨ret_two hr.out (by omega) rfl, rfl⟩)
  have hT := Lib.hid (hF.out.trans (G.firstN_four (by omega) (by omega) l1 l2 l3))
  by_cases hn : s.size < 4
  · have hr := Lib.hid (hT.out.trans (if_neg (by omega)))
    clear hT g1 g2 g3
    go_enter Tryz.func66, Tryz.ntmps66
    go_wp2
    all_goals first
      | (exfalso; omega)
      | (go_ret2; exact ⟨ret_two hr.out (by omega) rfl, rfl⟩)
  replace g1 := g1 (by omega)
  replace g2 := g2 (by omega)
  replace g3 := g3 (by omega)
  by_cases hc1 : ¬ (128 ≤ q1 ∧ q1 ≤ 191)
  · have hr := Lib.hid (hT.out.trans (if_neg (by omega)))
    clear hT
    go_enter Tryz.func66, Tryz.ntmps66
    go_wp2_with fail
    refine wp_loop_rounds 1 ?_
    rw [rounds_succ]
    go_wp2
    all_goals first
      | (exfalso; omega)
      | (go_ret2; exact ⟨ret_two hr.out (by omega) rfl, rfl⟩)
  by_cases hc2 : ¬ (128 ≤ q2 ∧ q2 ≤ 191)
  · have hr := Lib.hid (hT.out.trans (if_neg (by omega)))
    clear hT
    go_enter Tryz.func66, Tryz.ntmps66
    go_wp2_with fail
    refine wp_loop_rounds 2 ?_
    rw [rounds_succ]
    go_wp2
    rw [rounds_succ]
    go_wp2
    all_goals first
      | (exfalso; omega)
      | (go_ret2; exact ⟨ret_two hr.out (by omega) rfl, rfl⟩)
  by_cases hc3 : ¬ (128 ≤ q3 ∧ q3 ≤ 191)
  · have hr := Lib.hid (hT.out.trans (if_neg (by omega)))
    clear hT
    go_enter Tryz.func66, Tryz.ntmps66
    go_wp2_with fail
    refine wp_loop_rounds 3 ?_
    rw [rounds_succ]
    go_wp2
    rw [rounds_succ]
    go_wp2
    rw [rounds_succ]
    go_wp2
    all_goals first
      | (exfalso; omega)
      | (go_ret2; exact ⟨ret_two hr.out (by omega) rfl, rfl⟩)
  by_cases hv : 65536 ≤ (((b0 - 240) * 64 + (q1 - 128)) * 64 + (q2 - 128)) * 64 + (q3 - 128) ∧ (((b0 - 240) * 64 + (q1 - 128)) * 64 + (q2 - 128)) * 64 + (q3 - 128) ≤ 1114111
  · have hr := Lib.hid (hT.out.trans (if_pos (by omega)))
    clear hT
    go_enter Tryz.func66, Tryz.ntmps66
    go_wp2_with fail
    refine wp_loop_rounds 4 ?_
    rw [rounds_succ]
    go_wp2
    rw [rounds_succ]
    go_wp2
    rw [rounds_succ]
    go_wp2
    rw [rounds_succ]
    go_wp2
    all_goals first
      | (exfalso; omega)
      | (go_ret2; exact ⟨ret_two hr.out (by omega) rfl, rfl⟩)
  · have hr := Lib.hid (hT.out.trans (if_neg (by omega)))
    clear hT
    go_enter Tryz.func66, Tryz.ntmps66
    go_wp2_with fail
    refine wp_loop_rounds 4 ?_
    rw [rounds_succ]
    go_wp2
    rw [rounds_succ]
    go_wp2
    rw [rounds_succ]
    go_wp2
    rw [rounds_succ]
    go_wp2
    all_goals first
      | (exfalso; omega)
      | (go_ret2; exact ⟨ret_two hr.out (by omega) rfl, rfl⟩)
end Go.Proofs.YtegaidfmkfnbnaaGreatDoor
namespace Go.Proofs.YtegaidfmkfnbnaaGreatDoor
open Go.RowKit

namespace G
def checkN (l : List UInt8) : Int := if check l = true then 0 else 50
theorem checkN_nil : checkN [] = 0 := rfl
theorem check_stop (l : List UInt8) (hl : l ≠ []) (h : (first l).2 = 0 ∨ char (first l).1 = false) : check l = false := by
  unfold check
  rw [span_stop char l h]
  have := List.length_pos_iff.2 hl
  rw [decide_eq_false_iff_not]; omega
theorem checkN_stop (l : List UInt8) (hl : l ≠ []) (h : (first l).2 = 0 ∨ char (first l).1 = false) : checkN l = 50 := by
  unfold checkN; rw [check_stop l hl h]; rfl
theorem check_step (l : List UInt8) (h0 : (first l).2 ≠ 0) (hp : char (first l).1 = true) : check (l.drop (first l).2) = check l := by
  unfold check
  rw [span_step char l h0 hp, List.length_drop]
  have := first_le l
  rw [Bool.eq_iff_iff, decide_eq_true_eq, decide_eq_true_eq]
  omega
theorem checkN_step (l : List UInt8) (h0 : (first l).2 ≠ 0) (hp : char (first l).1 = true) : checkN (l.drop (first l).2) = checkN l := by
  unfold checkN; rw [check_step l h0 hp]
end G

theorem first_size (s : ByteArray) : (G.first s.data.toList).2 ≤ s.size := by
  have := G.first_le s.data.toList
  rw [list_len] at this; exact this

set_option maxRecDepth 100000 in
set_option maxHeartbeats 800000 in
theorem refCheck_any (s : ByteArray) (w : World) (hs : s.size ≤ maxLen) :
    Calls Tryz.prog 40 #[.string s] w fun e w' => e = .returned (.int .i64 (G.checkN s.data.toList)) ∧ Below w.heap.size w w' := by
  go_enter Tryz.func40, Tryz.ntmps40
  go_wp2_with fail
  go_loopw [0, 3, 4] (fun v c n w' => ∃ t : ByteArray, v = .string t ∧ t.size ≤ s.size ∧ Hid (G.checkN t.data.toList = G.checkN s.data.toList) ∧ Below w.heap.size w w') (fun v _ _ _ => strLen v)
  case atStart => exact ⟨s, rfl, Nat.le_refl _, Lib.hid rfl, Below.refl _ _⟩
  case round =>
    obtain ⟨t, rfl, ht, hc, bw⟩ := hrel
    have htm : t.size ≤ maxLen := by omega
    have hsm : s.size ≤ 9223372036854775807 := hs
    by_cases h0 : t.size = 0
    · obtain rfl : t = ByteArray.empty := ByteArray.size_eq_zero_iff.1 h0
      go_wp2
      go_ret
      exact ⟨ret_int (by rw [← hc.out]; rfl), bw⟩
    · have hne := lst_ne (s := t) (by omega)
      have hle := first_size t
      go_wp2_with fail
      (with_reducible refine (refFirst_any t _ htm).mono ?_); rintro e w1 ⟨rfl, rfl⟩
      have hstop := Lib.hid (G.checkN_stop t.data.toList hne)
      have hstep := Lib.hid (G.checkN_step t.data.toList)
      have hdl := Lib.hid (drop_list t (G.first t.data.toList).2)
      generalize G.first t.data.toList = r at *
      obtain ⟨c, n⟩ := r
      dsimp only at *
      clear hne
      by_cases hn : n = 0
      · have hr := Lib.hid (hstop.out (.inl hn))
        subst hn
        go_wp2
        go_ret
        exact ⟨ret_int (by rw [← hc.out, hr.out]), bw⟩
      · go_wp2_with fail
        (with_reducible refine (refChar_any c _).mono ?_); rintro e w2 ⟨rfl, b2⟩
        have b3 := bw.trans (b2.mono bw.size)
        cases hch : G.char c
        · have hr := Lib.hid (hstop.out (.inr hch))
          go_wp2
          go_ret
          exact ⟨ret_int (by rw [← hc.out, hr.out]), b3⟩
        · have hr := Lib.hid (hstep.out hn hch)
          go_wp2
          go_roundw
          case rel => exact ⟨_, rfl, by simp; omega, Lib.hid (by rw [← hc.out, ← hr.out, hdl.out]), b3⟩
          case measure => simp [strLen]; omega

namespace G
/-- Name's answers. -/
def nmA (s : ByteArray) : ByteArray := s.extract 0 (name s.data.toList)
def nmB (s : ByteArray) : ByteArray := if name s.data.toList = 0 then ByteArray.empty else s.extract (name s.data.toList) s.size
def nmE (s : ByteArray) : Int := if name s.data.toList = 0 then 51 else 0
theorem nm_none {s : ByteArray} (h : name s.data.toList = 0) : nmA s = ByteArray.empty ∧ nmB s = ByteArray.empty ∧ nmE s = 51 := by
  refine ⟨?_, ?_, ?_⟩
  · apply bytes_eq
    unfold nmA
    rw [h, take_list]; rfl
  · unfold nmB; rw [if_pos h]
  · unfold nmE; rw [if_pos h]
theorem nm_some {s : ByteArray} {k : Nat} (h : name s.data.toList = k) (h0 : k ≠ 0) : nmA s = s.extract 0 k ∧ nmB s = s.extract k s.size ∧ nmE s = 0 := by
  subst h
  exact ⟨rfl, if_neg h0, if_neg h0⟩

theorem name_nil : name [] = 0 := rfl
theorem name_stop (l : List UInt8) (h : (first l).2 = 0 ∨ start (first l).1 = false) : name l = 0 := by
  unfold name
  rw [if_neg]
  rintro ⟨h0, h1⟩
  rcases h with h | h
  · exact h0 h
  · rw [h] at h1; cases h1
theorem name_begin (l : List UInt8) (h0 : (first l).2 ≠ 0) (h1 : start (first l).1 = true) : name l = (first l).2 + span part (l.drop (first l).2) := by
  unfold name; rw [if_pos ⟨h0, h1⟩]
theorem start_no {c : Int} (h : part c = false) : start c = false := by
  cases hs : start c with
  | false => rfl
  | true => rw [part_of_start hs] at h; cases h
end G

/-- how far Name has come. -/
def NameAt (s t : ByteArray) (k : Nat) : Prop := s.size = k + t.size ∧ t.data.toList = s.data.toList.drop k ∧ (k = 0 ∨ G.name s.data.toList = k + G.span G.part t.data.toList)

theorem NameAt.same {s t : ByteArray} (h : NameAt s t 0) : t = s := by
  obtain ⟨_, h, _⟩ := h
  exact bytes_eq (by rw [h, List.drop_zero])

theorem NameAt.rest {s t : ByteArray} {k : Nat} (h : NameAt s t k) : t = s.extract k s.size := bytes_eq (by rw [drop_list]; exact h.2.1)

theorem NameAt.none {s t : ByteArray} (h : NameAt s t 0) (hs : (G.first t.data.toList).2 = 0 ∨ G.start (G.first t.data.toList).1 = false) : G.name s.data.toList = 0 := by
  rw [← h.same]; exact G.name_stop _ hs

theorem NameAt.stop {s t : ByteArray} {k : Nat} (h : NameAt s t k) (hk : k ≠ 0) (hs : (G.first t.data.toList).2 = 0 ∨ G.part (G.first t.data.toList).1 = false) : G.name s.data.toList = k := by
  rcases h.2.2 with h0 | h0
  · exact absurd h0 hk
  · rw [h0, G.span_stop _ _ hs]; rfl

theorem NameAt.step {s t : ByteArray} {k : Nat} (h : NameAt s t k) (h0 : (G.first t.data.toList).2 ≠ 0) (hp : G.part (G.first t.data.toList).1 = true) (hs : k = 0 → G.start (G.first t.data.toList).1 = true) :
    NameAt s (t.extract (G.first t.data.toList).2 t.size) (k + (G.first t.data.toList).2) := by
  have hle := first_size t
  obtain ⟨h1, h2, h3⟩ := h
  refine ⟨by simp; omega, by rw [drop_list, h2, List.drop_drop], .inr ?_⟩
  rw [drop_list]
  rcases h3 with rfl | h3
  · have e := G.name_begin t.data.toList h0 (hs rfl)
    rw [h2, List.drop_zero] at e ⊢
    rw [h2, List.drop_zero] at h0 
    rw [e]; omega
  · rw [h3, G.span_step _ _ h0 hp]; omega

theorem ret_name {a b : ByteArray} {e : Int} {s : ByteArray} (ha : a = G.nmA s) (hb : b = G.nmB s) (he : e = G.nmE s) : Ending.returned (.tuple #[.string a, .string b, .int .i64 e]) = .returned (.tuple #[.string (G.nmA s), .string (G.nmB s), .int .i64 (G.nmE s)]) := by
  rw [ha, hb, he]

set_option maxRecDepth 100000 in
set_option maxHeartbeats 1600000 in
theorem refName_any (s : ByteArray) (w : World) (hs : s.size ≤ maxLen) :
    Calls Tryz.prog 44 #[.string s] w fun e w' => e = .returned (.tuple #[.string (G.nmA s), .string (G.nmB s), .int .i64 (G.nmE s)]) ∧ Below w.heap.size w w' := by
  go_enter Tryz.func44, Tryz.ntmps44
  go_wp2_with fail
  go_loopw [5, 6, 7] (fun v c n w' => ∃ (t : ByteArray) (k : Nat), v = .string t ∧ s.size = k + t.size ∧ Hid (NameAt s t k) ∧ Below w.heap.size w w') (fun v _ _ _ => strLen v)
  case atStart => exact ⟨s, 0, rfl, by omega, Lib.hid ⟨by omega, by simp, .inl rfl⟩, Below.refl _ _⟩
  case round =>
    obtain ⟨t, k, rfl, ht, hc, bw⟩ := hrel
    have htm : t.size ≤ maxLen := by omega
    have hsm : s.size ≤ 9223372036854775807 := hs
    by_cases hk : k = 0
    · subst hk
      obtain rfl : t = s := hc.out.same
      clear ht hsm
      have htm' : t.size ≤ 9223372036854775807 := htm
      by_cases h0 : t.size = 0
      · obtain rfl : t = ByteArray.empty := ByteArray.size_eq_zero_iff.1 h0
        have hr := Lib.hid (G.nm_none (s := ByteArray.empty) rfl)
        go_wp2
        go_ret3
        exact ⟨ret_name hr.out.1.symm hr.out.2.1.symm hr.out.2.2.symm, bw⟩
      · have hle := first_size t
        go_wp2_with fail
        (with_reducible refine (refFirst_any t _ htm).mono ?_); rintro e w1 ⟨rfl, rfl⟩
        have hnone := Lib.hid (hc.out.none)
        have hstep := Lib.hid (hc.out.step)
        generalize G.first t.data.toList = r at *
        obtain ⟨c, n⟩ := r
        dsimp only at *
        by_cases hn : n = 0
        · subst hn
          have hr := Lib.hid (G.nm_none (hnone.out (.inl rfl)))
          go_wp2
          go_ret3
          exact ⟨ret_name hr.out.1.symm hr.out.2.1.symm hr.out.2.2.symm, bw⟩
        · go_wp2_with fail
          (with_reducible refine (refPart_any c _).mono ?_); rintro e w2 ⟨rfl, b2⟩
          have b3 := bw.trans (b2.mono bw.size)
          cases hp : G.part c
          · have hr := Lib.hid (G.nm_none (hnone.out (.inr (G.start_no hp))))
            have hp := Lib.hid hp
            go_wp2
            go_ret3
            exact ⟨ret_name hr.out.1.symm hr.out.2.1.symm hr.out.2.2.symm, b3⟩
          · go_wp2_with fail
            (with_reducible refine (refStart_any c _).mono ?_); rintro e w3 ⟨rfl, b4⟩
            have b5 := b3.trans (b4.mono b3.size)
            cases hst : G.start c
            · have hr := Lib.hid (G.nm_none (hnone.out (.inr hst)))
              have hst := Lib.hid hst
              go_wp2
              go_ret3
              exact ⟨ret_name hr.out.1.symm hr.out.2.1.symm hr.out.2.2.symm, b5⟩
            · have hr := Lib.hid (hstep.out hn hp (fun _ => hst))
              have hst := Lib.hid hst
              go_wp2
              go_roundw
              case rel => exact ⟨_, 0 + n, rfl, hr.out.1, hr, b5⟩
              case measure => simp [strLen]; omega
    · have hts : t.size < s.size := by omega
      have hcs := hc.out.stop hk
      have hrest := Lib.hid hc.out.rest
      by_cases h0 : t.size = 0
      · obtain rfl : t = ByteArray.empty := ByteArray.size_eq_zero_iff.1 h0
        have hr := Lib.hid (G.nm_some (hcs (.inl rfl)) hk)
        clear hcs hts h0
        have hks : k = s.size := by rw [ht]; rfl
        subst hks
        clear ht
        go_wp2
        go_ret3
        exact ⟨ret_name (by rw [hr.out.1, extract_full]) (by rw [hr.out.2.1]; exact hrest.out) hr.out.2.2.symm, bw⟩
      · have hle := first_size t
        go_wp2_with fail
        (with_reducible refine (refFirst_any t _ htm).mono ?_); rintro e w1 ⟨rfl, rfl⟩
        have hstop := Lib.hid hcs
        have hstep := Lib.hid (hc.out.step)
        clear hcs
        generalize G.first t.data.toList = r at *
        obtain ⟨c, n⟩ := r
        dsimp only at *
        by_cases hn : n = 0
        · subst hn
          have hr := Lib.hid (G.nm_some (hstop.out (.inl rfl)) hk)
          go_wp2
          go_ret3
          exact ⟨ret_name hr.out.1.symm (by rw [hr.out.2.1]; exact hrest.out) hr.out.2.2.symm, bw⟩
        · go_wp2_with fail
          (with_reducible refine (refPart_any c _).mono ?_); rintro e w2 ⟨rfl, b2⟩
          have b3 := bw.trans (b2.mono bw.size)
          cases hp : G.part c
          · have hr := Lib.hid (G.nm_some (hstop.out (.inr hp)) hk)
            have hp := Lib.hid hp
            go_wp2
            go_ret3
            exact ⟨ret_name hr.out.1.symm (by rw [hr.out.2.1]; exact hrest.out) hr.out.2.2.symm, b3⟩
          · have hr := Lib.hid (hstep.out hn hp (fun e => absurd e hk))
            have hp := Lib.hid hp
            go_wp2
            go_roundw
            case rel => exact ⟨_, k + n, rfl, hr.out.1, hr, b3⟩
            case measure => simp [strLen]; omega
end Go.Proofs.YtegaidfmkfnbnaaGreatDoor
namespace Go.Proofs.YtegaidfmkfnbnaaGreatDoor
open Go.RowKit

namespace G
theorem plain_no (l : List UInt8) (h : name l = 0 ∨ name l ≠ l.length) : plain l = false := by
  unfold plain
  rcases h with h | h
  · by_cases hl : l = []
    · simp [hl]
    · have := List.length_pos_iff.2 hl
      simp [h]; intro _ h1; omega
  · simp [h]
theorem plain_all (l : List UInt8) (h : name l = l.length) (h0 : name l ≠ 0) : plain l = l.all (fun b => decide (b ≠ 58)) := by
  have hl : l ≠ [] := by rintro rfl; exact h0 rfl
  unfold plain
  simp [h, hl]
end G

set_option maxRecDepth 100000 in
set_option maxHeartbeats 1600000 in
theorem refPlain_any (s : ByteArray) (w : World) (hs : s.size ≤ maxLen) :
    Calls Tryz.prog 23 #[.string s] w fun e w' => e = .returned (.bool (G.plain s.data.toList)) ∧ Below w.heap.size w w' := by
  have hsm : s.size ≤ 9223372036854775807 := hs
  have hlen := list_len s
  have hle := G.name_le s.data.toList
  rw [hlen] at hle
  go_enter Tryz.func23, Tryz.ntmps23
  go_wp2_with fail
  (with_reducible refine (refName_any s _ hs).mono ?_); rintro e w1 ⟨rfl, b1⟩
  by_cases h0 : G.name s.data.toList = 0
  · have hr := Lib.hid (G.plain_no s.data.toList (.inl h0))
    obtain ⟨e1, e2, e3⟩ := G.nm_none h0
    rw [e1, e2, e3]
    clear e1 e2 e3 h0 hle hlen
    go_wp2
    go_ret
    exact ⟨ret_bool' hr.out.symm, b1⟩
  · by_cases hk : G.name s.data.toList = s.size
    · obtain ⟨e1, e2, e3⟩ := G.nm_some rfl h0
      have hall := Lib.hid (G.plain_all s.data.toList (by rw [hk, hlen]) h0)
      rw [e1, e2, e3, hk, extract_full]
      have e4 : s.extract s.size s.size = ByteArray.empty := bytes_eq (by rw [drop_list, List.drop_of_length_le (by rw [hlen]; exact Nat.le_refl _)]; rfl)
      rw [e4]
      have hlen := Lib.hid hlen
      clear e1 e2 e3 e4 h0 hle hk
      go_wp2_with fail
      go_loop [6] (fun i => ∃ k : Nat, k ≤ s.size ∧ i = .int .i64 k ∧ Hid ((s.data.toList.take k).all (fun b => decide (b ≠ 58)) = true)) (fun i => s.size - (intOf i).toNat)
      case atStart => exact ⟨0, Nat.zero_le _, rfl, Lib.hid (by simp)⟩
      case round =>
        obtain ⟨k, hk, rfl, hall1⟩ := hrel
        by_cases hlt : k < s.size
        · have hst := Lib.hid (all_take (fun b => decide (b ≠ 58)) s.data.toList k (by rw [hlen.out]; exact hlt))
          have hno := Lib.hid (all_not (fun b => decide (b ≠ 58)) s.data.toList k (by rw [hlen.out]; exact hlt))
          have hgk : s.data.toList[k]'(by rw [hlen.out]; exact hlt) = s[k] := rfl
          rw [hgk] at hst hno
          clear hgk
          by_cases hq : s[k] = 58
          · have hr := Lib.hid (hno.out (by rw [hq]; rfl))
            have hq1 : (s[k]).toNat = 58 := by rw [hq]; rfl
            clear hno hst hq
            go_wp2
            go_ret
            exact ⟨ret_bool' (by rw [hall.out]; exact hr.out.symm), b1⟩
          · have hr := Lib.hid (hst.out.trans (show _ = true by rw [hall1.out]; simp [hq]))
            have hq1 : (s[k]).toNat ≠ 58 := fun e => hq (UInt8.toNat_inj.1 e)
            have hq2 : ¬ ((s[k]).toNat : Int) = 58 := by omega
            clear hno hst hq
            go_wp2
            go_round
            case rel => exact ⟨k + 1, by omega, by go_num, hr⟩
            case measure => simp [intOf]; omega
        · have hfull : s.data.toList.take k = s.data.toList := List.take_of_length_le (by rw [hlen.out]; omega)
          rw [hfull] at hall1
          clear hfull
          go_wp2
          go_ret
          exact ⟨ret_bool' (by rw [hall.out]; exact hall1.out.symm), b1⟩
    · have hr := Lib.hid (G.plain_no s.data.toList (.inr (by rw [hlen]; exact hk)))
      obtain ⟨e1, e2, e3⟩ := G.nm_some rfl h0
      rw [e1, e2, e3]
      generalize G.name s.data.toList = n at *
      have hsz : 0 < (s.extract n s.size).size := by simp; omega
      have hne := ne_empty hsz
      clear hlen
      generalize s.extract n s.size = t at *
      clear e1 e2 e3
      go_wp2
      go_ret
      exact ⟨ret_bool' hr.out.symm, b1⟩
end Go.Proofs.YtegaidfmkfnbnaaGreatDoor
namespace Go.Proofs.YtegaidfmkfnbnaaGreatDoor
open Go.RowKit

namespace G
theorem lines_at (s : ByteArray) (k : Nat) (h : k < s.size) (hb : (s[k]).toNat ≠ 13) : lines (s.data.toList.drop k) = s[k] :: lines (s.data.toList.drop (k + 1)) := by
  rw [drop_cons s k h, lines_cons _ _ (fun e => hb (by rw [e]; rfl))]
theorem lines_two (s : ByteArray) (k : Nat) (h : k < s.size) (h1 : k + 1 < s.size) (hb : (s[k]).toNat = 13) (hc : (s[k + 1]).toNat = 10) : lines (s.data.toList.drop k) = 10 :: lines (s.data.toList.drop (k + 2)) := by
  rw [drop_cons s k h, drop_cons s (k + 1) h1, byte_is (c := 13) hb, byte_is (c := 10) hc, lines_crlf]
theorem lines_one (s : ByteArray) (k : Nat) (h : k < s.size) (hb : (s[k]).toNat = 13) (hc : (h1 : k + 1 < s.size) → (s[k + 1]).toNat ≠ 10) : lines (s.data.toList.drop k) = 10 :: lines (s.data.toList.drop (k + 1)) := by
  rw [drop_cons s k h, byte_is (c := 13) hb, lines_cr]
  by_cases h1 : k + 1 < s.size
  · rw [drop_cons s (k + 1) h1, List.head?_cons]
    intro e
    exact hc h1 (by rw [Option.some.inj e]; rfl)
  · rw [List.drop_of_length_le (by rw [list_len]; omega)]; simp
theorem acc_step {L acc : List UInt8} {x y : List UInt8} {b : UInt8} (h : L = acc ++ x) (e : x = b :: y) : L = (acc ++ [b]) ++ y := by rw [h, e]; simp
theorem acc_end {L acc x : List UInt8} (h : L = acc ++ lines x) (e : x = []) : L = acc := by rw [h, e]; simp [lines]
end G

set_option maxRecDepth 100000 in
set_option maxHeartbeats 1600000 in
theorem refLines_any (s : ByteArray) (w : World) (hs : s.size ≤ 70368744177664) :
    Calls Tryz.prog 41 #[.string s] w fun e w' => e = .returned (.string ⟨(G.lines s.data.toList).toArray⟩) ∧ Below w.heap.size w w' := by
  obtain ⟨i0, hi, hz0, hz1, hz2⟩ := info_parts infoByte
  have hlen := Lib.hid (list_len s)
  go_enter Tryz.func41, Tryz.ntmps41
  go_wp2_with fail
  go_loopw [3, 4] (fun v i wr => ∃ (k : Nat) (acc : List UInt8), k ≤ s.size ∧ i = .int .i64 k ∧ Hid (G.lines s.data.toList = acc ++ G.lines (s.data.toList.drop k)) ∧ acc.length ≤ k ∧ (acc = [] → v = .slice none 0 0) ∧ Owns w.heap.size v acc wr ∧ Below w.heap.size w wr) (fun _ i _ => s.size - (intOf i).toNat)
  case atStart => exact ⟨0, [], Nat.zero_le _, rfl, Lib.hid (by simp), by simp, fun _ => rfl, owns_nil _ _, Below.refl _ _⟩
  case round =>
    obtain ⟨k, acc, hk, rfl, hL, hacc, hnil, ho, bw⟩ := hrel
    have hsz := bw.size
    have hacch := Lib.hid hacc
    have hnilh := Lib.hid hnil
    clear hnil
    by_cases hlt : k < s.size
    · by_cases hq : (s[k]).toNat = 13
      · have hqi : ((s[k]).toNat : Int) = 13 := by omega
        by_cases h1 : k + 1 < s.size
        · by_cases hd : (s[k + 1]).toNat = 10
          · have hr := Lib.hid (G.acc_step hL.out (G.lines_two s k hlt h1 hq hd))
            have hdi : ((s[k + 1]).toNat : Int) = 10 := by omega
            clear hL hd hq
            go_wp2_with (at_builtin; refine wpList_append_own _ rfl _ _ 36 rfl w.heap.size 5 i0 (.int .u8 0) 1 1 Tryz.underlying36 hi hz0 hz1 hz2 rfl (by decide) _ _ _ rfl (World.ownsRow.alloc ho _) ⟨wr.heap.size, 0, none⟩ 1 1 [.int .u8 10] rfl rfl (cell_one_new _ _ _) (fun u hu => by simp at hu; subst hu; rfl) (by have := hacch.out; unfold maxLen; omega) (by have := hacch.out; omega) (by simp; omega) ?_)
            intro v2 w2 hown2 hg2 hnil2
            have hga : wr.grownBy w2 u3.ownBlock := (World.grownBy_alloc wr _ _).trans hg2
            have b2 := ho.below hga (by omega)
            have ho2 : Owns w.heap.size v2 (acc ++ [10]) w2 := owns_of hown2 (by simp) (by simp [Lib.byteCells])
            have hlen2 : (acc ++ [10]).length ≤ k + 1 := by rw [List.length_append, List.length_singleton]; omega
            clear hown2 hg2 hnil2 hga ho
            go_wp2_with fail
            go_round
            case rel => exact ⟨k + 2, acc ++ [10], by omega, by go_num, hr, by omega, fun e => by simp at e, ho2, bw.trans b2⟩
            case measure => simp [intOf]; omega
          · have hr := Lib.hid (G.acc_step hL.out (G.lines_one s k hlt hq (fun _ => hd)))
            have hdi : ¬ ((s[k + 1]).toNat : Int) = 10 := by omega
            clear hL hd hq
            go_wp2_with (at_builtin; refine wpList_append_own _ rfl _ _ 36 rfl w.heap.size 5 i0 (.int .u8 0) 1 1 Tryz.underlying36 hi hz0 hz1 hz2 rfl (by decide) _ _ _ rfl (World.ownsRow.alloc ho _) ⟨wr.heap.size, 0, none⟩ 1 1 [.int .u8 10] rfl rfl (cell_one_new _ _ _) (fun u hu => by simp at hu; subst hu; rfl) (by have := hacch.out; unfold maxLen; omega) (by have := hacch.out; omega) (by simp; omega) ?_)
            intro v2 w2 hown2 hg2 hnil2
            have hga : wr.grownBy w2 u3.ownBlock := (World.grownBy_alloc wr _ _).trans hg2
            have b2 := ho.below hga (by omega)
            have ho2 : Owns w.heap.size v2 (acc ++ [10]) w2 := owns_of hown2 (by simp) (by simp [Lib.byteCells])
            have hlen2 : (acc ++ [10]).length ≤ k + 1 := by rw [List.length_append, List.length_singleton]; omega
            clear hown2 hg2 hnil2 hga ho
            go_wp2_with fail
            go_round
            case rel => exact ⟨k + 1, acc ++ [10], by omega, by go_num, hr, by omega, fun e => by simp at e, ho2, bw.trans b2⟩
            case measure => simp [intOf]; omega
        · have hr := Lib.hid (G.acc_step hL.out (G.lines_one s k hlt hq (fun h2 => absurd h2 h1)))
          clear hL hq
          go_wp2_with (at_builtin; refine wpList_append_own _ rfl _ _ 36 rfl w.heap.size 5 i0 (.int .u8 0) 1 1 Tryz.underlying36 hi hz0 hz1 hz2 rfl (by decide) _ _ _ rfl (World.ownsRow.alloc ho _) ⟨wr.heap.size, 0, none⟩ 1 1 [.int .u8 10] rfl rfl (cell_one_new _ _ _) (fun u hu => by simp at hu; subst hu; rfl) (by have := hacch.out; unfold maxLen; omega) (by have := hacch.out; omega) (by simp; omega) ?_)
          intro v2 w2 hown2 hg2 hnil2
          have hga : wr.grownBy w2 u3.ownBlock := (World.grownBy_alloc wr _ _).trans hg2
          have b2 := ho.below hga (by omega)
          have ho2 : Owns w.heap.size v2 (acc ++ [10]) w2 := owns_of hown2 (by simp) (by simp [Lib.byteCells])
          have hlen2 : (acc ++ [10]).length ≤ k + 1 := by rw [List.length_append, List.length_singleton]; omega
          clear hown2 hg2 hnil2 hga ho
          go_wp2_with fail
          go_round
          case rel => exact ⟨k + 1, acc ++ [10], by omega, by go_num, hr, by omega, fun e => by simp at e, ho2, bw.trans b2⟩
          case measure => simp [intOf]; omega
      · have hr := Lib.hid (G.acc_step hL.out (G.lines_at s k hlt hq))
        have hqi : ¬ ((s[k]).toNat : Int) = 13 := by omega
        clear hL hq
        go_wp2_with (at_builtin; refine wpList_append_own _ rfl _ _ 36 rfl w.heap.size 5 i0 (.int .u8 0) 1 1 Tryz.underlying36 hi hz0 hz1 hz2 rfl (by decide) _ _ _ rfl (World.ownsRow.alloc ho _) ⟨wr.heap.size, 0, none⟩ 1 1 [.int .u8 ((s[k]).toNat : Int)] rfl rfl (cell_one_new _ _ _) (fun u hu => by simp at hu; subst hu; rfl) (by have := hacch.out; unfold maxLen; omega) (by have := hacch.out; omega) (by simp; omega) ?_)
        intro v2 w2 hown2 hg2 hnil2
        have hga : wr.grownBy w2 u3.ownBlock := (World.grownBy_alloc wr _ _).trans hg2
        have b2 := ho.below hga (by omega)
        have ho2 : Owns w.heap.size v2 (acc ++ [s[k]]) w2 := owns_of hown2 (by simp) (by simp [Lib.byteCells])
        have hlen2 : (acc ++ [s[k]]).length ≤ k + 1 := by rw [List.length_append, List.length_singleton]; omega
        clear hown2 hg2 hnil2 hga ho
        go_wp2_with fail
        go_round
        case rel => exact ⟨k + 1, acc ++ [s[k]], by omega, by go_num, hr, by omega, fun e => by simp at e, ho2, bw.trans b2⟩
        case measure => simp [intOf]; omega
    · have hfull : s.data.toList.drop k = [] := List.drop_of_length_le (by rw [hlen.out]; omega)
      have hcv := owns_string ho hnilh.out
      have hr := Lib.hid (G.acc_end hL.out hfull)
      clear hfull hL
      go_wp2
      go_ret
      exact ⟨ret_str (by rw [hr.out]), bw⟩
end Go.Proofs.YtegaidfmkfnbnaaGreatDoor
namespace Go.Proofs.YtegaidfmkfnbnaaGreatDoor
open Go.RowKit

/-- the other case of an ASCII letter; any other is its own. -/
def other (n : Nat) : Nat := if 65 ≤ n ∧ n ≤ 90 then n + 32 else if n = 107 then 8490 else if n = 115 then 383 else if 97 ≤ n ∧ n ≤ 122 then n - 32 else n

/-- WHAT THE PACKAGES' VARIABLES HOLD that is read. -/
def EnvAt (w : World) : Prop :=
  (∃ m, w.cell? ⟨3, 0, none⟩ = some (.int .i64 m)) ∧
  True ∧ True ∧ True ∧
  (∀ n, n < 128 → w.cell? ⟨0, n, none⟩ = some (.int .u16 (other n : Nat)))
/-- .. and go on holding, whatever is made. -/
def Env (w : World) : Prop := ∀ w', Below w.heap.size w w' → EnvAt w'
theorem Env.at {w : World} (h : Env w) : EnvAt w := h w (Below.refl _ _)
theorem Env.most {w : World} (h : Env w) : ∃ m, w.cell? ⟨3, 0, none⟩ = some (.int .i64 m) := h.at.1
theorem Env.on {w w1 : World} (h : Env w) (b : Below w.heap.size w w1) : Env w1 := fun w' h' => h w' (b.trans (h'.mono b.size))
theorem env_of {W : World} (h : EnvAt W) : Env W := by
  intro w' hb
  obtain ⟨⟨m, hm⟩, _, _, _, hf⟩ := h
  exact ⟨⟨m, (hb.cell (World.block_lt_of_cell? W _ hm)).trans hm⟩, trivial, trivial, trivial, fun n hn => (hb.cell (World.block_lt_of_cell? W _ (hf n hn))).trans (hf n hn)⟩
end Go.Proofs.YtegaidfmkfnbnaaGreatDoor
