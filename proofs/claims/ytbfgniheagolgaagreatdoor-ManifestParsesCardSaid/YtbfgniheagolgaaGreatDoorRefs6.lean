/-
  What the document's Split comes to.
-/
import Derived.Test.YtbfgniheagolgaaGreatDoorParse2
namespace Go.Proofs.YtbfgniheagolgaaGreatDoor
open Go.RowKit

/-- What stands between a sign. -/
def pieces (c : UInt8) : List UInt8 → List (List UInt8)
  | [] => [[]]
  | x :: t => if x = c then [] :: pieces c t else match pieces c t with
    | [] => [[x]]
    | p :: q => (x :: p) :: q

theorem pieces_at (c : UInt8) : ∀ (a b : List UInt8), c ∉ a → pieces c (a ++ c :: b) = a :: pieces c b
  | [], b, _ => by simp [pieces]
  | x :: a, b, h => by
    have hx : ¬ x = c := fun e => h (by simp [e])
    have ih := pieces_at c a b (fun m => h (by simp [m]))
    simp only [List.cons_append, pieces, if_neg hx, ih]
theorem pieces_no (c : UInt8) : ∀ (a : List UInt8), c ∉ a → pieces c a = [a]
  | [], _ => by simp [pieces]
  | x :: a, h => by
    have hx : ¬ x = c := fun e => h (by simp [e])
    have ih := pieces_no c a (fun m => h (by simp [m]))
    simp only [pieces, if_neg hx, ih]

/-- Strings lie in memory, from the slice's address on. -/
def StrsAt (w : World) (ao : Option Addr) (l : List (List UInt8)) : Prop := ∀ j (h : j < l.length), ∃ b, ao = some ⟨b, 0, none⟩ ∧ w.cell? ⟨b, j, none⟩ = some (.string ⟨l[j].toArray⟩)

theorem StrsAt.below {w w' : World} {ao : Option Addr} {l : List (List UInt8)} (h : StrsAt w ao l) (hb : Below w.heap.size w w') : StrsAt w' ao l := by
  intro j hj
  obtain ⟨b, e, c0⟩ := h j hj
  exact ⟨b, e, (hb.cell (World.block_lt_of_cell? w _ c0)).trans c0⟩

def strOf (l : List UInt8) : Value := .string ⟨l.toArray⟩
def OwnsStrs (B : Nat) (v : Value) (l : List (List UInt8)) (w : World) : Prop := w.ownsRow B 9 1 v l.length (l.map strOf)

theorem strs_of_owns {B : Nat} {v : Value} {l : List (List UInt8)} {w : World} (h : OwnsStrs B v l w) : ∃ ao cap, v = .slice ao l.length cap ∧ StrsAt w ao l ∧ ∀ x, ao = some x → B ≤ x.block := by
  unfold OwnsStrs at h
  have hlt := fun j e => (World.ownsRow.lt h j e).1
  have hc := fun g hg => World.ownsRow.cells h (g := g) hg
  obtain ⟨hl, ⟨rfl, h0⟩ | ⟨g, cap, cur, rfl, hb, _⟩⟩ := h
  · have : l = [] := List.eq_nil_of_length_eq_zero h0
    subst this
    exact ⟨none, 0, rfl, fun j hj => (by simp at hj), fun x hx => by cases hx⟩
  · refine ⟨_, cap, rfl, fun j hj => ⟨g, rfl, ?_⟩, fun x hx => by cases hx; exact hlt g rfl⟩
    have := hc g rfl j (strOf l[j]) (by simp [hj])
    rw [add_at, Nat.zero_add] at this
    exact this

theorem infoStr : (Tryz.prog.info? 9).map (fun i => (i.zero, i.size, i.bytes)) = some (some (.string ByteArray.empty), 1, 16) := by kernel_rfl
theorem strs_alloc {B : Nat} {v : Value} {l : List (List UInt8)} {w : World} (h : OwnsStrs B v l w) (o : Obj) : OwnsStrs B v l (w.alloc o) := World.ownsRow.alloc h o

/-- Where Split stands. -/
inductive At (c : UInt8) (s : List UInt8) (k from_ : Nat) (out : List (List UInt8)) : Prop where
  | mid (hk : k ≤ s.length) (hf : from_ ≤ k) (hno : c ∉ (s.take k).drop from_) (he : out ++ pieces c (s.drop from_) = pieces c s)
  | done (hk : k = s.length + 1) (he : out = pieces c s)

theorem At.skip {c : UInt8} {s : List UInt8} {k f : Nat} {out : List (List UInt8)} (h : At c s k f out) (hk : k < s.length) (hc : ¬ s[k] = c) : At c s (k + 1) f out := by
  rcases h with ⟨_, hf, hno, he⟩ | ⟨hk1, _⟩
  · refine .mid (by omega) (by omega) ?_ he
    rw [List.take_succ_eq_append_getElem hk, List.drop_append_of_le_length (by simp; omega)]
    intro hm
    rcases List.mem_append.1 hm with hm | hm
    · exact hno hm
    · simp at hm; exact hc hm.symm
  · omega
theorem At.cut {c : UInt8} {s : List UInt8} {k f : Nat} {out : List (List UInt8)} (h : At c s k f out) (hk : k < s.length) (hc : s[k] = c) : At c s (k + 1) (k + 1) (out ++ [(s.take k).drop f]) := by
  rcases h with ⟨_, hf, hno, he⟩ | ⟨hk1, _⟩
  · refine .mid (by omega) (by omega) (by rw [List.drop_of_length_le (by simp; omega)]; simp) ?_
    have e : s.drop f = (s.take k).drop f ++ c :: s.drop (k + 1) := by
      have h1 : s = s.take k ++ (c :: s.drop (k + 1)) := by
        rw [← hc, ← List.drop_eq_getElem_cons hk, List.take_append_drop]
      have h2 : s.drop f = (s.take k ++ (c :: s.drop (k + 1))).drop f := by rw [← h1]
      rw [h2, List.drop_append_of_le_length (by simp; omega)]
    rw [e, pieces_at _ _ _ hno] at he
    rw [← he]; simp
  · omega
theorem At.end {c : UInt8} {s : List UInt8} {k f : Nat} {out : List (List UInt8)} (h : At c s k f out) (hk : k = s.length) : At c s (k + 1) (k + 1) (out ++ [(s.take k).drop f]) := by
  rcases h with ⟨_, hf, hno, he⟩ | ⟨hk1, _⟩
  · refine .done (by omega) ?_
    rw [hk, List.take_length] at hno ⊢
    rw [pieces_no _ _ hno] at he
    exact he
  · omega
theorem At.fin {c : UInt8} {s : List UInt8} {k f : Nat} {out : List (List UInt8)} (h : At c s k f out) (hk : s.length < k) : out = pieces c s := by
  rcases h with ⟨hk1, _, _, _⟩ | ⟨_, he⟩
  · omega
  · exact he
theorem At.from_le {c : UInt8} {s : List UInt8} {k f : Nat} {out : List (List UInt8)} (h : At c s k f out) (hk : k ≤ s.length) : f ≤ k := by
  rcases h with ⟨_, hf, _, _⟩ | ⟨hk1, _⟩ <;> omega

theorem extract_list (s : ByteArray) (f k : Nat) (_hf : f ≤ k) (_hk : k ≤ s.size) : s.extract f k = ⟨((s.data.toList.take k).drop f).toArray⟩ := by
  have : (s.extract f k).data.toList = (s.data.toList.take k).drop f := by
    simp [go_sem, List.drop_take]
  rw [← this, M.array_toList]

set_option maxRecDepth 100000 in
set_option maxHeartbeats 3200000 in
theorem refSplit_any (s : ByteArray) (c : UInt8) (w : World) (hs : s.size ≤ 1000000) :
    Calls Tryz.prog 21 #[.string s, .int .u8 (c.toNat : Int)] w fun e w' => ∃ ao cap, e = .returned (.slice ao (pieces c s.data.toList).length cap) ∧ StrsAt w' ao (pieces c s.data.toList) ∧ (∀ x, ao = some x → w.heap.size ≤ x.block) ∧ Below w.heap.size w w' := by
  obtain ⟨i0, hi, hz0, hz1, hz2⟩ := info_parts infoStr
  have hlen : s.data.toList.length = s.size := by simp
  have hlen := Lib.hid hlen
  have hcn := c.toNat_lt
  go_enter Tryz.func21, Tryz.ntmps21
  go_wp2_with fail
  go_loopw [5, 6, 7] (fun v fv iv wr => ∃ (k f : Nat) (out : List (List UInt8)), k ≤ s.size + 1 ∧ f ≤ s.size + 1 ∧ iv = .int .i64 k ∧ fv = .int .i64 f ∧ Hid (At c s.data.toList k f out) ∧ out.length ≤ k ∧ OwnsStrs w.heap.size v out wr ∧ Below w.heap.size w wr) (fun _ _ i _ => s.size + 1 - (intOf i).toNat)
  case atStart => exact ⟨0, 0, [], by omega, by omega, rfl, rfl, Lib.hid (.mid (by omega) (by omega) (by simp) (by simp)), by simp, World.ownsRow_nil _ _ _ _, Below.refl _ _⟩
  case round =>
    obtain ⟨k, f, out, hk, hf, rfl, rfl, hat, hol, hown, bw⟩ := hrel
    have hbs := bw.size
    by_cases hin : k ≤ s.size
    · have hfk := hat.out.from_le (by rw [hlen.out]; exact hin)
      have hx := Lib.hid (extract_list s f k hfk hin)
      by_cases hkk : k = s.size
      · have hnx := Lib.hid (hat.out.end (by rw [hlen.out]; exact hkk))
        subst hkk
        have f0 : (0 : Int) ≤ (f : Int) := by omega
        have f1 : (f : Int) ≤ (s.size : Int) := by omega
        clear hat
        go_wp2_with (at_builtin; refine wpList_append_own _ rfl _ _ 43 rfl w.heap.size 9 i0 _ 1 16 Tryz.underlying43 hi hz0 hz1 hz2 rfl (by decide) _ _ _ rfl (strs_alloc hown _) ⟨wr.heap.size, 0, none⟩ 1 1 [.string (s.extract f s.size)] rfl rfl (cell_one_new _ _ _) (fun u hu => by simp at hu; subst hu; rfl) (by unfold maxLen; omega) (by omega) (by simp; omega) ?_)
        intro v5 w5 hown5 hg5 _
        have hga : wr.grownBy w5 u5.ownBlock := (World.grownBy_alloc wr _ _).trans hg5
        have b5 : Below w.heap.size wr w5 := (Below.refl _ _).grown hga hbs (fun j e => (World.ownsRow.lt hown j e).1)
        have ho5 : OwnsStrs w.heap.size v5 (out ++ [(s.data.toList.take s.size).drop f]) w5 := by
          unfold OwnsStrs
          rw [List.map_append, List.length_append]
          have e : [Value.string (s.extract f s.size)] = List.map strOf [(s.data.toList.take s.size).drop f] := by rw [hx.out]; rfl
          rw [← e]; exact hown5
        clear hown5
        go_wp2_with fail
        go_round
        case rel => exact ⟨s.size + 1, s.size + 1, _, by omega, by omega, by go_num, by go_num, hnx, by simp; omega, ho5, bw.trans b5⟩
        case measure => first | (simp [intOf]; done) | (simp [intOf]; omega)
      · have hlt : k < s.size := by omega
        have hgk : s.data.toList[k]'(by rw [hlen.out]; exact hlt) = s[k] := rfl
        by_cases hcc : s[k] = c
        · have hnx := Lib.hid (hat.out.cut (by rw [hlen.out]; exact hlt) (hgk.trans hcc))
          have hce : (s[k].toNat : Int) = (c.toNat : Int) := by rw [hcc]
          have f0 : (0 : Int) ≤ (f : Int) := by omega
          have f1 : (f : Int) ≤ (k : Int) := by omega
          clear hat hgk hcc
          go_wp2_with (at_builtin; refine wpList_append_own _ rfl _ _ 43 rfl w.heap.size 9 i0 _ 1 16 Tryz.underlying43 hi hz0 hz1 hz2 rfl (by decide) _ _ _ rfl (strs_alloc hown _) ⟨wr.heap.size, 0, none⟩ 1 1 [.string (s.extract f k)] rfl rfl (cell_one_new _ _ _) (fun u hu => by simp at hu; subst hu; rfl) (by unfold maxLen; omega) (by omega) (by simp; omega) ?_)
          intro v5 w5 hown5 hg5 _
          have hga : wr.grownBy w5 u5.ownBlock := (World.grownBy_alloc wr _ _).trans hg5
          have b5 : Below w.heap.size wr w5 := (Below.refl _ _).grown hga hbs (fun j e => (World.ownsRow.lt hown j e).1)
          have ho5 : OwnsStrs w.heap.size v5 (out ++ [(s.data.toList.take k).drop f]) w5 := by
            unfold OwnsStrs
            rw [List.map_append, List.length_append]
            have e : [Value.string (s.extract f k)] = List.map strOf [(s.data.toList.take k).drop f] := by rw [hx.out]; rfl
            rw [← e]; exact hown5
          clear hown5
          go_wp2_with fail
          go_round
          case rel => exact ⟨k + 1, k + 1, _, by omega, by omega, by go_num, by go_num, hnx, by simp; omega, ho5, bw.trans b5⟩
          case measure => first | (simp [intOf]; done) | (simp [intOf]; omega)
        · have hnx := Lib.hid (hat.out.skip (by rw [hlen.out]; exact hlt) (fun e => hcc (hgk.symm.trans e)))
          have hce : ¬ (s[k].toNat : Int) = (c.toNat : Int) := fun e => hcc (UInt8.toNat_inj.1 (by omega))
          have hkb : ((k : Int) == (s.size : Int)) = false := by simp; omega
          have hcb : ((s[k].toNat : Int) == (c.toNat : Int)) = false := by simpa using hce
          clear hat hgk hcc hx hce
          go_wp2_with fail
          go_round
          case rel => exact ⟨k + 1, f, out, by omega, by omega, by go_num, rfl, hnx, by omega, hown, bw⟩
          case measure => first | (simp [intOf]; done) | (simp [intOf]; omega)
    · have hfin := Lib.hid (hat.out.fin (by rw [hlen.out]; omega))
      obtain ⟨ao, cap, rfl, hS, hB⟩ := strs_of_owns hown
      have hkin : ¬ (k : Int) ≤ (s.size : Int) := by omega
      have hol2 : out.length ≤ 1000001 := by omega
      clear hin hol hk
      go_wp2_with fail
      go_ret
      exact ⟨ao, ⟨cap, by rw [← hfin.out]; rfl⟩, by rw [← hfin.out]; exact hS, hB, bw⟩
end Go.Proofs.YtbfgniheagolgaaGreatDoor
