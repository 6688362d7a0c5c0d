/-
  What comparing tokens comes to: contract of Same.
  What is told of a text's tokens, in memory; tokens appended to a row that a call owns.
  A reader in memory, and what its smallest words come to: insist, meant, takes, space, name, upTo.
  strings.EqualFold of a text and an ASCII word whose letters have no other case beyond ASCII: by bytes, also where the text has more than ASCII.
-/
import Derived.Test.YtcjlhdmekhifaaaGreatDoorD06
import Derived.BigRegion
import Derived.Laws.AppendOwnNone
import Derived.Test.YtcjlhdmekhifaaaGreatDoorD17
import Derived.Test.YtcjlhdmekhifaaaGreatDoorD32
import Derived.Lib.SlTrimSet
import Derived.Lib.IndexMore
import Derived.Maps.AppendAt
import Derived.OneCell
import Derived.Test.YtcjlhdmekhifaaaGreatDoorShelf2
import Derived.Shelf.Strings.SlTrimAscii
import Derived.Lib.Fold
import Derived.Laws.Strings3
namespace Go.Proofs.YtcjlhdmekhifaaaGreatDoor
open Go.RowKit

end Go.Proofs.YtcjlhdmekhifaaaGreatDoor
namespace Go.Proofs.YtcjlhdmekhifaaaGreatDoor
open Go.RowKit

namespace T
def toks (l : List UInt8) : List Tok := match tokens l with | .ok a => a | .error _ => []
def tokE (l : List UInt8) : Int := match tokens l with | .ok _ => 0 | .error e => (e : Int)
theorem told_ok {l : List UInt8} {a : List Tok} (h : tokens l = .ok a) : toks l = a ∧ tokE l = 0 := by unfold toks tokE; rw [h]; exact ⟨rfl, rfl⟩
theorem told_err {l : List UInt8} {e : Nat} (h : tokens l = .error e) : toks l = [] ∧ tokE l = (e : Int) := by unfold toks tokE; rw [h]; exact ⟨rfl, rfl⟩

/-- no error's number is 0. -/
theorem attr_err {l : List UInt8} {e : Nat} (h : attr l = .error e) : e ≠ 0 := by
  unfold attr at h
  split at h
  · cases h; decide
  · split at h
    · split at h
      · cases h; decide
      · split at h
        · cases h; decide
        · split at h
          · cases h; decide
          · cases h
    · cases h; decide
theorem openGo_err : ∀ (f : Nat) (n : List UInt8) (ps : List (List UInt8 × List UInt8)) (l : List UInt8) (e : Nat), openGo f n ps l = .error e → e ≠ 0
  | 0, _, _, _, _, h => by cases h; decide
  | f + 1, n, ps, l, e, h => by
    unfold openGo at h
    split at h
    · cases h
    · cases h
    · split at h
      · cases h; decide
      · split at h
        · rename_i e' ha
          cases h
          exact attr_err ha
        · split at h
          · cases h; decide
          · exact openGo_err f n _ _ e h
theorem next_err {first : Bool} {l : List UInt8} {e : Nat} (h : next first l = .error e) : e ≠ 0 := by
  unfold next at h
  split at h
  · unfold decl at h
    split at h
    · cases h; decide
    · split at h
      · split at h
        · cases h; decide
        · split at h
          · cases h; decide
          · unfold declEnd at h
            split at h
            · cases h
            · cases h; decide
      · cases h; decide
  · split at h
    · unfold comment at h
      split at h
      · cases h
      · cases h; decide
    · split at h
      · unfold cdata at h
        split at h
        · cases h
        · cases h; decide
      · split at h
        · cases h; decide
        · split at h
          · cases h; decide
          · split at h
            · unfold pi at h
              split at h
              · cases h; decide
              · split at h
                · cases h; decide
                · split at h
                  · cases h; decide
                  · split at h
                    · cases h
                    · cases h; decide
            · split at h
              · unfold shut at h
                split at h
                · cases h; decide
                · split at h
                  · cases h
                  · cases h; decide
              · split at h
                · unfold opened at h
                  split at h
                  · cases h; decide
                  · exact openGo_err _ _ _ _ _ h
                · unfold text at h
                  split at h
                  · cases h; decide
                  · split at h
                    · cases h; decide
                    · cases h
theorem go_err : ∀ (f : Nat) (first : Bool) (l : List UInt8) (e : Nat), go f first l = .error e → e ≠ 0
  | _, _, [], _, h => by simp [go] at h
  | 0, _, _ :: _, _, h => by simp [go] at h; omega
  | f + 1, first, b :: y, e, h => by
    simp only [go] at h
    cases hn : next first (b :: y) with
    | error e' => rw [hn] at h; cases h; exact next_err hn
    | ok x =>
      rw [hn] at h
      simp only at h
      cases hg : go f false x.2 with
      | error e' => rw [hg] at h; cases h; exact go_err f false x.2 e hg
      | ok ts => rw [hg] at h; cases h
theorem tokens_err {l : List UInt8} {e : Nat} (h : tokens l = .error e) : e ≠ 0 := by
  unfold tokens at h
  split at h
  · cases h; decide
  · split at h
    · cases h; decide
    · exact go_err _ _ _ _ h

end T

/-- What the call answers. -/
def TokTold (s : ByteArray) (w : World) (e : Ending) (w' : World) : Prop :=
  ∃ (ao : Option Addr) (cap : Nat) (L : List (T.Tok × Value)), e = .returned (.tuple #[.slice ao L.length cap, .int .i64 (T.tokE s.data.toList)]) ∧ L.map Prod.fst = T.toks s.data.toList ∧ ToksIn w' ao L ∧ (ao = none → cap = 0) ∧ Below w.heap.size w w'

theorem rowCells_append (L M : List (T.Tok × Value)) : rowCells (L ++ M) = rowCells L ++ rowCells M := by simp [rowCells]

/-- A row that the call owns, in the world that has its attributes. -/
theorem toks_of_row {B : Nat} {v : Value} {L : List (T.Tok × Value)} {w : World} (h : w.ownsRow B 41 5 v L.length (rowCells L)) (ha : ∀ x ∈ L, AttrsAt w x.2 x.1.attrs) : ∃ ao cap, v = .slice ao L.length cap ∧ ToksIn w ao L := toks_of_owns ⟨h, ha⟩
end Go.Proofs.YtcjlhdmekhifaaaGreatDoor
namespace Go.Proofs.YtcjlhdmekhifaaaGreatDoor
open Go.RowKit

theorem grown_then {a w w' : World} {row : Option Nat} (h : a.grownBy w row) (hb : Below w.heap.size w w') : a.grownBy w' row := h.trans (grown_of_below hb row)
theorem grown_set {a w : World} {b : Nat} (h : a.grownBy w (some b)) (v : Value) : a.grownBy (w.setCell ⟨b, 0, none⟩ v) (some b) :=
  h.trans ⟨rfl, rfl, rfl, by rw [World.size_setCell]; exact Nat.le_refl _, fun j hj hne => RowKit.Below.heap_setCell _ _ _ _ (by intro e; apply hne; rw [e])⟩
theorem grown_refl (w : World) (row : Option Nat) : w.grownBy w row := ⟨rfl, rfl, rfl, Nat.le_refl _, fun _ _ _ => rfl⟩

theorem bytes_of (l : List UInt8) : ∃ s : ByteArray, s.data.toList = l := ⟨⟨l.toArray⟩, rfl⟩

/-- A reader at block b that has s left; what the variables hold lies below it. -/
structure At (b : Nat) (s : ByteArray) (w : World) : Prop where
  box : w.heap[b]? = some (.cells #[.string s] 65 (0, 0))
  small : s.size ≤ 1000000
  kept : ∃ w0, Env w0 ∧ w0.heap.size ≤ b ∧ Below w0.heap.size w0 w

theorem At.cell {b : Nat} {s : ByteArray} {w : World} (h : At b s w) : w.cell? ⟨b, 0, none⟩ = some (.string s) := by unfold World.cell?; rw [h.box]; rfl
theorem At.free {b : Nat} {s : ByteArray} {w : World} (h : At b s w) : w.frozen? ⟨b, 0, none⟩ = false := by simp [World.frozen?, h.box]
theorem At.lt {b : Nat} {s : ByteArray} {w : World} (h : At b s w) : b < w.heap.size := (Array.getElem?_eq_some_iff.1 h.box).1
theorem At.env {b : Nat} {s : ByteArray} {w : World} (h : At b s w) : Env w := by
  obtain ⟨w0, hE, _, hb⟩ := h.kept
  exact hE.on hb
theorem At.below {b : Nat} {s : ByteArray} {w w' : World} (h : At b s w) (hb : Below w.heap.size w w') : At b s w' := by
  obtain ⟨w0, hE, h0, hb0⟩ := h.kept
  exact ⟨(hb.block b h.lt).trans h.box, h.small, w0, hE, h0, hb0.trans (hb.mono hb0.size)⟩
/-- A block of the call's own is written, or made. -/
theorem At.other {b : Nat} {s : ByteArray} {w w' : World} (h : At b s w) {row : Option Nat} (hg : w.grownBy w' row) (hne : some b ≠ row) (hr : ∀ k, row = some k → b ≤ k) : At b s w' := by
  obtain ⟨w0, hE, h0, hb0⟩ := h.kept
  exact ⟨(hg.block b h.lt hne).trans h.box, h.small, w0, hE, h0, hb0.grown hg hb0.size (fun k e => Nat.le_trans h0 (hr k e))⟩
theorem At.put {b : Nat} {s : ByteArray} {w : World} (h : At b s w) {t : ByteArray} (ht : t.size ≤ 1000000) : At b t (w.setCell ⟨b, 0, none⟩ (.string t)) := by
  obtain ⟨w0, hE, h0, hb0⟩ := h.kept
  exact ⟨one_setCell h.box, ht, w0, hE, h0, hb0.setCell (p := ⟨b, 0, none⟩) h0 _⟩

/-- What is thrown with this number. -/
def tossed (e : Int) : List PanicEntry := [{ v := .iface 92 (.agg #[.int .i64 e]), recovered := false }]

theorem insist_yes (w : World) : Calls Tryz.prog 64 #[.bool true] w fun e w' => e = .returned (.tuple #[]) ∧ w = w' := by
  go_enter Tryz.func64, Tryz.ntmps64
  go_wp2
  go_end0
  exact ⟨rfl, rfl⟩
theorem insist_no (w : World) : Calls Tryz.prog 64 #[.bool false] w fun e w' => e = .panicked (tossed 70) ∧ w = w' := by
  go_enter Tryz.func64, Tryz.ntmps64
  go_wp2
  exact ⟨rfl, rfl, rfl⟩
theorem meant_yes (s : ByteArray) (w : World) : Calls Tryz.prog 109 #[.string s, .int .i64 0] w fun e w' => e = .returned (.string s) ∧ w = w' := by
  go_enter Tryz.func109, Tryz.ntmps109
  go_wp2
  go_ret
  exact ⟨rfl, rfl⟩
theorem meant_no (s : ByteArray) (w : World) : Calls Tryz.prog 109 #[.string s, .int .i64 60] w fun e w' => e = .panicked (tossed 60) ∧ w = w' := by
  go_enter Tryz.func109, Tryz.ntmps109
  go_wp2
  exact ⟨rfl, rfl, rfl⟩

/-! ### takes -/
theorem hasPrefix_begins (p l : List UInt8) : Lib.hasPrefix l p = T.begins p l := rfl

theorem takes_yes (b : Nat) (s t p : ByteArray) (w : World) (h : At b s w) (hp : p.data.toList ++ t.data.toList = s.data.toList) :
    Calls Tryz.prog 65 #[.pointer (some ⟨b, 0, none⟩), .string p] w fun e w' => e = .returned (.bool true) ∧ At b t w' ∧ w.grownBy w' (some b) := by
  have hts : t.size ≤ 1000000 := by
    have := congrArg List.length hp
    rw [List.length_append, list_len, list_len, list_len] at this
    have := h.small
    omega
  have hA := Lib.hid h
  have c := cutPrefix_yes s t p w (by rw [hasPrefix_begins]; exact T.begins_iff.2 ⟨_, hp⟩) (by rw [← hp]; simp)
  have hc := h.cell
  have hf := h.free
  clear h hp
  go_enter Tryz.func65, Tryz.ntmps65
  go_wp2_with fail
  (with_reducible refine c.mono ?_)
  rintro e w1 ⟨rfl, rfl⟩
  go_wp2
  go_ret
  exact ⟨rfl, hA.out.put hts, grown_set (grown_refl _ _) _⟩
theorem takes_no (b : Nat) (s p : ByteArray) (w : World) (h : At b s w) (hp : T.begins p.data.toList s.data.toList = false) :
    Calls Tryz.prog 65 #[.pointer (some ⟨b, 0, none⟩), .string p] w fun e w' => e = .returned (.bool false) ∧ At b s w' ∧ w.grownBy w' (some b) := by
  have hA := Lib.hid h
  have c := cutPrefix_no s p w (by rw [hasPrefix_begins]; exact hp)
  have hc := h.cell
  have hf := h.free
  clear h hp
  go_enter Tryz.func65, Tryz.ntmps65
  go_wp2_with fail
  (with_reducible refine c.mono ?_)
  rintro e w1 ⟨rfl, rfl⟩
  go_wp2
  go_ret
  exact ⟨rfl, hA.out.put hA.out.small, grown_set (grown_refl _ _) _⟩

/-! ### space -/
theorem trim_skip (l : List UInt8) : Lib.trimLeftS l [32, 9, 10, 13] = T.skip l := by
  unfold Lib.trimLeftS T.skip
  congr 1
  funext b
  have : ∀ n, n < 256 → ([32, 9, 10, 13] : List UInt8).contains (UInt8.ofNat n) = G.space ((UInt8.ofNat n).toNat : Int) := by decide +kernel
  have := this b.toNat b.toNat_lt
  rwa [UInt8.ofNat_toNat] at this
theorem skip_size {s t : ByteArray} (h : t.data.toList = T.skip s.data.toList) : t.size ≤ s.size := by
  have := T.skip_le s.data.toList
  rw [← h, list_len, list_len] at this
  exact this
theorem infoSet : (Tryz.prog.info? 106).map (fun i => (i.zero, i.size)) = some (some (.agg (Array.replicate 256 (.bool false))), 256) := by kernel_rfl
theorem lit_spaces : (⟨#[32, 9, 10, 13]⟩ : ByteArray).data.toList = [32, 9, 10, 13] := rfl
theorem trimLeft_any (s t : ByteArray) (w : World) (ht : t.data.toList = T.skip s.data.toList) :
    Calls Tryz.prog 103 #[.string s, .string ⟨#[32, 9, 10, 13]⟩] w fun e w' => e = .returned (.string t) ∧ Below w.heap.size w w' := by
  refine (Any.strings_TrimLeft_laid Tryz.lays161 infoSet s ⟨#[32, 9, 10, 13]⟩ w (by decide) (Go.Proofs.ascii_of_all (by decide))).mono ?_
  rintro e w' ⟨rfl, b⟩
  rw [lit_spaces, trim_skip, ← ht]
  exact ⟨rfl, b⟩

theorem space_any (b : Nat) (s t : ByteArray) (w : World) (h : At b s w) (ht : t.data.toList = T.skip s.data.toList) :
    Calls Tryz.prog 66 #[.pointer (some ⟨b, 0, none⟩)] w fun e w' => e = .returned (.bool (decide (t.size < s.size))) ∧ At b t w' ∧ w.grownBy w' (some b) := by
  have hts := Nat.le_trans (skip_size ht) h.small
  have hA := Lib.hid h
  have c := trimLeft_any s t w ht
  have hc := h.cell
  clear h ht
  go_enter Tryz.func66, Tryz.ntmps66
  go_wp2_with fail
  (with_reducible refine c.mono ?_)
  rintro e w1 ⟨rfl, b1⟩
  have hA1 := hA.out.below b1
  have hc1 := hA1.cell
  have hf1 := hA1.free
  replace hA1 := Lib.hid hA1
  clear hc hA
  by_cases hlt : t.size < s.size
  · have hi : (t.size : Int) < (s.size : Int) := by omega
    have hr := Lib.hid (decide_eq_true hlt)
    go_wp2
    go_ret
    exact ⟨ret_bool hr.out.symm, hA1.out.put hts, grown_set (grown_of_below b1 _) _⟩
  · have hi : ¬ (t.size : Int) < (s.size : Int) := by omega
    have hr := Lib.hid (decide_eq_false hlt)
    go_wp2
    go_ret
    exact ⟨ret_bool hr.out.symm, hA1.out.put hts, grown_set (grown_of_below b1 _) _⟩

/-! ### name -/
theorem name_parts {s v t : ByteArray} (h : T.nameAt s.data.toList = some (v.data.toList, t.data.toList)) : G.nmA s = v ∧ G.nmB s = t ∧ G.nmE s = 0 ∧ t.size ≤ s.size := by
  unfold T.nameAt at h
  split at h
  · cases h
  · rename_i h0
    obtain ⟨e1, e2, e3⟩ := G.nm_some (s := s) rfl h0
    have hh := Option.some.inj h
    have ha := congrArg Prod.fst hh
    have hb := congrArg Prod.snd hh
    dsimp only at ha hb
    refine ⟨?_, ?_, e3, ?_⟩
    · rw [e1]; exact bytes_eq (by rw [take_list, ha])
    · rw [e2]; exact bytes_eq (by rw [drop_list, hb])
    · rw [← list_len t, ← hb, List.length_drop, list_len]; omega
theorem name_none {s : ByteArray} (h : T.nameAt s.data.toList = none) : G.nmA s = ByteArray.empty ∧ G.nmB s = ByteArray.empty ∧ G.nmE s = 51 := by
  unfold T.nameAt at h
  split at h
  · rename_i h0; exact G.nm_none h0
  · cases h

theorem name_ok (b : Nat) (s v t : ByteArray) (w : World) (h : At b s w) (hn : T.nameAt s.data.toList = some (v.data.toList, t.data.toList)) :
    Calls Tryz.prog 107 #[.pointer (some ⟨b, 0, none⟩)] w fun e w' => e = .returned (.string v) ∧ At b t w' ∧ w.grownBy w' (some b) := by
  obtain ⟨e1, e2, e3, hsz⟩ := name_parts hn
  have hts := Nat.le_trans hsz h.small
  have hA := Lib.hid h
  have c := gName_any s w h.small h.env
  rw [e1, e2, e3] at c
  have hc := h.cell
  clear h hn e1 e2 e3
  go_enter Tryz.func107, Tryz.ntmps107
  go_wp2_with fail
  (with_reducible refine c.mono ?_)
  rintro e w1 ⟨rfl, b1⟩
  have hA1 := hA.out.below b1
  have hc1 := hA1.cell
  have hf1 := hA1.free
  replace hA1 := Lib.hid hA1
  clear hc hA
  go_wp2_with fail
  (with_reducible refine (insist_yes _).mono ?_)
  rintro e w2 ⟨rfl, rfl⟩
  go_wp2
  go_ret
  exact ⟨rfl, hA1.out.put hts, grown_set (grown_of_below b1 _) _⟩
theorem name_no (b : Nat) (s : ByteArray) (w : World) (h : At b s w) (hn : T.nameAt s.data.toList = none) :
    Calls Tryz.prog 107 #[.pointer (some ⟨b, 0, none⟩)] w fun e w' => e = .panicked (tossed 70) ∧ w.grownBy w' (some b) := by
  obtain ⟨e1, e2, e3⟩ := name_none hn
  have c := gName_any s w h.small h.env
  rw [e1, e2, e3] at c
  have hc := h.cell
  clear h hn e1 e2 e3
  go_enter Tryz.func107, Tryz.ntmps107
  go_wp2_with fail
  (with_reducible refine c.mono ?_)
  rintro e w1 ⟨rfl, b1⟩
  go_wp2_with fail
  (with_reducible refine (insist_no _).mono ?_)
  rintro e w2 ⟨rfl, rfl⟩
  exact ⟨rfl, rfl, grown_of_below b1 _⟩

/-! ### upTo -/
theorem index_cut {p : List UInt8} (hp : p ≠ []) : ∀ l : List UInt8, Lib.index l p = match T.cutAt p l with | some x => (x.1.length : Int) | none => -1
  | [] => by
    cases p with
    | nil => exact absurd rfl hp
    | cons a p => rfl
  | b :: t => by
    have ih := index_cut hp t
    unfold Lib.index T.cutAt
    cases hb : T.begins p (b :: t) with
    | true =>
      have : p.isPrefixOf (b :: t) = true := hb
      simp [this]
    | false =>
      have : p.isPrefixOf (b :: t) = false := hb
      rw [ih]
      cases T.cutAt p t with
      | none => simp [this]
      | some x => 
        have h1 : ¬ ((x.1.length : Int) = -1) := by omega
        simp [this, h1]
theorem cut_some {p l a r : List UInt8} (hp : p ≠ []) (h : T.cutAt p l = some (a, r)) : Lib.cut l p = (a, r, true) := by
  have hi := index_cut hp l
  rw [h] at hi
  have he := T.cutAt_eq h
  unfold Lib.cut
  rw [hi, if_pos (by simp)]
  simp only [Int.toNat_natCast]
  rw [he]
  simp
theorem cut_none {p l : List UInt8} (hp : p ≠ []) (h : T.cutAt p l = none) : Lib.cut l p = (l, [], false) := by
  have hi := index_cut hp l
  rw [h] at hi
  unfold Lib.cut
  rw [hi, if_neg (by decide)]
theorem contains_cut {p l : List UInt8} (hp : p ≠ []) : Lib.contains l p = (T.cutAt p l).isSome := by
  have hi := index_cut hp l
  unfold Lib.contains
  rw [hi]
  cases T.cutAt p l with
  | none => rfl
  | some x => simp

theorem upTo_ok (b : Nat) (s v t p : ByteArray) (w : World) (h : At b s w) (hp : p.data.toList ≠ []) (hn : T.cutAt p.data.toList s.data.toList = some (v.data.toList, t.data.toList)) :
    Calls Tryz.prog 71 #[.pointer (some ⟨b, 0, none⟩), .string p] w fun e w' => e = .returned (.string v) ∧ At b t w' ∧ w.grownBy w' (some b) := by
  have hts : t.size ≤ 1000000 := by
    have := congrArg List.length (T.cutAt_eq hn)
    simp only [List.length_append, list_len] at this
    have := h.small
    omega
  have hA := Lib.hid h
  obtain ⟨m, hm⟩ := h.env.most
  have c := Tryz.strings_Cut s p m w (by have := h.small; omega) hm
  rw [cut_some hp hn] at c
  have hc := h.cell
  clear h hn hm hp
  go_enter Tryz.func71, Tryz.ntmps71
  go_wp2_with fail
  (with_reducible refine c.mono ?_)
  rintro e w1 ⟨rfl, n, rfl⟩
  have b1 := below_drewN (Below.refl w.heap.size w) n
  generalize w.drewN n = w1 at *
  have hA1 := hA.out.below b1
  have hc1 := hA1.cell
  have hf1 := hA1.free
  replace hA1 := Lib.hid hA1
  clear hc hA
  go_wp2_with fail
  (with_reducible refine (insist_yes _).mono ?_)
  rintro e w2 ⟨rfl, rfl⟩
  go_wp2
  go_ret
  exact ⟨rfl, hA1.out.put hts, grown_set (grown_of_below b1 _) _⟩
theorem upTo_no (b : Nat) (s p : ByteArray) (w : World) (h : At b s w) (hp : p.data.toList ≠ []) (hn : T.cutAt p.data.toList s.data.toList = none) :
    Calls Tryz.prog 71 #[.pointer (some ⟨b, 0, none⟩), .string p] w fun e w' => e = .panicked (tossed 70) ∧ w.grownBy w' (some b) := by
  obtain ⟨m, hm⟩ := h.env.most
  have c := Tryz.strings_Cut s p m w (by have := h.small; omega) hm
  rw [cut_none hp hn] at c
  have hc := h.cell
  clear h hn hm hp
  go_enter Tryz.func71, Tryz.ntmps71
  go_wp2_with fail
  (with_reducible refine c.mono ?_)
  rintro e w1 ⟨rfl, n, rfl⟩
  have b1 := below_drewN (Below.refl w.heap.size w) n
  generalize w.drewN n = w1 at *
  go_wp2_with fail
  (with_reducible refine (insist_no _).mono ?_)
  rintro e w2 ⟨rfl, rfl⟩
  exact ⟨rfl, rfl, grown_of_below b1 _⟩
end Go.Proofs.YtcjlhdmekhifaaaGreatDoor
namespace Go.Proofs.YtcjlhdmekhifaaaGreatDoor
open Go.RowKit

theorem decodeN_big {n b0 b1 b2 b3 : Nat} (h : 128 ≤ b0) : 128 ≤ (Lib.decodeN n b0 b1 b2 b3).1 := by
  unfold Lib.decodeN
  rw [if_neg (by omega)]
  split
  · split
    · assumption
    · decide
  · split
    · split
      · rename_i h'; dsimp only; omega
      · decide
    · split
      · split
        · rename_i h'; dsimp only; omega
        · decide
      · decide
theorem decode_big (s : ByteArray) (h0 : 0 < s.size) (h : 128 ≤ (s[0]).toNat) : 128 ≤ (Utf8.decode s 0).1 := by
  rw [Lib.decode_at]
  refine decodeN_big ?_
  have : s.get! 0 = s[0] := by simp [ByteArray.get!, getElem!_pos, h0, ByteArray.getElem_eq_getElem_data]
  rw [this]; exact h

set_option maxRecDepth 1000000 in
set_option maxHeartbeats 4000000 in
theorem decode_ascii (t : ByteArray) (c : Nat) (w : World) (h0 : 0 < t.size) (hc : (t[0]).toNat = c) (h : c < 128) :
    Calls Tryz.prog 104 #[.string t] w fun e w' => e = .returned (.tuple #[.int .i32 (c : Int), .int .i64 1]) ∧ w = w' := by
  have hne := ne_empty h0
  have hi : (c : Int) < 128 := by omega
  have h0i : (0 : Int) < (t.size : Int) := by omega
  go_enter Tryz.func104, Tryz.ntmps104
  go_wp2
  go_ret2
  exact ⟨rfl, rfl⟩

set_option maxRecDepth 1000000 in
set_option maxHeartbeats 4000000 in
/-- The other case of an ASCII letter. -/
theorem simpleFold_ascii (c : Nat) (w : World) (h : c < 128) (hE : Env w) :
    Calls Tryz.prog 105 #[.int .i32 (c : Int)] w fun e w' => e = .returned (.int .i32 (other c : Nat)) ∧ w = w' := by
  have hf := hE.at.2.2.2.2 c h
  have ho : other c < 65536 := by unfold other; split; omega; split; decide; split; decide; split <;> omega
  have hi : (c : Int) < 128 := by omega
  generalize other c = d at *
  clear hE
  go_enter Tryz.func105, Tryz.ntmps105
  go_wp2
  go_ret
  exact ⟨rfl, rfl⟩
end Go.Proofs.YtcjlhdmekhifaaaGreatDoor
