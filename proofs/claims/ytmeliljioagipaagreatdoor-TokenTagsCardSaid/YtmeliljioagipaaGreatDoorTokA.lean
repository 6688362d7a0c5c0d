/-
  A reader in memory, and what its smallest words come to: insist, meant, takes, space, name, upTo.
  strings.EqualFold of a text and an ASCII word whose letters have no other case beyond ASCII: by bytes, also where the text has more than ASCII.
  strings.EqualFold of a text and an ASCII word, the walk.
  Tokens in plain Lean once more, as the program goes through them.
  What the reader's words of tokens come to: given, comment, end, instruction, the characters of a section.
  What the reader's words of comments, end-tags and instructions come to.
  What the reader's words of end-tags and instructions come to.
-/
import Derived.Test.YtmeliljioagipaaGreatDoorProgTexts
import Derived.Test.YtmeliljioagipaaGreatDoorProgExpand
import Derived.Test.YtmeliljioagipaaGreatDoorTokTold
import Derived.Lib.SlTrimSet
import Derived.Lib.IndexMore
import Derived.Maps.AppendAt
import Derived.OneCell
import Derived.Test.YtmeliljioagipaaGreatDoorShelf2
import Derived.Shelf.Strings.SlTrimAscii
import Derived.Lib.Fold
import Derived.Laws.Strings3
import Derived.Deep.LoopGhost
import Derived.Lib.Walk
import Derived.ScopeJumps
import Derived.WalkMore
import Derived.Test.YtmeliljioagipaaGreatDoorToken5
import Derived.Maps.Range
namespace Go.Proofs.YtmeliljioagipaaGreatDoor
open Go.RowKit

theorem grown_then {a w w' : World} {row : Option Nat} (h : a.grownBy w row) (hb : Below w.heap.size w w') : a.grownBy w' row := h.trans (grown_of_below hb row)
theorem grown_set {a w : World} {b : Nat} (h : a.grownBy w (some b)) (v : Value) : a.grownBy (w.setCell ⟨b, 0, none⟩ v) (some b) :=
  h.trans ⟨rfl, rfl, rfl, by rw [World.size_setCell]; exact Nat.le_refl _, fun j hj hne => RowKit.Below.heap_setCell _ _ _ _ (by intro e; apply hne; rw [e])⟩
theorem grown_refl (w : World) (row : Option Nat) : w.grownBy w row := ⟨rfl, rfl, rfl, Nat.le_refl _, fun _ _ _ => rfl⟩

theorem bytes_of (l : List UInt8) : ∃ s : ByteArray, s.data.toList = l := ⟨⟨l.toArray⟩, rfl⟩

/-- A reader at block b that has s left; what the variables hold lies below it. -/
structure At (b : Nat) (s : ByteArray) (w : World) : Prop where
  box : w.heap[b]? = some (.cells #[.string s] 42 (0, 0))
  small : s.size ≤ 1000000
  kept : ∃ w0, Env w0 ∧ w0.heap.size ≤ b ∧ Below w0.heap.size w0 w

theorem At.cell {b : Nat} {s : ByteArray} {w : World} (h : At b s w) : w.cell? ⟨b, 0, none⟩ = some (.string s) := by unfold World.cell?; rw [h.box]; rfl
theorem At.free {b : Nat} {s : ByteArray} {w : World} (h : At b s w) : w.frozen? ⟨b, 0, none⟩ = false := by simp [World.frozen?, h.box]
theorem At.lt {b : Nat} {s : ByteArray} {w : World} (h : At b s w) : b < w.heap.size := (Array.getElem?_eq_some_iff.1 h.box).1
theorem At.env {b : Nat} {s : ByteArray} {w : World} (h : At b s w) : Env w := by
  obtain ⟨w0, hE, _, hb⟩ := h.kept
  exact hE.on hb
theorem At.below {b : Nat} {s : ByteArray} {w w' : World} (h : At b s w) (hb : Below w.heap.size w w') : At b s w' := by
  obtain ⟨w0, hE, h0, hb0⟩ := h.kept
  exact ⟨(hb.block b h.lt).trans h.box, h.small, w0, hE, h0, hb0.trans (hb.mono hb0.size)⟩
/-- A block of the call's own is written, or made. -/
theorem At.other {b : Nat} {s : ByteArray} {w w' : World} (h : At b s w) {row : Option Nat} (hg : w.grownBy w' row) (hne : some b ≠ row) (hr : ∀ k, row = some k → b ≤ k) : At b s w' := by
  obtain ⟨w0, hE, h0, hb0⟩ := h.kept
  exact ⟨(hg.block b h.lt hne).trans h.box, h.small, w0, hE, h0, hb0.grown hg hb0.size (fun k e => Nat.le_trans h0 (hr k e))⟩
theorem At.put {b : Nat} {s : ByteArray} {w : World} (h : At b s w) {t : ByteArray} (ht : t.size ≤ 1000000) : At b t (w.setCell ⟨b, 0, none⟩ (.string t)) := by
  obtain ⟨w0, hE, h0, hb0⟩ := h.kept
  exact ⟨one_setCell h.box, ht, w0, hE, h0, hb0.setCell (p := ⟨b, 0, none⟩) h0 _⟩

/-- What is thrown with this number. -/
def tossed (e : Int) : List PanicEntry := [{ v := .iface 50 (.agg #[.int .i64 e]), recovered := false }]

theorem insist_yes (w : World) : Calls Tryz.prog 25 #[.bool true] w fun e w' => e = .returned (.tuple #[]) ∧ w = w' := by
  go_enter Tryz.func25, Tryz.ntmps25
  go_wp2
  go_end0
  exact ⟨rfl, rfl⟩
theorem insist_no (w : World) : Calls Tryz.prog 25 #[.bool false] w fun e w' => e = .panicked (tossed 70) ∧ w = w' := by
  go_enter Tryz.func25, Tryz.ntmps25
  go_wp2
  exact ⟨rfl, rfl, rfl⟩
theorem meant_yes (s : ByteArray) (w : World) : Calls Tryz.prog 49 #[.string s, .int .i64 0] w fun e w' => e = .returned (.string s) ∧ w = w' := by
  go_enter Tryz.func49, Tryz.ntmps49
  go_wp2
  go_ret
  exact ⟨rfl, rfl⟩
theorem meant_no (s : ByteArray) (w : World) : Calls Tryz.prog 49 #[.string s, .int .i64 60] w fun e w' => e = .panicked (tossed 60) ∧ w = w' := by
  go_enter Tryz.func49, Tryz.ntmps49
  go_wp2
  exact ⟨rfl, rfl, rfl⟩

/-! ### takes -/
theorem hasPrefix_begins (p l : List UInt8) : Lib.hasPrefix l p = T.begins p l := rfl

theorem takes_yes (b : Nat) (s t p : ByteArray) (w : World) (h : At b s w) (hp : p.data.toList ++ t.data.toList = s.data.toList) :
    Calls Tryz.prog 26 #[.pointer (some ⟨b, 0, none⟩), .string p] w fun e w' => e = .returned (.bool true) ∧ At b t w' ∧ w.grownBy w' (some b) := by
  have hts : t.size ≤ 1000000 := by
    have := congrArg List.length hp
    rw [List.length_append, list_len, list_len, list_len] at this
    have := h.small
    omega
  have hA := Lib.hid h
  have c := cutPrefix_yes s t p w (by rw [hasPrefix_begins]; exact T.begins_iff.2 ⟨_, hp⟩) (by rw [← hp]; simp)
  have hc := h.cell
  have hf := h.free
  clear h hp
  go_enter Tryz.func26, Tryz.ntmps26
  go_wp2_with fail
  (with_reducible refine c.mono ?_)
  rintro e w1 ⟨rfl, rfl⟩
  go_wp2
  go_ret
  exact ⟨rfl, hA.out.put hts, grown_set (grown_refl _ _) _⟩
theorem takes_no (b : Nat) (s p : ByteArray) (w : World) (h : At b s w) (hp : T.begins p.data.toList s.data.toList = false) :
    Calls Tryz.prog 26 #[.pointer (some ⟨b, 0, none⟩), .string p] w fun e w' => e = .returned (.bool false) ∧ At b s w' ∧ w.grownBy w' (some b) := by
  have hA := Lib.hid h
  have c := cutPrefix_no s p w (by rw [hasPrefix_begins]; exact hp)
  have hc := h.cell
  have hf := h.free
  clear h hp
  go_enter Tryz.func26, Tryz.ntmps26
  go_wp2_with fail
  (with_reducible refine c.mono ?_)
  rintro e w1 ⟨rfl, rfl⟩
  go_wp2
  go_ret
  exact ⟨rfl, hA.out.put hA.out.small, grown_set (grown_refl _ _) _⟩

/-! ### space -/
theorem trim_skip (l : List UInt8) : Lib.trimLeftS l [32, 9, 10, 13] = T.skip l := by
  unfold Lib.trimLeftS T.skip
  congr 1
  funext b
  have : ∀ n, n < 256 → ([32, 9, 10, 13] : List UInt8).contains (UInt8.ofNat n) = G.space ((UInt8.ofNat n).toNat : Int) := by decide +kernel
  have := this b.toNat b.toNat_lt
  rwa [UInt8.ofNat_toNat] at this
theorem skip_size {s t : ByteArray} (h : t.data.toList = T.skip s.data.toList) : t.size ≤ s.size := by
  have := T.skip_le s.data.toList
  rw [← h, list_len, list_len] at this
  exact this
theorem infoSet : (Tryz.prog.info? 85).map (fun i => (i.zero, i.size)) = some (some (.agg (Array.replicate 256 (.bool false))), 256) := by kernel_rfl
theorem lit_spaces : (⟨#[32, 9, 10, 13]⟩ : ByteArray).data.toList = [32, 9, 10, 13] := rfl
theorem trimLeft_any (s t : ByteArray) (w : World) (ht : t.data.toList = T.skip s.data.toList) :
    Calls Tryz.prog 41 #[.string s, .string ⟨#[32, 9, 10, 13]⟩] w fun e w' => e = .returned (.string t) ∧ Below w.heap.size w w' := by
  refine (Any.strings_TrimLeft_laid Tryz.lays161 infoSet s ⟨#[32, 9, 10, 13]⟩ w (by decide) (Go.Proofs.ascii_of_all (by decide))).mono ?_
  rintro e w' ⟨rfl, b⟩
  rw [lit_spaces, trim_skip, ← ht]
  exact ⟨rfl, b⟩

theorem space_any (b : Nat) (s t : ByteArray) (w : World) (h : At b s w) (ht : t.data.toList = T.skip s.data.toList) :
    Calls Tryz.prog 27 #[.pointer (some ⟨b, 0, none⟩)] w fun e w' => e = .returned (.bool (decide (t.size < s.size))) ∧ At b t w' ∧ w.grownBy w' (some b) := by
  have hts := Nat.le_trans (skip_size ht) h.small
  have hA := Lib.hid h
  have c := trimLeft_any s t w ht
  have hc := h.cell
  clear h ht
  go_enter Tryz.func27, Tryz.ntmps27
  go_wp2_with fail
  (with_reducible refine c.mono ?_)
  rintro e w1 ⟨rfl, b1⟩
  have hA1 := hA.out.below b1
  have hc1 := hA1.cell
  have hf1 := hA1.free
  replace hA1 := Lib.hid hA1
  clear hc hA
  by_cases hlt : t.size < s.size
  · have hi : (t.size : Int) < (s.size : Int) := by omega
    have hr := Lib.hid (decide_eq_true hlt)
    go_wp2
    go_ret
    exact ⟨ret_bool hr.out.symm, hA1.out.put hts, grown_set (grown_of_below b1 _) _⟩
  · have hi : ¬ (t.size : Int) < (s.size : Int) := by omega
    have hr := Lib.hid (decide_eq_false hlt)
    go_wp2
    go_ret
    exact ⟨ret_bool hr.out.symm, hA1.out.put hts, grown_set (grown_of_below b1 _) _⟩

/-! ### name -/
theorem name_parts {s v t : ByteArray} (h : T.nameAt s.data.toList = some (v.data.toList, t.data.toList)) : G.nmA s = v ∧ G.nmB s = t ∧ G.nmE s = 0 ∧ t.size ≤ s.size := by
  unfold T.nameAt at h
  split at h
  · cases h
  · rename_i h0
    obtain ⟨e1, e2, e3⟩ := G.nm_some (s := s) rfl h0
    have hh := Option.some.inj h
    have ha := congrArg Prod.fst hh
    have hb := congrArg Prod.snd hh
    dsimp only at ha hb
    refine ⟨?_, ?_, e3, ?_⟩
    · rw [e1]; exact bytes_eq (by rw [take_list, ha])
    · rw [e2]; exact bytes_eq (by rw [drop_list, hb])
    · rw [← list_len t, ← hb, List.length_drop, list_len]; omega
theorem name_none {s : ByteArray} (h : T.nameAt s.data.toList = none) : G.nmA s = ByteArray.empty ∧ G.nmB s = ByteArray.empty ∧ G.nmE s = 51 := by
  unfold T.nameAt at h
  split at h
  · rename_i h0; exact G.nm_none h0
  · cases h

theorem name_ok (b : Nat) (s v t : ByteArray) (w : World) (h : At b s w) (hn : T.nameAt s.data.toList = some (v.data.toList, t.data.toList)) :
    Calls Tryz.prog 46 #[.pointer (some ⟨b, 0, none⟩)] w fun e w' => e = .returned (.string v) ∧ At b t w' ∧ w.grownBy w' (some b) := by
  obtain ⟨e1, e2, e3, hsz⟩ := name_parts hn
  have hts := Nat.le_trans hsz h.small
  have hA := Lib.hid h
  have c := gName_any s w h.small h.env
  rw [e1, e2, e3] at c
  have hc := h.cell
  clear h hn e1 e2 e3
  go_enter Tryz.func46, Tryz.ntmps46
  go_wp2_with fail
  (with_reducible refine c.mono ?_)
  rintro e w1 ⟨rfl, b1⟩
  have hA1 := hA.out.below b1
  have hc1 := hA1.cell
  have hf1 := hA1.free
  replace hA1 := Lib.hid hA1
  clear hc hA
  go_wp2_with fail
  (with_reducible refine (insist_yes _).mono ?_)
  rintro e w2 ⟨rfl, rfl⟩
  go_wp2
  go_ret
  exact ⟨rfl, hA1.out.put hts, grown_set (grown_of_below b1 _) _⟩
theorem name_no (b : Nat) (s : ByteArray) (w : World) (h : At b s w) (hn : T.nameAt s.data.toList = none) :
    Calls Tryz.prog 46 #[.pointer (some ⟨b, 0, none⟩)] w fun e w' => e = .panicked (tossed 70) ∧ w.grownBy w' (some b) := by
  obtain ⟨e1, e2, e3⟩ := name_none hn
  have c := gName_any s w h.small h.env
  rw [e1, e2, e3] at c
  have hc := h.cell
  clear h hn e1 e2 e3
  go_enter Tryz.func46, Tryz.ntmps46
  go_wp2_with fail
  (with_reducible refine c.mono ?_)
  rintro e w1 ⟨rfl, b1⟩
  go_wp2_with fail
  (with_reducible refine (insist_no _).mono ?_)
  rintro e w2 ⟨rfl, rfl⟩
  exact ⟨rfl, rfl, grown_of_below b1 _⟩

/-! ### upTo -/
theorem index_cut {p : List UInt8} (hp : p ≠ []) : ∀ l : List UInt8, Lib.index l p = match T.cutAt p l with | some x => (x.1.length : Int) | none => -1
  | [] => by
    cases p with
    | nil => exact absurd rfl hp
    | cons a p => rfl
  | b :: t => by
    have ih := index_cut hp t
    unfold Lib.index T.cutAt
    cases hb : T.begins p (b :: t) with
    | true =>
      have : p.isPrefixOf (b :: t) = true := hb
      simp [this]
    | false =>
      have : p.isPrefixOf (b :: t) = false := hb
      rw [ih]
      cases T.cutAt p t with
      | none => simp [this]
      | some x => 
        have h1 : ¬ ((x.1.length : Int) = -1) := by omega
        simp [this, h1]
theorem cut_some {p l a r : List UInt8} (hp : p ≠ []) (h : T.cutAt p l = some (a, r)) : Lib.cut l p = (a, r, true) := by
  have hi := index_cut hp l
  rw [h] at hi
  have he := T.cutAt_eq h
  unfold Lib.cut
  rw [hi, if_pos (by simp)]
  simp only [Int.toNat_natCast]
  rw [he]
  simp
theorem cut_none {p l : List UInt8} (hp : p ≠ []) (h : T.cutAt p l = none) : Lib.cut l p = (l, [], false) := by
  have hi := index_cut hp l
  rw [h] at hi
  unfold Lib.cut
  rw [hi, if_neg (by decide)]
theorem contains_cut {p l : List UInt8} (hp : p ≠ []) : Lib.contains l p = (T.cutAt p l).isSome := by
  have hi := index_cut hp l
  unfold Lib.contains
  rw [hi]
  cases T.cutAt p l with
  | none => rfl
  | some x => simp

theorem upTo_ok (b : Nat) (s v t p : ByteArray) (w : World) (h : At b s w) (hp : p.data.toList ≠ []) (hn : T.cutAt p.data.toList s.data.toList = some (v.data.toList, t.data.toList)) :
    Calls Tryz.prog 32 #[.pointer (some ⟨b, 0, none⟩), .string p] w fun e w' => e = .returned (.string v) ∧ At b t w' ∧ w.grownBy w' (some b) := by
  have hts : t.size ≤ 1000000 := by
    have := congrArg List.length (T.cutAt_eq hn)
    simp only [List.length_append, list_len] at this
    have := h.small
    omega
  have hA := Lib.hid h
  obtain ⟨m, hm⟩ := h.env.most
  have c := Tryz.strings_Cut s p m w (by have := h.small; omega) hm
  rw [cut_some hp hn] at c
  have hc := h.cell
  clear h hn hm hp
  go_enter Tryz.func32, Tryz.ntmps32
  go_wp2_with fail
  (with_reducible refine c.mono ?_)
  rintro e w1 ⟨rfl, n, rfl⟩
  have b1 := below_drewN (Below.refl w.heap.size w) n
  generalize w.drewN n = w1 at *
  have hA1 := hA.out.below b1
  have hc1 := hA1.cell
  have hf1 := hA1.free
  replace hA1 := Lib.hid hA1
  clear hc hA
  go_wp2_with fail
  (with_reducible refine (insist_yes _).mono ?_)
  rintro e w2 ⟨rfl, rfl⟩
  go_wp2
  go_ret
  exact ⟨rfl, hA1.out.put hts, grown_set (grown_of_below b1 _) _⟩
theorem upTo_no (b : Nat) (s p : ByteArray) (w : World) (h : At b s w) (hp : p.data.toList ≠ []) (hn : T.cutAt p.data.toList s.data.toList = none) :
    Calls Tryz.prog 32 #[.pointer (some ⟨b, 0, none⟩), .string p] w fun e w' => e = .panicked (tossed 70) ∧ w.grownBy w' (some b) := by
  obtain ⟨m, hm⟩ := h.env.most
  have c := Tryz.strings_Cut s p m w (by have := h.small; omega) hm
  rw [cut_none hp hn] at c
  have hc := h.cell
  clear h hn hm hp
  go_enter Tryz.func32, Tryz.ntmps32
  go_wp2_with fail
  (with_reducible refine c.mono ?_)
  rintro e w1 ⟨rfl, n, rfl⟩
  have b1 := below_drewN (Below.refl w.heap.size w) n
  generalize w.drewN n = w1 at *
  go_wp2_with fail
  (with_reducible refine (insist_no _).mono ?_)
  rintro e w2 ⟨rfl, rfl⟩
  exact ⟨rfl, rfl, grown_of_below b1 _⟩
end Go.Proofs.YtmeliljioagipaaGreatDoor
namespace Go.Proofs.YtmeliljioagipaaGreatDoor
open Go.RowKit

theorem decodeN_big {n b0 b1 b2 b3 : Nat} (h : 128 ≤ b0) : 128 ≤ (Lib.decodeN n b0 b1 b2 b3).1 := by
  unfold Lib.decodeN
  rw [if_neg (by omega)]
  split
  · split
    · assumption
    · decide
  · split
    · split
      · rename_i h'; dsimp only; omega
      · decide
    · split
      · split
        · rename_i h'; dsimp only; omega
        · decide
      · decide
theorem decode_big (s : ByteArray) (h0 : 0 < s.size) (h : 128 ≤ (s[0]).toNat) : 128 ≤ (Utf8.decode s 0).1 := by
  rw [Lib.decode_at]
  refine decodeN_big ?_
  have : s.get! 0 = s[0] := by simp [ByteArray.get!, getElem!_pos, h0, ByteArray.getElem_eq_getElem_data]
  rw [this]; exact h

set_option maxRecDepth 1000000 in
set_option maxHeartbeats 4000000 in
theorem decode_ascii (t : ByteArray) (c : Nat) (w : World) (h0 : 0 < t.size) (hc : (t[0]).toNat = c) (h : c < 128) :
    Calls Tryz.prog 43 #[.string t] w fun e w' => e = .returned (.tuple #[.int .i32 (c : Int), .int .i64 1]) ∧ w = w' := by
  have hne := ne_empty h0
  have hi : (c : Int) < 128 := by omega
  have h0i : (0 : Int) < (t.size : Int) := by omega
  go_enter Tryz.func43, Tryz.ntmps43
  go_wp2
  go_ret2
  exact ⟨rfl, rfl⟩

set_option maxRecDepth 1000000 in
set_option maxHeartbeats 4000000 in
/-- The other case of an ASCII letter. -/
theorem simpleFold_ascii (c : Nat) (w : World) (h : c < 128) (hE : Env w) :
    Calls Tryz.prog 44 #[.int .i32 (c : Int)] w fun e w' => e = .returned (.int .i32 (other c : Nat)) ∧ w = w' := by
  have hf := hE.at.2.2.2.2 c h
  have ho : other c < 65536 := by unfold other; split; omega; split; decide; split; decide; split <;> omega
  have hi : (c : Int) < 128 := by omega
  generalize other c = d at *
  clear hE
  go_enter Tryz.func44, Tryz.ntmps44
  go_wp2
  go_ret
  exact ⟨rfl, rfl⟩
end Go.Proofs.YtmeliljioagipaaGreatDoor
namespace Go.Proofs.YtmeliljioagipaaGreatDoor
open Go.RowKit

/-- A jump forward, once: what stands behind the label is walked from where the jump was. -/
theorem wp_scope_forward {P : Program} {a : Act} {w : World} {Q : Exit → Act → World → Prop} {c rest : Code} (l : Nat) (hf : findLabel c l = some rest)
    (first : c.wp P (Exit.jump l (fun a w => rest.wp P (Exit.jump l (fun _ _ => False) Q) a w) Q) a w) : (Code.scope c).wp P Q a w := by
  refine wp_scope_jumps l (fun a w => rest.wp P (Exit.jump l (fun _ _ => False) Q) a w) (fun _ _ => 0) hf first (fun a w h => Code.wp_mono ?_ h)
  intro e a' w' he
  cases e with
  | goto l' => exact absurd he.2 (fun h => h)
  | normal => exact he
  | exit id => exact he
  | ret => exact he
  | panic ch => exact he
  | outgrown => exact he

theorem drop_zero_cons (s : ByteArray) (h : 0 < s.size) : s.data.toList = s[0] :: s.data.toList.drop 1 := by
  have := drop_cons s 0 h
  simpa using this

/-- A word of ASCII letters whose other cases are ASCII letters. -/
def Tame (t : ByteArray) : Prop := ∀ (j : Nat) b, t.data.toList[j]? = some b → b.toNat < 128 ∧ other b.toNat < 128 ∧ other (other b.toNat) = b.toNat

set_option maxHeartbeats 8000000 in
set_option maxRecDepth 1000000 in
theorem fold_any (s t : ByteArray) (w : World) (hs : s.size ≤ 1000000) (hT : Tame t) (hE : Env w) :
    Calls Tryz.prog 30 #[.string s, .string t] w fun e w' => e = .returned (.bool (Lib.equalFold s.data.toList t.data.toList)) ∧ Below w.heap.size w w' := by
  replace hT := Lib.hid hT
  replace hE := Lib.hid hE
  obtain ⟨M, hM⟩ : ∃ M : Nat, min (s.size : Int) (t.size : Int) = (M : Int) := ⟨min s.size t.size, by omega⟩
  have hMs : M ≤ s.size := by omega
  have hMt : M ≤ t.size := by omega
  have hMe : M = s.size ∨ M = t.size := by omega
  go_enter Tryz.func30, Tryz.ntmps30
  go_wp2
  refine wp_scope_forward 0 rfl ?_
  go_wp2
  go_loopw [5] (fun v wr => w = wr ∧ ∃ i : Nat, i ≤ M ∧ v = .int .i64 (i : Int) ∧ Hid (Lib.equalFold (s.data.toList.drop i) (t.data.toList.drop i) = Lib.equalFold s.data.toList t.data.toList)) (fun v _ => M - (intOf v).toNat)
  case atStart => exact ⟨rfl, 0, Nat.zero_le _, rfl, Lib.hid rfl⟩
  case round =>
    obtain ⟨rfl, i, hi, rfl, hI⟩ := hrel
    by_cases hlt : i < M
    · have hiM : (i : Int) < (M : Int) := by omega
      have hisz : (i : Int) < (s.size : Int) := by omega
      have hitz : (i : Int) < (t.size : Int) := by omega
      obtain ⟨x, hx⟩ : ∃ x : UInt8, s[i]'(by omega) = x := ⟨_, rfl⟩
      obtain ⟨y, hy⟩ : ∃ y : UInt8, t[i]'(by omega) = y := ⟨_, rfl⟩
      have hxl : s.data.toList.drop i = x :: s.data.toList.drop (i + 1) := by rw [drop_cons s i (by omega), hx]
      have hyl : t.data.toList.drop i = y :: t.data.toList.drop (i + 1) := by rw [drop_cons t i (by omega), hy]
      obtain ⟨y1, y2, y3⟩ := hT.out i y (by rw [← hy]; exact Lib.data_getElem? t i (by omega))
      by_cases hxa : x.toNat < 128
      · have hor : bits .or .u8 (x.toNat : Int) (y.toNat : Int) = ((x.toNat ||| y.toNat : Nat) : Int) := u8_or_nat _ _ x.toNat_lt y.toNat_lt
        have hor128 : ¬ ((128 : Int) ≤ ((x.toNat ||| y.toNat : Nat) : Int)) := by have := Nat.or_lt_two_pow (n := 7) hxa y1; omega
        replace hxl := Lib.hid hxl
        replace hyl := Lib.hid hyl
        have hT2 := hT
        clear y2 y3 hT
        go_wp2
        all_goals (try simp only [beq_iff_eq, beq_eq_false_iff_ne, ne_eq] at *)
        all_goals first
          | (refine ⟨⟨trivial, i + 1, by omega, by first | rfl | go_num, Lib.hid (by rw [← hI.out, hxl.out, hyl.out, Lib.equalFold_yes _ _ _ _ (decide_eq_true (by omega))])⟩, ?_⟩
             simp [intOf]
             omega)
          | (change bodyPost Tryz.prog Tryz.f30 (fun e w' => e = .returned (.bool (Lib.equalFold s.data.toList t.data.toList)) ∧ Below w.heap.size w w') .ret _ _
             go_ret
             refine ⟨?_, Below.refl _ _⟩
             rw [← hI.out, hxl.out, hyl.out, Lib.equalFold_no _ _ _ _ (decide_eq_false (by omega))]
             rfl)
      · have hor : bits .or .u8 (x.toNat : Int) (y.toNat : Int) = ((x.toNat ||| y.toNat : Nat) : Int) := u8_or_nat _ _ x.toNat_lt y.toNat_lt
        have hor128 : (128 : Int) ≤ ((x.toNat ||| y.toNat : Nat) : Int) := by
          have := (Nat.left_le_or : x.toNat ≤ x.toNat ||| y.toNat); omega
        have hno := Lib.hid (show Lib.equalFold s.data.toList t.data.toList = false by rw [← hI.out, hxl, hyl, Lib.equalFold_no _ _ _ _ (decide_eq_false (by omega))])
        have hu0 : 0 < (s.extract i s.size).size := by simp; omega
        have ht0 : 0 < (t.extract i t.size).size := by simp; omega
        have hub : ((s.extract i s.size)[0]'hu0).toNat = x.toNat := by
          have := drop_list s i
          rw [hxl, drop_zero_cons _ hu0] at this
          injection this with h1 _
          rw [h1]
        have htb : ((t.extract i t.size)[0]'ht0).toNat = y.toNat := by
          have := drop_list t i
          rw [hyl, drop_zero_cons _ ht0] at this
          injection this with h1 _
          rw [h1]
        replace hxl := Lib.hid hxl
        replace hyl := Lib.hid hyl
        go_wp2
        refine wp_goto ?_
        refine ⟨rfl, ?_⟩
        go_wp2
        generalize s.extract i s.size = u at *
        generalize t.extract i t.size = v at *
        have hr128 := decode_big u hu0 (by omega)
        have hnx : ∀ ty, (Instr.next (.pointer (some ⟨w.heap.size, 0, none⟩)) true ty).run Tryz.prog (w.iter u 0) = _ := fun ty => Lib.run_next_any_at _ w.heap.size u 0 ty (World.iter_heap w u 0) hu0
        generalize Utf8.decode u 0 = d at *
        obtain ⟨r, n⟩ := d
        have hr : (128 : Int) ≤ (r : Int) := by dsimp only at hr128; omega
        have hvs : (v.size : Int) ≠ 0 := by omega
        have hv1 : (1 : Int) ≤ (v.size : Int) := by omega
        obtain ⟨c, hc⟩ : ∃ c : Nat, y.toNat = c := ⟨_, rfl⟩
        rw [hc] at htb y1 y2 y3
        have n1 : ¬ ((c : Int) = (r : Int)) := by omega
        have n2 : (c : Int) < (r : Int) := by omega
        have n3 : ¬ ((r : Int) < 128) := by omega
        have cd := fun w => decode_ascii v c w ht0 htb y1
        have bI : Below w.heap.size w (w.iter u 0) := (Below.refl _ _).alloc (Nat.le_refl _) _
        have bJ := Lib.below_iterAt bI (k := w.heap.size) (Nat.le_refl _) u (0 + n)
        dsimp only at hnx
        clear hor hor128 hiM hi hxl hyl hI hub hr128 hMs hMt hMe hM
        refine wp_loop_rounds 1 ?_
        rw [rounds_succ]
        go_wp2_with fail
        (with_reducible refine (cd _).mono ?_); rintro e w1 ⟨rfl, rfl⟩
        rw [Nat.zero_add] at bJ
        have hEj := hE.out.on bJ
        have cf := fun w hE => simpleFold_ascii c w y1 hE
        have cg := fun w hE => simpleFold_ascii (other c) w y2 hE
        rw [y3] at cg
        have n4 : ¬ ((other c : Int) = (r : Int)) := by omega
        have n5 : (other c : Int) < (r : Int) := by omega
        have n6 : ((c : Int) != (c : Int)) = false := by simp
        generalize other c = o at *
        clear y1 y2 y3 hE hT hc htb
        go_wp2_with fail
        (with_reducible refine (cf _ hEj).mono ?_); rintro e w1 ⟨rfl, rfl⟩
        by_cases hoc : o = c
        · subst hoc
          go_wp2_with fail
          refine wp_loop_rounds 1 ?_
          rw [rounds_succ]
          go_wp2
          change bodyPost Tryz.prog Tryz.f30 (fun e w' => e = .returned (.bool (Lib.equalFold s.data.toList t.data.toList)) ∧ Below w.heap.size w w') .ret _ _
          go_ret
          exact ⟨ret_bool hno.out.symm, bJ⟩
        · have n7 : ¬ ((o : Int) = (c : Int)) := by omega
          go_wp2_with fail
          refine wp_loop_rounds 2 ?_
          rw [rounds_succ]
          go_wp2_with fail
          (with_reducible refine (cg _ hEj).mono ?_); rintro e w1 ⟨rfl, rfl⟩
          go_wp2_with fail
          rw [rounds_succ]
          go_wp2
          change bodyPost Tryz.prog Tryz.f30 (fun e w' => e = .returned (.bool (Lib.equalFold s.data.toList t.data.toList)) ∧ Below w.heap.size w w') .ret _ _
          go_ret
          exact ⟨ret_bool hno.out.symm, bJ⟩
    · have hiM : ¬ ((i : Int) < (M : Int)) := by omega
      obtain rfl : i = M := by omega
      have hE2 : Lib.equalFold s.data.toList t.data.toList = decide (s.size = t.size) := by
        rw [← hI.out, Lib.equalFold_end _ _ (by
          rcases hMe with h | h
          · exact .inl (List.drop_eq_nil_of_le (by rw [list_len]; omega))
          · exact .inr (List.drop_eq_nil_of_le (by rw [list_len]; omega))), List.length_drop, List.length_drop, list_len, list_len]
        exact decide_eq_decide.2 (by omega)
      by_cases hst : s.size = t.size
      · have hb : ((s.size : Int) == (t.size : Int)) = true := beq_iff_eq.2 (by omega)
        have hr := Lib.hid (hE2.trans (decide_eq_true hst))
        clear hE2 hI
        go_wp2
        change bodyPost Tryz.prog Tryz.f30 (fun e w' => e = .returned (.bool (Lib.equalFold s.data.toList t.data.toList)) ∧ Below w.heap.size w w') .ret _ _
        go_ret
        exact ⟨ret_bool hr.out.symm, Below.refl _ _⟩
      · have hb : ((s.size : Int) == (t.size : Int)) = false := beq_eq_false_iff_ne.2 (by omega)
        have hr := Lib.hid (hE2.trans (decide_eq_false hst))
        clear hE2 hI
        go_wp2
        change bodyPost Tryz.prog Tryz.f30 (fun e w' => e = .returned (.bool (Lib.equalFold s.data.toList t.data.toList)) ∧ Below w.heap.size w w') .ret _ _
        go_ret
        exact ⟨ret_bool hr.out.symm, Below.refl _ _⟩

theorem tame_of {t : ByteArray} (h : t.data.toList.all (fun b => decide (b.toNat < 128 ∧ other b.toNat < 128 ∧ other (other b.toNat) = b.toNat)) = true) : Tame t :=
  fun _ b hb => of_decide_eq_true (List.all_eq_true.1 h b (List.mem_of_getElem? hb))
end Go.Proofs.YtmeliljioagipaaGreatDoor
namespace Go.Proofs.YtmeliljioagipaaGreatDoor
namespace T

/-- What stands behind a name, an = and a quote, up to the next such quote. -/
def given (l : List UInt8) : Option (List UInt8 × List UInt8) := match skip l with | 61 :: t => quoted (skip t) | _ => none

theorem attr_given (l : List UInt8) : attr l = match nameAt l with
    | none => .error 70
    | some (n, rest) => match given rest with
      | none => .error 70
      | some (q, r) => if 60 ∈ q then .error 70 else match E.expand true q with | none => .error 60 | some v => .ok ((n, v), r) := by
  unfold attr
  cases hn : nameAt l with
  | none => rfl
  | some x =>
    obtain ⟨n, rest⟩ := x
    simp only
    by_cases hs : ∃ t, skip rest = 61 :: t
    · obtain ⟨t, ht⟩ := hs
      unfold given
      rw [ht]
      simp only
      cases quoted (skip t) <;> rfl
    · have hg : given rest = none := by
        unfold given
        split
        · rename_i t ht; exact absurd ⟨t, ht⟩ hs
        · rfl
      rw [hg]
      split
      · rename_i t ht; exact absurd ⟨t, ht⟩ hs
      · rfl
theorem word_given (l name : List UInt8) : word l name = if (skip l).length = l.length then none else if begins name (skip l) then given ((skip l).drop name.length) else none := rfl

theorem given_some {l v r : List UInt8} (h : given l = some (v, r)) : ∃ t1 t2 q, skip l = 61 :: t1 ∧ skip t1 = q :: t2 ∧ (q = 34 ∨ q = 39) ∧ cutAt [q] t2 = some (v, r) := by
  unfold given at h
  split at h
  · rename_i t1 h1
    unfold quoted at h
    split at h
    · cases h
    · rename_i q t2 h2
      split at h
      · rename_i hq; exact ⟨t1, t2, q, h1, h2, hq, h⟩
      · cases h
  · cases h
theorem given_none {l : List UInt8} (h : given l = none) : begins [61] (skip l) = false ∨ ∃ t1, skip l = 61 :: t1 ∧ ((begins [34] (skip t1) = false ∧ begins [39] (skip t1) = false) ∨ ∃ t2, (skip t1 = 34 :: t2 ∧ cutAt [34] t2 = none) ∨ (skip t1 = 39 :: t2 ∧ cutAt [39] t2 = none)) := by
  unfold given at h
  split at h
  · rename_i t1 h1
    right
    refine ⟨t1, h1, ?_⟩
    unfold quoted at h
    split at h
    · rename_i h2
      left
      rw [h2]
      exact ⟨rfl, rfl⟩
    · rename_i q t2 h2
      split at h
      · rename_i hq
        right
        rw [h2]
        rcases hq with rfl | rfl
        · exact ⟨t2, .inl ⟨rfl, h⟩⟩
        · exact ⟨t2, .inr ⟨rfl, h⟩⟩
      · rename_i hq
        left
        rw [h2]
        constructor
        · cases hb : begins [34] (q :: t2) with
          | false => rfl
          | true =>
            obtain ⟨x, hx⟩ := begins_iff.1 hb
            cases hx
            exact absurd (.inl rfl) hq
        · cases hb : begins [39] (q :: t2) with
          | false => rfl
          | true =>
            obtain ⟨x, hx⟩ := begins_iff.1 hb
            cases hx
            exact absurd (.inr rfl) hq
  · rename_i h1
    left
    cases hb : begins [61] (skip l) with
    | false => rfl
    | true =>
      obtain ⟨x, hx⟩ := begins_iff.1 hb
      exact absurd hx.symm (h1 x)
theorem begins_one {c : UInt8} {l : List UInt8} (h : begins [c] l = true) : ∃ t, l = c :: t := by
  obtain ⟨t, ht⟩ := begins_iff.1 h
  exact ⟨t, ht.symm⟩
theorem begins_cons (c : UInt8) (t : List UInt8) : begins [c] (c :: t) = true := begins_iff.2 ⟨t, rfl⟩
theorem begins_not {c d : UInt8} (t : List UInt8) (h : d ≠ c) : begins [c] (d :: t) = false := by
  cases hb : begins [c] (d :: t) with
  | false => rfl
  | true =>
    obtain ⟨x, hx⟩ := begins_iff.1 hb
    cases hx
    exact absurd rfl h

/-! ### each answer, by what stands there -/
theorem begins_one_no {c : UInt8} {l : List UInt8} (h : begins [c] l = false) (r : List UInt8) : l ≠ c :: r := by
  rintro rfl
  rw [begins_cons] at h; cases h
theorem comment_none {l : List UInt8} (h : cutAt [45, 45] l = none) : comment l = .error 70 := by unfold comment; rw [h]
theorem comment_bad {l a r : List UInt8} (h : cutAt [45, 45] l = some (a, r)) (hb : begins [62] r = false) : comment l = .error 70 := by
  unfold comment
  rw [h]
  split
  · rename_i h2
    cases h2
    rw [begins_cons] at hb; cases hb
  · rfl
theorem comment_ok {l a r : List UInt8} (h : cutAt [45, 45] l = some (a, 62 :: r)) : comment l = .ok (⟨3, [], [], false, a⟩, r) := by unfold comment; rw [h]; rfl
theorem cdata_none {l : List UInt8} (h : cutAt [93, 93, 62] l = none) : cdata l = .error 70 := by unfold cdata; rw [h]
theorem cdata_ok {l a r : List UInt8} (h : cutAt [93, 93, 62] l = some (a, r)) : cdata l = .ok (⟨2, [], [], true, a⟩, r) := by unfold cdata; rw [h]
theorem shut_none {l : List UInt8} (h : nameAt l = none) : shut l = .error 70 := by unfold shut; rw [h]
theorem shut_bad {l n rest : List UInt8} (h : nameAt l = some (n, rest)) (hb : begins [62] (skip rest) = false) : shut l = .error 70 := by
  unfold shut
  rw [h]
  simp only
  split
  · rename_i h2
    rw [h2, begins_cons] at hb; cases hb
  · rfl
theorem shut_ok {l n rest r : List UInt8} (h : nameAt l = some (n, rest)) (h2 : skip rest = 62 :: r) : shut l = .ok (⟨1, n, [], false, []⟩, r) := by
  unfold shut
  rw [h]
  simp only
  rw [h2]
  rfl
theorem pi_none {l : List UInt8} (h : nameAt l = none) : pi l = .error 70 := by unfold pi; rw [h]
theorem pi_xml {l n rest : List UInt8} (h : nameAt l = some (n, rest)) (hx : n.map lower = [120, 109, 108]) : pi l = .error 70 := by
  unfold pi
  rw [h]
  simp only
  rw [if_pos hx]
theorem pi_open {l n rest : List UInt8} (h : nameAt l = some (n, rest)) (hx : ¬ n.map lower = [120, 109, 108]) (hc : cutAt [63, 62] rest = none) : pi l = .error 70 := by
  unfold pi
  rw [h]
  simp only
  rw [if_neg hx, hc]
theorem pi_tight {l n rest a r : List UInt8} (h : nameAt l = some (n, rest)) (hx : ¬ n.map lower = [120, 109, 108]) (hc : cutAt [63, 62] rest = some (a, r)) (hs : spaced a = false) : pi l = .error 70 := by
  unfold pi
  rw [h]
  simp only
  rw [if_neg hx, hc]
  simp only
  rw [if_neg (by rw [hs]; decide)]
theorem pi_ok {l n rest a r : List UInt8} (h : nameAt l = some (n, rest)) (hx : ¬ n.map lower = [120, 109, 108]) (hc : cutAt [63, 62] rest = some (a, r)) (hs : spaced a = true) : pi l = .ok (⟨4, n, [], false, skip a⟩, r) := by
  unfold pi
  rw [h]
  simp only
  rw [if_neg hx, hc]
  simp only
  rw [if_pos hs]
theorem spaced_of (a : List UInt8) : spaced a = (decide (a = []) || decide ((skip a).length < a.length)) := by
  cases a with
  | nil => rfl
  | cons b t =>
    show G.space (b.toNat : Int) = _
    rw [skip_head]
    have := skip_le t
    cases hb : G.space (b.toNat : Int) with
    | true => simp; omega
    | false => simp
theorem text_bad {l : List UInt8} (h : (cutAt [93, 93, 62] (l.takeWhile (· ≠ 60))).isSome = true) : text l = .error 70 := by unfold text; rw [if_pos h]
theorem text_ref {l : List UInt8} (h : (cutAt [93, 93, 62] (l.takeWhile (· ≠ 60))).isSome = false) (he : E.expand false (l.takeWhile (· ≠ 60)) = none) : text l = .error 60 := by
  unfold text; rw [if_neg (by rw [h]; decide), he]
theorem text_ok {l d : List UInt8} (h : (cutAt [93, 93, 62] (l.takeWhile (· ≠ 60))).isSome = false) (he : E.expand false (l.takeWhile (· ≠ 60)) = some d) : text l = .ok (⟨2, [], [], decide (38 ∈ l.takeWhile (· ≠ 60)), d⟩, l.dropWhile (· ≠ 60)) := by
  unfold text; rw [if_neg (by rw [h]; decide), he]
theorem attr_noname {l : List UInt8} (h : nameAt l = none) : attr l = .error 70 := by rw [attr_given, h]
theorem attr_nogiven {l n rest : List UInt8} (h : nameAt l = some (n, rest)) (hg : given rest = none) : attr l = .error 70 := by
  rw [attr_given, h]
  simp only
  rw [hg]
theorem attr_lt {l n rest q r : List UInt8} (h : nameAt l = some (n, rest)) (hg : given rest = some (q, r)) (hq : 60 ∈ q) : attr l = .error 70 := by
  rw [attr_given, h]
  simp only
  rw [hg]
  simp only
  rw [if_pos hq]
theorem attr_ref {l n rest q r : List UInt8} (h : nameAt l = some (n, rest)) (hg : given rest = some (q, r)) (hq : ¬ 60 ∈ q) (he : E.expand true q = none) : attr l = .error 60 := by
  rw [attr_given, h]
  simp only
  rw [hg]
  simp only
  rw [if_neg hq, he]
theorem attr_ok {l n rest q r v : List UInt8} (h : nameAt l = some (n, rest)) (hg : given rest = some (q, r)) (hq : ¬ 60 ∈ q) (he : E.expand true q = some v) : attr l = .ok ((n, v), r) := by
  rw [attr_given, h]
  simp only
  rw [hg]
  simp only
  rw [if_neg hq, he]

/-! ### letters -/
theorem fold_lower (l : List UInt8) (t u : List UInt8) (h : ∀ c n, n < 256 → c ∈ t → Lib.foldEq (UInt8.ofNat n) c = decide (lower (UInt8.ofNat n) = lower c)) (hu : t.map lower = u) : Lib.equalFold l t = decide (l.map lower = u) := by
  subst hu
  induction l generalizing t with
  | nil => cases t <;> simp [Lib.equalFold]
  | cons b l ih =>
    cases t with
    | nil => simp [Lib.equalFold]
    | cons c t =>
      have h1 := h c b.toNat b.toNat_lt (by simp)
      rw [UInt8.ofNat_toNat] at h1
      have h2 := ih t (fun c n hn hc => h c n hn (List.mem_cons_of_mem _ hc))
      simp only [Lib.equalFold, h1, h2, List.map_cons, List.cons.injEq]
      by_cases h3 : lower b = lower c <;> simp [h3]
theorem fold_xml (l : List UInt8) : Lib.equalFold l [120, 109, 108] = decide (l.map lower = [120, 109, 108]) :=
  fold_lower l _ _ (by
    have : ∀ n, n < 256 → ∀ c ∈ [120, 109, 108], Lib.foldEq (UInt8.ofNat n) c = decide (lower (UInt8.ofNat n) = lower c) := by decide +kernel
    exact fun c n hn hc => this n hn c hc) rfl
theorem fold_utf (l : List UInt8) : Lib.equalFold l [85, 84, 70, 45, 56] = decide (l.map lower = [117, 116, 102, 45, 56]) :=
  fold_lower l _ _ (by
    have : ∀ n, n < 256 → ∀ c ∈ [85, 84, 70, 45, 56], Lib.foldEq (UInt8.ofNat n) c = decide (lower (UInt8.ofNat n) = lower c) := by decide +kernel
    exact fun c n hn hc => this n hn c hc) rfl
end T
end Go.Proofs.YtmeliljioagipaaGreatDoor
namespace Go.Proofs.YtmeliljioagipaaGreatDoor
open Go.RowKit

/-! ### given -/
theorem given_ok (b : Nat) (s v t : ByteArray) (w : World) (h : At b s w) (hg : T.given s.data.toList = some (v.data.toList, t.data.toList)) :
    Calls Tryz.prog 29 #[.pointer (some ⟨b, 0, none⟩)] w fun e w' => e = .returned (.string v) ∧ At b t w' ∧ w.grownBy w' (some b) := by
  obtain ⟨l2, l4, q, h1, h3, hq, hc⟩ := T.given_some hg
  obtain ⟨s1, hs1⟩ := bytes_of (T.skip s.data.toList)
  obtain ⟨s2, rfl⟩ := bytes_of l2
  obtain ⟨s3, hs3⟩ := bytes_of (T.skip s2.data.toList)
  obtain ⟨s4, rfl⟩ := bytes_of l4
  have c1 := fun w h => space_any b s s1 w h hs1
  have c2 := fun w h => takes_yes b s1 s2 ⟨#[61]⟩ w h (by rw [hs1, h1]; rfl)
  have c3 := fun w h => space_any b s2 s3 w h hs3
  rw [← hs3] at h3
  have c4 : q = 34 → ∀ w, At b s3 w → _ := fun e w h => takes_yes b s3 s4 ⟨#[34]⟩ w h (by rw [h3, e]; rfl)
  have c5 : q = 39 → ∀ w, At b s3 w → _ := fun e w h => takes_no b s3 ⟨#[34]⟩ w h (by rw [h3, e]; rfl)
  have c6 : q = 39 → ∀ w, At b s3 w → _ := fun e w h => takes_yes b s3 s4 ⟨#[39]⟩ w h (by rw [h3, e]; rfl)
  have c7 : q = 34 → ∀ w, At b s4 w → _ := fun e w h => upTo_ok b s4 v t ⟨#[34]⟩ w h (by simp) (by rw [e] at hc; exact hc)
  have c8 : q = 39 → ∀ w, At b s4 w → _ := fun e w h => upTo_ok b s4 v t ⟨#[39]⟩ w h (by simp) (by rw [e] at hc; exact hc)
  have hA := Lib.hid h
  clear h hg hs1 hs3 h1 h3 hc
  rcases hq with hq | hq
  · replace c4 := c4 hq
    replace c7 := c7 hq
    clear c5 c6 c8 hq
    go_enter Tryz.func29, Tryz.ntmps29
    go_wp2_with fail
    (with_reducible refine (c1 _ hA.out).mono ?_); rintro e w1 ⟨rfl, h1, g1⟩
    go_wp2_with fail
    (with_reducible refine (c2 _ h1).mono ?_); rintro e w2 ⟨rfl, h2, g2⟩
    go_wp2_with fail
    (with_reducible refine (insist_yes _).mono ?_); rintro e w2' ⟨rfl, rfl⟩
    go_wp2_with fail
    (with_reducible refine (c3 _ h2).mono ?_); rintro e w3 ⟨rfl, h3, g3⟩
    go_wp2_with fail
    (with_reducible refine (c4 _ h3).mono ?_); rintro e w4 ⟨rfl, h4, g4⟩
    go_wp2_with fail
    (with_reducible refine (c7 _ h4).mono ?_); rintro e w5 ⟨rfl, h5, g5⟩
    go_wp2
    go_ret
    exact ⟨rfl, h5, (((g1.trans g2).trans g3).trans g4).trans g5⟩
  · replace c5 := c5 hq
    replace c6 := c6 hq
    replace c8 := c8 hq
    clear c4 c7 hq
    go_enter Tryz.func29, Tryz.ntmps29
    go_wp2_with fail
    (with_reducible refine (c1 _ hA.out).mono ?_); rintro e w1 ⟨rfl, h1, g1⟩
    go_wp2_with fail
    (with_reducible refine (c2 _ h1).mono ?_); rintro e w2 ⟨rfl, h2, g2⟩
    go_wp2_with fail
    (with_reducible refine (insist_yes _).mono ?_); rintro e w2' ⟨rfl, rfl⟩
    go_wp2_with fail
    (with_reducible refine (c3 _ h2).mono ?_); rintro e w3 ⟨rfl, h3, g3⟩
    go_wp2_with fail
    (with_reducible refine (c5 _ h3).mono ?_); rintro e w4 ⟨rfl, h4, g4⟩
    go_wp2_with fail
    (with_reducible refine (c6 _ h4).mono ?_); rintro e w5 ⟨rfl, h5, g5⟩
    go_wp2_with fail
    (with_reducible refine (insist_yes _).mono ?_); rintro e w5' ⟨rfl, rfl⟩
    go_wp2_with fail
    (with_reducible refine (c8 _ h5).mono ?_); rintro e w6 ⟨rfl, h6, g6⟩
    go_wp2
    go_ret
    exact ⟨rfl, h6, ((((g1.trans g2).trans g3).trans g4).trans g5).trans g6⟩

theorem given_no (b : Nat) (s : ByteArray) (w : World) (h : At b s w) (hg : T.given s.data.toList = none) :
    Calls Tryz.prog 29 #[.pointer (some ⟨b, 0, none⟩)] w fun e w' => e = .panicked (tossed 70) ∧ w.grownBy w' (some b) := by
  obtain ⟨s1, hs1⟩ := bytes_of (T.skip s.data.toList)
  have c1 := fun w h => space_any b s s1 w h hs1
  have hA := Lib.hid h
  rcases T.given_none hg with h1 | ⟨l2, h1, h2⟩
  · have c2 := fun w h => takes_no b s1 ⟨#[61]⟩ w h (by rw [hs1]; exact h1)
    clear h hg hs1 h1
    go_enter Tryz.func29, Tryz.ntmps29
    go_wp2_with fail
    (with_reducible refine (c1 _ hA.out).mono ?_); rintro e w1 ⟨rfl, h1, g1⟩
    go_wp2_with fail
    (with_reducible refine (c2 _ h1).mono ?_); rintro e w2 ⟨rfl, h2, g2⟩
    go_wp2_with fail
    (with_reducible refine (insist_no _).mono ?_); rintro e w2' ⟨rfl, rfl⟩
    exact ⟨rfl, rfl, g1.trans g2⟩
  · obtain ⟨s2, rfl⟩ := bytes_of l2
    obtain ⟨s3, hs3⟩ := bytes_of (T.skip s2.data.toList)
    have c2 := fun w h => takes_yes b s1 s2 ⟨#[61]⟩ w h (by rw [hs1, h1]; rfl)
    have c3 := fun w h => space_any b s2 s3 w h hs3
    rw [← hs3] at h2
    rcases h2 with ⟨n1, n2⟩ | ⟨l4, ⟨e3, hc⟩ | ⟨e3, hc⟩⟩
    · have c4 := fun w h => takes_no b s3 ⟨#[34]⟩ w h n1
      have c5 := fun w h => takes_no b s3 ⟨#[39]⟩ w h n2
      clear h hg hs1 h1 hs3 n1 n2
      go_enter Tryz.func29, Tryz.ntmps29
      go_wp2_with fail
      (with_reducible refine (c1 _ hA.out).mono ?_); rintro e w1 ⟨rfl, h1, g1⟩
      go_wp2_with fail
      (with_reducible refine (c2 _ h1).mono ?_); rintro e w2 ⟨rfl, h2, g2⟩
      go_wp2_with fail
      (with_reducible refine (insist_yes _).mono ?_); rintro e w2' ⟨rfl, rfl⟩
      go_wp2_with fail
      (with_reducible refine (c3 _ h2).mono ?_); rintro e w3 ⟨rfl, h3, g3⟩
      go_wp2_with fail
      (with_reducible refine (c4 _ h3).mono ?_); rintro e w4 ⟨rfl, h4, g4⟩
      go_wp2_with fail
      (with_reducible refine (c5 _ h4).mono ?_); rintro e w5 ⟨rfl, h5, g5⟩
      go_wp2_with fail
      (with_reducible refine (insist_no _).mono ?_); rintro e w5' ⟨rfl, rfl⟩
      exact ⟨rfl, rfl, (((g1.trans g2).trans g3).trans g4).trans g5⟩
    · obtain ⟨s4, rfl⟩ := bytes_of l4
      have c4 := fun w h => takes_yes b s3 s4 ⟨#[34]⟩ w h (by rw [e3]; rfl)
      have c5 := fun w h => upTo_no b s4 ⟨#[34]⟩ w h (by simp) hc
      clear h hg hs1 h1 hs3 e3 hc
      go_enter Tryz.func29, Tryz.ntmps29
      go_wp2_with fail
      (with_reducible refine (c1 _ hA.out).mono ?_); rintro e w1 ⟨rfl, h1, g1⟩
      go_wp2_with fail
      (with_reducible refine (c2 _ h1).mono ?_); rintro e w2 ⟨rfl, h2, g2⟩
      go_wp2_with fail
      (with_reducible refine (insist_yes _).mono ?_); rintro e w2' ⟨rfl, rfl⟩
      go_wp2_with fail
      (with_reducible refine (c3 _ h2).mono ?_); rintro e w3 ⟨rfl, h3, g3⟩
      go_wp2_with fail
      (with_reducible refine (c4 _ h3).mono ?_); rintro e w4 ⟨rfl, h4, g4⟩
      go_wp2_with fail
      (with_reducible refine (c5 _ h4).mono ?_); rintro e w5 ⟨rfl, g5⟩
      exact ⟨rfl, rfl, (((g1.trans g2).trans g3).trans g4).trans g5⟩
    · obtain ⟨s4, rfl⟩ := bytes_of l4
      have c4 := fun w h => takes_no b s3 ⟨#[34]⟩ w h (by rw [e3]; rfl)
      have c5 := fun w h => takes_yes b s3 s4 ⟨#[39]⟩ w h (by rw [e3]; rfl)
      have c6 := fun w h => upTo_no b s4 ⟨#[39]⟩ w h (by simp) hc
      clear h hg hs1 h1 hs3 e3 hc
      go_enter Tryz.func29, Tryz.ntmps29
      go_wp2_with fail
      (with_reducible refine (c1 _ hA.out).mono ?_); rintro e w1 ⟨rfl, h1, g1⟩
      go_wp2_with fail
      (with_reducible refine (c2 _ h1).mono ?_); rintro e w2 ⟨rfl, h2, g2⟩
      go_wp2_with fail
      (with_reducible refine (insist_yes _).mono ?_); rintro e w2' ⟨rfl, rfl⟩
      go_wp2_with fail
      (with_reducible refine (c3 _ h2).mono ?_); rintro e w3 ⟨rfl, h3, g3⟩
      go_wp2_with fail
      (with_reducible refine (c4 _ h3).mono ?_); rintro e w4 ⟨rfl, h4, g4⟩
      go_wp2_with fail
      (with_reducible refine (c5 _ h4).mono ?_); rintro e w5 ⟨rfl, h5, g5⟩
      go_wp2_with fail
      (with_reducible refine (insist_yes _).mono ?_); rintro e w5' ⟨rfl, rfl⟩
      go_wp2_with fail
      (with_reducible refine (c6 _ h5).mono ?_); rintro e w6 ⟨rfl, g6⟩
      exact ⟨rfl, rfl, ((((g1.trans g2).trans g3).trans g4).trans g5).trans g6⟩

/-! ### a token's box -/
theorem drewN_zero (w : World) : w.drewN 0 = w := rfl
/-- A box of five cells. -/
def Box5 (w : World) (k : Nat) (x0 x1 x2 x3 x4 : Value) : Prop := w.heap[k]? = some (.cells #[x0, x1, x2, x3, x4] 29 (0, 0))
theorem Box5.lt {w : World} {k : Nat} {x0 x1 x2 x3 x4 : Value} (h : Box5 w k x0 x1 x2 x3 x4) : k < w.heap.size := (Array.getElem?_eq_some_iff.1 h).1
theorem Box5.on {w w' : World} {k : Nat} {x0 x1 x2 x3 x4 : Value} (h : Box5 w k x0 x1 x2 x3 x4) {row : Option Nat} (hg : w.grownBy w' row) (hne : some k ≠ row) : Box5 w' k x0 x1 x2 x3 x4 := (hg.block k h.lt hne).trans h
theorem Box5.c0 {w : World} {k : Nat} {x0 x1 x2 x3 x4 : Value} (h : Box5 w k x0 x1 x2 x3 x4) : w.cell? ⟨k, 0, none⟩ = some x0 := by unfold World.cell?; rw [show w.heap[k]? = _ from h]; rfl
theorem Box5.c1 {w : World} {k : Nat} {x0 x1 x2 x3 x4 : Value} (h : Box5 w k x0 x1 x2 x3 x4) : w.cell? ⟨k, 1, none⟩ = some x1 := by unfold World.cell?; rw [show w.heap[k]? = _ from h]; rfl
theorem Box5.c2 {w : World} {k : Nat} {x0 x1 x2 x3 x4 : Value} (h : Box5 w k x0 x1 x2 x3 x4) : w.cell? ⟨k, 2, none⟩ = some x2 := by unfold World.cell?; rw [show w.heap[k]? = _ from h]; rfl
theorem Box5.c3 {w : World} {k : Nat} {x0 x1 x2 x3 x4 : Value} (h : Box5 w k x0 x1 x2 x3 x4) : w.cell? ⟨k, 3, none⟩ = some x3 := by unfold World.cell?; rw [show w.heap[k]? = _ from h]; rfl
theorem Box5.c4 {w : World} {k : Nat} {x0 x1 x2 x3 x4 : Value} (h : Box5 w k x0 x1 x2 x3 x4) : w.cell? ⟨k, 4, none⟩ = some x4 := by unfold World.cell?; rw [show w.heap[k]? = _ from h]; rfl
theorem Box5.free {w : World} {k : Nat} {x0 x1 x2 x3 x4 : Value} (h : Box5 w k x0 x1 x2 x3 x4) (i : Nat) : w.frozen? ⟨k, i, none⟩ = false := by simp [World.frozen?, show w.heap[k]? = _ from h]
/-- its cells set anew, one behind the other. -/
def set5 (w : World) (k : Nat) (x0 x1 x2 x3 x4 : Value) : World := ((((w.setCell ⟨k, 0, none⟩ x0).setCell ⟨k, 1, none⟩ x1).setCell ⟨k, 2, none⟩ x2).setCell ⟨k, 3, none⟩ x3).setCell ⟨k, 4, none⟩ x4
theorem box_set {w : World} {k : Nat} {xs : Array Value} {t : TypeId} (h : w.heap[k]? = some (.cells xs t (0, 0))) (i : Nat) (v : Value) : (w.setCell ⟨k, i, none⟩ v).heap[k]? = some (.cells (xs.setIfInBounds i v) t (0, 0)) := Go.heap_setCell_same w k i xs t v h
theorem Box5.set {w : World} {k : Nat} {x0 x1 x2 x3 x4 : Value} (h : Box5 w k x0 x1 x2 x3 x4) (y0 y1 y2 y3 y4 : Value) : Box5 (set5 w k y0 y1 y2 y3 y4) k y0 y1 y2 y3 y4 := by
  have := box_set (box_set (box_set (box_set (box_set (show w.heap[k]? = _ from h) 0 y0) 1 y1) 2 y2) 3 y3) 4 y4
  exact this
theorem grown_setAny (w : World) (k i : Nat) (v : Value) : w.grownBy (w.setCell ⟨k, i, none⟩ v) (some k) :=
  ⟨rfl, rfl, rfl, by rw [World.size_setCell]; exact Nat.le_refl _, fun j hj hne => RowKit.Below.heap_setCell _ _ _ _ (by intro e; apply hne; rw [e])⟩
theorem grown_set5 (w : World) (k : Nat) (x0 x1 x2 x3 x4 : Value) : w.grownBy (set5 w k x0 x1 x2 x3 x4) (some k) :=
  ((((grown_setAny w k 0 x0).trans (grown_setAny _ k 1 x1)).trans (grown_setAny _ k 2 x2)).trans (grown_setAny _ k 3 x3)).trans (grown_setAny _ k 4 x4)

/-- The zero token's box, new. -/
theorem Box5.new (w : World) : Box5 (w.alloc (.cells #[.int .i64 0, .string ⟨#[]⟩, .slice none 0 0, .bool false, .string ⟨#[]⟩] 29)) w.heap.size (.int .i64 0) (.string ⟨#[]⟩) (.slice none 0 0) (.bool false) (.string ⟨#[]⟩) := heap_alloc_new w _

theorem tok_end {fn : Func} (hres : fn.results = #[.cell 2 29]) {R : Ending → World → Prop} {tmps : Array Value} {w : World} {k : Nat} {x0 x1 x2 x3 x4 : Value} (h2 : tmps[2]? = some (.pointer (some ⟨k, 0, none⟩)))
    (hb : Box5 w k x0 x1 x2 x3 x4) (hR : R (.returned (.agg #[x0, x1, x2, x3, x4])) w) : bodyPost Tryz.prog fn R .ret { tmps := tmps, defers := [] } w := by
  refine ⟨rfl, _, ?_, hR⟩
  have l2 : 2 < tmps.size := (Array.getElem?_eq_some_iff.1 h2).1
  have g2 : tmps[2] = .pointer (some ⟨k, 0, none⟩) := (Array.getElem?_eq_some_iff.1 h2).2
  have c0 := hb.c0
  have c1 := hb.c1
  have c2 := hb.c2
  have c3 := hb.c3
  have c4 := hb.c4
  simp [results, hres, go_sem, l2, g2, c0, c1, c2, c3, c4]

/-- A token's value. -/
def tokVal (t : T.Tok) (v : Value) : Value := .agg #[.int .i64 (t.kind : Int), .string ⟨t.name.toArray⟩, v, .bool t.alone, .string ⟨t.data.toArray⟩]

/-- WHAT A WORD OF A TOKEN ANSWERS. -/
def Told (b : Nat) (w : World) (k : T.Tok) (t : ByteArray) (e : Ending) (w' : World) : Prop :=
  ∃ v, e = .returned (tokVal k v) ∧ OwnsPairs w.heap.size v (k.attrs.map mpair) w' ∧ At b t w' ∧ w.grownBy w' (some b)
/-- .. and where it is none. -/
def Tossed (b : Nat) (w : World) (n : Int) (e : Ending) (w' : World) : Prop := e = .panicked (tossed n) ∧ w.grownBy w' (some b)

theorem mk_eq (v : ByteArray) : (⟨v.data.toList.toArray⟩ : ByteArray) = v := rfl
end Go.Proofs.YtmeliljioagipaaGreatDoor
namespace Go.Proofs.YtmeliljioagipaaGreatDoor
open Go.RowKit

/-- What a word of a token answers, as the plain words have it. -/
def Ans (b : Nat) (w : World) (g : T.Got) (e : Ending) (w' : World) : Prop :=
  match g with
  | .ok x => ∃ t : ByteArray, t.data.toList = x.2 ∧ Told b w x.1 t e w'
  | .error n => Tossed b w (n : Int) e w'

theorem told_set {b : Nat} {w wn : World} {t : ByteArray} (hA : At b t wn) (g : w.grownBy wn (some b)) (hb : b < w.heap.size) (x0 x1 x2 x3 x4 : Value) :
    At b t (set5 wn w.heap.size x0 x1 x2 x3 x4) ∧ w.grownBy (set5 wn w.heap.size x0 x1 x2 x3 x4) (some b) :=
  ⟨hA.other (grown_set5 _ _ _ _ _ _ _) (by simp; omega) (fun k e => by cases e; omega), g.andThen (grown_set5 _ _ _ _ _ _ _) (fun j e => by cases e; exact .inl (Nat.le_refl _))⟩

/-- A token without attributes is told. -/
theorem ans_plain {b : Nat} {w wn : World} {g : T.Got} {k : T.Tok} {t : ByteArray} (hg : g = .ok (k, t.data.toList)) (hk : k.attrs = []) (hA : At b t wn) (gr : w.grownBy wn (some b)) (hb : b < w.heap.size) {x0 x1 x2 x3 x4 : Value}
    (hv : Value.agg #[x0, x1, x2, x3, x4] = tokVal k (.slice none 0 0)) : Ans b w g (.returned (.agg #[x0, x1, x2, x3, x4])) (set5 wn w.heap.size x0 x1 x2 x3 x4) := by
  subst hg
  obtain ⟨a1, a2⟩ := told_set hA gr hb x0 x1 x2 x3 x4
  exact ⟨t, rfl, .slice none 0 0, by rw [hv], by rw [hk]; exact pairs_nil _ _, a1, a2⟩
theorem ans_no {b : Nat} {w wn : World} {g : T.Got} {n : Nat} (hg : g = .error n) (gr : w.grownBy wn (some b)) : Ans b w g (.panicked (tossed n)) wn := by
  subst hg; exact ⟨rfl, gr⟩

set_option maxRecDepth 100000 in
set_option maxHeartbeats 1600000 in
theorem comment_any (b : Nat) (s : ByteArray) (w : World) (h : At b s w) :
    Calls Tryz.prog 31 #[.pointer (some ⟨b, 0, none⟩)] w (Ans b w (T.comment s.data.toList)) := by
  have g0 := World.grownBy_alloc w (.cells #[.int .i64 0, .string ⟨#[]⟩, .slice none 0 0, .bool false, .string ⟨#[]⟩] 29) (some b)
  have hA := h.below ((Below.refl w.heap.size w).alloc (Nat.le_refl _) (.cells #[.int .i64 0, .string ⟨#[]⟩, .slice none 0 0, .bool false, .string ⟨#[]⟩] 29))
  have bx := Box5.new w
  have hb := h.lt
  have hne : some w.heap.size ≠ some b := by simp; omega
  clear h
  cases hc : T.cutAt [45, 45] s.data.toList with
  | none =>
    have hr := Lib.hid (T.comment_none hc)
    have c1 := fun w h => upTo_no b s ⟨#[45, 45]⟩ w h (by simp) hc
    clear hc
    go_enter Tryz.func31, Tryz.ntmps31
    go_wp2_with fail
    (with_reducible refine (c1 _ hA).mono ?_); rintro e w1 ⟨rfl, g1⟩
    exact ⟨rfl, ans_no hr.out (g0.trans g1)⟩
  | some x =>
    obtain ⟨la, lr⟩ := x
    obtain ⟨v, rfl⟩ := bytes_of la
    obtain ⟨s1, rfl⟩ := bytes_of lr
    have c1 := fun w h => upTo_ok b s v s1 ⟨#[45, 45]⟩ w h (by simp) hc
    cases hb2 : T.begins [62] s1.data.toList with
    | false =>
      have hr := Lib.hid (T.comment_bad hc hb2)
      have c2 := fun w h => takes_no b s1 ⟨#[62]⟩ w h hb2
      clear hc hb2
      go_enter Tryz.func31, Tryz.ntmps31
      go_wp2_with fail
      (with_reducible refine (c1 _ hA).mono ?_); rintro e w1 ⟨rfl, h1, g1⟩
      go_wp2_with fail
      (with_reducible refine (c2 _ h1).mono ?_); rintro e w2 ⟨rfl, h2, g2⟩
      go_wp2_with fail
      (with_reducible refine (insist_no _).mono ?_); rintro e w3 ⟨rfl, rfl⟩
      exact ⟨rfl, ans_no hr.out ((g0.trans g1).trans g2)⟩
    | true =>
      obtain ⟨l2, h2⟩ := T.begins_one hb2
      obtain ⟨t, rfl⟩ := bytes_of l2
      rw [h2] at hc
      have hr := Lib.hid (T.comment_ok hc)
      have c2 := fun w h => takes_yes b s1 t ⟨#[62]⟩ w h (by rw [h2]; rfl)
      clear hc hb2 h2
      go_enter Tryz.func31, Tryz.ntmps31
      go_wp2_with fail
      (with_reducible refine (c1 _ hA).mono ?_); rintro e w1 ⟨rfl, h1, g1⟩
      go_wp2_with fail
      (with_reducible refine (c2 _ h1).mono ?_); rintro e w2 ⟨rfl, h2, g2⟩
      go_wp2_with fail
      (with_reducible refine (insist_yes _).mono ?_); rintro e w3 ⟨rfl, rfl⟩
      have gA := g1.trans g2
      have bA := bx.on gA hne
      have d0 := bA.c0
      have d1 := bA.c1
      have d2 := bA.c2
      have d3 := bA.c3
      have d4 := bA.c4
      have f0 := bA.free 0
      have f1 := bA.free 1
      have f2 := bA.free 2
      have f3 := bA.free 3
      have f4 := bA.free 4
      replace bA := Lib.hid bA
      clear bx
      go_wp2_with fail
      exact tok_end rfl rfl (bA.out.set _ _ _ _ _) (ans_plain hr.out rfl h2 (g0.trans gA) hb rfl)
end Go.Proofs.YtmeliljioagipaaGreatDoor
namespace Go.Proofs.YtmeliljioagipaaGreatDoor
open Go.RowKit

theorem name_small {s v t : ByteArray} (h : T.nameAt s.data.toList = some (v.data.toList, t.data.toList)) (hs : s.size ≤ 1000000) : v.size ≤ 1000000 := by
  unfold T.nameAt at h
  split at h
  · cases h
  · have hh := congrArg Prod.fst (Option.some.inj h)
    dsimp only at hh
    rw [← list_len v, ← hh, List.length_take, list_len]; omega
theorem cut_small {p : List UInt8} {s v t : ByteArray} (h : T.cutAt p s.data.toList = some (v.data.toList, t.data.toList)) (hs : s.size ≤ 1000000) : v.size ≤ 1000000 ∧ t.size ≤ 1000000 := by
  have := congrArg List.length (T.cutAt_eq h)
  simp only [List.length_append, list_len] at this
  omega
theorem empty_is {s : ByteArray} (h : s.size = 0) : s.toList.isEmpty = true := by
  have : s.data.toList = [] := List.eq_nil_of_length_eq_zero (by rw [list_len]; exact h)
  rw [ByteArray.toList_eq, this]; rfl

/-- EqualFold with the declaration's name. -/
theorem isXml_any (v : ByteArray) (w : World) (hv : v.size ≤ 1000000) (hE : Env w) (c : Bool) (hc : decide (v.data.toList.map T.lower = [120, 109, 108]) = c) :
    Calls Tryz.prog 30 #[.string v, .string ⟨#[120, 109, 108]⟩] w fun e w' => e = .returned (.bool c) ∧ Below w.heap.size w w' := by
  have h := fold_any v ⟨#[120, 109, 108]⟩ w hv (tame_of (by decide)) hE
  have e : Lib.equalFold v.data.toList (⟨#[120, 109, 108]⟩ : ByteArray).data.toList = c := (T.fold_xml _).trans hc
  rw [e] at h
  exact h
/-- .. with the encoding. -/
theorem isUtf_any (v : ByteArray) (w : World) (hv : v.size ≤ 1000000) (hE : Env w) (c : Bool) (hc : decide (v.data.toList.map T.lower = [117, 116, 102, 45, 56]) = c) :
    Calls Tryz.prog 30 #[.string v, .string ⟨#[85, 84, 70, 45, 56]⟩] w fun e w' => e = .returned (.bool c) ∧ Below w.heap.size w w' := by
  have h := fold_any v ⟨#[85, 84, 70, 45, 56]⟩ w hv (tame_of (by decide)) hE
  have e : Lib.equalFold v.data.toList (⟨#[85, 84, 70, 45, 56]⟩ : ByteArray).data.toList = c := (T.fold_utf _).trans hc
  rw [e] at h
  exact h

set_option maxRecDepth 100000 in
set_option maxHeartbeats 1600000 in
theorem end_any (b : Nat) (s : ByteArray) (w : World) (h : At b s w) :
    Calls Tryz.prog 34 #[.pointer (some ⟨b, 0, none⟩)] w (Ans b w (T.shut s.data.toList)) := by
  have g0 := World.grownBy_alloc w (.cells #[.int .i64 0, .string ⟨#[]⟩, .slice none 0 0, .bool false, .string ⟨#[]⟩] 29) (some b)
  have hA := h.below ((Below.refl w.heap.size w).alloc (Nat.le_refl _) (.cells #[.int .i64 0, .string ⟨#[]⟩, .slice none 0 0, .bool false, .string ⟨#[]⟩] 29))
  have bx := Box5.new w
  have hb := h.lt
  have hsm := h.small
  have hne : some w.heap.size ≠ some b := by simp; omega
  clear h
  cases hn : T.nameAt s.data.toList with
  | none =>
    have hr := Lib.hid (T.shut_none hn)
    have c1 := fun w h => name_no b s w h hn
    clear hn
    go_enter Tryz.func34, Tryz.ntmps34
    go_wp2_with fail
    (with_reducible refine (c1 _ hA).mono ?_); rintro e w1 ⟨rfl, g1⟩
    exact ⟨rfl, ans_no hr.out (g0.trans g1)⟩
  | some x =>
    obtain ⟨ln, lr⟩ := x
    obtain ⟨n, rfl⟩ := bytes_of ln
    obtain ⟨s1, rfl⟩ := bytes_of lr
    obtain ⟨s2, hs2⟩ := bytes_of (T.skip s1.data.toList)
    have c1 := fun w h => name_ok b s n s1 w h hn
    have c2 := fun w h => space_any b s1 s2 w h hs2
    cases hb2 : T.begins [62] s2.data.toList with
    | false =>
      have hr := Lib.hid (T.shut_bad hn (by rw [← hs2]; exact hb2))
      have c3 := fun w h => takes_no b s2 ⟨#[62]⟩ w h hb2
      clear hn hb2 hs2
      go_enter Tryz.func34, Tryz.ntmps34
      go_wp2_with fail
      (with_reducible refine (c1 _ hA).mono ?_); rintro e w1 ⟨rfl, h1, g1⟩
      go_wp2_with fail
      (with_reducible refine (c2 _ h1).mono ?_); rintro e w2 ⟨rfl, h2, g2⟩
      go_wp2_with fail
      (with_reducible refine (c3 _ h2).mono ?_); rintro e w3 ⟨rfl, h3, g3⟩
      go_wp2_with fail
      (with_reducible refine (insist_no _).mono ?_); rintro e w4 ⟨rfl, rfl⟩
      exact ⟨rfl, ans_no hr.out (((g0.trans g1).trans g2).trans g3)⟩
    | true =>
      obtain ⟨l3, h3⟩ := T.begins_one hb2
      obtain ⟨t, rfl⟩ := bytes_of l3
      have hr := Lib.hid (T.shut_ok hn (by rw [← hs2]; exact h3))
      have c3 := fun w h => takes_yes b s2 t ⟨#[62]⟩ w h (by rw [h3]; rfl)
      clear hn hb2 hs2 h3
      go_enter Tryz.func34, Tryz.ntmps34
      go_wp2_with fail
      (with_reducible refine (c1 _ hA).mono ?_); rintro e w1 ⟨rfl, h1, g1⟩
      go_wp2_with fail
      (with_reducible refine (c2 _ h1).mono ?_); rintro e w2 ⟨rfl, h2, g2⟩
      go_wp2_with fail
      (with_reducible refine (c3 _ h2).mono ?_); rintro e w3 ⟨rfl, h3, g3⟩
      go_wp2_with fail
      (with_reducible refine (insist_yes _).mono ?_); rintro e w4 ⟨rfl, rfl⟩
      have gA := ((g1.trans g2).trans g3)
      have bA := bx.on gA hne
      have d0 := bA.c0
      have d1 := bA.c1
      have d2 := bA.c2
      have d3 := bA.c3
      have d4 := bA.c4
      have f0 := bA.free 0
      have f1 := bA.free 1
      have f2 := bA.free 2
      have f3 := bA.free 3
      have f4 := bA.free 4
      replace bA := Lib.hid bA
      clear bx
      go_wp2_with fail
      exact tok_end rfl rfl (bA.out.set _ _ _ _ _) (ans_plain hr.out rfl h3 (((g0.trans g1).trans g2).trans g3) hb rfl)

set_option maxRecDepth 100000 in
set_option maxHeartbeats 1600000 in
theorem instruction_any (b : Nat) (s : ByteArray) (w : World) (h : At b s w) :
    Calls Tryz.prog 33 #[.pointer (some ⟨b, 0, none⟩)] w (Ans b w (T.pi s.data.toList)) := by
  have g0 := World.grownBy_alloc w (.cells #[.int .i64 0, .string ⟨#[]⟩, .slice none 0 0, .bool false, .string ⟨#[]⟩] 29) (some b)
  have hA := h.below ((Below.refl w.heap.size w).alloc (Nat.le_refl _) (.cells #[.int .i64 0, .string ⟨#[]⟩, .slice none 0 0, .bool false, .string ⟨#[]⟩] 29))
  have bx := Box5.new w
  have hb := h.lt
  have hsm := h.small
  have hne : some w.heap.size ≠ some b := by simp; omega
  clear h
  cases hn : T.nameAt s.data.toList with
  | none =>
    have hr := Lib.hid (T.pi_none hn)
    have c1 := fun w h => name_no b s w h hn
    clear hn
    go_enter Tryz.func33, Tryz.ntmps33
    go_wp2_with fail
    (with_reducible refine (c1 _ hA).mono ?_); rintro e w1 ⟨rfl, g1⟩
    exact ⟨rfl, ans_no hr.out (g0.trans g1)⟩
  | some x =>
    obtain ⟨ln, lr⟩ := x
    obtain ⟨n, rfl⟩ := bytes_of ln
    obtain ⟨s1, rfl⟩ := bytes_of lr
    have hns := name_small hn hsm
    have c1 := fun w h => name_ok b s n s1 w h hn
    by_cases hx : n.data.toList.map T.lower = [120, 109, 108]
    · have hr := Lib.hid (T.pi_xml hn hx)
      have c2 := fun w hE => isXml_any n w hns hE true (decide_eq_true hx)
      clear hn hx
      go_enter Tryz.func33, Tryz.ntmps33
      go_wp2_with fail
      (with_reducible refine (c1 _ hA).mono ?_); rintro e w1 ⟨rfl, h1, g1⟩
      go_wp2_with fail
      (with_reducible refine (c2 _ h1.env).mono ?_); rintro e w2 ⟨rfl, b2⟩
      have h2 := h1.below b2
      have g2 := grown_of_below b2 (some b)
      go_wp2_with fail
      (with_reducible refine (insist_no _).mono ?_); rintro e w3 ⟨rfl, rfl⟩
      exact ⟨rfl, ans_no hr.out ((g0.trans g1).trans g2)⟩
    have c2 := fun w hE => isXml_any n w hns hE false (decide_eq_false hx)
    cases hc : T.cutAt [63, 62] s1.data.toList with
    | none =>
      have hr := Lib.hid (T.pi_open hn hx hc)
      have c3 := fun w h => upTo_no b s1 ⟨#[63, 62]⟩ w h (by simp) hc
      clear hn hx hc
      go_enter Tryz.func33, Tryz.ntmps33
      go_wp2_with fail
      (with_reducible refine (c1 _ hA).mono ?_); rintro e w1 ⟨rfl, h1, g1⟩
      go_wp2_with fail
      (with_reducible refine (c2 _ h1.env).mono ?_); rintro e w2 ⟨rfl, b2⟩
      have h2 := h1.below b2
      have g2 := grown_of_below b2 (some b)
      go_wp2_with fail
      (with_reducible refine (insist_yes _).mono ?_); rintro e w3 ⟨rfl, rfl⟩
      go_wp2_with fail
      (with_reducible refine (c3 _ h2).mono ?_); rintro e w4 ⟨rfl, g4⟩
      exact ⟨rfl, ans_no hr.out (((g0.trans g1).trans g2).trans g4)⟩
    | some x =>
      obtain ⟨la, lr⟩ := x
      obtain ⟨a, rfl⟩ := bytes_of la
      obtain ⟨t, rfl⟩ := bytes_of lr
      obtain ⟨d, hd⟩ := bytes_of (T.skip a.data.toList)
      have c3 := fun w h => upTo_ok b s1 a t ⟨#[63, 62]⟩ w h (by simp) hc
      have c4 := fun w => trimLeft_any a d w hd
      by_cases ha : a.size = 0
      · have he := empty_is ha
        have hnil : a.data.toList = [] := List.eq_nil_of_length_eq_zero (by rw [list_len]; exact ha)
        have hr := T.pi_ok hn hx hc (by rw [T.spaced_of, hnil]; rfl)
        rw [← hd] at hr
        replace hr := Lib.hid hr
        clear hn hx hc hd hnil
        go_enter Tryz.func33, Tryz.ntmps33
        go_wp2_with fail
        (with_reducible refine (c1 _ hA).mono ?_); rintro e w1 ⟨rfl, h1, g1⟩
        go_wp2_with fail
        (with_reducible refine (c2 _ h1.env).mono ?_); rintro e w2 ⟨rfl, b2⟩
        have h2 := h1.below b2
        have g2 := grown_of_below b2 (some b)
        go_wp2_with fail
        (with_reducible refine (insist_yes _).mono ?_); rintro e w3 ⟨rfl, rfl⟩
        go_wp2_with fail
        (with_reducible refine (c3 _ h2).mono ?_); rintro e w4 ⟨rfl, h4, g4⟩
        go_wp2_with fail
        (with_reducible refine (c4 _).mono ?_); rintro e w5 ⟨rfl, b5⟩
        have h5 := h4.below b5
        have g5 := grown_of_below b5 (some b)
        go_wp2_with fail
        (with_reducible refine (insist_yes _).mono ?_); rintro e w6 ⟨rfl, rfl⟩
        have gA := (((g1.trans g2).trans g4).trans g5)
        have bA := bx.on gA hne
        have d0 := bA.c0
        have d1 := bA.c1
        have d2 := bA.c2
        have d3 := bA.c3
        have d4 := bA.c4
        have f0 := bA.free 0
        have f1 := bA.free 1
        have f2 := bA.free 2
        have f3 := bA.free 3
        have f4 := bA.free 4
        replace bA := Lib.hid bA
        clear bx
        go_wp2_with fail
        exact tok_end rfl rfl (bA.out.set _ _ _ _ _) (ans_plain hr.out rfl h5 ((((g0.trans g1).trans g2).trans g4).trans g5) hb rfl)
      have he := ne_empty (s := a) (by omega)
      by_cases hlt : d.size < a.size
      · have hi : (d.size : Int) < (a.size : Int) := by omega
        have hr := T.pi_ok hn hx hc (by rw [T.spaced_of, ← hd, list_len, list_len, decide_eq_true hlt]; simp)
        rw [← hd] at hr
        replace hr := Lib.hid hr
        clear hn hx hc hd
        go_enter Tryz.func33, Tryz.ntmps33
        go_wp2_with fail
        (with_reducible refine (c1 _ hA).mono ?_); rintro e w1 ⟨rfl, h1, g1⟩
        go_wp2_with fail
        (with_reducible refine (c2 _ h1.env).mono ?_); rintro e w2 ⟨rfl, b2⟩
        have h2 := h1.below b2
        have g2 := grown_of_below b2 (some b)
        go_wp2_with fail
        (with_reducible refine (insist_yes _).mono ?_); rintro e w3 ⟨rfl, rfl⟩
        go_wp2_with fail
        (with_reducible refine (c3 _ h2).mono ?_); rintro e w4 ⟨rfl, h4, g4⟩
        go_wp2_with fail
        (with_reducible refine (c4 _).mono ?_); rintro e w5 ⟨rfl, b5⟩
        have h5 := h4.below b5
        have g5 := grown_of_below b5 (some b)
        go_wp2_with fail
        (with_reducible refine (insist_yes _).mono ?_); rintro e w6 ⟨rfl, rfl⟩
        have gA := (((g1.trans g2).trans g4).trans g5)
        have bA := bx.on gA hne
        have d0 := bA.c0
        have d1 := bA.c1
        have d2 := bA.c2
        have d3 := bA.c3
        have d4 := bA.c4
        have f0 := bA.free 0
        have f1 := bA.free 1
        have f2 := bA.free 2
        have f3 := bA.free 3
        have f4 := bA.free 4
        replace bA := Lib.hid bA
        clear bx
        go_wp2_with fail
        exact tok_end rfl rfl (bA.out.set _ _ _ _ _) (ans_plain hr.out rfl h5 ((((g0.trans g1).trans g2).trans g4).trans g5) hb rfl)
      · have hi : ¬ (d.size : Int) < (a.size : Int) := by omega
        have hr := Lib.hid (T.pi_tight hn hx hc (by
          have hnn : ¬ a.data.toList = [] := by intro e; rw [← list_len a, e] at ha; exact ha rfl
          rw [T.spaced_of, ← hd, list_len, list_len, decide_eq_false hlt, decide_eq_false hnn]; rfl))
        clear hn hx hc hd
        go_enter Tryz.func33, Tryz.ntmps33
        go_wp2_with fail
        (with_reducible refine (c1 _ hA).mono ?_); rintro e w1 ⟨rfl, h1, g1⟩
        go_wp2_with fail
        (with_reducible refine (c2 _ h1.env).mono ?_); rintro e w2 ⟨rfl, b2⟩
        have h2 := h1.below b2
        have g2 := grown_of_below b2 (some b)
        go_wp2_with fail
        (with_reducible refine (insist_yes _).mono ?_); rintro e w3 ⟨rfl, rfl⟩
        go_wp2_with fail
        (with_reducible refine (c3 _ h2).mono ?_); rintro e w4 ⟨rfl, h4, g4⟩
        go_wp2_with fail
        (with_reducible refine (c4 _).mono ?_); rintro e w5 ⟨rfl, b5⟩
        have h5 := h4.below b5
        have g5 := grown_of_below b5 (some b)
        go_wp2_with fail
        (with_reducible refine (insist_no _).mono ?_); rintro e w6 ⟨rfl, rfl⟩
        exact ⟨rfl, ans_no hr.out ((((g0.trans g1).trans g2).trans g4).trans g5)⟩
end Go.Proofs.YtmeliljioagipaaGreatDoor
