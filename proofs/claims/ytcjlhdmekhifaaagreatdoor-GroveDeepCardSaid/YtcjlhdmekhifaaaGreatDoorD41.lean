/-
  What the program's Tokens comes to.
  What the program's own Parse comes to: instruction, take, Parse.
  An element's tokens, in plain Lean: what the document's own body and Parse tell, by the stack of open elements.
  What the program's own Parse comes to.
  Documents as trees, in plain Lean: two elements put into another one, in texts.
  Documents as trees, in plain Lean: two elements put into another one are its kids.
-/
import Derived.Test.YtcjlhdmekhifaaaGreatDoorD40
import Derived.Test.YtcjlhdmekhifaaaGreatDoorD37
import Derived.Test.YtcjlhdmekhifaaaGreatDoorD03
import Derived.Test.YtcjlhdmekhifaaaGreatDoorD20
namespace Go.Proofs.YtcjlhdmekhifaaaGreatDoor
open Go.RowKit

theorem tokens_run {l : List UInt8} (h1 : ¬ 100000 < l.length) (h2 : G.check l = true) : T.tokens l = T.run true (G.lines l) := by
  unfold T.tokens
  rw [if_neg h1, if_neg (by rw [h2]; decide)]
  rfl
theorem told_run {s : ByteArray} {g : Except Nat (List T.Tok)} (h : T.tokens s.data.toList = g) {w w1 w' : World} {e : Ending} (hb : Below w.heap.size w w1) (hr : RunTold g w1 e w') : TokTold s w e w' := by
  obtain ⟨ao, cap, L, rfl, hL, hin, hcap, hb2⟩ := hr
  have hb3 := hb.trans (hb2.mono hb.size)
  cases g with
  | ok a =>
    obtain ⟨e1, e2⟩ := T.told_ok h
    exact ⟨ao, cap, L, by rw [e2]; rfl, by rw [hL, e1]; rfl, hin, hcap, hb3⟩
  | error q =>
    obtain ⟨e1, e2⟩ := T.told_err h
    exact ⟨ao, cap, L, by rw [e2]; rfl, by rw [hL, e1]; rfl, hin, hcap, hb3⟩
theorem told_bad {s : ByteArray} {q : Nat} (h : T.tokens s.data.toList = .error q) {w w' : World} (hb : Below w.heap.size w w') : TokTold s w (.returned (.tuple #[.slice none 0 0, .int .i64 (q : Int)])) w' := by
  obtain ⟨e1, e2⟩ := T.told_err h
  exact ⟨none, 0, [], by rw [e2]; rfl, by rw [e1]; rfl, fun j hj => by simp at hj, fun _ => rfl, hb⟩

set_option maxRecDepth 100000 in
set_option maxHeartbeats 1600000 in
theorem tTokens_any (s : ByteArray) (w : World) (hs : s.size ≤ 1000000) (hE : Env w) : Calls Tryz.prog 9 #[.string s] w (TokTold s w) := by
  by_cases hl : 100000 < s.size
  · have hr := Lib.hid (show T.tokens s.data.toList = .error 2 by unfold T.tokens; rw [if_pos (by rw [list_len]; exact hl)])
    have hi : (100000 : Int) < (s.size : Int) := by omega
    clear hE
    go_enter Tryz.func9, Tryz.ntmps9
    go_wp2
    go_ret2
    exact told_bad hr.out (Below.refl _ _)
  · have hi : ¬ (100000 : Int) < (s.size : Int) := by omega
    have c1 := fun w hE => gCheck_any s w hs hE
    cases hc : G.check s.data.toList with
    | false =>
      have hr := Lib.hid (show T.tokens s.data.toList = .error 50 by unfold T.tokens; rw [if_neg (by rw [list_len]; exact hl), if_pos hc])
      have hn : G.checkN s.data.toList = 50 := by unfold G.checkN; rw [if_neg (by rw [hc]; decide)]
      rw [hn] at c1
      clear hn hc
      go_enter Tryz.func9, Tryz.ntmps9
      go_wp2_with fail
      (with_reducible refine (c1 _ hE).mono ?_); rintro e w1 ⟨rfl, b1⟩
      go_wp2
      go_ret2
      exact told_bad hr.out b1
    | true =>
      have hr := Lib.hid (tokens_run (by rw [list_len]; exact hl) hc)
      have hn : G.checkN s.data.toList = 0 := by unfold G.checkN; rw [if_pos hc]
      rw [hn] at c1
      have hls := G.lines_length s.data.toList
      rw [list_len] at hls
      have c2 := fun w hE => gLines_any s w hs hE
      obtain ⟨t, ht⟩ := bytes_of (G.lines s.data.toList)
      have htz : t.size ≤ 1000000 := by rw [← list_len t, ht]; omega
      have hte : (⟨(G.lines s.data.toList).toArray⟩ : ByteArray) = t := by rw [← ht]
      rw [hte] at c2
      rw [← ht] at hr
      have c3 := fun w hE => tokens_go t w htz hE
      clear hn hc ht hte hls
      go_enter Tryz.func9, Tryz.ntmps9
      go_wp2_with fail
      (with_reducible refine (c1 _ hE).mono ?_); rintro e w1 ⟨rfl, b1⟩
      go_wp2_with fail
      (with_reducible refine (c2 _ (hE.on b1)).mono ?_); rintro e w2 ⟨rfl, b2⟩
      have b3 := b1.trans (b2.mono b1.size)
      go_wp2_with fail
      (with_reducible refine (c3 _ (hE.on b3)).mono ?_); rintro e w3 ⟨ao, cap, L, rfl, hL, hin, hcap, b4⟩
      go_wp2
      go_ret2
      exact told_run hr.out b3 ⟨ao, cap, L, rfl, hL, hin, hcap, b4⟩
end Go.Proofs.YtcjlhdmekhifaaaGreatDoor
namespace Go.Proofs.YtcjlhdmekhifaaaGreatDoor
open Go.RowKit

namespace T
theorem next_four {l r : List UInt8} {t : Tok} (h : next false l = .ok (t, r)) : t.kind ≤ 4 := by
  unfold next at h
  rw [if_neg (by simp)] at h
  repeat' split at h
  all_goals first
    | (cases h; done)
    | exact (by rw [(comment_append h []).2.2]; omega)
    | exact (by rw [(cdata_append h []).2.2]; omega)
    | exact (by rw [(pi_append h []).2.2]; omega)
    | exact (by rw [(shut_append h []).2.2]; omega)
    | exact (by rw [(opened_append h []).2.2]; omega)
    | exact (by rw [(text_append h [] (.inr (.inl rfl))).2.1]; omega)
theorem next_five {first : Bool} {l r : List UInt8} {t : Tok} (h : next first l = .ok (t, r)) : t.kind ≤ 5 := by
  cases first with
  | false => have := next_four h; omega
  | true =>
    cases hd : declares l with
    | true => rw [declares_kind hd h]; omega
    | false =>
      rw [first_same hd] at h
      have := next_four h
      omega
theorem go_four : ∀ (n : Nat) (l : List UInt8) (ts : List Tok), go n false l = .ok ts → ∀ t ∈ ts, t.kind ≤ 4
  | _, [], ts, h => by unfold go at h; cases h; simp
  | 0, b :: l, ts, h => by unfold go at h; cases h
  | n + 1, b :: l, ts, h => by
    unfold go at h
    cases hx : next false (b :: l) with
    | error e => rw [hx] at h; cases h
    | ok x =>
      obtain ⟨t, r⟩ := x
      rw [hx] at h
      simp only at h
      cases hy : go n false r with
      | error e => rw [hy] at h; cases h
      | ok ys =>
        rw [hy] at h
        cases h
        intro z hz
        rcases List.mem_cons.1 hz with rfl | hz
        · exact next_four hx
        · exact go_four n r ys hy z hz
/-- A DECLARATION stands first, or nowhere. -/
theorem tokens_kinds {l : List UInt8} {ts : List Tok} (h : tokens l = .ok ts) : ∀ j (hj : j < ts.length), ts[j].kind ≤ 5 ∧ (0 < j → ts[j].kind ≤ 4) := by
  unfold tokens at h
  split at h
  · cases h
  · split at h
    · cases h
    · generalize (G.lines l).length = n at h
      generalize G.lines l = l2 at h
      cases l2 with
      | nil => unfold go at h; cases h; intro j hj; simp at hj
      | cons b l2 =>
        cases n with
        | zero => unfold go at h; cases h
        | succ n =>
          unfold go at h
          cases hx : next true (b :: l2) with
          | error e => rw [hx] at h; cases h
          | ok x =>
            obtain ⟨t, r⟩ := x
            rw [hx] at h
            simp only at h
            cases hy : go n false r with
            | error e => rw [hy] at h; cases h
            | ok ys =>
              rw [hy] at h
              cases h
              intro j hj
              cases j with
              | zero => exact ⟨next_five hx, fun e => by omega⟩
              | succ j =>
                have hj2 : j < ys.length := by simpa using hj
                have := go_four n r ys hy ys[j] (List.getElem_mem hj2)
                exact ⟨by simp only [List.getElem_cons_succ]; omega, fun _ => by simpa using this⟩
end T

/-- a node put into the stack, or nowhere: what add does. -/
theorem add_any {pb m : Nat} {st : Gv.St} {n : Gv.Node} {k : Int} {nm d : ByteArray} (w : World) (h : PSs pb st w) (hF : Gv.Fine m st) (hm : m ≤ 200000) (hn : ∀ S : Nat → Prop, NodeAt S w [.int .i64 k, .string ⟨#[]⟩, .string nm, .slice none 0 0, .slice none 0 0, .string d] n) :
    Calls Tryz.prog 21 #[.pointer (some ⟨pb, 0, none⟩), .agg #[.int .i64 k, .string ⟨#[]⟩, .string nm, .slice none 0 0, .slice none 0 0, .string d]] w fun x w' => x = .returned (.tuple #[]) ∧ Below pb w w' ∧
      PSs pb (match st.stack with | [] => st | o :: os => ⟨{ o with kids := o.kids ++ [n] } :: os, st.root⟩) w' := by
  obtain ⟨s, r⟩ := st
  have hpl : pb ≤ w.heap.size := by
    obtain ⟨_, _, _, _, _, _, _, _, hh, _⟩ := h
    exact Nat.le_of_lt hh.box.lt
  cases s with
  | nil =>
    obtain ⟨so, scap, p0⟩ := h.empty
    refine (add_nil w p0).mono ?_
    rintro x w' ⟨rfl, b⟩
    exact ⟨rfl, b.mono hpl, h.on b⟩
  | cons o os =>
    obtain ⟨e, es, g, cap, k0, sp0, nm0, d0, va, vk, rfl, rfl, hln, h2⟩ := h.full
    have hos : es.length ≤ 100 := by have := hF.deep; simp at this; omega
    have hk : e.o.kids.length ≤ 1000000 := by have := (hF.kids e.o (by simp)).1; omega
    refine (add_cons w h2 hos hk (hn _)).mono ?_
    rintro x w' ⟨rfl, b, vk2, h3⟩
    exact ⟨rfl, b, _, _, _, _, _, _, _, _, h3, rfl⟩

set_option maxRecDepth 100000 in
set_option maxHeartbeats 3200000 in
theorem parserInstruction_any {pb m : Nat} {st : Gv.St} (t : T.Tok) (tao : Option Addr) (tl tc : Nat) (w : World) (h : PSs pb st w) (hF : Gv.Fine m st) (hm : m ≤ 200000) (ht : t.kind = 4) (hnl : t.name.length ≤ 1000000) (hE : Env w) :
    Calls Tryz.prog 22 #[.pointer (some ⟨pb, 0, none⟩), .agg #[.int .i64 (t.kind : Int), .string ⟨t.name.toArray⟩, .slice tao tl tc, .bool t.alone, .string ⟨t.data.toArray⟩]] w (StepTold pb st t w) := by
  have hns : (⟨t.name.toArray⟩ : ByteArray).size ≤ 1000000 := by simpa [ByteArray.size] using hnl
  have hnt : (⟨t.name.toArray⟩ : ByteArray).data.toList = t.name := by simp
  have bA := (Below.refl w.heap.size w).alloc (Nat.le_refl _) (.cells #[.int .i64 (t.kind : Int), .string ⟨t.name.toArray⟩, .slice tao tl tc, .bool t.alone, .string ⟨t.data.toArray⟩] 41)
  have kT := Cells.new w 41 #[.int .i64 (t.kind : Int), .string ⟨t.name.toArray⟩, .slice tao tl tc, .bool t.alone, .string ⟨t.data.toArray⟩]
  have hpl : pb ≤ w.heap.size := by
    obtain ⟨_, _, _, _, _, _, _, _, hh, _⟩ := h
    exact Nat.le_of_lt hh.box.lt
  have h1 := Lib.hid (h.on bA)
  have hE1 := hE.on bA
  have b1 := Lib.hid (bA.mono hpl)
  have hr1 := fun hx => Lib.hid (Gv.pi_bad (s := st.stack) (r := st.root) ht hx)
  have hr2 : G.plain t.name = true → Hid (Gv.step st t = .ok (match st.stack with | [] => st | o :: os => ⟨{ o with kids := o.kids ++ [.mk 3 ByteArray.empty ⟨t.name.toArray⟩ [] [] ⟨t.data.toArray⟩] } :: os, st.root⟩)) := fun hp => Lib.hid (by
    obtain ⟨s, r⟩ := st
    cases s with
    | nil => exact Gv.aside_out (by omega) (by omega) (by omega) (fun _ => hp)
    | cons o os =>
      rw [Gv.in_go (by omega) (by omega) (fun _ => hp), Gv.leaf_four ht, Gv.grown_add (n := .mk 3 ByteArray.empty ⟨t.name.toArray⟩ [] [] ⟨t.data.toArray⟩) (fun e => by cases e.1) (.inl (show (3 : Int) ≠ 1 by decide))])
  replace hF := Lib.hid hF
  replace ht := Lib.hid ht
  have c1 := fun w (hE : Env w) => gPlain_any ⟨t.name.toArray⟩ w hns hE
  rw [hnt] at c1
  clear h hE bA hnt
  go_enter Tryz.func22, Tryz.ntmps22
  have x1 := kT.cell (i := 1) (v := .string ⟨t.name.toArray⟩) rfl
  go_wp2_with fail
  (with_reducible refine (c1 _ hE1).mono ?_); rintro x w3 ⟨rfl, b3⟩
  have h3 := Lib.hid (h1.out.on b3)
  have b4 := Lib.hid (b1.out.trans (b3.mono (by
    obtain ⟨_, _, _, _, _, _, _, _, hh, _⟩ := h1.out
    exact Nat.le_of_lt hh.box.lt)))
  have kT3 := kT.on b3
  clear h1 b1 hE1 b3 kT x1 c1
  have x1 := kT3.cell (i := 1) (v := .string ⟨t.name.toArray⟩) rfl
  have x4 := kT3.cell (i := 4) (v := .string ⟨t.data.toArray⟩) rfl
  cases hp : G.plain t.name with
  | false =>
    have hr := hr1 hp
    clear hr1 hr2 hp
    go_wp2_with fail
    go_ret
    exact stepTold_err hr.out rfl b4.out
  | true =>
    have hr := hr2 hp
    clear hr1 hr2 hp
    have hadd := Lib.hid (add_any (n := .mk 3 ByteArray.empty ⟨t.name.toArray⟩ [] [] ⟨t.data.toArray⟩) (k := 3) (nm := ⟨t.name.toArray⟩) (d := ⟨t.data.toArray⟩) w3 h3.out hF.out hm (fun S => node_plain S w3 3 ⟨#[]⟩ ⟨t.name.toArray⟩ ⟨t.data.toArray⟩))
    generalize (⟨t.name.toArray⟩ : ByteArray) = nb at *
    generalize (⟨t.data.toArray⟩ : ByteArray) = db at *
    clear kT3
    go_wp2_with fail
    (with_reducible refine hadd.out.mono ?_); rintro x w7 ⟨rfl, b7, h7⟩
    replace h7 := Lib.hid h7
    go_wp2_with fail
    go_ret
    exact stepTold_ok hr.out (b4.out.trans b7) h7.out

theorem StepTold.ret {pb : Nat} {st : Gv.St} {t : T.Tok} {w w' : World} {x : Ending} (h : StepTold pb st t w x w') : ∃ y : Int, x = .returned (.int .i64 y) := by
  obtain ⟨_, h⟩ := h
  cases hs : Gv.step st t with
  | error e => rw [hs] at h; exact ⟨_, h⟩
  | ok st' => rw [hs] at h; exact ⟨_, h.1⟩

set_option maxRecDepth 100000 in
set_option maxHeartbeats 3200000 in
theorem take_any {pb m : Nat} {st : Gv.St} (t : T.Tok) (tv : Value) (w : World) (h : PSs pb st w) (hF : Gv.Fine m st) (hm : m ≤ 200000) (hk : t.kind ≤ 5) (hk5 : t.kind = 5 → st.stack = []) (hat : AttrsAt w tv t.attrs) (hft : T.Fit 100000 t) (hE : Env w) :
    Calls Tryz.prog 10 #[.pointer (some ⟨pb, 0, none⟩), .agg (tokCells t tv).toArray] w (StepTold pb st t w) := by
  have hat' := hat
  obtain ⟨tao, tc, rfl, htp⟩ := hat'
  have hd4 : t.data.length ≤ 400000 := by have := hft.2.1; omega
  have hn4 : t.name.length ≤ 1000000 := by have := hft.1; omega
  have bA := (Below.refl w.heap.size w).alloc (Nat.le_refl _) (.cells #[.int .i64 (t.kind : Int), .string ⟨t.name.toArray⟩, .slice tao t.attrs.length tc, .bool t.alone, .string ⟨t.data.toArray⟩] 41)
  have kT := Cells.new w 41 #[.int .i64 (t.kind : Int), .string ⟨t.name.toArray⟩, .slice tao t.attrs.length tc, .bool t.alone, .string ⟨t.data.toArray⟩]
  have hpl : pb ≤ w.heap.size := by
    obtain ⟨_, _, _, _, _, _, _, _, hh, _⟩ := h
    exact Nat.le_of_lt hh.box.lt
  have h1 := h.on bA
  have hE1 := hE.on bA
  have hat1 := hat.below bA
  have b1 := Lib.hid (bA.mono hpl)
  unfold tokCells
  have lift : ∀ {x : Ending} {w' : World}, StepTold pb st t (w.alloc (.cells #[.int .i64 (t.kind : Int), .string ⟨t.name.toArray⟩, .slice tao t.attrs.length tc, .bool t.alone, .string ⟨t.data.toArray⟩] 41)) x w' → StepTold pb st t w x w' := fun h => ⟨b1.out.trans h.1, h.2⟩
  have c0 := fun ht => Lib.hid (startTag_any t (.slice tao t.attrs.length tc) _ h1 hF hm ht hat1 hft hE1)
  simp only [tokCells] at c0
  have c1 := fun ht => Lib.hid (endTag_any t _ h1 hF hm ht)
  have c2 := fun ht => Lib.hid (parserCharacters_any t tao t.attrs.length tc _ h1 hF hm ht hd4)
  have c4 := fun ht => Lib.hid (parserInstruction_any t tao t.attrs.length tc _ h1 hF hm ht hn4 hE1)
  have c3 := Lib.hid (add_any (n := .mk 2 ByteArray.empty ByteArray.empty [] [] ⟨t.data.toArray⟩) (k := 2) (nm := ⟨#[]⟩) (d := ⟨t.data.toArray⟩) _ h1 hF hm (fun S => node_plain S _ 2 ⟨#[]⟩ ⟨#[]⟩ ⟨t.data.toArray⟩))
  have r3 : t.kind = 3 → Hid (Gv.step st t = .ok (match st.stack with | [] => st | o :: os => ⟨{ o with kids := o.kids ++ [.mk 2 ByteArray.empty ByteArray.empty [] [] ⟨t.data.toArray⟩] } :: os, st.root⟩)) := fun h3 => Lib.hid (by
    obtain ⟨s, r⟩ := st
    cases s with
    | nil => exact Gv.aside_out (by omega) (by omega) (by omega) (fun e => by omega)
    | cons o os =>
      rw [Gv.in_go (by omega) (by omega) (fun e => by omega), Gv.leaf_three h3, Gv.grown_add (n := .mk 2 ByteArray.empty ByteArray.empty [] [] ⟨t.data.toArray⟩) (fun e => by cases e.1) (.inl (show (2 : Int) ≠ 1 by decide))])
  have r5 : t.kind = 5 → Hid (Gv.step st t = .ok st) := fun h5 => Lib.hid (by
    obtain ⟨s, r⟩ := st
    obtain rfl : s = [] := hk5 h5
    exact Gv.aside_out (by omega) (by omega) (by omega) (fun e => by omega))
  replace h1 := Lib.hid h1
  clear h hE hE1 hat hat1 htp bA hF hk5
  have x0 := kT.cell (i := 0) (v := .int .i64 (t.kind : Int)) rfl
  have x1 := kT.cell (i := 1) (v := .string ⟨t.name.toArray⟩) rfl
  have x2 := kT.cell (i := 2) (v := .slice tao t.attrs.length tc) rfl
  have x3 := kT.cell (i := 3) (v := .bool t.alone) rfl
  have x4 := kT.cell (i := 4) (v := .string ⟨t.data.toArray⟩) rfl
  clear kT
  go_enter Tryz.func10, Tryz.ntmps10
  rcases (by omega : t.kind = 0 ∨ t.kind = 1 ∨ t.kind = 2 ∨ t.kind = 3 ∨ t.kind = 4 ∨ t.kind = 5) with ht | ht | ht | ht | ht | ht
  · have c := c0 ht
    have n0 : (t.kind : Int) = 0 := by omega
    clear c0 c1 c2 c3 c4 r3 r5 hk ht
    simp only [n0] at c lift
    go_wp2_with fail
    (with_reducible refine c.out.mono ?_); rintro x w7 hS
    obtain ⟨y, rfl⟩ := hS.ret
    replace hS := Lib.hid (lift hS)
    clear lift c
    go_wp2_with fail
    go_ret
    exact hS.out
  · have c := c1 ht
    have n0 : (t.kind : Int) = 1 := by omega
    clear c0 c1 c2 c3 c4 r3 r5 hk ht
    simp only [n0] at c lift
    go_wp2_with fail
    (with_reducible refine c.out.mono ?_); rintro x w7 hS
    obtain ⟨y, rfl⟩ := hS.ret
    replace hS := Lib.hid (lift hS)
    clear lift c
    go_wp2_with fail
    go_ret
    exact hS.out
  · have c := c2 ht
    have n0 : (t.kind : Int) = 2 := by omega
    clear c0 c1 c2 c3 c4 r3 r5 hk ht
    simp only [n0] at c lift
    go_wp2_with fail
    (with_reducible refine c.out.mono ?_); rintro x w7 hS
    obtain ⟨y, rfl⟩ := hS.ret
    replace hS := Lib.hid (lift hS)
    clear lift c
    go_wp2_with fail
    go_ret
    exact hS.out
  · have r := r3 ht
    have n0 : (t.kind : Int) = 3 := by omega
    clear c0 c1 c2 c4 r3 r5 hk ht
    simp only [n0] at c3 lift
    go_wp2_with fail
    (with_reducible refine c3.out.mono ?_); rintro x w7 ⟨rfl, b7, h7⟩
    have hS := Lib.hid (lift (stepTold_ok r.out b7 h7))
    clear lift c3 h7
    go_wp2_with fail
    go_ret
    exact hS.out
  · have c := c4 ht
    have n0 : (t.kind : Int) = 4 := by omega
    clear c0 c1 c2 c3 c4 r3 r5 hk ht
    simp only [n0] at c lift
    go_wp2_with fail
    (with_reducible refine c.out.mono ?_); rintro x w7 hS
    obtain ⟨y, rfl⟩ := hS.ret
    replace hS := Lib.hid (lift hS)
    clear lift c
    go_wp2_with fail
    go_ret
    exact hS.out
  · have r := r5 ht
    have n0 : (t.kind : Int) = 5 := by omega
    have hS := Lib.hid (stepTold_ok (w := w) r.out b1.out h1.out)
    simp only [n0] at hS
    clear c0 c1 c2 c3 c4 r3 r5 hk ht lift
    go_wp2_with fail
    go_ret
    exact hS.out
end Go.Proofs.YtcjlhdmekhifaaaGreatDoor
namespace Go.Proofs.YtcjlhdmekhifaaaGreatDoor
namespace Gv
open T (Tok)

/-- The tree, from a state on. -/
def from' (s : St) (l : List Tok) : Except Nat Node := match steps s l with | .error e => .error e | .ok s' => final s'
theorem tree_from (l : List Tok) : tree l = from' ⟨[], none⟩ l := rfl
theorem from_append {s s' : St} {a b : List Tok} (h : steps s a = .ok s') : from' s (a ++ b) = from' s' b := by
  unfold from'; rw [steps_append, h]
theorem from_take {s s' : St} {l : List Tok} {i : Nat} (h : steps s (l.take i) = .ok s') : from' s l = from' s' (l.drop i) := by
  conv => lhs; rw [← List.take_append_drop i l]
  exact from_append h
theorem steps_more {s s' s2 : St} {l : List Tok} {i k : Nat} (h : steps s (l.take i) = .ok s') (h2 : steps s' ((l.drop i).take k) = .ok s2) : steps s (l.take (i + k)) = .ok s2 := by
  rw [List.take_add, steps_append, h]; exact h2
theorem steps_one {s s' : St} {t : Tok} (h : step s t = .ok s') : steps s [t] = .ok s' := by
  unfold steps; rw [h]; rfl
theorem from_head {s : St} {t : Tok} {l : List Tok} {e : Nat} (h : step s t = .error e) : from' s (t :: l) = .error e := by
  unfold from' steps; rw [h]
theorem take_one {l : List Tok} {i : Nat} (h : i < l.length) : (l.drop i).take 1 = [l[i]] := by
  rw [List.drop_eq_getElem_cons h]; rfl

/-- The element's tokens: so many, and its node. -/
def BodyOk (s : List Open) (r : Option Node) (l : List Tok) (n : Node) (k : Nat) : Prop := 1 ≤ k ∧ k ≤ l.length ∧ steps ⟨s, r⟩ (l.take k) = .ok (ended s r n)
/-- .. or there is no tree of what begins so. -/
def BodyBad (s : List Open) (r : Option Node) (l : List Tok) (e : Nat) : Prop := from' ⟨s, r⟩ l = .error e
/-- Within the element: so many tokens are read. -/
def Within (s : List Open) (r : Option Node) (l : List Tok) (o : Open) (i : Nat) : Prop := 1 ≤ i ∧ i ≤ l.length ∧ steps ⟨s, r⟩ (l.take i) = .ok ⟨o :: s, r⟩

theorem step_open {s : List Open} {r : Option Node} {t : Tok} (hr : s ≠ [] ∨ r = none) (ht : t.kind = 0) : step ⟨s, r⟩ t = opened ⟨s, r⟩ t := by
  unfold step
  cases s with
  | nil =>
    obtain rfl : r = none := hr.resolve_left (fun h => h rfl)
    simp only
    rw [if_neg (by rw [ht]; simp), if_neg (by rw [ht]; simp), if_neg (by rw [ht]; simp), if_pos ht]
  | cons o os =>
    simp only
    rw [if_neg (by rw [ht]; simp), if_pos ht]
theorem body_long {s : List Open} {r : Option Node} {t : Tok} {l : List Tok} (hr : s ≠ [] ∨ r = none) (ht : t.kind = 0) (h : 30 < s.length + 1) : BodyBad s r (t :: l) 2 :=
  from_head (by rw [step_open hr ht]; unfold opened; simp only; rw [if_pos h])
theorem body_bad {s : List Open} {r : Option Node} {t : Tok} {l : List Tok} {e : Nat} (hr : s ≠ [] ∨ r = none) (ht : t.kind = 0) (h : ¬ 30 < s.length + 1) (he : element t (scopeOf s) = .error e) : BodyBad s r (t :: l) e :=
  from_head (by rw [step_open hr ht]; unfold opened; simp only; rw [if_neg h, he])
theorem body_alone {s : List Open} {r : Option Node} {t : Tok} {l : List Tok} {sp nm : ByteArray} {as' : List Att} {sc : List Pair} (hr : s ≠ [] ∨ r = none) (ht : t.kind = 0) (h : ¬ 30 < s.length + 1)
    (he : element t (scopeOf s) = .ok ((sp, nm, as'), sc)) (ha : t.alone = true) : BodyOk s r (t :: l) (.mk 0 sp nm as' [] ByteArray.empty) 1 :=
  ⟨Nat.le_refl _, by simp, steps_one (by rw [step_open hr ht]; unfold opened; simp only; rw [if_neg h, he]; simp only; rw [if_pos ha])⟩
theorem body_in {s : List Open} {r : Option Node} {t : Tok} {l : List Tok} {sp nm : ByteArray} {as' : List Att} {sc : List Pair} (hr : s ≠ [] ∨ r = none) (ht : t.kind = 0) (h : ¬ 30 < s.length + 1)
    (he : element t (scopeOf s) = .ok ((sp, nm, as'), sc)) (ha : t.alone = false) : Within s r (t :: l) ⟨t.name, sp, nm, as', [], sc⟩ 1 :=
  ⟨Nat.le_refl _, by simp, steps_one (by rw [step_open hr ht]; unfold opened; simp only; rw [if_neg h, he]; simp only; rw [if_neg (by rw [ha]; simp)])⟩

theorem in_bad {s : List Open} {r : Option Node} {l : List Tok} {o : Open} {i e : Nat} (h : Within s r l o i) (hi : i < l.length) (he : step ⟨o :: s, r⟩ l[i] = .error e) : BodyBad s r l e := by
  unfold BodyBad
  rw [from_take h.2.2, List.drop_eq_getElem_cons hi]
  exact from_head he
theorem in_nest {s : List Open} {r : Option Node} {l : List Tok} {o : Open} {i : Nat} (h : Within s r l o i) (hi : i < l.length) (hk : l[i].kind = 1) (hn : l[i].name ≠ o.tag) : BodyBad s r l 90 :=
  in_bad h hi (by unfold step; simp only; rw [if_pos hk, if_neg hn])
theorem in_shut {s : List Open} {r : Option Node} {l : List Tok} {o : Open} {i : Nat} (h : Within s r l o i) (hi : i < l.length) (hk : l[i].kind = 1) (hn : l[i].name = o.tag) : BodyOk s r l o.node (i + 1) :=
  ⟨by omega, hi, steps_more h.2.2 (by rw [take_one hi]; exact steps_one (by unfold step; simp only; rw [if_pos hk, if_pos hn]))⟩
theorem in_prefix {s : List Open} {r : Option Node} {l : List Tok} {o : Open} {i : Nat} (h : Within s r l o i) (hi : i < l.length) (hk : l[i].kind = 4) (hn : G.plain l[i].name = false) : BodyBad s r l 80 :=
  in_bad h hi (by unfold step; simp only; rw [if_neg (by omega), if_neg (by omega), if_pos ⟨hk, hn⟩])
theorem in_leaf {s : List Open} {r : Option Node} {l : List Tok} {o : Open} {i : Nat} (h : Within s r l o i) (hi : i < l.length) (h1 : l[i].kind ≠ 1) (h0 : l[i].kind ≠ 0) (h4 : l[i].kind = 4 → G.plain l[i].name = true) :
    Within s r l { o with kids := grown o.kids (leaf l[i]) } (i + 1) :=
  ⟨by omega, hi, steps_more h.2.2 (by rw [take_one hi]; exact steps_one (by unfold step; simp only; rw [if_neg h1, if_neg h0, if_neg (by rintro ⟨a, b⟩; rw [h4 a] at b; cases b)]))⟩
theorem in_kid {s : List Open} {r : Option Node} {l : List Tok} {o : Open} {i k : Nat} {n : Node} (h : Within s r l o i) (hk : BodyOk (o :: s) r (l.drop i) n k) : Within s r l { o with kids := o.kids ++ [n] } (i + k) := by
  obtain ⟨h1, h2, h3⟩ := h
  obtain ⟨k1, k2, k3⟩ := hk
  rw [List.length_drop] at k2
  exact ⟨by omega, by omega, steps_more h3 k3⟩
theorem in_kid_bad {s : List Open} {r : Option Node} {l : List Tok} {o : Open} {i e : Nat} (h : Within s r l o i) (hk : BodyBad (o :: s) r (l.drop i) e) : BodyBad s r l e := by
  unfold BodyBad at *
  rw [from_take h.2.2]; exact hk
theorem in_end {s : List Open} {r : Option Node} {l : List Tok} {o : Open} {i : Nat} (h : Within s r l o i) (hi : ¬ i < l.length) : BodyBad s r l 90 := by
  unfold BodyBad
  rw [from_take h.2.2, List.drop_eq_nil_of_le (by omega)]
  rfl

/-! ### the whole text -/
/-- Outside any element: so many tokens are read. -/
def Outside (r : Option Node) (l : List Tok) (i : Nat) : Prop := i ≤ l.length ∧ steps ⟨[], none⟩ (l.take i) = .ok ⟨[], r⟩
theorem out_first (l : List Tok) : Outside none l 0 := ⟨Nat.zero_le _, rfl⟩
theorem out_bad {r : Option Node} {l : List Tok} {i e : Nat} (h : Outside r l i) (hi : i < l.length) (he : step ⟨[], r⟩ l[i] = .error e) : tree l = .error e := by
  rw [tree_from, from_take h.2, List.drop_eq_getElem_cons hi]
  exact from_head he
theorem out_text {r : Option Node} {l : List Tok} {i : Nat} (h : Outside r l i) (hi : i < l.length) (hk : l[i].kind = 2) (ht : l[i].alone = true ∨ blankText l[i].data = false) : tree l = .error 90 :=
  out_bad h hi (by unfold step; simp only; rw [if_pos ⟨hk, ht⟩])
theorem out_nest {r : Option Node} {l : List Tok} {i : Nat} (h : Outside r l i) (hi : i < l.length) (hk : l[i].kind = 1 ∨ (l[i].kind = 0 ∧ r.isSome = true)) : tree l = .error 90 :=
  out_bad h hi (by unfold step; simp only; rw [if_neg (by rintro ⟨a, _⟩; rcases hk with b | ⟨b, _⟩ <;> omega), if_pos hk])
theorem out_prefix {r : Option Node} {l : List Tok} {i : Nat} (h : Outside r l i) (hi : i < l.length) (hk : l[i].kind = 4) (hn : G.plain l[i].name = false) : tree l = .error 80 :=
  out_bad h hi (by unfold step; simp only; rw [if_neg (by rintro ⟨a, _⟩; omega), if_neg (by rintro (b | ⟨b, _⟩) <;> omega), if_pos ⟨hk, hn⟩])
theorem out_kid_bad {l : List Tok} {i e : Nat} (h : Outside none l i) (hk : BodyBad [] none (l.drop i) e) : tree l = .error e := by
  rw [tree_from, from_take h.2]; exact hk
theorem out_kid {l : List Tok} {i k : Nat} {n : Node} (h : Outside none l i) (hk : BodyOk [] none (l.drop i) n k) : Outside (some n) l (i + k) := by
  obtain ⟨k1, k2, k3⟩ := hk
  have h1 := h.1
  rw [List.length_drop] at k2
  exact ⟨by omega, steps_more h.2 k3⟩
theorem out_aside {r : Option Node} {l : List Tok} {i : Nat} (h : Outside r l i) (hi : i < l.length) (ha : Aside l[i]) : Outside r l (i + 1) :=
  ⟨hi, steps_more h.2 (by rw [take_one hi]; exact steps_one (step_aside ha r))⟩
theorem out_end {r : Option Node} {l : List Tok} {i : Nat} (h : Outside r l i) (hi : ¬ i < l.length) : tree l = match r with | some n => .ok n | none => .error 90 := by
  rw [tree_from, from_take h.2, List.drop_eq_nil_of_le (by omega)]
  cases r <;> rfl
end Gv
end Go.Proofs.YtcjlhdmekhifaaaGreatDoor
namespace Go.Proofs.YtcjlhdmekhifaaaGreatDoor
open Go.RowKit

namespace Gv
theorem tree_err {l : List T.Tok} {st : St} {m e : Nat} (h : steps ⟨[], none⟩ (l.take m) = .ok st) (hm : m < l.length) (he : step st l[m] = .error e) : tree l = .error e := by
  rw [tree_from, from_take h, List.drop_eq_getElem_cons hm]
  exact from_head he
theorem tree_more {l : List T.Tok} {st st' : St} {m : Nat} (h : steps ⟨[], none⟩ (l.take m) = .ok st) (hm : m < l.length) (he : step st l[m] = .ok st') : steps ⟨[], none⟩ (l.take (m + 1)) = .ok st' :=
  steps_more h (by rw [take_one hm]; exact steps_one he)
theorem tree_last {l : List T.Tok} {st : St} {m : Nat} (h : steps ⟨[], none⟩ (l.take m) = .ok st) (hm : ¬ m < l.length) : tree l = final st := by
  rw [tree_from, from_take h, List.drop_eq_nil_of_le (by omega)]
  rfl
theorem step_err {st : St} {t : T.Tok} {e : Nat} (h : step st t = .error e) : e ≠ 0 := by
  have ho : ∀ {e : Nat}, opened st t = .error e → e ≠ 0 := fun {e} h => by
    unfold opened at h
    split at h
    · cases h; omega
    · split at h
      · rename_i h2
        cases h
        exact element_err0 h2
      · split at h <;> cases h
  unfold step at h
  split at h
  · split at h
    · cases h; omega
    · split at h
      · cases h; omega
      · split at h
        · cases h; omega
        · split at h
          · exact ho h
          · cases h
  · split at h
    · split at h
      · cases h
      · cases h; omega
    · split at h
      · exact ho h
      · split at h
        · cases h; omega
        · cases h
theorem parse_toks {l : List UInt8} {ts : List T.Tok} (h : T.tokens l = .ok ts) : parse l = tree ts := by unfold parse; rw [h]
theorem parse_err {l : List UInt8} {e : Nat} (h : T.tokens l = .error e) : parse l = .error e := by unfold parse; rw [h]
end Gv
/-- What is told of a text. -/
def GvTold (s : ByteArray) (w : World) (x : Ending) (w' : World) : Prop := Below w.heap.size w w' ∧
  match Gv.parse s.data.toList with
  | .error e => x = .returned (.tuple #[.agg (nodeArr 0 ⟨#[]⟩ ⟨#[]⟩ (.slice none 0 0) (.slice none 0 0) ⟨#[]⟩), .int .i64 (e : Int)])
  | .ok n => ∃ (k : Int) (sp nm d : ByteArray) (va vk : Value), x = .returned (.tuple #[.agg (nodeArr k sp nm va vk d), .int .i64 0]) ∧ NodeAt (fun _ => True) w' [.int .i64 (k : Int), .string sp, .string nm, va, vk, .string d] n
theorem gvTold_err {s : ByteArray} {w w' : World} {e : Nat} {k : Int} (h : Gv.parse s.data.toList = .error e) (hk : k = (e : Int)) (hb : Below w.heap.size w w') : GvTold s w (.returned (.tuple #[.agg (nodeArr 0 ⟨#[]⟩ ⟨#[]⟩ (.slice none 0 0) (.slice none 0 0) ⟨#[]⟩), .int .i64 k])) w' := by
  refine ⟨hb, ?_⟩
  rw [h, hk]
theorem gvTold_ok {s : ByteArray} {w w' : World} {n : Gv.Node} {k : Int} {sp nm d : ByteArray} {va vk : Value} (h : Gv.parse s.data.toList = .ok n) (hb : Below w.heap.size w w') (hn : NodeAt (fun _ => True) w' [.int .i64 (k : Int), .string sp, .string nm, va, vk, .string d] n) :
    GvTold s w (.returned (.tuple #[.agg (nodeArr k sp nm va vk d), .int .i64 0])) w' := by
  refine ⟨hb, ?_⟩
  rw [h]
  exact ⟨k, sp, nm, d, va, vk, rfl, hn⟩
theorem tree_end {F : Func} {R : Ending → World → Prop} {tmps : Array Value} {w : World} {rb i j : Nat} {x y : Int} {sp nm d : ByteArray} {va vk : Value} (hres : F.results = #[ResultVar.cell i 26, ResultVar.tmp j])
    (h2 : tmps[i]? = some (.pointer (some ⟨rb, 0, none⟩))) (h4 : tmps[j]? = some (.int .i64 y)) (hc : Cells w rb 26 (nodeArr x sp nm va vk d))
    (hR : R (.returned (.tuple #[.agg (nodeArr x sp nm va vk d), .int .i64 y])) w) : bodyPost Tryz.prog F R .ret { tmps := tmps, defers := [] } w := by
  refine ⟨rfl, _, ?_, hR⟩
  have l2 : i < tmps.size := (Array.getElem?_eq_some_iff.1 h2).1
  have g2 : tmps[i] = .pointer (some ⟨rb, 0, none⟩) := (Array.getElem?_eq_some_iff.1 h2).2
  have l4 : j < tmps.size := (Array.getElem?_eq_some_iff.1 h4).1
  have g4 : tmps[j] = .int .i64 y := (Array.getElem?_eq_some_iff.1 h4).2
  obtain ⟨x0, x1, x2, x3, x4, x5⟩ := node_open hc
  simp [results, hres, go_sem, l2, g2, l4, g4, x0, x1, x2, x3, x4, x5]
  rfl
theorem tree_set {w : World} {b : Nat} {A : Array Value} (hA : A.size = 6) (h : Cells w b 26 A) (k : Int) (sp nm d : ByteArray) (va vk : Value) :
    Cells (sixSet w b 0 (.int .i64 k) (.string sp) (.string nm) va vk (.string d)) b 26 (nodeArr k sp nm va vk d) := by
  have := (((((h.set 0 (.int .i64 k)).set 1 (.string sp)).set 2 (.string nm)).set 3 va).set 4 vk).set 5 (.string d)
  unfold sixSet
  obtain ⟨l⟩ := A
  obtain ⟨a0, a1, a2, a3, a4, a5, rfl⟩ := list_six hA
  simpa [nodeArr] using this
theorem PSs.begin (w : World) : PSs w.heap.size ⟨[], none⟩ (w.alloc (.cells (pArr (.slice none 0 0) 0 ⟨#[]⟩ ⟨#[]⟩ ⟨#[]⟩ (.slice none 0 0) (.slice none 0 0) false) 38)) :=
  ⟨[], .slice none 0 0, 0, ⟨#[]⟩, ⟨#[]⟩, ⟨#[]⟩, .slice none 0 0, .slice none 0 0, ⟨Cells.new w _ _, World.ownsRow_nil _ _ _ _, trivial, fun n e => (by cases e), fun e => absurd rfl e⟩, rfl⟩

set_option maxRecDepth 100000 in
set_option maxHeartbeats 6400000 in
theorem gParse_any (s : ByteArray) (w : World) (hs : s.size ≤ 1000000) (hE : Env w) : Calls Tryz.prog 5 #[.string s] w (GvTold s w) := by
  have b0 := (Below.refl w.heap.size w).alloc (Nat.le_refl _) (.cells (nodeArr 0 ⟨#[]⟩ ⟨#[]⟩ (.slice none 0 0) (.slice none 0 0) ⟨#[]⟩) 26)
  have kR := Cells.new w 26 (nodeArr 0 ⟨#[]⟩ ⟨#[]⟩ (.slice none 0 0) (.slice none 0 0) ⟨#[]⟩)
  have hE0 := hE.on b0
  unfold nodeArr at b0 kR hE0
  go_enter Tryz.func5, Tryz.ntmps5
  go_wp2_with fail
  (with_reducible refine (tTokens_any s _ hs hE0).mono ?_); rintro e w2 ⟨ao, cap, L, rfl, hLt, hL, hcap, b2⟩
  have kR2 := kR.on b2
  have hE2 := hE0.on b2
  have c2 := b0.trans (b2.mono b0.size)
  have hx2 : w.heap.size < w2.heap.size := kR2.lt
  clear kR b0 b2 hE0 hE
  cases htk : T.tokens s.data.toList with
  | error e =>
    obtain ⟨e1, e2⟩ := T.told_err htk
    have hr := Lib.hid (Gv.parse_err htk)
    have hne : e ≠ 0 := T.tokens_err htk
    rw [e2]
    have hz1 : ((e : Int) != 0) = true := by rw [bne_iff_ne]; omega
    have hz2 : ¬ (e : Int) = 0 := by omega
    clear e1 e2 htk hLt hL
    have f0 := kR2.free 0
    have f1 := kR2.free 1
    have f2 := kR2.free 2
    have f3 := kR2.free 3
    have f4 := kR2.free 4
    have f5 := kR2.free 5
    obtain ⟨x0, x1, x2, x3, x4, x5⟩ := node_open kR2
    have kR8 := Lib.hid (tree_set rfl kR2 0 ⟨#[]⟩ ⟨#[]⟩ ⟨#[]⟩ (.slice none 0 0) (.slice none 0 0))
    have c8 := Lib.hid (c2.grown (grown_six w2 w.heap.size 0 (.int .i64 0) (.string ⟨#[]⟩) (.string ⟨#[]⟩) (.slice none 0 0) (.slice none 0 0) (.string ⟨#[]⟩)) c2.size (fun j e => by injection e; omega))
    clear kR2 c2
    go_wp2_with fail
    exact tree_end (rb := w.heap.size) rfl rfl rfl kR8.out (gvTold_err hr.out rfl c8.out)
  | ok ts =>
    obtain ⟨e1, e2⟩ := T.told_ok htk
    rw [e1] at hLt
    rw [e2]
    have hp := Lib.hid (Gv.parse_toks htk)
    obtain ⟨hfl, hfit⟩ := T.tokens_fit htk
    have hkinds := Lib.hid (T.tokens_kinds htk)
    subst hLt
    rw [List.length_map] at hfl
    replace hfit := Lib.hid hfit
    clear e1 e2 htk
    have hS0 := Lib.hid (PSs.begin w2)
    have bP := Lib.hid ((Below.refl w2.heap.size w2).alloc (Nat.le_refl _) (.cells (pArr (.slice none 0 0) 0 ⟨#[]⟩ ⟨#[]⟩ ⟨#[]⟩ (.slice none 0 0) (.slice none 0 0) false) 38))
    unfold pArr at hS0 bP
    replace kR2 := Lib.hid kR2
    replace hL := Lib.hid hL
    replace c2 := Lib.hid c2
    go_wp2_with fail
    go_loopw [3, 8, 9, 21] (fun _ _ _ i wr => ∃ (m : Nat) (st : Gv.St), m ≤ L.length ∧ i = .int .i64 (m : Int) ∧ Hid (Gv.steps ⟨[], none⟩ ((L.map Prod.fst).take m) = .ok st) ∧ Hid (PSs w2.heap.size st wr) ∧ Hid (Gv.Fine m st) ∧ Hid (Below w2.heap.size w2 wr)) (fun _ _ _ i _ => L.length - (intOf i).toNat)
    case atStart => exact ⟨0, ⟨[], none⟩, Nat.zero_le _, rfl, Lib.hid rfl, hS0, Lib.hid (Gv.fine_nil _), bP⟩
    case round =>
      obtain ⟨m, st, hm, rfl, hst, hS, hF, hB⟩ := hrel
      clear hS0 bP
      have kR := kR2.out.on hB.out
      by_cases hlt : m < L.length
      · have hml : m < (L.map Prod.fst).length := by simpa using hlt
        have herr := fun e he => Lib.hid (hp.out.trans (Gv.tree_err (e := e) hst.out hml he))
        have hmore := fun st' he => Lib.hid (Gv.tree_more (st' := st') hst.out hml he)
        have hkk := hkinds.out m hml
        have hft := hfit.out _ (List.getElem_mem hml)
        obtain ⟨⟨t, tv⟩, hx⟩ : ∃ x, x = L[m] := ⟨_, rfl⟩
        have htm : (L.map Prod.fst)[m] = t := by rw [List.getElem_map, ← hx]
        rw [htm] at herr hmore hkk hft
        obtain ⟨b, off, rfl, c0, c1, c2', c3, c4, hat⟩ := (hL.out.below hB.out).cells hlt (t := t) (v := tv) hx.symm
        obtain ⟨tao, tc, rfl, htp⟩ := hat
        have hk5 : t.kind = 5 → st.stack = [] := fun h5 => by
          have hm0 : m = 0 := by
            rcases Nat.eq_zero_or_pos m with h | h
            · exact h
            · have := hkk.2 h; omega
          have := hst.out
          rw [hm0, List.take_zero] at this
          cases this
          rfl
        have hkk5 := hkk.1
        have hmi : (m : Int) < (L.length : Int) := by omega
        have bA := (Below.refl wr.heap.size wr).alloc (Nat.le_refl _) (.cells #[.int .i64 (t.kind : Int), .string ⟨t.name.toArray⟩, .slice tao t.attrs.length tc, .bool t.alone, .string ⟨t.data.toArray⟩] 41)
        have htk := take_any t (.slice tao t.attrs.length tc) _ (hS.out.on bA) hF.out (by omega) hkk5 hk5 ⟨tao, tc, rfl, htp.below bA⟩ hft ((hE2.on hB.out).on bA)
        simp only [tokCells] at htk
        replace htk := Lib.hid htk
        have hfs := fun st' he => Lib.hid (Gv.fine_step (st' := st') hF.out (by have := hft.2.1; omega) he)
        have bA2 := Lib.hid (hB.out.trans (bA.mono hB.out.size))
        clear hst hF hS hkk hx htm htp hft hk5 bA
        go_wp2_with fail
        (with_reducible refine htk.out.mono ?_); rintro x w7 ⟨b7, hT⟩
        have b8 := Lib.hid (bA2.out.trans b7)
        have kR7 := kR2.out.on b8.out
        clear htk bA2 b7 kR c0 c1 c2' c3 c4
        cases hstep : Gv.step st t with
        | error e =>
          rw [hstep] at hT
          simp only at hT
          subst hT
          have hr := herr e hstep
          have hne : e ≠ 0 := Gv.step_err hstep
          have hz1 : ((e : Int) != 0) = true := by rw [bne_iff_ne]; omega
          have hz2 : ¬ (e : Int) = 0 := by omega
          clear herr hmore hfs hstep
          have f0 := kR7.free 0
          have f1 := kR7.free 1
          have f2 := kR7.free 2
          have f3 := kR7.free 3
          have f4 := kR7.free 4
          have f5 := kR7.free 5
          obtain ⟨x0, x1, x2, x3, x4, x5⟩ := node_open kR7
          have kR8 := Lib.hid (tree_set rfl kR7 0 ⟨#[]⟩ ⟨#[]⟩ ⟨#[]⟩ (.slice none 0 0) (.slice none 0 0))
          have c7 := c2.out.trans (b8.out.mono c2.out.size)
          have c8 := Lib.hid (c7.grown (grown_six w7 w.heap.size 0 (.int .i64 0) (.string ⟨#[]⟩) (.string ⟨#[]⟩) (.slice none 0 0) (.slice none 0 0) (.string ⟨#[]⟩)) c7.size (fun j e => by injection e; omega))
          clear kR7 c7
          go_wp2_with fail
          exact tree_end (rb := w.heap.size) rfl rfl rfl kR8.out (gvTold_err hr.out rfl c8.out)
        | ok st' =>
          rw [hstep] at hT
          simp only at hT
          obtain ⟨rfl, h9⟩ := hT
          have h9 := Lib.hid h9
          have hg1 := hmore st' hstep
          have hg2 := hfs st' hstep
          clear herr hmore hfs hstep kR7
          go_wp2_with fail
          go_roundw
          case rel => exact ⟨m + 1, st', by omega, by go_num, hg1, h9, hg2, b8⟩
          case measure => simp [intOf] <;> omega
      · have hml : ¬ m < (L.map Prod.fst).length := by simpa using hlt
        have hfin := hp.out.trans (Gv.tree_last hst.out hml)
        have hmi : ¬ (m : Int) < (L.length : Int) := by omega
        obtain ⟨stk, root⟩ := st
        obtain ⟨es, sv, k, sp, nm, d, va, vk, h1, hes⟩ := hS.out
        have p7 := h1.box.cell (i := 7) (v := .bool root.isSome) rfl
        have f0 := kR.free 0
        have f1 := kR.free 1
        have f2 := kR.free 2
        have f3 := kR.free 3
        have f4 := kR.free 4
        have f5 := kR.free 5
        obtain ⟨x0, x1, x2, x3, x4, x5⟩ := node_open kR
        have c7 := c2.out.trans (hB.out.mono c2.out.size)
        cases root with
        | none =>
          have hr : Hid (Gv.parse s.data.toList = .error 90) := Lib.hid (by
            rw [hfin]
            unfold Gv.final
            cases stk <;> rfl)
          have kR8 := Lib.hid (tree_set rfl kR 0 ⟨#[]⟩ ⟨#[]⟩ ⟨#[]⟩ (.slice none 0 0) (.slice none 0 0))
          have c8 := Lib.hid (c7.grown (grown_six wr w.heap.size 0 (.int .i64 0) (.string ⟨#[]⟩) (.string ⟨#[]⟩) (.slice none 0 0) (.slice none 0 0) (.string ⟨#[]⟩)) c7.size (fun j e => by injection e; omega))
          clear kR c7 hfin hst hS h1 hF
          go_wp2_with fail
          exact tree_end (rb := w.heap.size) rfl rfl rfl kR8.out (gvTold_err hr.out rfl c8.out)
        | some n =>
          obtain rfl : stk = [] := by
            cases stk with
            | nil => rfl
            | cons o os => have := hF.out.lone (by simp); cases this
          have hr : Hid (Gv.parse s.data.toList = .ok n) := Lib.hid (by rw [hfin]; rfl)
          have hN := h1.rootAt n rfl
          obtain ⟨k', sp', nm', d', as', kids', ao', bo', ca', cb', cs', -, e2, -⟩ := hN.open'
          simp only [List.cons.injEq, and_true] at e2
          obtain ⟨e3, e4, e5, e6, e7, e8⟩ := e2
          subst e6 e7
          have y1 := h1.box.cell (i := 1) (v := .int .i64 (k : Int)) rfl
          have y2 := h1.box.cell (i := 2) (v := .string sp) rfl
          have y3 := h1.box.cell (i := 3) (v := .string nm) rfl
          have y4 := h1.box.cell (i := 4) (v := .slice ao' as'.length ca') rfl
          have y5 := h1.box.cell (i := 5) (v := .slice bo' kids'.length cb') rfl
          have y6 := h1.box.cell (i := 6) (v := .string d) rfl
          have kR8 := Lib.hid (tree_set rfl kR (k : Int) sp nm d (.slice ao' as'.length ca') (.slice bo' kids'.length cb'))
          have hg := grown_six wr w.heap.size 0 (.int .i64 (k : Int)) (.string sp) (.string nm) (.slice ao' as'.length ca') (.slice bo' kids'.length cb') (.string d)
          have c8 := Lib.hid (c7.grown hg c7.size (fun j e => by injection e; omega))
          have hN8 : Hid (NodeAt (fun _ => True) _ _ n) := Lib.hid ((hN.stay (stay_grown hg (fun x e y => by injection e; omega))).any)
          clear kR c7 hfin hst hS h1 hF hN hg e3 e4 e5 e8
          go_wp2_with fail
          exact tree_end (rb := w.heap.size) rfl rfl rfl kR8.out (gvTold_ok hr.out c8.out hN8.out)
end Go.Proofs.YtcjlhdmekhifaaaGreatDoor
namespace Go.Proofs.YtcjlhdmekhifaaaGreatDoor
namespace Gv
open T (Tok)

/-! ### what is left of a text is its end -/
end Gv
end Go.Proofs.YtcjlhdmekhifaaaGreatDoor
namespace Go.Proofs.YtcjlhdmekhifaaaGreatDoor
namespace Gv
open T (Tok)

/-- A text that is one element, as the law asks it: at its head a tag, at its end a tag. -/
structure Bare (l : List UInt8) : Prop where
  head : ∃ c r, l = 60 :: c :: r ∧ c ≠ 63 ∧ c ≠ 33
  tail : ∃ p d, l = p ++ [d] ++ [62] ∧ d ≠ 63 ∧ d ≠ 45

def top1 : List UInt8 := [60, 116, 111, 112, 62]
def top2 : List UInt8 := [60, 47, 116, 111, 112, 62]
def topTok : Tok := ⟨0, [116, 111, 112], [], false, []⟩
def topEnd : Tok := ⟨1, [116, 111, 112], [], false, []⟩
def topOpen (kids : List Node) : Open := ⟨[116, 111, 112], ByteArray.empty, str [116, 111, 112], [], kids, []⟩
theorem run_top1 : T.run true top1 = .ok [topTok] := by rfl
theorem run_top2 : T.run false top2 = .ok [topEnd] := by rfl
theorem step_top1 : step ⟨[], none⟩ topTok = .ok ⟨[topOpen []], none⟩ := by
  have he : element topTok [] = .ok ((ByteArray.empty, str [116, 111, 112], []), []) := by
    unfold element
    rw [if_neg (by decide)]
    have h1 : P.declare (topTok.attrs.map fun p => ⟨str p.1, str p.2⟩) = some ([], []) := rfl
    rw [h1]
    have h2 : P.resolve ([] ++ []) (str topTok.name) false = some (ByteArray.empty, str [116, 111, 112]) := by decide +kernel
    simp only
    rw [h2]
    rfl
  unfold step
  simp only
  rw [if_neg (by decide), if_neg (by decide), if_neg (by decide), if_pos (show topTok.kind = 0 from rfl)]
  unfold opened
  rw [if_neg (by decide)]
  have hsc : scopeOf ([] : List Open) = [] := rfl
  rw [hsc, he]
  rfl

end Gv
end Go.Proofs.YtcjlhdmekhifaaaGreatDoor
