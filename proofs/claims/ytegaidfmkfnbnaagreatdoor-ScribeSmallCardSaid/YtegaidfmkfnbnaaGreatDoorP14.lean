/-
  What the library's searches, foldings and trimmings come to, in the document's words.
  Whether one of an element's attributes has that space and that name: what the program's search comes to.
  Which trees may be told: what the program's words of texts, comments, instructions and attributes come to.
-/
import Derived.Test.YtegaidfmkfnbnaaGreatDoorP12
import Derived.Test.YtegaidfmkfnbnaaGreatDoorP04
import Derived.Test.YtegaidfmkfnbnaaGreatDoorShelf2
import Derived.Lib.SlTrimSet
import Derived.Lib.IndexMore
import Derived.Shelf.Strings.SlTrimAscii
import Derived.Test.YtegaidfmkfnbnaaGreatDoorP09
import Derived.Deep.LoopGhost
import Derived.Shelf.Abstract
namespace Go.Proofs.YtegaidfmkfnbnaaGreatDoor
open Go.RowKit

namespace T
theorem fold_lower (l : List UInt8) (t u : List UInt8) (h : ∀ c n, n < 256 → c ∈ t → Lib.foldEq (UInt8.ofNat n) c = decide (lower (UInt8.ofNat n) = lower c)) (hu : t.map lower = u) : Lib.equalFold l t = decide (l.map lower = u) := by
  subst hu
  induction l generalizing t with
  | nil => cases t <;> simp [Lib.equalFold]
  | cons b l ih =>
    cases t with
    | nil => simp [Lib.equalFold]
    | cons c t =>
      have h1 := h c b.toNat b.toNat_lt (by simp)
      rw [UInt8.ofNat_toNat] at h1
      have h2 := ih t (fun c n hn hc => h c n hn (List.mem_cons_of_mem _ hc))
      simp only [Lib.equalFold, h1, h2, List.map_cons, List.cons.injEq]
      by_cases h3 : lower b = lower c <;> simp [h3]
theorem fold_xml (l : List UInt8) : Lib.equalFold l [120, 109, 108] = decide (l.map lower = [120, 109, 108]) :=
  fold_lower l _ _ (by
    have : ∀ n, n < 256 → ∀ c ∈ [120, 109, 108], Lib.foldEq (UInt8.ofNat n) c = decide (lower (UInt8.ofNat n) = lower c) := by decide +kernel
    exact fun c n hn hc => this n hn c hc) rfl
end T
theorem trim_skip (l : List UInt8) : Lib.trimLeftS l [32, 9, 10, 13] = T.skip l := by
  unfold Lib.trimLeftS T.skip
  congr 1
  funext b
  have : ∀ n, n < 256 → ([32, 9, 10, 13] : List UInt8).contains (UInt8.ofNat n) = G.space ((UInt8.ofNat n).toNat : Int) := by decide +kernel
  have := this b.toNat b.toNat_lt
  rwa [UInt8.ofNat_toNat] at this
theorem infoSet : (Tryz.prog.info? 107).map (fun i => (i.zero, i.size)) = some (some (.agg (Array.replicate 256 (.bool false))), 256) := by kernel_rfl
theorem lit_spaces : (⟨#[32, 9, 10, 13]⟩ : ByteArray).data.toList = [32, 9, 10, 13] := rfl
theorem trimLeft_any (s t : ByteArray) (w : World) (ht : t.data.toList = T.skip s.data.toList) :
    Calls Tryz.prog 56 #[.string s, .string ⟨#[32, 9, 10, 13]⟩] w fun e w' => e = .returned (.string t) ∧ Below w.heap.size w w' := by
  refine (Any.strings_TrimLeft_laid Tryz.lays161 infoSet s ⟨#[32, 9, 10, 13]⟩ w (by decide) (Go.Proofs.ascii_of_all (by decide))).mono ?_
  rintro e w' ⟨rfl, b⟩
  rw [lit_spaces, trim_skip, ← ht]
  exact ⟨rfl, b⟩

theorem index_cut {p : List UInt8} (hp : p ≠ []) : ∀ l : List UInt8, Lib.index l p = match T.cutAt p l with | some x => (x.1.length : Int) | none => -1
  | [] => by
    cases p with
    | nil => exact absurd rfl hp
    | cons a p => rfl
  | b :: t => by
    have ih := index_cut hp t
    unfold Lib.index T.cutAt
    cases hb : T.begins p (b :: t) with
    | true =>
      have : p.isPrefixOf (b :: t) = true := hb
      simp [this]
    | false =>
      have : p.isPrefixOf (b :: t) = false := hb
      rw [ih]
      cases T.cutAt p t with
      | none => simp [this]
      | some x => 
        have h1 : ¬ ((x.1.length : Int) = -1) := by omega
        simp [this, h1]
theorem contains_cut {p l : List UInt8} (hp : p ≠ []) : Lib.contains l p = (T.cutAt p l).isSome := by
  have hi := index_cut hp l
  unfold Lib.contains
  rw [hi]
  cases T.cutAt p l with
  | none => rfl
  | some x => simp

theorem empty_is {s : ByteArray} (h : s.size = 0) : s.toList.isEmpty = true := by
  have : s.data.toList = [] := List.eq_nil_of_length_eq_zero (by rw [list_len]; exact h)
  rw [ByteArray.toList_eq, this]; rfl

/-- EqualFold with the declaration's name. -/
theorem isXml_any (v : ByteArray) (w : World) (hv : v.size ≤ 1000000) (hE : Env w) (c : Bool) (hc : decide (v.data.toList.map T.lower = [120, 109, 108]) = c) :
    Calls Tryz.prog 55 #[.string v, .string ⟨#[120, 109, 108]⟩] w fun e w' => e = .returned (.bool c) ∧ Below w.heap.size w w' := by
  have h := fold_any v ⟨#[120, 109, 108]⟩ w hv (tame_of (by decide)) hE
  have e : Lib.equalFold v.data.toList (⟨#[120, 109, 108]⟩ : ByteArray).data.toList = c := (T.fold_xml _).trans hc
  rw [e] at h
  exact h

/-- whether a text is in another one. -/
theorem contains_any (s p : ByteArray) (r : Bool) (w : World) (hs : s.size ≤ 1000000) (hE : Env w) (hp : p.data.toList ≠ []) (hr : r = Sc.hasIn p.data.toList s.data.toList) :
    Calls Tryz.prog 52 #[.string s, .string p] w fun e w' => e = .returned (.bool r) ∧ w' = w := by
  obtain ⟨m, hm⟩ := hE.most
  have c := Tryz.strings_Contains s p m w (by omega) hm
  rw [contains_cut hp] at c
  rw [hr]
  exact c
theorem suffix_last (l : List UInt8) : Lib.hasSuffix l [45] = decide (l.getLast? = some 45) := by
  unfold Lib.hasSuffix
  cases h : l.getLast? with
  | none =>
    rw [List.getLast?_eq_none_iff] at h
    subst h; rfl
  | some b =>
    obtain ⟨y, rfl⟩ := List.getLast?_eq_some_iff.1 h
    by_cases hb : b = 45
    · subst hb
      simp
    · rw [show decide (some b = some (45 : UInt8)) = false by simpa using hb]
      cases hq : ([45] : List UInt8).isSuffixOf (y ++ [b]) with
      | false => rfl
      | true =>
        obtain ⟨t, ht⟩ := List.isSuffixOf_iff_suffix.1 hq
        have := List.append_inj_right' ht (by simp)
        simp at this
        exact absurd this.symm hb
end Go.Proofs.YtegaidfmkfnbnaaGreatDoor
namespace Go.Proofs.YtegaidfmkfnbnaaGreatDoor
open Go.RowKit

def attArr (a : Gv.Att) : Array Value := #[.string a.space, .string a.name, .string a.value]
theorem attArr_cells (a : Gv.Att) : (attCells a).toArray = attArr a := rfl

set_option maxRecDepth 100000 in
set_option maxHeartbeats 1600000 in
theorem has1_any (x : Gv.Att) (sp nm : ByteArray) (r : Bool) (hr : r = decide (x.space = sp ∧ x.name = nm)) (b1 b2 : Nat) (w : World) (h1 : w.cell? ⟨b1, 0, none⟩ = some (.string sp)) (h2 : w.cell? ⟨b2, 0, none⟩ = some (.string nm)) :
    Calls Tryz.prog 108 #[.agg (attArr x), .pointer (some ⟨b1, 0, none⟩), .pointer (some ⟨b2, 0, none⟩)] w fun e w' => e = .returned (.bool r) ∧ Below w.heap.size w w' := by
  obtain ⟨xs, xn, xv⟩ := x
  unfold attArr
  dsimp only at *
  have q1 := World.block_lt_of_cell? w _ h1
  have q2 := World.block_lt_of_cell? w _ h2
  have b1' := (Below.refl w.heap.size w).alloc (Nat.le_refl _) (.cells #[.string xs, .string xn, .string xv] 40)
  have kA := Cells.new w 40 #[.string xs, .string xn, .string xv]
  have x0 := kA.cell (i := 0) (v := .string xs) rfl
  have x1 := kA.cell (i := 1) (v := .string xn) rfl
  have h1' := (b1'.cell q1).trans h1
  have h2' := (b1'.cell q2).trans h2
  replace kA := Lib.hid kA
  go_enter Tryz.func108, Tryz.ntmps108
  by_cases e1 : xs = sp
  · by_cases e2 : xn = nm
    · have he := Lib.hid (show r = true by rw [hr, e1, e2]; simp)
      have z1 := sn_is e1
      have y1 := congrArg ByteArray.toList e1
      have z2 := sn_is e2
      have y2 := congrArg ByteArray.toList e2
      clear e1 e2 hr
      go_wp2_with fail
      go_ret
      exact ⟨ret_bool he.out.symm, b1'⟩
    · have he := Lib.hid (show r = false by rw [hr]; simp [e2])
      have z1 := sn_is e1
      have y1 := congrArg ByteArray.toList e1
      have z2 := sn_isnt e2
      have y2 := sn_prop e2
      clear e1 e2 hr
      go_wp2_with fail
      go_ret
      exact ⟨ret_bool he.out.symm, b1'⟩
  · have he := Lib.hid (show r = false by rw [hr]; simp [e1])
    have z1 := sn_isnt e1
    have y1 := sn_prop e1
    clear e1 hr
    go_wp2_with fail
    go_ret
    exact ⟨ret_bool he.out.symm, b1'⟩

/-- The first that is so; none: -1. -/
def idxOf (p : Gv.Att → Bool) : Nat → List Gv.Att → Int
  | _, [] => -1
  | i, a :: l => if p a then i else idxOf p (i + 1) l
theorem idxOf_any (p : Gv.Att → Bool) : ∀ (l : List Gv.Att) (i : Nat), decide (0 ≤ idxOf p i l) = l.any p
  | [], i => by simp [idxOf]
  | a :: l, i => by
    unfold idxOf
    cases h : p a with
    | true => simp [h]
    | false => simp [h, idxOf_any p l (i + 1)]
theorem idxOf_at (p : Gv.Att → Bool) (l : List Gv.Att) (i j : Nat) (h : j < l.length) (hn : ∀ k (hk : k < l.length), k < j → p l[k] = false) (hj : p l[j] = true) : idxOf p i l = ((i + j : Nat) : Int) := by
  induction l generalizing i j with
  | nil => simp at h
  | cons a l ih =>
    unfold idxOf
    cases j with
    | zero =>
      rw [List.getElem_cons_zero] at hj
      rw [hj]; simp
    | succ j =>
      have h0 := hn 0 (by simp) (by omega)
      rw [List.getElem_cons_zero] at h0
      rw [h0, if_neg (by simp), ih (i + 1) j (by simpa using h) (fun k hk hkj => hn (k + 1) (by simpa using hk) (by omega)) hj]
      congr 1
      omega
theorem idxOf_none (p : Gv.Att → Bool) (l : List Gv.Att) (i : Nat) (hn : ∀ k (hk : k < l.length), p l[k] = false) : idxOf p i l = -1 := by
  induction l generalizing i with
  | nil => rfl
  | cons a l ih =>
    have h0 := hn 0 (by simp)
    rw [List.getElem_cons_zero] at h0
    unfold idxOf
    rw [h0, if_neg (by simp)]
    exact ih (i + 1) fun k hk => hn (k + 1) (by simpa using hk)

set_option maxRecDepth 100000 in
set_option maxHeartbeats 3200000 in
theorem hasIndex_any {S : Nat → Prop} (p : Gv.Att → Bool) (lb : Array Value) (g : Nat) (ao : Option Addr) (cap : Nat) (l : List Gv.Att) (w : World) (eg : ∀ args w, (callFunc g args).run Tryz.prog w = .ok (.enter g args) w) (hl : AttsAt S w (.slice ao l.length cap) l) (hm : l.length ≤ maxLen)
    (hp : ∀ W x, Below w.heap.size w W → Calls Tryz.prog g (#[.agg (attArr x)] ++ lb) W fun e w' => e = .returned (.bool (p x)) ∧ Below W.heap.size W w') :
    Calls Tryz.prog 122 #[.slice ao l.length cap, .func (.func g) #[] lb] w fun e w' => e = .returned (.int .i64 (idxOf p 0 l)) ∧ Below w.heap.size w w' := by
  unfold maxLen at hm
  go_enter Tryz.func122, Tryz.ntmps122
  go_wp2
  go_loopg [5, 8] l.length (fun gg _ s8 wr => ∃ kk : Nat, kk ≤ l.length ∧ l.length - kk ≤ gg ∧ s8 = .int .i64 kk ∧ Hid (Below w.heap.size w wr) ∧ Hid (∀ j (h : j < l.length), j < kk → p l[j] = false))
  case atStart => exact ⟨0, Nat.zero_le _, by omega, rfl, Lib.hid (Below.refl _ w), Lib.hid (fun j _ hj => absurd hj (Nat.not_lt_zero _))⟩
  case round =>
    obtain ⟨kk, hkk, hg, rfl, BW, A⟩ := hrel
    by_cases hlt : kk < l.length
    · have hltz : (kk : Int) < (l.length : Int) := by omega
      have hcall := hp wr l[kk] BW.out
      obtain ⟨b, off, rfl, p0, p1, p2⟩ := (hl.stay (stay_below BW.out)).cells hlt (sp := l[kk].space) (nm := l[kk].name) (va := l[kk].value) rfl
      have hnone := fun (hq : p l[kk] = false) => Lib.hid (show ∀ j (h : j < l.length), j < kk + 1 → p l[j] = false from fun j h hj => by
        by_cases e : j = kk
        · subst e; exact hq
        · exact A.out j h (by omega))
      have hhit := fun (hq : p l[kk] = true) => Lib.hid (idxOf_at p l 0 kk hlt A.out hq)
      replace hl := Lib.hid hl
      unfold attArr at hcall
      generalize l[kk].space = us at *
      generalize l[kk].name = un at *
      generalize l[kk].value = uv at *
      generalize p l[kk] = q at *
      cases q with
      | true =>
        have hx := hhit rfl
        clear hnone hhit hp
        go_wp2_with fail
        (with_reducible refine hcall.mono ?_); rintro e w' ⟨rfl, hb'⟩
        go_wp2_with fail
        go_ret
        exact ⟨by rw [hx.out]; simp, BW.out.trans (hb'.mono BW.out.size)⟩
      | false =>
        have hx := hnone rfl
        clear hnone hhit
        replace hp := Lib.hid hp
        go_wp2_with fail
        (with_reducible refine hcall.mono ?_); rintro e w' ⟨rfl, hb'⟩
        go_wp2_with fail
        go_roundg (l.length - (kk + 1))
        case measure => omega
        case rel => exact ⟨kk + 1, by omega, by omega, by go_num, Lib.hid (BW.out.trans (hb'.mono BW.out.size)), hx⟩
    · have hltz : ¬ (kk : Int) < (l.length : Int) := by omega
      have hx := Lib.hid (idxOf_none p l 0 (fun j h => A.out j h (by omega)))
      clear hlt hp hl
      go_wp2_with fail
      go_ret
      exact ⟨by rw [hx.out]; rfl, BW.out⟩

set_option maxRecDepth 100000 in
set_option maxHeartbeats 1600000 in
/-- WHETHER ONE OF THE ATTRIBUTES has that space and that name. -/
theorem has_any {S : Nat → Prop} (ao : Option Addr) (cap : Nat) (l : List Gv.Att) (sp nm : ByteArray) (r : Bool) (hr : r = l.any fun x => decide (x.space = sp ∧ x.name = nm)) (w : World) (hl : AttsAt S w (.slice ao l.length cap) l) (hm : l.length ≤ maxLen) :
    Calls Tryz.prog 84 #[.slice ao l.length cap, .string sp, .string nm] w fun e w' => e = .returned (.bool r) ∧ Below w.heap.size w w' := by
  have hw := ((Below.refl w.heap.size w).alloc (Nat.le_refl _) (.cells #[.string sp] 9)).alloc (by simp) (.cells #[.string nm] 9)
  have k1 := (Cells.new w 9 #[.string sp]).alloc (.cells #[.string nm] 9)
  have k2 := Cells.new (w.alloc (.cells #[.string sp] 9)) 9 #[.string nm]
  rw [World.size_alloc] at k2
  have c1 := k1.cell (i := 0) (v := .string sp) rfl
  have c2 := k2.cell (i := 0) (v := .string nm) rfl
  have hl2 := hl.stay (stay_below hw)
  have hcont : Calls Tryz.prog 107 #[.slice ao l.length cap, .func (.func 108) #[] #[.pointer (some ⟨w.heap.size, 0, none⟩), .pointer (some ⟨w.heap.size + 1, 0, none⟩)]] ((w.alloc (.cells #[.string sp] 9)).alloc (.cells #[.string nm] 9)) fun e w' => e = .returned (.bool r) ∧ Below ((w.alloc (.cells #[.string sp] 9)).alloc (.cells #[.string nm] 9)).heap.size ((w.alloc (.cells #[.string sp] 9)).alloc (.cells #[.string nm] 9)) w' := by
    generalize (w.alloc (.cells #[.string sp] 9)).alloc (.cells #[.string nm] 9) = w1 at *
    have hcall := hasIndex_any (fun x => decide (x.space = sp ∧ x.name = nm)) #[.pointer (some ⟨w.heap.size, 0, none⟩), .pointer (some ⟨w.heap.size + 1, 0, none⟩)] 108 ao cap l w1 (enters_of Tryz.func108 (by kernel_rfl) rfl) hl2 hm (fun W x hb => has1_any x sp nm _ rfl w.heap.size (w.heap.size + 1) W ((hb.cell (World.block_lt_of_cell? w1 _ c1)).trans c1) ((hb.cell (World.block_lt_of_cell? w1 _ c2)).trans c2))
    have hx := Lib.hid (hr.trans (idxOf_any (fun x => decide (x.space = sp ∧ x.name = nm)) l 0).symm)
    generalize idxOf (fun x => decide (x.space = sp ∧ x.name = nm)) 0 l = k at *
    clear hl2 c1 c2 hw hl hr
    go_enter Tryz.func107, Tryz.ntmps107
    go_wp2_with fail
    (with_reducible refine hcall.mono ?_); rintro e w2 ⟨rfl, b⟩
    go_wp2
    go_ret
    exact ⟨ret_bool hx.out.symm, b⟩
  clear hl2 hl c1 c2 hr
  replace k1 := Lib.hid k1
  replace k2 := Lib.hid k2
  go_enter Tryz.func84, Tryz.ntmps84
  go_wp2_with fail
  (with_reducible refine hcont.mono ?_); rintro e w2 ⟨rfl, b⟩
  go_wp2
  go_ret
  exact ⟨rfl, hw.trans (b.mono hw.size)⟩

theorem atts_take {S : Nat → Prop} {w : World} {ao : Option Addr} {cap : Nat} {l : List Gv.Att} (h : AttsAt S w (.slice ao l.length cap) l) (i : Nat) (hi : i ≤ l.length) (cap' : Nat) (hc' : i ≤ cap') : AttsAt S w (.slice ao i cap') (l.take i) := by
  obtain ⟨ao', cap0, e0, _, c⟩ := h
  cases e0
  refine ⟨ao, cap', by rw [List.length_take, Nat.min_eq_left hi], by rw [List.length_take, Nat.min_eq_left hi]; exact hc', fun j hj => ?_⟩
  rw [List.length_take, Nat.min_eq_left hi] at hj
  obtain ⟨b, off, e1, e2, e3⟩ := c j (by omega)
  refine ⟨b, off, e1, e2, ?_⟩
  rw [List.getElem_take]
  exact e3
end Go.Proofs.YtegaidfmkfnbnaaGreatDoor
namespace Go.Proofs.YtegaidfmkfnbnaaGreatDoor
open Go.RowKit

theorem checkN_of (l : List UInt8) : G.checkN l = if G.check l = true then 0 else 50 := by
  unfold G.check
  by_cases h : G.span G.char l < l.length
  · rw [check_no h, if_neg (by simp; omega)]
  · have := G.span_le G.char l
    rw [check_yes h, if_pos (by simp; omega)]

set_option maxRecDepth 100000 in
set_option maxHeartbeats 1600000 in
theorem isText_any (s : ByteArray) (r : Bool) (hr : r = G.check s.data.toList) (w : World) (hs : s.size ≤ 1000000) (hE : Env w) :
    Calls Tryz.prog 49 #[.string s] w fun e w' => e = .returned (.bool r) ∧ Below w.heap.size w w' := by
  have c := gCheck_any s w hs hE
  rw [checkN_of, ← hr] at c
  clear hr hE
  go_enter Tryz.func49, Tryz.ntmps49
  cases r with
  | true =>
    rw [if_pos rfl] at c
    go_wp2_with fail
    (with_reducible refine c.mono ?_); rintro e w1 ⟨rfl, b⟩
    go_wp2
    go_ret
    exact ⟨rfl, b⟩
  | false =>
    rw [if_neg (by simp)] at c
    go_wp2_with fail
    (with_reducible refine c.mono ?_); rintro e w1 ⟨rfl, b⟩
    go_wp2
    go_ret
    exact ⟨rfl, b⟩

set_option maxRecDepth 100000 in
set_option maxHeartbeats 1600000 in
theorem has13_any (s : ByteArray) (r : Bool) (hr : r = Sc.hasIn [13] s.data.toList) (w : World) (hs : s.size ≤ 1000000) (hE : Env w) :
    Calls Tryz.prog 54 #[.string s] w fun e w' => e = .returned (.bool r) ∧ w' = w := by
  have c := contains_any s ⟨#[13]⟩ r w hs hE (by decide) hr
  clear hr hE
  go_enter Tryz.func54, Tryz.ntmps54
  go_wp2_with fail
  (with_reducible refine c.mono ?_); rintro e w1 ⟨rfl, rfl⟩
  go_wp2
  go_ret
  exact ⟨rfl, rfl⟩

/-- What a chain of conditions comes to. -/
theorem ret_of {a b : Bool} (h : a = b) : Ending.returned (.bool b) = .returned (.bool a) := by rw [h]

set_option maxRecDepth 100000 in
set_option maxHeartbeats 1600000 in
theorem isComment_any (s : ByteArray) (r : Bool) (hr : r = (!Sc.hasIn [45, 45] s.data.toList && decide (s.data.toList.getLast? ≠ some 45) && !Sc.hasIn [13] s.data.toList)) (w : World) (hs : s.size ≤ 1000000) (hE : Env w) :
    Calls Tryz.prog 27 #[.string s] w fun e w' => e = .returned (.bool r) ∧ w' = w := by
  have c1 := contains_any s ⟨#[45, 45]⟩ (Sc.hasIn [45, 45] s.data.toList) w hs hE (by decide) rfl
  have c2 := Tryz.strings_HasSuffix s ⟨#[45]⟩ w (by omega)
  rw [show (⟨#[45]⟩ : ByteArray).data.toList = [45] from rfl, suffix_last] at c2
  have c3 := has13_any s (Sc.hasIn [13] s.data.toList) rfl w hs hE
  rw [show decide (s.data.toList.getLast? ≠ some 45) = !decide (s.data.toList.getLast? = some 45) by simp] at hr
  clear hE
  generalize Sc.hasIn [45, 45] s.data.toList = p1 at *
  generalize decide (s.data.toList.getLast? = some 45) = p2 at *
  generalize Sc.hasIn [13] s.data.toList = p3 at *
  go_enter Tryz.func27, Tryz.ntmps27
  cases p1 with
  | true =>
    replace hr := Lib.hid hr
    clear c2 c3
    go_wp2_with fail
    (with_reducible refine c1.mono ?_); rintro e w1 ⟨rfl, rfl⟩
    go_wp2
    go_ret
    exact ⟨ret_of hr.out, rfl⟩
  | false =>
    cases p2 with
    | true =>
      replace hr := Lib.hid hr
      clear c3
      go_wp2_with fail
      (with_reducible refine c1.mono ?_); rintro e w1 ⟨rfl, rfl⟩
      go_wp2_with fail
      (with_reducible refine c2.mono ?_); rintro e w1 ⟨rfl, rfl⟩
      go_wp2
      go_ret
      exact ⟨ret_of hr.out, rfl⟩
    | false =>
      cases p3 with
      | true =>
        replace hr := Lib.hid hr
        go_wp2_with fail
        (with_reducible refine c1.mono ?_); rintro e w1 ⟨rfl, rfl⟩
        go_wp2_with fail
        (with_reducible refine c2.mono ?_); rintro e w1 ⟨rfl, rfl⟩
        go_wp2_with fail
        (with_reducible refine c3.mono ?_); rintro e w1 ⟨rfl, rfl⟩
        go_wp2
        go_ret
        exact ⟨ret_of hr.out, rfl⟩
      | false =>
        replace hr := Lib.hid hr
        go_wp2_with fail
        (with_reducible refine c1.mono ?_); rintro e w1 ⟨rfl, rfl⟩
        go_wp2_with fail
        (with_reducible refine c2.mono ?_); rintro e w1 ⟨rfl, rfl⟩
        go_wp2_with fail
        (with_reducible refine c3.mono ?_); rintro e w1 ⟨rfl, rfl⟩
        go_wp2
        go_ret
        exact ⟨ret_of hr.out, rfl⟩

set_option maxRecDepth 100000 in
set_option maxHeartbeats 1600000 in
theorem isTarget_any (s : ByteArray) (r : Bool) (hr : r = (P.plainB s && decide (s.data.toList.map T.lower ≠ [120, 109, 108]))) (w : World) (hs : s.size ≤ 1000000) (hE : Env w) :
    Calls Tryz.prog 28 #[.string s] w fun e w' => e = .returned (.bool r) ∧ Below w.heap.size w w' := by
  have c1 := gPlain_any s w hs hE
  have c2 := fun w1 (b : Below w.heap.size w w1) => isXml_any s w1 hs (hE.on b) (decide (s.data.toList.map T.lower = [120, 109, 108])) rfl
  rw [show decide (s.data.toList.map T.lower ≠ [120, 109, 108]) = !decide (s.data.toList.map T.lower = [120, 109, 108]) by simp] at hr
  unfold P.plainB at hr
  clear hE
  generalize G.plain s.data.toList = p1 at *
  generalize decide (s.data.toList.map T.lower = [120, 109, 108]) = p2 at *
  go_enter Tryz.func28, Tryz.ntmps28
  cases p1 with
  | false =>
    replace hr := Lib.hid hr
    clear c2
    go_wp2_with fail
    (with_reducible refine c1.mono ?_); rintro e w1 ⟨rfl, b⟩
    go_wp2
    go_ret
    exact ⟨ret_of hr.out, b⟩
  | true =>
    cases p2 with
    | true =>
      replace hr := Lib.hid hr
      go_wp2_with fail
      (with_reducible refine c1.mono ?_); rintro e w1 ⟨rfl, b⟩
      go_wp2_with fail
      (with_reducible refine (c2 _ b).mono ?_); rintro e w2 ⟨rfl, b2⟩
      go_wp2
      go_ret
      exact ⟨ret_of hr.out, b.trans (b2.mono b.size)⟩
    | false =>
      replace hr := Lib.hid hr
      go_wp2_with fail
      (with_reducible refine c1.mono ?_); rintro e w1 ⟨rfl, b⟩
      go_wp2_with fail
      (with_reducible refine (c2 _ b).mono ?_); rintro e w2 ⟨rfl, b2⟩
      go_wp2
      go_ret
      exact ⟨ret_of hr.out, b.trans (b2.mono b.size)⟩

theorem skip_is {s : ByteArray} : (decide (T.skip s.data.toList = s.data.toList) = true ∧ Gv.str (T.skip s.data.toList) = s) ∨ (decide (T.skip s.data.toList = s.data.toList) = false ∧ ¬ Gv.str (T.skip s.data.toList) = s) := by
  by_cases h : T.skip s.data.toList = s.data.toList
  · exact .inl ⟨by simpa using h, by rw [h, Sc.str_lst]⟩
  · refine .inr ⟨by simpa using h, fun e => h ?_⟩
    have := congrArg (fun x => x.data.toList) e
    simpa only [Gv.str_list] using this
set_option maxRecDepth 100000 in
set_option maxHeartbeats 1600000 in
theorem isInstruction_any (s : ByteArray) (r : Bool) (hr : r = (!Sc.hasIn [63, 62] s.data.toList && decide (T.skip s.data.toList = s.data.toList) && !Sc.hasIn [13] s.data.toList)) (w : World) (hs : s.size ≤ 1000000) (hE : Env w) :
    Calls Tryz.prog 29 #[.string s] w fun e w' => e = .returned (.bool r) ∧ Below w.heap.size w w' := by
  have c1 := contains_any s ⟨#[63, 62]⟩ (Sc.hasIn [63, 62] s.data.toList) w hs hE (by decide) rfl
  have c2 := has13_any s (Sc.hasIn [13] s.data.toList) rfl w hs hE
  have c3 := trimLeft_any s (Gv.str (T.skip s.data.toList)) w (Gv.str_list _)
  have hsk := skip_is (s := s)
  clear hE
  generalize Sc.hasIn [63, 62] s.data.toList = p1 at *
  generalize decide (T.skip s.data.toList = s.data.toList) = p3 at *
  generalize Sc.hasIn [13] s.data.toList = p2 at *
  generalize Gv.str (T.skip s.data.toList) = t at *
  go_enter Tryz.func29, Tryz.ntmps29
  cases p1 with
  | true =>
    replace hr := Lib.hid hr
    clear c2 c3 hsk
    go_wp2_with fail
    (with_reducible refine c1.mono ?_); rintro e w1 ⟨rfl, rfl⟩
    go_wp2
    go_ret
    exact ⟨ret_of hr.out, Below.refl _ _⟩
  | false =>
    cases p2 with
    | true =>
      rw [show (!false && p3 && !true) = false by cases p3 <;> rfl] at hr
      replace hr := Lib.hid hr
      clear c3 hsk
      go_wp2_with fail
      (with_reducible refine c1.mono ?_); rintro e w1 ⟨rfl, rfl⟩
      go_wp2_with fail
      (with_reducible refine c2.mono ?_); rintro e w1 ⟨rfl, rfl⟩
      go_wp2
      go_ret
      exact ⟨ret_of hr.out, Below.refl _ _⟩
    | false =>
      rcases hsk with ⟨rfl, e⟩ | ⟨rfl, e⟩
      · have z := sn_is e
        have y := congrArg ByteArray.toList e
        replace hr := Lib.hid hr
        clear e
        go_wp2_with fail
        (with_reducible refine c1.mono ?_); rintro e w1 ⟨rfl, rfl⟩
        go_wp2_with fail
        (with_reducible refine c2.mono ?_); rintro e w1 ⟨rfl, rfl⟩
        go_wp2_with fail
        (with_reducible refine c3.mono ?_); rintro e w1 ⟨rfl, b⟩
        go_wp2
        go_ret
        exact ⟨ret_of hr.out, b⟩
      · have z := sn_isnt e
        have y := sn_prop e
        replace hr := Lib.hid hr
        clear e
        go_wp2_with fail
        (with_reducible refine c1.mono ?_); rintro e w1 ⟨rfl, rfl⟩
        go_wp2_with fail
        (with_reducible refine c2.mono ?_); rintro e w1 ⟨rfl, rfl⟩
        go_wp2_with fail
        (with_reducible refine c3.mono ?_); rintro e w1 ⟨rfl, b⟩
        go_wp2
        go_ret
        exact ⟨ret_of hr.out, b⟩
end Go.Proofs.YtegaidfmkfnbnaaGreatDoor
