/-
  What the document's own word of a text without space about it comes to: Trim; Skip and Blank.
  How much there is in a tree.
  A node handed over by value; the document's words of a node, said of it.
  What the document's own words of references, texts, points of time and links come to: iri, div, text, moment, Rel, link.
  What the document's own words of text constructs come to: div, text.
-/
import Derived.Test.YtbaclacfadkjdaaGreatDoorG20
import Derived.Test.YtbaclacfadkjdaaGreatDoorG05
import Derived.Test.YtbaclacfadkjdaaGreatDoorG01
import Derived.Test.YtbaclacfadkjdaaGreatDoorG07
import Derived.Test.YtbaclacfadkjdaaGreatDoorG09
import Derived.Test.YtbaclacfadkjdaaGreatDoorG11
namespace Go.Proofs.YtbaclacfadkjdaaGreatDoor
open Go.RowKit
theorem Am.space_is (b : UInt8) : Am.space b = G.space (b.toNat : Int) := by
  have : ∀ n, n < 256 → Am.space (UInt8.ofNat n) = G.space ((UInt8.ofNat n).toNat : Int) := by decide +kernel
  have := this b.toNat b.toNat_lt
  rwa [UInt8.ofNat_toNat] at this
theorem Am.skip_is (l : List UInt8) : T.skip l = l.dropWhile Am.space := by
  unfold T.skip
  congr 1
  funext b
  exact (Am.space_is b).symm
theorem Am.blank_is (l : List UInt8) : T.blankL l = l.all Am.space := by
  unfold T.blankL
  congr 1
  funext b
  exact (Am.space_is b).symm
def Am.trimR (l : List UInt8) : List UInt8 := (l.reverse.dropWhile Am.space).reverse
theorem Am.trim_is (l : List UInt8) : Am.trim l = Am.trimR (l.dropWhile Am.space) := rfl
theorem Am.trimR_snoc (l : List UInt8) (b : UInt8) : Am.trimR (l ++ [b]) = if Am.space b = true then Am.trimR l else l ++ [b] := by
  unfold Am.trimR
  rw [List.reverse_append, List.reverse_singleton, List.singleton_append, List.dropWhile_cons]
  split
  · rfl
  · simp
theorem Am.trim_le (l : List UInt8) : (Am.trim l).length ≤ l.length := by
  rw [Am.trim_is]
  unfold Am.trimR
  rw [List.length_reverse]
  have h1 := (List.dropWhile_sublist (p := Am.space) (l := (l.dropWhile Am.space).reverse)).length_le
  have h2 := (List.dropWhile_sublist (p := Am.space) (l := l)).length_le
  rw [List.length_reverse] at h1
  omega
def trS (s : ByteArray) : ByteArray := ⟨(Am.trim s.data.toList).toArray⟩
theorem trS_list (s : ByteArray) : (trS s).data.toList = Am.trim s.data.toList := by simp [trS]
theorem trS_size (s : ByteArray) : (trS s).size ≤ s.size := by
  have := Am.trim_le s.data.toList
  rw [← trS_list, list_len, list_len] at this
  exact this
def trR (s : ByteArray) : ByteArray := ⟨(Am.trimR s.data.toList).toArray⟩
theorem last_cons {t : ByteArray} {k : Nat} (h : t.size = k + 1) : t.data.toList = (t.extract 0 k).data.toList ++ [t[k]] := by
  rw [take_list]
  have h1 : k < t.data.toList.length := by rw [list_len]; omega
  have := List.take_succ_eq_append_getElem h1
  rw [List.take_of_length_le (by rw [list_len]; omega)] at this
  exact this
set_option maxRecDepth 100000 in
set_option maxHeartbeats 1600000 in
theorem refTrim_any (s : ByteArray) (w : World) (hs : s.size ≤ maxLen) :
    Calls Tryz.prog 42 #[.string s] w fun e w' => e = .returned (.string (trS s)) ∧ w = w' := by
  have hsm : s.size ≤ 9223372036854775807 := hs
  have hq : Hid (trS s = trR (Rt.skB s)) := Lib.hid (by
    apply bytes_eq
    rw [trS_list, Am.trim_is, ← Am.skip_is]
    unfold trR Rt.skB
    simp)
  have hz := Rt.skB_size s
  generalize trS s = Q at *
  go_enter Tryz.func42, Tryz.ntmps42
  go_wp2_with fail
  (with_reducible refine (refSkip5_any s _ hs).mono ?_); rintro e w1 ⟨rfl, rfl⟩
  generalize Rt.skB s = u at *
  go_wp2_with fail
  go_loop [0] (fun v => ∃ t : ByteArray, v = .string t ∧ t.size ≤ s.size ∧ Hid (Q = trR t)) (fun v => strLen v)
  case atStart => exact ⟨u, rfl, hz, hq⟩
  case round =>
    obtain ⟨t, rfl, ht, hr⟩ := hrel
    by_cases h0 : t.size = 0
    · obtain rfl : t = ByteArray.empty := ByteArray.size_eq_zero_iff.1 h0
      go_wp2_with fail
      go_ret
      exact ⟨ret_str (by rw [hr.out]; rfl), rfl⟩
    · obtain ⟨k, hk⟩ : ∃ k, t.size = k + 1 := ⟨t.size - 1, by omega⟩
      have hlt : k < t.size := by omega
      have hl := last_cons hk
      have hst : Am.trimR t.data.toList = if Am.space t[k] = true then Am.trimR (t.extract 0 k).data.toList else t.data.toList := by
        rw [hl, Am.trimR_snoc, ← hl]
      rw [Am.space_is] at hst
      have hk1 : (t.size : Int) - 1 = (k : Int) := by omega
      have hk2 : ¬ (t.size : Int) ≤ 0 := by omega
      have hb8 := (t[k]).toNat_lt
      have hk3 : (k : Int) ≤ (t.size : Int) := by omega
      have hex : (t.extract 0 k).size ≤ t.size := by rw [ByteArray.size_extract]; omega
      have hex2 : (t.extract 0 k).size < t.size := by rw [ByteArray.size_extract]; omega
      have hsp := Lib.hid (fun W => refSpace_any ((t[k]).toNat : Int) W)
      replace hk := Lib.hid hk
      cases hb : G.space ((t[k]).toNat : Int)
      · rw [hb] at hst hsp
        have hr2 : Hid (Q = t) := Lib.hid (by rw [hr.out]; unfold trR; rw [hst]; rfl)
        replace hb := Lib.hid hb
        clear hst hl hr
        go_wp2_with fail
        (with_reducible refine (hsp.out _).mono ?_); rintro e w1 ⟨rfl, rfl⟩
        go_wp2_with fail
        go_ret
        exact ⟨ret_str hr2.out.symm, rfl⟩
      · rw [hb] at hst hsp
        have hr2 : Hid (Q = trR (t.extract 0 k)) := Lib.hid (by rw [hr.out]; unfold trR; rw [hst]; rfl)
        replace hb := Lib.hid hb
        clear hst hl hr
        go_wp2_with fail
        (with_reducible refine (hsp.out _).mono ?_); rintro e w1 ⟨rfl, rfl⟩
        go_wp2_with fail
        go_round
        case rel => exact ⟨_, rfl, by omega, hr2⟩
        case measure => simp only [strLen]; omega
end Go.Proofs.YtbaclacfadkjdaaGreatDoor
namespace Go.Proofs.YtbaclacfadkjdaaGreatDoor
namespace Gv
def attW (a : Att) : Nat := a.space.size + a.name.size + a.value.size
mutual
def wt : Node → Nat
  | .mk _ sp nm as' kids d => 1 + as'.length + d.size + sp.size + nm.size + (as'.map attW).sum + wts kids
def wts : List Node → Nat
  | [] => 0
  | n :: l => wt n + wts l
end
theorem wt_pos (n : Node) : 1 ≤ wt n := by
  cases n
  unfold wt
  omega
theorem wts_append : ∀ a b : List Node, wts (a ++ b) = wts a + wts b
  | [], b => by simp [wts]
  | n :: a, b => by rw [List.cons_append, wts, wts, wts_append a b]; omega
theorem wts_take {l : List Node} {j : Nat} (h : j < l.length) : wts (l.take (j + 1)) = wts (l.take j) + wt l[j] := by
  rw [List.take_succ_eq_append_getElem h, wts_append]
  simp [wts]
theorem wts_len : ∀ l : List Node, l.length ≤ wts l
  | [] => Nat.zero_le _
  | n :: l => by have := wts_len l; have := wt_pos n; rw [wts, List.length_cons]; omega
theorem wts_mem : ∀ {l : List Node} {n : Node}, n ∈ l → wt n ≤ wts l
  | [], n, h => by cases h
  | m :: l, n, h => by
    rw [wts]
    rcases List.mem_cons.1 h with rfl | h
    · omega
    · have := wts_mem h; omega
theorem attW_mem : ∀ {l : List Att} {a : Att}, a ∈ l → attW a ≤ (l.map attW).sum
  | [], a, h => by cases h
  | m :: l, a, h => by
    rw [List.map_cons, List.sum_cons]
    rcases List.mem_cons.1 h with rfl | h
    · omega
    · have := attW_mem h; omega
end Gv
end Go.Proofs.YtbaclacfadkjdaaGreatDoor
namespace Go.Proofs.YtbaclacfadkjdaaGreatDoor
open Go.RowKit
def Nd (w : World) (A : Array Value) (n : Gv.Node) : Prop := ∃ S, NodeAt S w A.toList n
theorem Nd.on {w w' : World} {A : Array Value} {n : Gv.Node} (h : Nd w A n) (hb : Below w.heap.size w w') : Nd w' A n := by
  obtain ⟨S, h⟩ := h
  exact ⟨S, h.on hb⟩
theorem Nd.form {w : World} {A : Array Value} {n : Gv.Node} (h : Nd w A n) : ∃ (S : Nat → Prop) (k : Int) (sp nm d : ByteArray) (as' : List Gv.Att) (kids : List Gv.Node) (ao bo : Option Addr) (ca cb : Nat),
    n = .mk k sp nm as' kids d ∧ A = #[.int .i64 k, .string sp, .string nm, .slice ao as'.length ca, .slice bo kids.length cb, .string d] ∧ AttsAt S w (.slice ao as'.length ca) as' ∧ KidsAt S w (.slice bo kids.length cb) kids ∧ as'.length ≤ maxLen ∧ kids.length ≤ maxLen := by
  obtain ⟨S, h⟩ := h
  obtain ⟨k, sp, nm, d, as', kids, ao, bo, ca, cb, cs, rfl, hA, ha, hk, hn, h1, h2⟩ := h.open'
  refine ⟨S, k, sp, nm, d, as', kids, ao, bo, ca, cb, rfl, ?_, ha, ⟨cs, hk, hn⟩, h1, h2⟩
  cases A
  simp only at hA
  rw [hA]
theorem KidsAt.nd {S : Nat → Prop} {w : World} {ao : Option Addr} {m cap : Nat} {l : List Gv.Node} (h : KidsAt S w (.slice ao m cap) l) {j : Nat} (hj : j < l.length) : ∃ (b off : Nat) (k : Int) (sp nm d : ByteArray) (x3 x4 : Value), ao = some ⟨b, off, none⟩ ∧
    w.cell? ⟨b, off + j * 6, none⟩ = some (.int .i64 k) ∧ w.cell? ⟨b, off + j * 6 + 1, none⟩ = some (.string sp) ∧ w.cell? ⟨b, off + j * 6 + 2, none⟩ = some (.string nm) ∧ w.cell? ⟨b, off + j * 6 + 3, none⟩ = some x3 ∧ w.cell? ⟨b, off + j * 6 + 4, none⟩ = some x4 ∧ w.cell? ⟨b, off + j * 6 + 5, none⟩ = some (.string d) ∧
    Nd w #[.int .i64 k, .string sp, .string nm, x3, x4, .string d] l[j] ∧ (∃ po pn pc, x3 = .slice po pn pc) ∧ (∃ qo qn qc, x4 = .slice qo qn qc) ∧ Am.kindOf l[j] = k ∧ (Am.dataOf l[j]) = d := by
  obtain ⟨b, off, k, sp, nm, d, as', kids, po, qo, pc, qc, e, e1, c0, c1, c2, c3, c4, c5, hn⟩ := h.node hj
  rw [e1]
  exact ⟨b, off, k, sp, nm, d, _, _, e, c0, c1, c2, c3, c4, c5, ⟨S, hn⟩, ⟨_, _, _, rfl⟩, ⟨_, _, _, rfl⟩, rfl, rfl⟩
theorem KidsAt.nd1 {S : Nat → Prop} {w : World} {b off m cap : Nat} {l : List Gv.Node} (h : KidsAt S w (.slice (some ⟨b, off, none⟩) m cap) l) {j : Nat} (hj : j < l.length) : ∃ (k : Int) (sp nm d : ByteArray) (x3 x4 : Value),
    w.cell? ⟨b, off + j * 6, none⟩ = some (.int .i64 k) ∧ w.cell? ⟨b, off + j * 6 + 1, none⟩ = some (.string sp) ∧ w.cell? ⟨b, off + j * 6 + 2, none⟩ = some (.string nm) ∧ w.cell? ⟨b, off + j * 6 + 3, none⟩ = some x3 ∧ w.cell? ⟨b, off + j * 6 + 4, none⟩ = some x4 ∧ w.cell? ⟨b, off + j * 6 + 5, none⟩ = some (.string d) ∧
    Nd w #[.int .i64 k, .string sp, .string nm, x3, x4, .string d] l[j] ∧ (∃ po pn pc, x3 = .slice po pn pc) ∧ (∃ qo qn qc, x4 = .slice qo qn qc) := by
  obtain ⟨b', off', k, sp, nm, d, x3, x4, e, d0, d1, d2, d3, d4, d5, hN, h3, h4, -, -⟩ := h.nd hj
  have e' := Option.some.inj e
  have eb : b = b' := congrArg Addr.block e'
  have eo : off = off' := congrArg Addr.off e'
  subst eb
  subst eo
  exact ⟨k, sp, nm, d, x3, x4, d0, d1, d2, d3, d4, d5, hN, h3, h4⟩
theorem nd_is (n : Gv.Node) {A : Array Value} (s m : ByteArray) (w : World) (h : Nd w A n) :
    Calls Tryz.prog 21 #[.agg A, .string s, .string m] w fun e w' => e = .returned (.bool (Am.isEl n s.data.toList m.data.toList)) ∧ Below w.heap.size w w' := by
  obtain ⟨S, k, sp, nm, d, as', kids, ao, bo, ca, cb, rfl, rfl, ha, hk, h1, h2⟩ := h.form
  exact refIs_any k sp nm d s m _ _ as' kids w
theorem nd_plain (n : Gv.Node) {A : Array Value} (w : World) (h : Nd w A n) :
    Calls Tryz.prog 40 #[.agg A] w fun e w' => e = .returned (.bool (Am.plain n)) ∧ Below w.heap.size w w' := by
  obtain ⟨S, k, sp, nm, d, as', kids, ao, bo, ca, cb, rfl, rfl, ha, hk, h1, h2⟩ := h.form
  exact refPlainA_any k sp nm d _ as' kids w hk h2
theorem nd_attr (n : Gv.Node) {A : Array Value} (name : ByteArray) (w : World) (h : Nd w A n) :
    Calls Tryz.prog 44 #[.agg A, .string name] w fun e w' => e = .returned (.tuple #[.string (atA (Am.attr n name.data.toList)), .bool (atB (Am.attr n name.data.toList))]) ∧ Below w.heap.size w w' := by
  obtain ⟨S, k, sp, nm, d, as', kids, ao, bo, ca, cb, rfl, rfl, ha, hk, h1, h2⟩ := h.form
  exact refAttr_any k sp nm d name _ as' kids w ha h1
theorem Gv.wt_mk (k : Int) (s nm : ByteArray) (a : List Gv.Att) (kids : List Gv.Node) (d : ByteArray) : Gv.wt (.mk k s nm a kids d) = 1 + a.length + d.size + s.size + nm.size + (a.map Gv.attW).sum + Gv.wts kids := by rw [Gv.wt]
namespace Am
theorem mem_kids {n x : Gv.Node} (h : x ∈ kidsOf n) : Gv.wt x ≤ Gv.wt n := by
  cases n with
  | mk k s nm a kids d =>
    have := Gv.wts_mem (show x ∈ kids from h)
    rw [Gv.wt_mk]
    omega
theorem mem_all {n x : Gv.Node} {name : List UInt8} (h : x ∈ all n name) : Gv.wt x ≤ Gv.wt n := mem_kids (List.mem_filter.1 h).1
theorem data_wt (n : Gv.Node) : (dataOf n).size ≤ Gv.wt n := by
  cases n with
  | mk k s nm a kids d =>
    rw [Gv.wt_mk]
    show d.size ≤ _
    omega
theorem text_wt (n : Gv.Node) : (text n).length ≤ Gv.wt n := by
  cases n with
  | mk k s nm a kids d =>
    have key : ∀ l : List Gv.Node, (l.flatMap bit).length ≤ Gv.wts l := by
      intro l
      induction l with
      | nil => simp [Gv.wts]
      | cons x l ih =>
        rw [List.flatMap_cons, List.length_append, Gv.wts]
        have h1 : (bit x).length ≤ Gv.wt x := by
          unfold bit
          split
          · rw [list_len]; exact data_wt x
          · simp
        omega
    rw [text_is]
    have := key kids
    rw [Gv.wt_mk]
    show (kids.flatMap bit).length ≤ _
    omega
theorem attr_wt {n : Gv.Node} {name v : List UInt8} (h : attr n name = some v) : v.length ≤ Gv.wt n := by
  cases n with
  | mk k s nm a kids d =>
    unfold attr at h
    obtain ⟨x, hx, rfl⟩ := Option.map_eq_some_iff.1 h
    have hm : x ∈ a := List.mem_of_find?_eq_some hx
    have := Gv.attW_mem hm
    unfold Gv.attW at this
    rw [list_len, Gv.wt_mk]
    have e : (a.map Gv.attW).sum = (a.map fun a => a.space.size + a.name.size + a.value.size).sum := rfl
    omega
theorem kids_wt (n : Gv.Node) : (kidsOf n).length ≤ Gv.wt n := by
  cases n with
  | mk k s nm a kids d =>
    have := Gv.wts_len kids
    rw [Gv.wt_mk]
    show kids.length ≤ _
    omega
end Am
theorem atA_size {n : Gv.Node} {name : List UInt8} : (atA (Am.attr n name)).size ≤ Gv.wt n := by
  unfold atA
  cases h : Am.attr n name with
  | none => simp [ByteArray.size]
  | some v =>
    have := Am.attr_wt h
    simp only [Option.getD_some]
    rw [← list_len]
    simpa using this
def txS (n : Gv.Node) : ByteArray := ⟨(Am.text n).toArray⟩
theorem txS_list (n : Gv.Node) : (txS n).data.toList = Am.text n := by simp [txS]
theorem txS_size (n : Gv.Node) : (txS n).size ≤ Gv.wt n := by rw [← list_len, txS_list]; exact Am.text_wt n
theorem nd_text (n : Gv.Node) {A : Array Value} (w : World) (h : Nd w A n) (hz : Gv.wt n ≤ 1000000) :
    Calls Tryz.prog 13 #[.agg A] w fun e w' => e = .returned (.string (txS n)) ∧ Below w.heap.size w w' := by
  have ht := Am.text_wt n
  obtain ⟨S, k, sp, nm, d, as', kids, ao, bo, ca, cb, rfl, rfl, ha, hk, h1, h2⟩ := h.form
  exact refText_any k sp nm d _ as' kids w hk h2 (by omega)
theorem nd_all (n : Gv.Node) {A : Array Value} (name : ByteArray) (w : World) (h : Nd w A n) (hz : Gv.wt n ≤ 1000000) :
    Calls Tryz.prog 22 #[.agg A, .string name] w fun e w' => ∃ ao cap, e = .returned (.slice ao (Am.all n name.data.toList).length cap) ∧ KidsAt (fun _ => True) w' (.slice ao (Am.all n name.data.toList).length cap) (Am.all n name.data.toList) ∧ Below w.heap.size w w' := by
  have hk0 := Am.kids_wt n
  obtain ⟨S, k, sp, nm, d, as', kids, ao, bo, ca, cb, rfl, rfl, ha, hk, h1, h2⟩ := h.form
  exact refAll_any k sp nm d name _ as' kids w hk (by have : kids.length ≤ _ := hk0; omega)
end Go.Proofs.YtbaclacfadkjdaaGreatDoor
namespace Go.Proofs.YtbaclacfadkjdaaGreatDoor
open Go.RowKit
def Am.onD : Am.On where
  iri l whole := decide (Lc.parseE l = 0) && decide (l ≠ []) && ((Lc.parseU l).hasS || !whole)
  moment l := decide (D.paE l = 0)
  type t := (Md.parse t).map fun m => m.ty.data.toList
  low := Md.lower
set_option maxRecDepth 100000 in
set_option maxHeartbeats 3200000 in
theorem nd_iri (s : ByteArray) (whole : Bool) (w : World) (hs : s.size ≤ 1000000) :
    Calls Tryz.prog 41 #[.string s, .bool whole] w fun e w' => e = .returned (.bool (Am.onD.iri s.data.toList whole)) ∧ Below w.heap.size w w' := by
  have hq : Hid (Am.onD.iri s.data.toList whole = (decide (Lc.parseE s.data.toList = 0) && decide (s.data.toList ≠ []) && ((Lc.parseU s.data.toList).hasS || !whole))) := Lib.hid rfl
  generalize Am.onD.iri s.data.toList whole = Q at *
  have hp := Lib.hid (fun W => lParse_any s W hs)
  generalize Lc.parseU s.data.toList = u at *
  generalize Lc.parseE s.data.toList = c at *
  go_enter Tryz.func41, Tryz.ntmps41
  go_wp2_with fail
  (refine (hp.out _).mono ?_); rintro e w1 ⟨rfl, b1⟩
  have kU := Cells.new w1 83 (uArr u)
  have bU := Lib.hid (b1.trans (((Below.refl w1.heap.size w1).alloc (Nat.le_refl _) (.cells (uArr u) 83)).mono b1.size))
  obtain ⟨y0, y1, y2, y3, y4, y5, y6, y7, y8⟩ := uri_open kU
  clear y0 y1 y2 y3 y4 y6 y7 y8 kU hp
  unfold uArr at y5 bU ⊢
  go_upto_region 2 with fail
  generalize w1.alloc (.cells #[.string (Lc.str u.scheme), .string (Lc.str u.host), .string (Lc.str u.path), .string (Lc.str u.query), .string (Lc.str u.frag), .bool u.hasS, .bool u.hasH, .bool u.hasQ, .bool u.hasF] 83) = w2 at *
  by_cases h0 : c = 0
  · subst h0
    by_cases h1 : s.size = 0
    · have hr : Hid (Q = false) := Lib.hid (by rw [hq.out]; simp [ByteArray.size_eq_zero_iff.1 h1])
      obtain rfl : s = ByteArray.empty := ByteArray.size_eq_zero_iff.1 h1
      have he3 : (ByteArray.empty.toList == []) = true := by rw [ByteArray.toList_eq]; rfl
      have he4 : (ByteArray.empty.toList != []) = false := by rw [ByteArray.toList_eq]; rfl
      have he2 : ByteArray.empty.toList = [] := by rw [ByteArray.toList_eq]; rfl
      go_wp2_with fail
      go_ret
      exact ⟨ret_bool hr.out.symm, bU.out⟩
    · have hp : 0 < s.size := by omega
      have hne3 : ¬ s.toList = [] := by
        rw [ByteArray.toList_eq]
        exact lst_ne hp
      have hne2 : (s.toList == []) = false := by
        rw [beq_eq_false_iff_ne]; exact hne3
      have hne4 : (s.toList != []) = true := by rw [bne, hne2]; rfl
      have hq2 : Hid (Q = (u.hasS || !whole)) := Lib.hid (by rw [hq.out]; simp; intro _; simpa using lst_ne hp)
      clear hq
      cases hS : u.hasS
      · rw [hS] at y5
        have hr : Hid (Q = !whole) := Lib.hid (by rw [hq2.out, hS]; rfl)
        replace hS := Lib.hid hS
        go_wp2_with fail
        go_ret
        exact ⟨ret_bool hr.out.symm, bU.out⟩
      · rw [hS] at y5
        have hr : Hid (Q = true) := Lib.hid (by rw [hq2.out, hS]; rfl)
        replace hS := Lib.hid hS
        go_wp2_with fail
        go_ret
        exact ⟨ret_bool hr.out.symm, bU.out⟩
  · have hr : Hid (Q = false) := Lib.hid (by rw [hq.out, decide_eq_false h0]; rfl)
    have e0 : (c == 0) = false := beq_false_of_ne h0
    go_wp2_with fail
    go_ret
    exact ⟨ret_bool hr.out.symm, bU.out⟩
end Go.Proofs.YtbaclacfadkjdaaGreatDoor
namespace Go.Proofs.YtbaclacfadkjdaaGreatDoor
open Go.RowKit
theorem am_xhtml : (⟨#[104, 116, 116, 112, 58, 47, 47, 119, 119, 119, 46, 119, 51, 46, 111, 114, 103, 47, 49, 57, 57, 57, 47, 120, 104, 116, 109, 108]⟩ : ByteArray).data.toList = Am.xhtmlS := by decide +kernel
theorem am_div : (⟨#[100, 105, 118]⟩ : ByteArray).data.toList = Am.lit "div" := by decide +kernel
def Am.isDiv (k : Gv.Node) : Bool := Am.isEl k Am.xhtmlS (Am.lit "div")
def Am.divOk (k : Gv.Node) : Bool := Am.isDiv k || !(decide (Am.kindOf k = 0) || (decide (Am.kindOf k = 1) && !((Am.dataOf k).data.toList.all Am.space)))
theorem Am.div_is (n : Gv.Node) : Am.div n = (decide (((Am.kidsOf n).filter Am.isDiv).length = 1) && (Am.kidsOf n).all Am.divOk) := rfl
theorem Am.divs_more {l : List Gv.Node} {j : Nat} (h : j < l.length) : ((l.take (j + 1)).filter Am.isDiv).length = ((l.take j).filter Am.isDiv).length + (if Am.isDiv l[j] = true then 1 else 0) := by
  rw [List.take_succ_eq_append_getElem h, List.filter_append, List.length_append, List.filter_cons, List.filter_nil]
  split <;> rfl
set_option maxRecDepth 100000 in
set_option maxHeartbeats 6400000 in
theorem nd_div (n : Gv.Node) {A : Array Value} (w : World) (h : Nd w A n) (hz : Gv.wt n ≤ 1000000) :
    Calls Tryz.prog 62 #[.agg A] w fun e w' => e = .returned (.bool (Am.div n)) ∧ Below w.heap.size w w' := by
  have hkz := Am.kids_wt n
  have hq := Am.div_is n
  have hwk := Lib.hid (fun x (hx : x ∈ Am.kidsOf n) => Nat.le_trans (Am.mem_kids hx) hz)
  generalize Am.div n = Q at *
  obtain ⟨S, k, sp, nm, d, as', kids, ao, bo, ca, cb, rfl, rfl, ha, hK, h1, h2⟩ := h.form
  replace hkz : kids.length ≤ 1000000 := Nat.le_trans hkz hz
  change Q = (decide ((kids.filter Am.isDiv).length = 1) && kids.all Am.divOk) at hq
  replace hq := Lib.hid hq
  change Hid (∀ x, x ∈ kids → Gv.wt x ≤ 1000000) at hwk
  have b1 := (Below.refl w.heap.size w).alloc (Nat.le_refl _) (.cells #[.int .i64 k, .string sp, .string nm, .slice ao as'.length ca, .slice bo kids.length cb, .string d] 25)
  replace hK := Lib.hid (hK.on b1)
  obtain ⟨-, -, -, -, c4, -⟩ := node_open (Cells.new w 25 (nodeArr k sp nm (.slice ao as'.length ca) (.slice bo kids.length cb) d))
  unfold nodeArr at c4
  replace b1 := Lib.hid b1
  clear h ha h1 h2 hz
  go_enter Tryz.func62, Tryz.ntmps62
  go_upto_region 1 with fail
  generalize w.alloc (.cells #[.int .i64 k, .string sp, .string nm, .slice ao as'.length ca, .slice bo kids.length cb, .string d] 25) = wA at *
  replace c4 := Lib.hid c4
  go_wp2_with fail
  go_loopw [3, 4, 5] (fun c i _ wr => ∃ j m : Nat, j ≤ kids.length ∧ i = .int .i64 (j : Int) ∧ c = .int .i64 (m : Int) ∧ m ≤ j ∧ Hid (m = ((kids.take j).filter Am.isDiv).length) ∧ Hid ((kids.take j).all Am.divOk = true) ∧ Hid (Below wA.heap.size wA wr)) (fun _ i _ _ => kids.length - (intOf i).toNat)
  case atStart => exact ⟨0, 0, Nat.zero_le _, rfl, rfl, Nat.le_refl _, Lib.hid (by simp), Lib.hid (by simp), Lib.hid (Below.refl _ _)⟩
  case round =>
    obtain ⟨j, m, hj, rfl, rfl, hmj, hm, hall, bw⟩ := hrel
    have e4 := (bw.out.cell (World.block_lt_of_cell? wA _ c4.out)).trans c4.out
    by_cases hlt : j < kids.length
    · obtain ⟨b, off, k', sp', nm', d', x3, x4, rfl, d0, d1, d2, d3, d4, d5, hN, ⟨po, pn, pc, rfl⟩, ⟨qo, qn, qc, rfl⟩, hkd, hdd⟩ := (hK.out.on bw.out).nd hlt
      have hwt := hwk.out kids[j] (List.getElem_mem hlt)
      have hdw := Am.data_wt kids[j]
      have hmr := Am.divs_more hlt
      have hbad := Lib.hid (fun e => am_all_bad Am.divOk kids j hlt e)
      have hgood := Lib.hid (fun e => am_all_more Am.divOk kids j hlt hall.out e)
      have hok : Hid (Am.divOk kids[j] = (Am.isDiv kids[j] || !(decide (k' = 0) || (decide (k' = 1) && !(d'.data.toList.all Am.space))))) := Lib.hid (by unfold Am.divOk; rw [hkd, hdd])
      rw [hdd] at hdw
      have bx := (Below.refl wr.heap.size wr).alloc (Nat.le_refl _) (.cells #[.int .i64 k', .string sp', .string nm', .slice po pn pc, .slice qo qn qc, .string d'] 25)
      have hN1 := Lib.hid (hN.on bx)
      have C1 := Cells.new wr 25 (nodeArr k' sp' nm' (.slice po pn pc) (.slice qo qn qc) d')
      unfold nodeArr at C1
      replace C1 := Lib.hid C1
      have bw1 := Lib.hid (bw.out.trans (bx.mono bw.out.size))
      have hbl := Lib.hid (refBlank5_any d')
      rw [Am.blank_is] at hbl
      clear hN bx bw hkd hdd
      go_upto_region 6 with fail
      clear d0 d1 d2 d3 d4 d5 e4
      generalize wr.alloc (.cells #[.int .i64 k', .string sp', .string nm', .slice po pn pc, .slice qo qn qc, .string d'] 25) = w1 at *
      obtain ⟨x0, x1, x2, x3, x4, x5⟩ := node_open (show Cells w1 _ _ (nodeArr k' sp' nm' (.slice po pn pc) (.slice qo qn qc) d') from C1.out)
      have his := nd_is kids[j] ⟨#[104, 116, 116, 112, 58, 47, 47, 119, 119, 119, 46, 119, 51, 46, 111, 114, 103, 47, 49, 57, 57, 57, 47, 120, 104, 116, 109, 108]⟩ ⟨#[100, 105, 118]⟩ w1 hN1.out
      rw [am_xhtml, am_div] at his
      change Calls _ _ _ _ fun e w' => e = .returned (.bool (Am.isDiv kids[j])) ∧ _ at his
      replace his := Lib.hid his
      generalize Am.divOk kids[j] = dk at *
      generalize Am.isDiv kids[j] = y at *
      generalize kids[j] = nd at *
      generalize d'.data.toList.all Am.space = bl at *
      go_wp2_with fail
      (with_reducible refine (his.out).mono ?_); rintro e w2 ⟨rfl, b2⟩
      have C2 := C1.out.on b2
      obtain ⟨z0, z1, z2, z3, z4, z5⟩ := node_open (show Cells w2 _ _ (nodeArr k' sp' nm' (.slice po pn pc) (.slice qo qn qc) d') from C2)
      have bw2 := Lib.hid (bw1.out.trans (b2.mono bw1.out.size))
      clear x0 x1 x2 x3 x4 x5 C1 bw1 b2 his C2 z1 z2 z3 z4
      cases y with
      | true =>
        have hok2 := Lib.hid (hgood.out (by rw [hok.out]; rfl))
        have hm2 : Hid (m + 1 = ((kids.take (j + 1)).filter Am.isDiv).length) := Lib.hid (by rw [hmr, ← hm.out]; rfl)
        clear hmr hgood hbad hok
        go_wp2_with fail
        go_roundw
        case rel => exact ⟨j + 1, m + 1, by omega, by go_num, by go_num, by omega, hm2, hok2, bw2⟩
        case measure => simp [intOf]; omega
      | false =>
        have hm2 : Hid (m = ((kids.take (j + 1)).filter Am.isDiv).length) := Lib.hid (by rw [hmr, ← hm.out]; rfl)
        rw [Bool.false_or] at hok
        clear hmr
        by_cases k0 : k' = 0
        · subst k0
          have hr : Hid (Q = false) := Lib.hid (by rw [hq.out, hbad.out (by rw [hok.out]; rfl), Bool.and_false])
          go_wp2_with fail
          go_ret
          exact ⟨ret_bool hr.out.symm, b1.out.trans (bw2.out.mono b1.out.size)⟩
        · have e0 : (k' == 0) = false := beq_false_of_ne k0
          by_cases k1 : k' = 1
          · subst k1
            go_wp2_with fail
            (with_reducible refine (hbl.out _ (by unfold maxLen; omega)).mono ?_); rintro e w3 ⟨rfl, rfl⟩
            cases bl with
            | true =>
              have hok2 := Lib.hid (hgood.out (by rw [hok.out]; rfl))
              clear hgood hbad hok
              go_wp2_with fail
              go_roundw
              case rel => exact ⟨j + 1, m, by omega, by go_num, rfl, by omega, hm2, hok2, bw2⟩
              case measure => simp [intOf]; omega
            | false =>
              have hr : Hid (Q = false) := Lib.hid (by rw [hq.out, hbad.out (by rw [hok.out]; rfl), Bool.and_false])
              go_wp2_with fail
              go_ret
              exact ⟨ret_bool hr.out.symm, b1.out.trans (bw2.out.mono b1.out.size)⟩
          · have e1 : (k' == 1) = false := beq_false_of_ne k1
            have hok2 := Lib.hid (hgood.out (by rw [hok.out, decide_eq_false k0, decide_eq_false k1]; rfl))
            clear hgood hbad hok
            go_wp2_with fail
            go_roundw
            case rel => exact ⟨j + 1, m, by omega, by go_num, rfl, by omega, hm2, hok2, bw2⟩
            case measure => simp [intOf]; omega
    · have hfull : kids.take j = kids := List.take_of_length_le (by omega)
      have hr : Hid (Q = decide (m = 1)) := Lib.hid (by
        have h1 := hm.out
        have h2 := hall.out
        rw [hfull] at h1 h2
        rw [hq.out, h2, ← h1, Bool.and_true])
      clear hfull
      by_cases hm1 : m = 1
      · subst hm1
        go_wp2_with fail
        go_ret
        exact ⟨ret_bool (by rw [hr.out]; rfl), b1.out.trans (bw.out.mono b1.out.size)⟩
      · have hmi : ((m : Int) == 1) = false := beq_false_of_ne (by omega)
        have hr2 : Hid (Q = false) := Lib.hid (by rw [hr.out]; exact decide_eq_false hm1)
        go_wp2_with fail
        go_ret
        exact ⟨ret_bool hr2.out.symm, b1.out.trans (bw.out.mono b1.out.size)⟩
end Go.Proofs.YtbaclacfadkjdaaGreatDoor
