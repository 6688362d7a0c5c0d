/-
  The teller of trees: what its words of instructions, elements and nodes come to.
  The teller of trees: what its words of elements come to, given those of their kids.
-/
import Derived.Test.YtegaidfmkfnbnaaGreatDoorP16
import Derived.Test.YtegaidfmkfnbnaaGreatDoorP17
import Derived.Test.YtegaidfmkfnbnaaGreatDoorP05
namespace Go.Proofs.YtegaidfmkfnbnaaGreatDoor
open Go.RowKit

/-! ### how long it may be -/
theorem head_le {n : Gv.Node} (up : ByteArray) (hz : Fits n) (hm : n.attrs.length ≤ 24) : (Sc.headText up n).length ≤ 350000000 := by
  cases hz with
  | @mk k sp nm d as' kids h1 h2 h3 ha hk =>
    have e1 := Sc.rawsFrom_le as' 0 ha
    have hm' : as'.length ≤ 24 := hm
    have e0 : Sc.raws up sp as' = Sc.rawsFrom 0 as' ∨ Sc.raws up sp as' = ([120, 109, 108, 110, 115], sp.data.toList) :: Sc.rawsFrom 0 as' := by
      unfold Sc.raws
      split
      · exact .inr rfl
      · exact .inl rfl
    rw [show Sc.headText up (.mk k sp nm as' kids d) = 60 :: (nm.data.toList ++ (Sc.raws up sp as').flatMap Sc.one) from rfl]
    have e2 := Sc.one_le (nm := [120, 109, 108, 110, 115]) (v := sp.data.toList) (by simp) (by rw [list_len]; exact h1)
    rcases e0 with e0 | e0 <;> rw [e0] <;> simp only [List.length_cons, List.length_append, list_len, List.flatMap_cons] <;> omega
theorem fold_len {f : Nat} {up : ByteArray} {M : Nat} : ∀ {l : List Gv.Node} {x : List UInt8}, (∀ n ∈ l, ∀ y, (Sc.told f up n y).length ≤ max y.length M) → (l.foldl (fun acc k => Sc.told f up k acc) x).length ≤ max x.length M
  | [], x, _ => Nat.le_max_left _ _
  | n :: l, x, h => by
    rw [List.foldl_cons]
    have h1 := h n (by simp) x
    have h2 := fold_len (l := l) (x := Sc.told f up n x) fun m hm => h m (by simp [hm])
    omega
theorem leaf_len {n : Gv.Node} (hz : Fits n) : (Sc.leafText n).length ≤ 350000000 := by
  cases hz with
  | @mk k sp nm d as' kids h1 h2 h3 ha hk =>
    have e1 := Sc.escape_six false d.data.toList
    rw [list_len] at e1
    rw [show Sc.leafText (.mk k sp nm as' kids d) = if k = 1 then E.escape false d.data.toList else if k = 2 then 60 :: 33 :: 45 :: 45 :: (d.data.toList ++ [45, 45, 62]) else 60 :: 63 :: (nm.data.toList ++ ((if d = ByteArray.empty then [] else 32 :: d.data.toList) ++ [63, 62])) from rfl]
    by_cases k1 : k = 1
    · rw [if_pos k1]; omega
    · rw [if_neg k1]
      by_cases k2 : k = 2
      · rw [if_pos k2]
        simp only [List.length_cons, List.length_append, list_len, List.length_nil]; omega
      · rw [if_neg k2]
        have : (if d = ByteArray.empty then [] else 32 :: d.data.toList).length ≤ 1000001 := by
          split
          · simp
          · simp only [List.length_cons, list_len]; omega
        simp only [List.length_cons, List.length_append, list_len, List.length_nil]; omega
theorem told_len : ∀ (f : Nat) (up : ByteArray) (n : Gv.Node), Sc.may f n = true → Fits n → ∀ l, (Sc.told f up n l).length ≤ max l.length (100000 + 400000000 * (f + 1)) := by
  intro f
  induction f with
  | zero =>
    intro up n h hz l
    have := leaf_len hz
    unfold Sc.told
    split
    · omega
    · split
      · omega
      · rw [List.length_append]; omega
  | succ g ih =>
    intro up n h hz l
    have := leaf_len hz
    unfold Sc.told
    split
    · omega
    · split
      · rename_i hl h0
        obtain ⟨g', e, he, hk⟩ := Sc.may_elem h h0
        cases e
        have hh := head_le up hz he.many
        cases hz with
        | @mk k sp nm d as' kids h1 h2 h3 ha hk2 =>
          split
          · simp only [List.length_append, List.length_cons, List.length_nil]; omega
          · have hf := fold_len (f := g) (up := sp) (M := 100000 + 400000000 * (g + 1)) (l := kids) (x := l ++ Sc.headText up (.mk k sp nm as' kids d) ++ [62]) fun m hm y => ih sp m (Sc.kids_may hk m hm) (hk2 m hm) y
            simp only [List.length_append, List.length_cons, List.length_nil, Gv.Node.name, Gv.Node.kids, Gv.Node.space, list_len] at hf ⊢
            omega
      · rw [List.length_append]; omega

/-! ### an instruction -/
theorem flat2 (a b : List UInt8) (s : ByteArray) (ha : a = s.data.toList) : ([⟨b.toArray⟩, s] : List ByteArray).flatMap lst = b ++ a := by
  subst ha; simp [lst]
theorem tot_le (L : List ByteArray) (l : List UInt8) (h : L.flatMap lst = l) : total L = l.length := by unfold total; rw [h]

set_option maxRecDepth 100000 in
set_option maxHeartbeats 6400000 in
theorem instruction_any (B b : Nat) (l : List UInt8) (k : Int) (sp nm d : ByteArray) (va vk : Value) (hva : ∃ ao m ca, va = .slice ao m ca) (hvk : ∃ ao m ca, vk = .slice ao m ca) (w : World) (h : Tells B b l w) (hB : B ≤ w.heap.size) (hl : l.length ≤ 100000000000) (h2 : nm.size ≤ 1000000) (h3 : d.size ≤ 1000000) :
    Calls Tryz.prog 33 #[.pointer (some ⟨b, 0, none⟩), .agg (nodeArr k sp nm va vk d)] w (Told B b w (l ++ 60 :: 63 :: (nm.data.toList ++ ((if d = ByteArray.empty then [] else 32 :: d.data.toList) ++ [63, 62])))) := by
  obtain ⟨ao, m1, ca, rfl⟩ := hva
  obtain ⟨bo, m2, cb, rfl⟩ := hvk
  have b0 := (Below.refl w.heap.size w).alloc (Nat.le_refl _) (.cells (nodeArr k sp nm (.slice ao m1 ca) (.slice bo m2 cb) d) 25)
  have kA := Cells.new w 25 (nodeArr k sp nm (.slice ao m1 ca) (.slice bo m2 cb) d)
  have hbk := heap_alloc_new w (.cells (nodeArr k sp nm (.slice ao m1 ca) (.slice bo m2 cb) d) 25)
  have hlt := tells_lt h
  have h0 := tells_below h b0
  have hB0 := Nat.le_trans hB b0.size
  have hkeep : ∀ (w1 : World), Keeps b (w.alloc (.cells (nodeArr k sp nm (.slice ao m1 ca) (.slice bo m2 cb) d) 25)) w1 → w1.cell? ⟨w.heap.size, 5, none⟩ = some (.string d) := fun w1 hk => by
    have e := (hk.block w.heap.size (by simp) (by omega) (fun cur fz c => by rw [hbk] at c; cases c)).trans hbk
    rw [Lib.cell_of_heap e]; rfl
  obtain ⟨x0, x1, x2, x3, x4, x5⟩ := node_open kA
  replace kA := Lib.hid kA
  replace hbk := Lib.hid hbk
  replace hkeep := Lib.hid hkeep
  have t1 := flat2 nm.data.toList [60, 63] nm rfl
  have c1 := tell_new [⟨#[60, 63]⟩, nm] h0 hB0 (by simp) (by rw [tot_le _ _ t1]; simp only [List.length_append, List.length_cons, List.length_nil, list_len]; omega)
  rw [t1] at c1
  simp only [List.map_cons, List.map_nil, List.length_cons, List.length_nil, Nat.zero_add, Nat.reduceAdd] at c1
  rw [World.size_alloc] at c1
  have c3 := fun (x : List UInt8) (w1 : World) (hx : x.length ≤ 1000000000000) (t : Tells B b x w1) (hb : B ≤ w1.heap.size) => tell_new [⟨#[63, 62]⟩] t hb (by simp) (by rw [tot_le [⟨#[63, 62]⟩] [63, 62] rfl]; simp only [List.length_cons, List.length_nil]; omega)
  have e3 : ([⟨#[63, 62]⟩] : List ByteArray).flatMap lst = [63, 62] := rfl
  rw [e3] at c3
  simp only [List.map_cons, List.map_nil, List.length_cons, List.length_nil, Nat.zero_add] at c3
  replace c3 := Lib.hid c3
  clear h e3 t1
  unfold nodeArr at *
  go_enter Tryz.func33, Tryz.ntmps33
  rcases two_is d ByteArray.empty with ⟨e, m1', m2', m3'⟩ | ⟨e, m1', m2', m3'⟩
  · have hd : d ≠ ByteArray.empty := by simpa using e
    rw [if_neg hd]
    rw [show ByteArray.empty.toList = [] by rw [ByteArray.toList_eq]; rfl] at m1' m2' m3'
    have t2 := flat2 d.data.toList [32] d rfl
    have c2 := fun (w1 : World) (t : Tells B b (l ++ ([60, 63] ++ nm.data.toList)) w1) (hb : B ≤ w1.heap.size) => tell_new [⟨#[32]⟩, d] t hb (by simp) (by rw [tot_le _ _ t2]; simp only [List.length_append, List.length_cons, List.length_nil, list_len]; omega)
    rw [t2] at c2
    simp only [List.map_cons, List.map_nil, List.length_cons, List.length_nil, Nat.zero_add, Nat.reduceAdd] at c2
    have hlen : (l ++ ([60, 63] ++ nm.data.toList) ++ ([32] ++ d.data.toList)).length ≤ 1000000000000 := by simp only [List.length_append, List.length_cons, List.length_nil, list_len]; omega
    have htx : l ++ 60 :: 63 :: (nm.data.toList ++ (32 :: d.data.toList ++ [63, 62])) = l ++ ([60, 63] ++ nm.data.toList) ++ ([32] ++ d.data.toList) ++ [63, 62] := by simp
    rw [htx]
    generalize l ++ ([60, 63] ++ nm.data.toList) = y1 at *
    generalize y1 ++ ([32] ++ d.data.toList) = y2 at *
    replace c2 := Lib.hid c2
    clear hd e htx t2 hl h2 h3 h0
    go_wp2_with fail
    (with_reducible refine c1.mono ?_); rintro e w1 ⟨rfl, d1, d2, d3⟩
    have y5 := hkeep.out w1 d3
    have c4 := c2.out w1 d1 (by have := d2.size; omega)
    have hd := Lib.hid (show Told B b _ _ _ w1 from ⟨rfl, d1, d2, d3⟩)
    clear d1 d2 d3 c1 x0 x1 x2 x3 x4 x5
    go_wp2_with fail
    (with_reducible refine c4.mono ?_); rintro e w2 ⟨rfl, d1, d2, d3⟩
    have hd2 := Lib.hid (told_then hd.out (show Told B b _ _ _ w2 from ⟨rfl, d1, d2, d3⟩))
    have c5 := c3.out y2 w2 hlen d1 (by have := hd2.out.2.2.1.size; omega)
    clear d1 d2 d3 c4 y5 hd
    go_wp2_with fail
    (with_reducible refine c5.mono ?_); rintro e w3 ⟨rfl, d1, d2, d3⟩
    go_wp2_with fail
    go_end0
    exact told_after b0 hB (told_then hd2.out ⟨rfl, d1, d2, d3⟩)
  · have hd : d = ByteArray.empty := by simpa using e
    rw [if_pos hd]
    rw [show ByteArray.empty.toList = [] by rw [ByteArray.toList_eq]; rfl] at m1' m2' m3'
    have hlen : (l ++ ([60, 63] ++ nm.data.toList)).length ≤ 1000000000000 := by simp only [List.length_append, List.length_cons, List.length_nil, list_len]; omega
    have htx : l ++ 60 :: 63 :: (nm.data.toList ++ ([] ++ [63, 62])) = l ++ ([60, 63] ++ nm.data.toList) ++ [63, 62] := by simp
    rw [htx]
    generalize l ++ ([60, 63] ++ nm.data.toList) = y1 at *
    clear hd e htx hl h2 h3 h0
    go_wp2_with fail
    (with_reducible refine c1.mono ?_); rintro e w1 ⟨rfl, d1, d2, d3⟩
    have y5 := hkeep.out w1 d3
    have hd := Lib.hid (show Told B b _ _ _ w1 from ⟨rfl, d1, d2, d3⟩)
    have c5 := c3.out y1 w1 hlen d1 (by have := d2.size; omega)
    clear d1 d2 d3 c1 x0 x1 x2 x3 x4 x5
    go_wp2_with fail
    (with_reducible refine c5.mono ?_); rintro e w3 ⟨rfl, d1, d2, d3⟩
    go_wp2_with fail
    go_end0
    exact told_after b0 hB (told_then hd.out ⟨rfl, d1, d2, d3⟩)
end Go.Proofs.YtegaidfmkfnbnaaGreatDoor
namespace Go.Proofs.YtegaidfmkfnbnaaGreatDoor
open Go.RowKit

theorem stay_low {B : Nat} {w w' : World} (hb : Below B w w') : Stay (fun x => x < B) w w' := fun b o hS _ => hb.cell (p := ⟨b, o, none⟩) hS
/-- WHAT IS ASKED of the word of nodes. -/
def NodeSpec (g : Nat) : Prop := ∀ (B b : Nat) (l : List UInt8) (up : ByteArray) (c : List Value) (n : Gv.Node) (w : World), Tells B b l w → B ≤ w.heap.size → NodeAt (fun x => x < B) w c n → Sc.may g n = true → Fits n → l.length ≤ 50000000000 →
  Calls Tryz.prog 16 #[.pointer (some ⟨b, 0, none⟩), .agg c.toArray, .string up] w (Told B b w (Sc.told g up n l))
theorem flat3 (a c : List UInt8) (s : ByteArray) : ([⟨a.toArray⟩, s, ⟨c.toArray⟩] : List ByteArray).flatMap lst = a ++ (s.data.toList ++ c) := by simp [lst]
theorem head_is (up sp nm d : ByteArray) (k : Int) (as' : List Gv.Att) (kids : List Gv.Node) (l : List UInt8) : l ++ Sc.headText up (.mk k sp nm as' kids d) = l ++ (60 :: nm.data.toList) ++ (if sp = up then [] else Sc.one ([120, 109, 108, 110, 115], sp.data.toList)) ++ (Sc.rawsFrom 0 as').flatMap Sc.one := by
  rw [show Sc.headText up (.mk k sp nm as' kids d) = 60 :: (nm.data.toList ++ (Sc.raws up sp as').flatMap Sc.one) from rfl]
  unfold Sc.raws
  by_cases h : sp = up
  · rw [if_neg (fun c => c h), if_pos h]; simp
  · rw [if_pos h, if_neg h]; simp

set_option maxRecDepth 100000 in
set_option maxHeartbeats 12800000 in
theorem element_any (g : Nat) (hg30 : g ≤ 30) (ih : NodeSpec g) (B b : Nat) (l : List UInt8) (up sp nm d : ByteArray) (as' : List Gv.Att) (kids : List Gv.Node) (ao bo : Option Addr) (ca cb : Nat) (cs : Nat → List Value) (w : World) (h : Tells B b l w) (hB : B ≤ w.heap.size)
    (hat : AttsAt (fun x => x < B) w (.slice ao as'.length ca) as') (hl : RowsAt (fun x => x < B) w (.slice bo kids.length cb) kids.length cs) (hn : ∀ j (h : j < kids.length), NodeAt (fun x => x < B) w (cs j) kids[j]) (hm1 : as'.length ≤ 24) (hm2 : kids.length ≤ maxLen)
    (hmay : ∀ n ∈ kids, Sc.may g n = true) (hz : Fits (.mk 0 sp nm as' kids d)) (hlen : l.length ≤ 100000) (y : List UInt8) (hy : y = if kids.length = 0 then l ++ Sc.headText up (.mk 0 sp nm as' kids d) ++ [47, 62] else (kids.foldl (fun acc k => Sc.told g sp k acc) (l ++ Sc.headText up (.mk 0 sp nm as' kids d) ++ [62])) ++ 60 :: 47 :: (nm.data.toList ++ [62])) :
    Calls Tryz.prog 30 #[.pointer (some ⟨b, 0, none⟩), .agg (nodeArr 0 sp nm (.slice ao as'.length ca) (.slice bo kids.length cb) d), .string up] w (Told B b w y) := by
  obtain ⟨z1, z2, z3, z4, z5⟩ := may_fits hz
  have hhead := head_le up hz hm1
  unfold maxLen at hm2
  have b0 := (Below.refl w.heap.size w).alloc (Nat.le_refl _) (.cells (nodeArr 0 sp nm (.slice ao as'.length ca) (.slice bo kids.length cb) d) 25)
  have kA := Cells.new w 25 (nodeArr 0 sp nm (.slice ao as'.length ca) (.slice bo kids.length cb) d)
  have hbk := heap_alloc_new w (.cells (nodeArr 0 sp nm (.slice ao as'.length ca) (.slice bo kids.length cb) d) 25)
  have hlt := tells_lt h
  have h0 := tells_below h b0
  have hB0 := Nat.le_trans hB b0.size
  have hat0 := hat.stay (stay_below b0)
  have hl0 := hl.stay (stay_below b0)
  have hn0 : ∀ j (h : j < kids.length), NodeAt (fun x => x < B) (w.alloc (.cells (nodeArr 0 sp nm (.slice ao as'.length ca) (.slice bo kids.length cb) d) 25)) (cs j) kids[j] := fun j h => (hn j h).on b0
  rw [head_is] at hy
  rw [show (Sc.headText up (.mk 0 sp nm as' kids d)).length = (([] : List UInt8) ++ Sc.headText up (.mk 0 sp nm as' kids d)).length by simp, head_is] at hhead
  generalize hw0 : w.alloc (.cells (nodeArr 0 sp nm (.slice ao as'.length ca) (.slice bo kids.length cb) d) 25) = w0 at *
  have hsz : w0.heap.size = w.heap.size + 1 := by rw [← hw0, World.size_alloc]
  have hkeep : ∀ (w1 : World), Keeps b w0 w1 → Cells w1 w.heap.size 25 (nodeArr 0 sp nm (.slice ao as'.length ca) (.slice bo kids.length cb) d) := fun w1 hk => by
    have e := (hk.block w.heap.size (by omega) (by omega) (fun cur fz c => by rw [hbk] at c; cases c)).trans hbk
    exact e
  obtain ⟨x0, x1, x2, x3, x4, x5⟩ := node_open kA
  have hw1 : ∀ (t : List ByteArray) (x : List UInt8) (wr : World), Tells B b x wr → B ≤ wr.heap.size → t.length ≤ 1000 → x.length + total t ≤ 140737488355328 → Calls Tryz.prog 31 #[.pointer (some ⟨b, 0, none⟩), .slice (some ⟨wr.heap.size, 0, none⟩) t.length t.length] (wr.alloc (.cells (t.map Value.string).toArray 9)) (Told B b wr (x ++ t.flatMap lst)) := fun t x wr h1 h2 h3 h4 => tell_new t h1 h2 h3 h4
  have t1 := flat2 nm.data.toList [60] nm rfl
  have c1 := hw1 [⟨#[60]⟩, nm] l w0 h0 hB0 (by simp) (by rw [tot_le _ _ t1]; simp only [List.length_append, List.length_cons, List.length_nil, list_len]; omega)
  rw [t1] at c1
  simp only [List.map_cons, List.map_nil, List.length_cons, List.length_nil, Nat.zero_add, Nat.reduceAdd] at c1
  rw [hsz] at c1
  have hy1 : l ++ (60 :: nm.data.toList) = l ++ ([60] ++ nm.data.toList) := by simp
  rw [hy1] at hy
  simp only [List.nil_append, List.length_append, List.length_cons, list_len] at hhead
  have hy1l : (l ++ ([60] ++ nm.data.toList)).length ≤ 1200000 := by simp only [List.length_append, List.length_cons, List.length_nil, list_len]; omega
  generalize l ++ ([60] ++ nm.data.toList) = y1 at *
  -- the end
  have t3 := flat3 [60, 47] [62] nm
  have c6 := Lib.hid (fun (x : List UInt8) (wr : World) (h1 : Tells B b x wr) (h2 : B ≤ wr.heap.size) (h3 : x.length ≤ 50000000000) => hw1 [⟨#[60, 47]⟩, nm, ⟨#[62]⟩] x wr h1 h2 (by simp) (by rw [tot_le _ _ t3]; simp only [List.length_append, List.length_cons, List.length_nil, list_len]; omega))
  have c5 := Lib.hid (fun (x : List UInt8) (wr : World) (h1 : Tells B b x wr) (h2 : B ≤ wr.heap.size) (h3 : x.length ≤ 50000000000) => hw1 [⟨#[47, 62]⟩] x wr h1 h2 (by simp) (by rw [tot_le [⟨#[47, 62]⟩] [47, 62] rfl]; simp only [List.length_cons, List.length_nil]; omega))
  have c4 := Lib.hid (fun (x : List UInt8) (wr : World) (h1 : Tells B b x wr) (h2 : B ≤ wr.heap.size) (h3 : x.length ≤ 50000000000) => hw1 [⟨#[62]⟩] x wr h1 h2 (by simp) (by rw [tot_le [⟨#[62]⟩] [62] rfl]; simp only [List.length_cons, List.length_nil]; omega))
  have ht := Lib.hid t3
  have c2 := fun (wr : World) (h1 : Tells B b y1 wr) (h2 : B ≤ wr.heap.size) => attribute_any B b y1 P.xmlns sp wr h1 h2 (by omega) (by decide) z1
  have hxn : P.xmlns.data.toList = [120, 109, 108, 110, 115] := rfl
  rw [hxn, show P.xmlns = ⟨#[120, 109, 108, 110, 115]⟩ from rfl] at c2
  replace c2 := Lib.hid c2
  replace hkeep := Lib.hid hkeep
  replace kA := Lib.hid kA
  replace hbk := Lib.hid hbk
  replace hat0 := Lib.hid hat0
  replace hl0 := Lib.hid hl0
  replace hn0 := Lib.hid hn0
  replace ih := Lib.hid ih
  replace hz := Lib.hid hz
  replace z4 := Lib.hid z4
  replace z5 := Lib.hid z5
  replace hmay := Lib.hid hmay
  replace hy := Lib.hid hy
  clear hat hl hn hw1 hy1 t1 t3 hxn h0 h
  unfold nodeArr at *
  go_enter Tryz.func30, Tryz.ntmps30
  go_wp2_with fail
  (with_reducible refine c1.mono ?_); rintro e w1 ⟨rfl, d1, d2, d3⟩
  have hT := Lib.hid (show Told B b w0 _ _ w1 from ⟨rfl, d1, d2, d3⟩)
  clear x0 x1 x2 x3 x4 x5
  obtain ⟨x0, x1, x2, x3, x4, x5⟩ := node_open (hkeep.out w1 d3)
  have c2 := c2.out w1 d1 (by have := d2.size; omega)
  clear d1 d2 d3 c1
  have hrest : ∀ (k : Nat) (h : k < as'.length), ((Sc.rawsFrom 0 (as'.take k)).flatMap Sc.one).length ≤ 350000000 := fun k h => by
    have := Sc.rawsFrom_le (as'.take k) 0 (fun x hx => z4.out x (List.mem_of_mem_take hx))
    rw [List.length_take] at this
    omega
  have hrestF : ((Sc.rawsFrom 0 as').flatMap Sc.one).length ≤ 350000000 := by
    have := Sc.rawsFrom_le as' 0 z4.out
    omega
  replace hrest := Lib.hid hrest
  have hsplit : (∃ y2, y2.length ≤ 9000000 ∧ Hid (y2 = y1) ∧ Hid (y = if kids.length = 0 then y2 ++ (Sc.rawsFrom 0 as').flatMap Sc.one ++ [47, 62] else (kids.foldl (fun acc k => Sc.told g sp k acc) (y2 ++ (Sc.rawsFrom 0 as').flatMap Sc.one ++ [62])) ++ 60 :: 47 :: (nm.data.toList ++ [62])) ∧ (sp.toList == up.toList) = true ∧ sp.toList = up.toList ∧ (sp.toList != up.toList) = false) ∨
      (∃ y2, y2.length ≤ 9000000 ∧ Hid (y2 = y1 ++ Sc.one ([120, 109, 108, 110, 115], sp.data.toList)) ∧ Hid (y = if kids.length = 0 then y2 ++ (Sc.rawsFrom 0 as').flatMap Sc.one ++ [47, 62] else (kids.foldl (fun acc k => Sc.told g sp k acc) (y2 ++ (Sc.rawsFrom 0 as').flatMap Sc.one ++ [62])) ++ 60 :: 47 :: (nm.data.toList ++ [62])) ∧ (sp.toList == up.toList) = false ∧ ¬ sp.toList = up.toList ∧ (sp.toList != up.toList) = true) := by
    by_cases hu : sp = up
    · left
      refine ⟨y1, by omega, Lib.hid rfl, Lib.hid (by rw [hy.out, if_pos hu, List.append_nil]), ?_⟩
      subst hu
      simp
    · right
      have e1 := Sc.one_le (nm := [120, 109, 108, 110, 115]) (v := sp.data.toList) (by simp) (by rw [list_len]; exact z1)
      exact ⟨_, by rw [List.length_append]; omega, Lib.hid rfl, Lib.hid (by rw [hy.out, if_neg hu]), sn_isnt hu, sn_prop hu, sn_ne hu⟩
  clear hy hhead hy1l
  rcases hsplit with ⟨y2, hy2l, hy2, hy, u1, u2, u3⟩ | ⟨y2, hy2l, hy2, hy, u1, u2, u3⟩
  · have hT2 := Lib.hid (show Told B b w0 y2 _ w1 from by rw [hy2.out]; exact hT.out)
    clear hT hy2 c2
    go_wp2_with fail
    clear u1 u2 u3 x0 x1 x2 x3 x4 x5
    go_loopg [6, 7, 26] as'.length (fun gg _ _ s26 wr => ∃ kk : Nat, kk ≤ as'.length ∧ as'.length - kk ≤ gg ∧ s26 = .int .i64 kk ∧ Hid (Told B b w0 (y2 ++ (Sc.rawsFrom 0 (as'.take kk)).flatMap Sc.one) (.returned (.tuple #[])) wr))
    case atStart => exact ⟨0, Nat.zero_le _, by omega, rfl, Lib.hid (by simpa [Sc.rawsFrom] using hT2.out)⟩
    case round =>
      obtain ⟨kk, hkk, hgg, rfl, hT3⟩ := hrel
      clear hT2
      by_cases hlt : kk < as'.length
      · have hltz : (kk : Int) < (as'.length : Int) := by omega
        obtain ⟨q1, q2, q3⟩ := z4.out as'[kk] (List.getElem_mem hlt)
        obtain ⟨bb, off, rfl, p0, p1, p2⟩ := (hat0.out.stay (stay_low hT3.out.2.2.1)).cells hlt (sp := as'[kk].space) (nm := as'[kk].name) (va := as'[kk].value) rfl
        have bA := (Below.refl wr.heap.size wr).alloc (Nat.le_refl _) (.cells #[.string as'[kk].space, .string as'[kk].name, .string as'[kk].value] 40)
        have hBr : B ≤ wr.heap.size := by have := hT3.out.2.2.1.size; omega
        have c3 := attrSpace_any B b kk _ as'[kk] _ (tells_below hT3.out.2.1 bA) (Nat.le_trans hBr bA.size) (by omega) (by have := hrest.out kk hlt; rw [List.length_append]; omega) q1 q2 q3
        rw [List.append_assoc, ← List.flatMap_append, ← Sc.rawsFrom_take as' kk hlt] at c3
        replace hrest := Lib.hid hrest
        unfold attArr at c3
        have kB := Cells.new wr 40 #[.string as'[kk].space, .string as'[kk].name, .string as'[kk].value]
        have v0 := kB.cell (i := 0) (v := .string as'[kk].space) rfl
        have v1 := kB.cell (i := 1) (v := .string as'[kk].name) rfl
        have v2 := kB.cell (i := 2) (v := .string as'[kk].value) rfl
        replace kB := Lib.hid kB
        generalize as'[kk].space = us at *
        generalize as'[kk].name = un at *
        generalize as'[kk].value = uv at *
        clear q1 q2 q3
        go_wp2_with fail
        (with_reducible refine c3.mono ?_); rintro e w3 ⟨rfl, d⟩
        have hT4 := Lib.hid (told_then hT3.out (told_after bA hBr (show Told B b _ _ _ w3 from ⟨rfl, d⟩)))
        clear hT3 d c3 p0 p1 p2 v0 v1 v2 bA
        go_wp2_with fail
        go_roundg (as'.length - (kk + 1))
        case measure => omega
        case rel => exact ⟨kk + 1, by omega, by omega, by go_num, hT4⟩
      · have hltz : ¬ (kk : Int) < (as'.length : Int) := by omega
        have hT4 := Lib.hid (show Told B b w0 (y2 ++ (Sc.rawsFrom 0 as').flatMap Sc.one) (.returned (.tuple #[])) wr by
          have := hT3.out
          rwa [List.take_of_length_le (by omega)] at this)
        have hy4l : (y2 ++ (Sc.rawsFrom 0 as').flatMap Sc.one).length ≤ 360000000 := by rw [List.length_append]; omega
        clear hT3 hlt hkk hgg hrest hrestF
        generalize y2 ++ (Sc.rawsFrom 0 as').flatMap Sc.one = y4 at *
        obtain ⟨x0, x1, x2, x3, x4, x5⟩ := node_open (hkeep.out wr hT4.out.2.2.2)
        have hBr : B ≤ wr.heap.size := by have := hT4.out.2.2.1.size; omega
        by_cases hz0 : kids.length = 0
        · have hz1 : ((kids.length : Int) == 0) = true := by rw [beq_iff_eq]; omega
          have hz2 : (kids.length : Int) = 0 := by omega
          have hfin := hy.out
          rw [if_pos hz0] at hfin
          replace hfin := Lib.hid hfin
          have c7 := c5.out y4 wr hT4.out.2.1 hBr (by omega)
          rw [show ([⟨#[47, 62]⟩] : List ByteArray).flatMap lst = [47, 62] from rfl] at c7
          simp only [List.map_cons, List.map_nil, List.length_cons, List.length_nil, Nat.zero_add] at c7
          clear hz0
          go_wp2_with fail
          (with_reducible refine c7.mono ?_); rintro e w3 ⟨rfl, d⟩
          have hT5 := Lib.hid (told_then hT4.out (show Told B b _ _ _ w3 from ⟨rfl, d⟩))
          clear d c7 hT4
          go_wp2_with fail
          go_end0
          rw [hfin.out]
          exact told_after b0 hB hT5.out
        · have hz1 : ((kids.length : Int) == 0) = false := by rw [beq_eq_false_iff_ne]; omega
          have hz2 : ¬ (kids.length : Int) = 0 := by omega
          have hfin := hy.out
          rw [if_neg hz0] at hfin
          replace hfin := Lib.hid hfin
          have c7 := c4.out y4 wr hT4.out.2.1 hBr (by omega)
          rw [show ([⟨#[62]⟩] : List ByteArray).flatMap lst = [62] from rfl] at c7
          simp only [List.map_cons, List.map_nil, List.length_cons, List.length_nil, Nat.zero_add] at c7
          have hy5l : (y4 ++ [62]).length ≤ 360000001 := by rw [List.length_append]; simp only [List.length_cons, List.length_nil]; omega
          generalize y4 ++ [62] = y5 at *
          clear hz0
          go_wp2_with fail
          (with_reducible refine c7.mono ?_); rintro e w3 ⟨rfl, d⟩
          have hT5 := Lib.hid (told_then hT4.out (show Told B b _ _ _ w3 from ⟨rfl, d⟩))
          clear d c7 hT4 x0 x1 x2 x3 x4 x5 hy
          obtain ⟨x0, x1, x2, x3, x4, x5⟩ := node_open (hkeep.out w3 hT5.out.2.2.2)
          go_wp2_with fail
          clear x0 x1 x2 x3 x4 x5
          go_loopg [9, 49] kids.length (fun gg _ s49 wr => ∃ kk : Nat, kk ≤ kids.length ∧ kids.length - kk ≤ gg ∧ s49 = .int .i64 kk ∧ Hid (Told B b w0 ((kids.take kk).foldl (fun acc k => Sc.told g sp k acc) y5) (.returned (.tuple #[])) wr))
          case atStart => exact ⟨0, Nat.zero_le _, by omega, rfl, hT5⟩
          case round =>
            obtain ⟨k2, hk2, hgg2, rfl, hT6⟩ := hrel
            clear hT5
            have hfl := fold_len (f := g) (up := sp) (M := 100000 + 400000000 * (g + 1)) (l := kids.take k2) (x := y5) fun m hm y => told_len g sp m (hmay.out m (List.mem_of_mem_take hm)) (z5.out m (List.mem_of_mem_take hm)) y
            have hfl2 : ((kids.take k2).foldl (fun acc k => Sc.told g sp k acc) y5).length ≤ 50000000000 := by omega
            clear hfl
            have hBr2 : B ≤ wr.heap.size := by have := hT6.out.2.2.1.size; omega
            obtain ⟨x0, x1, x2, x3, x4, x5⟩ := node_open (hkeep.out wr hT6.out.2.2.2)
            by_cases hlt2 : k2 < kids.length
            · have hltz2 : (k2 : Int) < (kids.length : Int) := by omega
              have hN := (hn0.out k2 hlt2).stay (stay_low hT6.out.2.2.1)
              obtain ⟨kk0, ksp, knm, kd, kas, kks, kao, kbo, kca, kcb, kcs, e1, e2, _, _, _, _, _⟩ := hN.open'
              obtain ⟨bb, off, rfl, p0, p1, p2, p3, p4, p5⟩ := (hl0.out.stay (stay_low hT6.out.2.2.1)).cells hlt2 e2
              have bA := (Below.refl wr.heap.size wr).alloc (Nat.le_refl _) (.cells #[.int .i64 kk0, .string ksp, .string knm, .slice kao kas.length kca, .slice kbo kks.length kcb, .string kd] 25)
              have c8 := ih.out B b _ sp (cs k2) kids[k2] _ (tells_below hT6.out.2.1 bA) (Nat.le_trans hBr2 bA.size) (hN.on bA) (hmay.out _ (List.getElem_mem hlt2)) (z5.out _ (List.getElem_mem hlt2)) hfl2
              rw [e2] at c8
              have hstep : Sc.told g sp kids[k2] ((kids.take k2).foldl (fun acc k => Sc.told g sp k acc) y5) = (kids.take (k2 + 1)).foldl (fun acc k => Sc.told g sp k acc) y5 := by
                rw [List.take_succ_eq_append_getElem hlt2, List.foldl_append]; rfl
              rw [hstep] at c8
              have kB := Cells.new wr 25 #[.int .i64 kk0, .string ksp, .string knm, .slice kao kas.length kca, .slice kbo kks.length kcb, .string kd]
              have w0' := kB.cell (i := 0) rfl
              have w1' := kB.cell (i := 1) rfl
              have w2' := kB.cell (i := 2) rfl
              have w3' := kB.cell (i := 3) rfl
              have w4' := kB.cell (i := 4) rfl
              have w5' := kB.cell (i := 5) rfl
              have xs := (bA.cell (World.block_lt_of_cell? _ _ x1)).trans x1
              replace kB := Lib.hid kB
              clear hN e1 e2 hstep hfl2
              go_wp2_with fail
              (with_reducible refine c8.mono ?_); rintro e w4 ⟨rfl, d⟩
              have hT7 := Lib.hid (told_then hT6.out (told_after bA hBr2 (show Told B b _ _ _ w4 from ⟨rfl, d⟩)))
              clear hT6 d c8 p0 p1 p2 p3 p4 p5 w0' w1' w2' w3' w4' w5' xs bA x0 x1 x2 x3 x4 x5
              go_wp2_with fail
              go_roundg (kids.length - (k2 + 1))
              case measure => omega
              case rel => exact ⟨k2 + 1, by omega, by omega, by go_num, hT7⟩
            · have hltz2 : ¬ (k2 : Int) < (kids.length : Int) := by omega
              have hT7 := Lib.hid (show Told B b w0 (kids.foldl (fun acc k => Sc.told g sp k acc) y5) (.returned (.tuple #[])) wr by
                have := hT6.out
                rwa [List.take_of_length_le (by omega)] at this)
              rw [List.take_of_length_le (by omega)] at hfl2
              clear hT6 hlt2 hk2 hgg2
              generalize kids.foldl (fun acc k => Sc.told g sp k acc) y5 = y6 at *
              have c9 := c6.out y6 wr hT7.out.2.1 hBr2 hfl2
              rw [ht.out] at c9
              simp only [List.map_cons, List.map_nil, List.length_cons, List.length_nil, Nat.zero_add, Nat.reduceAdd] at c9
              go_wp2_with fail
              (with_reducible refine c9.mono ?_); rintro e w4 ⟨rfl, d⟩
              have hT8 := Lib.hid (told_then hT7.out (show Told B b _ _ _ w4 from ⟨rfl, d⟩))
              clear d c9 hT7
              go_wp2_with fail
              go_end0
              rw [hfin.out]
              exact told_after b0 hB hT8.out
  · go_wp2_with fail
    (with_reducible refine c2.mono ?_); rintro e w2 ⟨rfl, d1, d2, d3⟩
    have hT2 := Lib.hid (show Told B b w0 y2 _ w2 from by rw [hy2.out]; exact told_then hT.out ⟨rfl, d1, d2, d3⟩)
    clear x0 x1 x2 x3 x4 x5
    obtain ⟨x0, x1, x2, x3, x4, x5⟩ := node_open (hkeep.out w2 hT2.out.2.2.2)
    clear hT hy2 c2 d1 d2 d3
    go_wp2_with fail
    clear u1 u2 u3 x0 x1 x2 x3 x4 x5
    go_loopg [6, 7, 26] as'.length (fun gg _ _ s26 wr => ∃ kk : Nat, kk ≤ as'.length ∧ as'.length - kk ≤ gg ∧ s26 = .int .i64 kk ∧ Hid (Told B b w0 (y2 ++ (Sc.rawsFrom 0 (as'.take kk)).flatMap Sc.one) (.returned (.tuple #[])) wr))
    case atStart => exact ⟨0, Nat.zero_le _, by omega, rfl, Lib.hid (by simpa [Sc.rawsFrom] using hT2.out)⟩
    case round =>
      obtain ⟨kk, hkk, hgg, rfl, hT3⟩ := hrel
      clear hT2
      by_cases hlt : kk < as'.length
      · have hltz : (kk : Int) < (as'.length : Int) := by omega
        obtain ⟨q1, q2, q3⟩ := z4.out as'[kk] (List.getElem_mem hlt)
        obtain ⟨bb, off, rfl, p0, p1, p2⟩ := (hat0.out.stay (stay_low hT3.out.2.2.1)).cells hlt (sp := as'[kk].space) (nm := as'[kk].name) (va := as'[kk].value) rfl
        have bA := (Below.refl wr.heap.size wr).alloc (Nat.le_refl _) (.cells #[.string as'[kk].space, .string as'[kk].name, .string as'[kk].value] 40)
        have hBr : B ≤ wr.heap.size := by have := hT3.out.2.2.1.size; omega
        have c3 := attrSpace_any B b kk _ as'[kk] _ (tells_below hT3.out.2.1 bA) (Nat.le_trans hBr bA.size) (by omega) (by have := hrest.out kk hlt; rw [List.length_append]; omega) q1 q2 q3
        rw [List.append_assoc, ← List.flatMap_append, ← Sc.rawsFrom_take as' kk hlt] at c3
        replace hrest := Lib.hid hrest
        unfold attArr at c3
        have kB := Cells.new wr 40 #[.string as'[kk].space, .string as'[kk].name, .string as'[kk].value]
        have v0 := kB.cell (i := 0) (v := .string as'[kk].space) rfl
        have v1 := kB.cell (i := 1) (v := .string as'[kk].name) rfl
        have v2 := kB.cell (i := 2) (v := .string as'[kk].value) rfl
        replace kB := Lib.hid kB
        generalize as'[kk].space = us at *
        generalize as'[kk].name = un at *
        generalize as'[kk].value = uv at *
        clear q1 q2 q3
        go_wp2_with fail
        (with_reducible refine c3.mono ?_); rintro e w3 ⟨rfl, d⟩
        have hT4 := Lib.hid (told_then hT3.out (told_after bA hBr (show Told B b _ _ _ w3 from ⟨rfl, d⟩)))
        clear hT3 d c3 p0 p1 p2 v0 v1 v2 bA
        go_wp2_with fail
        go_roundg (as'.length - (kk + 1))
        case measure => omega
        case rel => exact ⟨kk + 1, by omega, by omega, by go_num, hT4⟩
      · have hltz : ¬ (kk : Int) < (as'.length : Int) := by omega
        have hT4 := Lib.hid (show Told B b w0 (y2 ++ (Sc.rawsFrom 0 as').flatMap Sc.one) (.returned (.tuple #[])) wr by
          have := hT3.out
          rwa [List.take_of_length_le (by omega)] at this)
        have hy4l : (y2 ++ (Sc.rawsFrom 0 as').flatMap Sc.one).length ≤ 360000000 := by rw [List.length_append]; omega
        clear hT3 hlt hkk hgg hrest hrestF
        generalize y2 ++ (Sc.rawsFrom 0 as').flatMap Sc.one = y4 at *
        obtain ⟨x0, x1, x2, x3, x4, x5⟩ := node_open (hkeep.out wr hT4.out.2.2.2)
        have hBr : B ≤ wr.heap.size := by have := hT4.out.2.2.1.size; omega
        by_cases hz0 : kids.length = 0
        · have hz1 : ((kids.length : Int) == 0) = true := by rw [beq_iff_eq]; omega
          have hz2 : (kids.length : Int) = 0 := by omega
          have hfin := hy.out
          rw [if_pos hz0] at hfin
          replace hfin := Lib.hid hfin
          have c7 := c5.out y4 wr hT4.out.2.1 hBr (by omega)
          rw [show ([⟨#[47, 62]⟩] : List ByteArray).flatMap lst = [47, 62] from rfl] at c7
          simp only [List.map_cons, List.map_nil, List.length_cons, List.length_nil, Nat.zero_add] at c7
          clear hz0
          go_wp2_with fail
          (with_reducible refine c7.mono ?_); rintro e w3 ⟨rfl, d⟩
          have hT5 := Lib.hid (told_then hT4.out (show Told B b _ _ _ w3 from ⟨rfl, d⟩))
          clear d c7 hT4
          go_wp2_with fail
          go_end0
          rw [hfin.out]
          exact told_after b0 hB hT5.out
        · have hz1 : ((kids.length : Int) == 0) = false := by rw [beq_eq_false_iff_ne]; omega
          have hz2 : ¬ (kids.length : Int) = 0 := by omega
          have hfin := hy.out
          rw [if_neg hz0] at hfin
          replace hfin := Lib.hid hfin
          have c7 := c4.out y4 wr hT4.out.2.1 hBr (by omega)
          rw [show ([⟨#[62]⟩] : List ByteArray).flatMap lst = [62] from rfl] at c7
          simp only [List.map_cons, List.map_nil, List.length_cons, List.length_nil, Nat.zero_add] at c7
          have hy5l : (y4 ++ [62]).length ≤ 360000001 := by rw [List.length_append]; simp only [List.length_cons, List.length_nil]; omega
          generalize y4 ++ [62] = y5 at *
          clear hz0
          go_wp2_with fail
          (with_reducible refine c7.mono ?_); rintro e w3 ⟨rfl, d⟩
          have hT5 := Lib.hid (told_then hT4.out (show Told B b _ _ _ w3 from ⟨rfl, d⟩))
          clear d c7 hT4 x0 x1 x2 x3 x4 x5 hy
          obtain ⟨x0, x1, x2, x3, x4, x5⟩ := node_open (hkeep.out w3 hT5.out.2.2.2)
          go_wp2_with fail
          clear x0 x1 x2 x3 x4 x5
          go_loopg [9, 49] kids.length (fun gg _ s49 wr => ∃ kk : Nat, kk ≤ kids.length ∧ kids.length - kk ≤ gg ∧ s49 = .int .i64 kk ∧ Hid (Told B b w0 ((kids.take kk).foldl (fun acc k => Sc.told g sp k acc) y5) (.returned (.tuple #[])) wr))
          case atStart => exact ⟨0, Nat.zero_le _, by omega, rfl, hT5⟩
          case round =>
            obtain ⟨k2, hk2, hgg2, rfl, hT6⟩ := hrel
            clear hT5
            have hfl := fold_len (f := g) (up := sp) (M := 100000 + 400000000 * (g + 1)) (l := kids.take k2) (x := y5) fun m hm y => told_len g sp m (hmay.out m (List.mem_of_mem_take hm)) (z5.out m (List.mem_of_mem_take hm)) y
            have hfl2 : ((kids.take k2).foldl (fun acc k => Sc.told g sp k acc) y5).length ≤ 50000000000 := by omega
            clear hfl
            have hBr2 : B ≤ wr.heap.size := by have := hT6.out.2.2.1.size; omega
            obtain ⟨x0, x1, x2, x3, x4, x5⟩ := node_open (hkeep.out wr hT6.out.2.2.2)
            by_cases hlt2 : k2 < kids.length
            · have hltz2 : (k2 : Int) < (kids.length : Int) := by omega
              have hN := (hn0.out k2 hlt2).stay (stay_low hT6.out.2.2.1)
              obtain ⟨kk0, ksp, knm, kd, kas, kks, kao, kbo, kca, kcb, kcs, e1, e2, _, _, _, _, _⟩ := hN.open'
              obtain ⟨bb, off, rfl, p0, p1, p2, p3, p4, p5⟩ := (hl0.out.stay (stay_low hT6.out.2.2.1)).cells hlt2 e2
              have bA := (Below.refl wr.heap.size wr).alloc (Nat.le_refl _) (.cells #[.int .i64 kk0, .string ksp, .string knm, .slice kao kas.length kca, .slice kbo kks.length kcb, .string kd] 25)
              have c8 := ih.out B b _ sp (cs k2) kids[k2] _ (tells_below hT6.out.2.1 bA) (Nat.le_trans hBr2 bA.size) (hN.on bA) (hmay.out _ (List.getElem_mem hlt2)) (z5.out _ (List.getElem_mem hlt2)) hfl2
              rw [e2] at c8
              have hstep : Sc.told g sp kids[k2] ((kids.take k2).foldl (fun acc k => Sc.told g sp k acc) y5) = (kids.take (k2 + 1)).foldl (fun acc k => Sc.told g sp k acc) y5 := by
                rw [List.take_succ_eq_append_getElem hlt2, List.foldl_append]; rfl
              rw [hstep] at c8
              have kB := Cells.new wr 25 #[.int .i64 kk0, .string ksp, .string knm, .slice kao kas.length kca, .slice kbo kks.length kcb, .string kd]
              have w0' := kB.cell (i := 0) rfl
              have w1' := kB.cell (i := 1) rfl
              have w2' := kB.cell (i := 2) rfl
              have w3' := kB.cell (i := 3) rfl
              have w4' := kB.cell (i := 4) rfl
              have w5' := kB.cell (i := 5) rfl
              have xs := (bA.cell (World.block_lt_of_cell? _ _ x1)).trans x1
              replace kB := Lib.hid kB
              clear hN e1 e2 hstep hfl2
              go_wp2_with fail
              (with_reducible refine c8.mono ?_); rintro e w4 ⟨rfl, d⟩
              have hT7 := Lib.hid (told_then hT6.out (told_after bA hBr2 (show Told B b _ _ _ w4 from ⟨rfl, d⟩)))
              clear hT6 d c8 p0 p1 p2 p3 p4 p5 w0' w1' w2' w3' w4' w5' xs bA x0 x1 x2 x3 x4 x5
              go_wp2_with fail
              go_roundg (kids.length - (k2 + 1))
              case measure => omega
              case rel => exact ⟨k2 + 1, by omega, by omega, by go_num, hT7⟩
            · have hltz2 : ¬ (k2 : Int) < (kids.length : Int) := by omega
              have hT7 := Lib.hid (show Told B b w0 (kids.foldl (fun acc k => Sc.told g sp k acc) y5) (.returned (.tuple #[])) wr by
                have := hT6.out
                rwa [List.take_of_length_le (by omega)] at this)
              rw [List.take_of_length_le (by omega)] at hfl2
              clear hT6 hlt2 hk2 hgg2
              generalize kids.foldl (fun acc k => Sc.told g sp k acc) y5 = y6 at *
              have c9 := c6.out y6 wr hT7.out.2.1 hBr2 hfl2
              rw [ht.out] at c9
              simp only [List.map_cons, List.map_nil, List.length_cons, List.length_nil, Nat.zero_add, Nat.reduceAdd] at c9
              go_wp2_with fail
              (with_reducible refine c9.mono ?_); rintro e w4 ⟨rfl, d⟩
              have hT8 := Lib.hid (told_then hT7.out (show Told B b _ _ _ w4 from ⟨rfl, d⟩))
              clear d c9 hT7
              go_wp2_with fail
              go_end0
              rw [hfin.out]
              exact told_after b0 hB hT8.out
end Go.Proofs.YtegaidfmkfnbnaaGreatDoor
