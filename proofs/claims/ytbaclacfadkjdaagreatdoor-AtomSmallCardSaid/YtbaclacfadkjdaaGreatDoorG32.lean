/-
  What the law's own maker of a kid comes to: kid.
-/
import Derived.Test.YtbaclacfadkjdaaGreatDoorG31
namespace Go.Proofs.YtbaclacfadkjdaaGreatDoor
open Go.RowKit
set_option linter.unusedSimpArgs false
set_option linter.unusedVariables false
def KidTold (w : World) (x : Ending) (w' : World) : Prop := Below w.heap.size w w' ∧ ∃ (c : List Value) (n : Gv.Node), x = .returned (.agg c.toArray) ∧ NodeAt (fun b => w.heap.size ≤ b) w' c n ∧ Gv.wt n ≤ 3000
def names12 : List ByteArray := [⟨#[97, 117, 116, 104, 111, 114]⟩, ⟨#[99, 111, 110, 116, 114, 105, 98, 117, 116, 111, 114]⟩, ⟨#[117, 112, 100, 97, 116, 101, 100]⟩, ⟨#[112, 117, 98, 108, 105, 115, 104, 101, 100]⟩, ⟨#[116, 105, 116, 108, 101]⟩, ⟨#[115, 117, 109, 109, 97, 114, 121]⟩, ⟨#[114, 105, 103, 104, 116, 115]⟩, ⟨#[105, 100]⟩, ⟨#[108, 105, 110, 107]⟩, ⟨#[99, 97, 116, 101, 103, 111, 114, 121]⟩, ⟨#[99, 111, 110, 116, 101, 110, 116]⟩, ⟨#[120]⟩]
def texts7 : List ByteArray := [⟨#[]⟩, ⟨#[120]⟩, ⟨#[32, 50, 48, 48, 53, 45, 48, 55, 45, 51, 49, 84, 49, 50, 58, 50, 57, 58, 50, 57, 90, 32]⟩, ⟨#[104, 116, 116, 112, 58, 47, 47, 97, 47, 98]⟩, ⟨#[97, 32, 98]⟩, ⟨#[98]⟩, ⟨#[50, 48, 48, 53, 45, 48, 50, 45, 51, 48, 84, 48, 48, 58, 48, 48, 58, 48, 48, 90]⟩]
def texts4 : List ByteArray := [⟨#[65]⟩, ⟨#[32]⟩, ⟨#[]⟩, ⟨#[66]⟩]
theorem texts4_small : ∀ s ∈ texts4, s.size ≤ 40 := by decide +kernel
def terms3 : List ByteArray := [⟨#[116, 101, 114, 109]⟩, ⟨#[116, 101, 114, 109]⟩, ⟨#[108, 97, 98, 101, 108]⟩]
theorem terms3_small : ∀ s ∈ terms3, s.size ≤ 40 := by decide +kernel
theorem names12_small : ∀ s ∈ names12, s.size ≤ 40 := by decide +kernel
theorem texts7_small : ∀ s ∈ texts7, s.size ≤ 40 := by decide +kernel
def amMails : List ByteArray := [⟨#[97, 64, 98]⟩, ⟨#[64, 98]⟩, ⟨#[97, 64]⟩, ⟨#[97, 64, 98, 64, 99]⟩, ⟨#[120]⟩]
theorem amMails_small : ∀ s ∈ amMails, s.size ≤ 40 := by decide +kernel
def amUris : List ByteArray := [⟨#[]⟩, ⟨#[104, 116, 116, 112, 58, 47, 47, 97]⟩, ⟨#[37]⟩]
theorem amUris_small : ∀ s ∈ amUris, s.size ≤ 40 := by decide +kernel
def amHrefs : List ByteArray := [⟨#[104, 114, 101, 102]⟩, ⟨#[104, 114, 101, 102]⟩, ⟨#[104, 114, 101, 102]⟩, ⟨#[115, 114, 99]⟩]
theorem amHrefs_small : ∀ s ∈ amHrefs, s.size ≤ 40 := by decide +kernel
def amRefs : List ByteArray := [⟨#[97]⟩, ⟨#[104, 116, 116, 112, 58, 47, 47, 97]⟩, ⟨#[97]⟩, ⟨#[37]⟩]
theorem amRefs_small : ∀ s ∈ amRefs, s.size ≤ 40 := by decide +kernel
def amRels : List ByteArray := [⟨#[97, 108, 116, 101, 114, 110, 97, 116, 101]⟩, ⟨#[115, 101, 108, 102]⟩, ⟨#[101, 100, 105, 116]⟩]
theorem amRels_small : ∀ s ∈ amRels, s.size ≤ 40 := by decide +kernel
def amLangs : List ByteArray := [⟨#[116, 121, 112, 101]⟩, ⟨#[104, 114, 101, 102, 108, 97, 110, 103]⟩]
theorem amLangs_small : ∀ s ∈ amLangs, s.size ≤ 40 := by decide +kernel
def amTypes : List ByteArray := [⟨#[116, 101, 120, 116, 47, 104, 116, 109, 108]⟩, ⟨#[84, 101, 120, 116, 47, 72, 84, 77, 76]⟩, ⟨#[120]⟩, ⟨#[101, 110]⟩]
theorem amTypes_small : ∀ s ∈ amTypes, s.size ≤ 40 := by decide +kernel
def amKinds : List ByteArray := [⟨#[116, 101, 120, 116]⟩, ⟨#[104, 116, 109, 108]⟩, ⟨#[120, 104, 116, 109, 108]⟩, ⟨#[105, 109, 97, 103, 101, 47, 112, 110, 103]⟩, ⟨#[109, 117, 108, 116, 105, 112, 97, 114, 116, 47, 120]⟩, ⟨#[121]⟩]
theorem amKinds_small : ∀ s ∈ amKinds, s.size ≤ 40 := by decide +kernel
theorem kid_wt0 {nm tx : ByteArray} (h1 : nm.size ≤ 40) (h2 : tx.size ≤ 40) : Gv.wt (.mk 0 ⟨#[104, 116, 116, 112, 58, 47, 47, 119, 119, 119, 46, 119, 51, 46, 111, 114, 103, 47, 50, 48, 48, 53, 47, 65, 116, 111, 109]⟩ nm [] (elK tx) ⟨#[]⟩) ≤ 200 := by
  have ha : ByteArray.size ⟨#[104, 116, 116, 112, 58, 47, 47, 119, 119, 119, 46, 119, 51, 46, 111, 114, 103, 47, 50, 48, 48, 53, 47, 65, 116, 111, 109]⟩ = 27 := rfl
  have he : ByteArray.size ⟨#[]⟩ = 0 := rfl
  by_cases h : tx.size = 0
  · rw [elK_no h, Gv.wt_mk]; simp [Gv.wts, ha, he]; omega
  · rw [elK_yes h, Gv.wt_mk]; unfold txtN; simp [Gv.wts, Gv.wt_mk, ha, he]; omega
theorem atts_new {B : Nat} (W : World) (nm v : ByteArray) (hB : B ≤ W.heap.size) : OwnsAtts B (.slice (some ⟨W.heap.size, 0, none⟩) 1 1) [⟨⟨#[]⟩, nm, v⟩] (W.alloc (.cells #[.string ⟨#[]⟩, .string nm, .string v] 41)) :=
  ⟨rfl, .inr ⟨W.heap.size, 1, #[.string ⟨#[]⟩, .string nm, .string v], rfl, hB, Cells.new W _ _, Nat.le_refl _, by unfold maxLen; simp, by rfl, by rfl⟩⟩
theorem kid_far {w1 w6 w7 W : World} {rb : Nat} {c : List Value} {n : Gv.Node} (h : NodeAt (fun b => w6.heap.size ≤ b ∧ b < w7.heap.size) w7 c n) (hb : Below w7.heap.size w7 W) (h1 : rb < w6.heap.size) (h2 : w1.heap.size ≤ w6.heap.size) : NodeAt (fun b => ((w1.heap.size ≤ b ∧ b ≠ rb) ∧ some b ≠ (Value.slice none 0 0).ownBlock) ∧ some b ≠ some w7.heap.size) W c n :=
  (h.on hb).mono fun b x _ => ⟨⟨⟨by omega, by omega⟩, by simp [Value.ownBlock]⟩, by intro e; injection e with e; omega⟩
theorem elN_wt {nm tx : ByteArray} (h1 : nm.size ≤ 40) (h2 : tx.size ≤ 40) : Gv.wt (elN nm tx) ≤ 200 := by
  have := kid_wt0 h1 h2
  unfold elK at this
  unfold elN
  exact this
theorem kid_wtK {nm : ByteArray} {as' : List Gv.Att} {n : Gv.Node} (h : nm.size ≤ 40) (hn : Gv.wt n ≤ 200) (ha : as'.length + (as'.map Gv.attW).sum ≤ 400) : Gv.wt (.mk 0 ⟨#[104, 116, 116, 112, 58, 47, 47, 119, 119, 119, 46, 119, 51, 46, 111, 114, 103, 47, 50, 48, 48, 53, 47, 65, 116, 111, 109]⟩ nm as' [n] ⟨#[]⟩) ≤ 700 := by
  have ea : ByteArray.size ⟨#[104, 116, 116, 112, 58, 47, 47, 119, 119, 119, 46, 119, 51, 46, 111, 114, 103, 47, 50, 48, 48, 53, 47, 65, 116, 111, 109]⟩ = 27 := rfl
  have he : ByteArray.size ⟨#[]⟩ = 0 := rfl
  rw [Gv.wt_mk]; simp only [Gv.wts, ea, he]; omega
theorem kid_wtA {nm : ByteArray} {as' : List Gv.Att} {kids : List Gv.Node} {a : Gv.Att} {m : Nat} (h : Gv.wt (.mk 0 ⟨#[104, 116, 116, 112, 58, 47, 47, 119, 119, 119, 46, 119, 51, 46, 111, 114, 103, 47, 50, 48, 48, 53, 47, 65, 116, 111, 109]⟩ nm as' kids ⟨#[]⟩) ≤ m) (ha : a.space.size + a.name.size + a.value.size ≤ 120) : Gv.wt (.mk 0 ⟨#[104, 116, 116, 112, 58, 47, 47, 119, 119, 119, 46, 119, 51, 46, 111, 114, 103, 47, 50, 48, 48, 53, 47, 65, 116, 111, 109]⟩ nm (as' ++ [a]) kids ⟨#[]⟩) ≤ m + 130 := by
  rw [Gv.wt_mk] at h ⊢
  have e : Gv.attW a ≤ 125 := by unfold Gv.attW; omega
  simp only [List.length_append, List.length_singleton, List.map_append, List.sum_append, List.map_cons, List.map_nil, List.sum_cons, List.sum_nil]
  omega
theorem kid_tail {w w1 wx : World} {rb n1 c1 n2 c2 : Nat} {nm : ByteArray} {ao bo : Option Addr} {as' : List Gv.Att} {kids : List Gv.Node} {F : Func} {tmps : Array Value} (hres : F.results = #[ResultVar.cell 2 25]) (h2 : tmps[2]? = some (.pointer (some ⟨w.heap.size + 1, 0, none⟩)))
    (g : KIn w1.heap.size rb w1 ⟨#[104, 116, 116, 112, 58, 47, 47, 119, 119, 119, 46, 119, 51, 46, 111, 114, 103, 47, 50, 48, 48, 53, 47, 65, 116, 111, 109]⟩ nm (.slice ao n1 c1) (.slice bo n2 c2) as' kids wx) (z : Cells wx (w.heap.size + 1) 25 #[.int .i64 0, .string ⟨#[]⟩, .string ⟨#[]⟩, .slice none 0 0, .slice none 0 0, .string ⟨#[]⟩]) (l1 : w.heap.size + 1 < w1.heap.size) (b1 : Below w.heap.size w w1) (hwt : Gv.wt (.mk 0 ⟨#[104, 116, 116, 112, 58, 47, 47, 119, 119, 119, 46, 119, 51, 46, 111, 114, 103, 47, 50, 48, 48, 53, 47, 65, 116, 111, 109]⟩ nm as' kids ⟨#[]⟩) ≤ 3000) :
    bodyPost Tryz.prog F (KidTold w) .ret { tmps := tmps, defers := [] } ((((((wx.setCell ⟨w.heap.size + 1, 0, none⟩ (.int .i64 0)).setCell ⟨w.heap.size + 1, 1, none⟩ (.string ⟨#[104, 116, 116, 112, 58, 47, 47, 119, 119, 119, 46, 119, 51, 46, 111, 114, 103, 47, 50, 48, 48, 53, 47, 65, 116, 111, 109]⟩)).setCell ⟨w.heap.size + 1, 2, none⟩ (.string nm)).setCell ⟨w.heap.size + 1, 3, none⟩ (.slice ao n1 c1)).setCell ⟨w.heap.size + 1, 4, none⟩ (.slice bo n2 c2)).setCell ⟨w.heap.size + 1, 5, none⟩ (.string ⟨#[]⟩)) := by
  have hl : as'.length ≤ maxLen := by rw [Gv.wt_mk] at hwt; unfold maxLen; omega
  have hns : ¬ w1.heap.size ≤ w.heap.size + 1 := by omega
  refine node_end (i := 2) hres h2 (six_cells z _ _ _ _ _ _) ⟨six_below (b1.trans (g.low.mono b1.size)) (by omega) _ _ _ _ _ _, _, _, rfl, ?_, hwt⟩
  exact (((((((g.node hl).stay (stay_set hns)).stay (stay_set hns)).stay (stay_set hns)).stay (stay_set hns)).stay (stay_set hns)).stay (stay_set hns)).mono (fun b hb _ => by omega)
set_option maxRecDepth 100000 in
set_option maxHeartbeats 6400000 in
theorem kid_any (m0 m1 m2 : Nat) (h0 : m0 < 256) (h1 : m1 < 256) (h2 : m2 < 256) (w : World) :
    Calls Tryz.prog 27 #[.agg #[.int .u8 (m0 : Int), .int .u8 (m1 : Int), .int .u8 (m2 : Int)]] w (KidTold w) := by
  obtain ⟨i0, hi, hz0, hz1, hz2⟩ := info_parts infoNode
  obtain ⟨j0, ji, jz0, jz1, jz2⟩ := info_parts infoAtt
  have b1 := (((Below.refl w.heap.size w).alloc (Nat.le_refl _) (.cells #[.int .u8 (m0 : Int), .int .u8 (m1 : Int), .int .u8 (m2 : Int)] 36))).alloc (by simp) (.cells #[.int .i64 0, .string ⟨#[]⟩, .string ⟨#[]⟩, .slice none 0 0, .slice none 0 0, .string ⟨#[]⟩] 25)
  have k1 := (Cells.new w 36 #[.int .u8 (m0 : Int), .int .u8 (m1 : Int), .int .u8 (m2 : Int)]).alloc (.cells #[.int .i64 0, .string ⟨#[]⟩, .string ⟨#[]⟩, .slice none 0 0, .slice none 0 0, .string ⟨#[]⟩] 25)
  have z1 : Cells ((w.alloc (.cells #[.int .u8 (m0 : Int), .int .u8 (m1 : Int), .int .u8 (m2 : Int)] 36)).alloc (.cells #[.int .i64 0, .string ⟨#[]⟩, .string ⟨#[]⟩, .slice none 0 0, .slice none 0 0, .string ⟨#[]⟩] 25)) (w.heap.size + 1) 25 #[.int .i64 0, .string ⟨#[]⟩, .string ⟨#[]⟩, .slice none 0 0, .slice none 0 0, .string ⟨#[]⟩] := by
    have := Cells.new (w.alloc (.cells #[.int .u8 (m0 : Int), .int .u8 (m1 : Int), .int .u8 (m2 : Int)] 36)) 25 #[.int .i64 0, .string ⟨#[]⟩, .string ⟨#[]⟩, .slice none 0 0, .slice none 0 0, .string ⟨#[]⟩]
    simpa using this
  go_enter Tryz.func27, Tryz.ntmps27
  replace b1 := Lib.hid b1
  replace k1 := Lib.hid k1
  replace z1 := Lib.hid z1
  go_upto_region 1 with fail
  generalize (w.alloc (.cells #[.int .u8 (m0 : Int), .int .u8 (m1 : Int), .int .u8 (m2 : Int)] 36)).alloc (.cells #[.int .i64 0, .string ⟨#[]⟩, .string ⟨#[]⟩, .slice none 0 0, .slice none 0 0, .string ⟨#[]⟩] 25) = w1 at *
  have q0 := k1.out.cell (i := 0) rfl
  have hs0 := Lib.hid (strs_new w1 names12 9)
  have ba := (Below.refl w1.heap.size w1).alloc (Nat.le_refl _) (.cells (names12.map Value.string).toArray 9)
  have k2 := Lib.hid (k1.out.on ba)
  have z2 := Lib.hid (z1.out.on ba)
  have l1 := Lib.hid (show w.heap.size + 1 < w1.heap.size from z1.out.lt)
  have b2 := Lib.hid ba
  clear k1 z1 ba
  go_wp2_with fail
  (refine (pick_any m0 names12 w1.heap.size 12 12 _ hs0.out rfl (by decide) (by decide) h0).mono ?_); rintro e w' ⟨⟨nm, hnm, rfl⟩, rfl⟩
  clear q0 hs0
  replace hnm := Lib.hid hnm
  go_upto_region 2 with fail
  generalize w1.alloc (.cells (names12.map Value.string).toArray 9) = w2 at *
  have q1 := k2.out.cell (i := 1) rfl
  have hs1 := Lib.hid (strs_new w2 texts7 9)
  have ba := (Below.refl w2.heap.size w2).alloc (Nat.le_refl _) (.cells (texts7.map Value.string).toArray 9)
  have k3 := Lib.hid (k2.out.on ba)
  have z3 := Lib.hid (z2.out.on ba)
  have b3 := Lib.hid (b2.out.trans (ba.mono b2.out.size))
  clear k2 z2 b2 ba
  go_wp2_with fail
  (refine (pick_any m1 texts7 w2.heap.size 7 7 _ hs1.out rfl (by decide) (by decide) h1).mono ?_); rintro e w' ⟨⟨tx, htx, rfl⟩, rfl⟩
  clear q1 hs1
  replace htx := Lib.hid htx
  generalize w2.alloc (.cells (texts7.map Value.string).toArray 9) = w3 at *
  go_wp2_with fail
  (refine (el_owned nm tx _).mono ?_); rintro e w4 ⟨ko, kn, kc, rfl, hO, b4⟩
  have bx := (Below.refl w4.heap.size w4).alloc (Nat.le_refl _) (.cells #[.int .i64 0, .string ⟨#[104, 116, 116, 112, 58, 47, 47, 119, 119, 119, 46, 119, 51, 46, 111, 114, 103, 47, 50, 48, 48, 53, 47, 65, 116, 111, 109]⟩, .string nm, .slice none 0 0, .slice ko kn kc, .string ⟨#[]⟩] 25)
  have k5 := Lib.hid ((k3.out.on b4).on bx)
  have z5 := Lib.hid ((z3.out.on b4).on bx)
  have b5 := b3.out.trans (b4.mono b3.out.size)
  have g5 : KIn w1.heap.size w4.heap.size w1 ⟨#[104, 116, 116, 112, 58, 47, 47, 119, 119, 119, 46, 119, 51, 46, 111, 114, 103, 47, 50, 48, 48, 53, 47, 65, 116, 111, 109]⟩ nm (.slice none 0 0) (.slice ko kn kc) [] (elK tx) (w4.alloc (.cells #[.int .i64 0, .string ⟨#[104, 116, 116, 112, 58, 47, 47, 119, 119, 119, 46, 119, 51, 46, 111, 114, 103, 47, 50, 48, 48, 53, 47, 65, 116, 111, 109]⟩, .string nm, .slice none 0 0, .slice ko kn kc, .string ⟨#[]⟩] 25)) := by
    have hz := b3.out.size
    have hz4 := b4.size
    refine ⟨Cells.new _ _ _, atts_none _ _, ?_, ?_, b5.trans (bx.mono b5.size), by omega⟩
    · have h := hO.mono (S' := fun b => (w1.heap.size ≤ b ∧ b ≠ w4.heap.size) ∧ some b ≠ (Value.slice none 0 0).ownBlock) (fun b hb hl => ⟨⟨by omega, by omega⟩, by simp [Value.ownBlock]⟩)
      obtain ⟨css, c1, c2, c3⟩ := h.on bx
      obtain ⟨l1, l2⟩ := c2
      refine ⟨css, c1, ⟨l1, l2.imp id (fun ⟨g, cap, cur, e, hb, r⟩ => ⟨g, cap, cur, e, by omega, r⟩)⟩, c3⟩
    · intro e
      obtain ⟨css, _, h2, _⟩ := hO
      have := (World.ownsRow.lt h2 w4.heap.size e.symm).2
      omega
  replace g5 := Lib.hid g5
  clear k3 z3 b3 hO b4 bx b5
  go_upto_region 3 with fail
  generalize w4.alloc (.cells #[.int .i64 0, .string ⟨#[104, 116, 116, 112, 58, 47, 47, 119, 119, 119, 46, 119, 51, 46, 111, 114, 103, 47, 50, 48, 48, 53, 47, 65, 116, 111, 109]⟩, .string nm, .slice none 0 0, .slice ko kn kc, .string ⟨#[]⟩] 25) = w5 at *
  have hnm' := hnm.out
  have hwt := kid_wt0 (names12_small _ hnm.out) (texts7_small _ htx.out)
  simp only [names12, List.mem_cons, List.not_mem_nil, or_false] at hnm'
  replace hwt := Lib.hid hwt
  clear hnm htx
  rcases hnm' with rfl | rfl | rfl | rfl | rfl | rfl | rfl | rfl | rfl | rfl | rfl | rfl
  · have q1 := k5.out.cell (i := 1) rfl
    have hs1 := Lib.hid (strs_new w5 texts4 9)
    have ba := (Below.refl w5.heap.size w5).alloc (Nat.le_refl _) (.cells (texts4.map Value.string).toArray 9)
    have z6 := Lib.hid (z5.out.on ba)
    have k6 := Lib.hid (k5.out.on ba)
    have g6 := Lib.hid (g5.out.on ba)
    clear z5 g5 k5 ba
    go_wp2_with fail
    (refine (pick_any m1 texts4 w5.heap.size 4 4 _ hs1.out rfl (by decide) (by decide) h1).mono ?_); rintro e w' ⟨⟨t2, ht2, rfl⟩, rfl⟩
    clear q1 hs1
    have ht2 := Lib.hid (texts4_small _ ht2)
    generalize w5.alloc (.cells (texts4.map Value.string).toArray 9) = w6 at *
    go_wp2_with fail
    (refine (el_any ⟨#[110, 97, 109, 101]⟩ t2 _).mono ?_); rintro e w7 ⟨ko2, kn2, kc2, rfl, hN, -, b7⟩
    have bn := (Below.refl w7.heap.size w7).alloc (Nat.le_refl _) (.cells #[.int .i64 0, .string ⟨#[104, 116, 116, 112, 58, 47, 47, 119, 119, 119, 46, 119, 51, 46, 111, 114, 103, 47, 50, 48, 48, 53, 47, 65, 116, 111, 109]⟩, .string ⟨#[110, 97, 109, 101]⟩, .slice none 0 0, .slice ko2 kn2 kc2, .string ⟨#[]⟩] 25)
    have a4 := (((g6.out.n.on b7).on bn)).cell (i := 4) rfl
    have f4 := (((g6.out.n.on b7).on bn)).free 4
    have ll := Lib.hid (show w.heap.size + 1 ≠ w4.heap.size by have := l1.out; have := g6.out.lb; omega)
    have z8 := Lib.hid ((((z6.out.on b7).on bn)).other (c := w4.heap.size) 4 (.slice (some ⟨w7.heap.size, 0, none⟩) 1 1) ll.out)
    have k8 := Lib.hid ((((k6.out.on b7).on bn)).other (c := w4.heap.size) 4 (.slice (some ⟨w7.heap.size, 0, none⟩) 1 1) (by have := l1.out; have := g6.out.lb; omega))
    have g8 := Lib.hid (((g6.out.on b7).on bn).kids (v' := (.slice (some ⟨w7.heap.size, 0, none⟩) 1 1)) (owns_one (n := elN ⟨#[110, 97, 109, 101]⟩ t2) (Cells.new w7 25 #[.int .i64 0, .string ⟨#[104, 116, 116, 112, 58, 47, 47, 119, 119, 119, 46, 119, 51, 46, 111, 114, 103, 47, 50, 48, 48, 53, 47, 65, 116, 111, 109]⟩, .string ⟨#[110, 97, 109, 101]⟩, .slice none 0 0, .slice ko2 kn2 kc2, .string ⟨#[]⟩]) (by have := g6.out.low.size; have := b7.size; omega) (kid_far (hN.mono (S' := fun b => w6.heap.size ≤ b ∧ b < w7.heap.size) (fun b hb hl => ⟨hb, hl⟩)) bn (by have := g6.out.n.lt; exact this) g6.out.low.size)) (by show some w4.heap.size ≠ some w7.heap.size; intro h; injection h with h; have := g6.out.n.lt; have := b7.size; omega))
    have hwt8 := Lib.hid (kid_wtK (as' := []) (nm := ⟨#[97, 117, 116, 104, 111, 114]⟩) (n := elN ⟨#[110, 97, 109, 101]⟩ t2) (by decide) (elN_wt (by decide) ht2.out) (by simp [Gv.attW]))
    clear bn g6 z6 k6 hN b7 hwt
    go_upto_region 7 with fail
    clear a4 f4
    generalize (w7.alloc (.cells #[.int .i64 0, .string ⟨#[104, 116, 116, 112, 58, 47, 47, 119, 119, 119, 46, 119, 51, 46, 111, 114, 103, 47, 50, 48, 48, 53, 47, 65, 116, 111, 109]⟩, .string ⟨#[110, 97, 109, 101]⟩, .slice none 0 0, .slice ko2 kn2 kc2, .string ⟨#[]⟩] 25)).setCell ⟨w4.heap.size, 4, none⟩ (.slice (some ⟨w7.heap.size, 0, none⟩) 1 1) = w8 at *
    have q2 := k8.out.cell (i := 2) rfl
    obtain ⟨x0, x1, x2, x3, x4, x5⟩ := node_open g8.out.n
    obtain ⟨z0, z1, z2, z3, z4, z5'⟩ := node_open (show Cells w8 _ _ (nodeArr 0 ⟨#[]⟩ ⟨#[]⟩ (.slice none 0 0) (.slice none 0 0) ⟨#[]⟩) from z8.out)
    have f0 := z8.out.free 0
    have f1 := z8.out.free 1
    have f2 := z8.out.free 2
    have f3 := z8.out.free 3
    have f4 := z8.out.free 4
    have f5 := z8.out.free 5
    by_cases hm : (m2 : Int) % 3 = 0
    · have hmb : ((m2 : Int) % 3 == 0) = true := by rw [beq_iff_eq]; exact hm
      have nK8 := Lib.hid g8.out.n
      have hcw : Hid (∀ w', Below w8.heap.size w8 w' → w'.cell? ⟨w.heap.size, 1, none⟩ = some (.int .u8 (m1 : Int)) ∧ w'.cell? ⟨w.heap.size, 2, none⟩ = some (.int .u8 (m2 : Int)) ∧ w'.cell? ⟨w4.heap.size, 4, none⟩ = some (.slice (some ⟨w7.heap.size, 0, none⟩) 1 1)) := Lib.hid (fun _ b => ⟨((k8.out.on b).cell (i := 1) rfl), ((k8.out.on b).cell (i := 2) rfl), ((nK8.out.on b).cell (i := 4) rfl)⟩)
      go_upto_region 8 with fail
      refine wp_region_last (n := 15) (S := fun w' => w'.cell? ⟨w.heap.size, 1, none⟩ = some (.int .u8 (m1 : Int)) ∧ w'.cell? ⟨w.heap.size, 2, none⟩ = some (.int .u8 (m2 : Int)) ∧ w'.cell? ⟨w4.heap.size, 4, none⟩ = some (.slice (some ⟨w7.heap.size, 0, none⟩) 1 1)) (by kernel_rfl) (by rfl) (by rfl) (by rfl) (by rfl) (by kernel_rfl) (hcw.out _ (Below.refl _ _).drew) (fun hH => ?_)
      simp only [lastNop, nopOf, List.setIfInBounds_toArray, List.set_cons_succ, List.set_cons_zero]
      have hb0 := Lib.hid (Below.refl w8.heap.size w8).drew
      generalize w8.drew = v0 at *
      refine wpAnyH_take (i := 0) (v := .pointer (some ⟨w4.heap.size, 4, none⟩)) rfl (by kernel_rfl) (by kernel_rfl) (by kernel_rfl) (fun _ _ _ h => h) (Or.inl ⟨by rfl, ?_⟩) (by assumption) ?_
      · intro w' hSw; (try dsimp only at hSw); go_simp
      try simp only [Act.put, List.setIfInBounds_toArray, List.set_cons_zero, List.set_cons_succ]
      refine wpAnyH_take (i := 1) (v := .slice (some ⟨w7.heap.size, 0, none⟩) 1 1) rfl (by kernel_rfl) (by kernel_rfl) (by kernel_rfl) (fun _ _ _ h => h) (Or.inl ⟨by rfl, ?_⟩) (by assumption) ?_
      · intro w' hSw; (try dsimp only at hSw); go_simp
      try simp only [Act.put, List.setIfInBounds_toArray, List.set_cons_zero, List.set_cons_succ]
      refine wpAnyH_take (i := 2) (v := .pointer (some ⟨w.heap.size, 1, none⟩)) rfl (by kernel_rfl) (by kernel_rfl) (by kernel_rfl) (fun _ _ _ h => h) (Or.inl ⟨by rfl, ?_⟩) (by assumption) ?_
      · intro w' hSw; (try dsimp only at hSw); go_simp
      try simp only [Act.put, List.setIfInBounds_toArray, List.set_cons_zero, List.set_cons_succ]
      refine wpAnyH_take (i := 3) (v := .int .u8 (m1 : Int)) rfl (by kernel_rfl) (by kernel_rfl) (by kernel_rfl) (fun _ _ _ h => h) (Or.inl ⟨by rfl, ?_⟩) (by assumption) ?_
      · intro w' hSw; (try dsimp only at hSw); go_simp
      try simp only [Act.put, List.setIfInBounds_toArray, List.set_cons_zero, List.set_cons_succ]
      refine wpAnyH_take (i := 7) (v := .pointer (some ⟨w.heap.size, 2, none⟩)) rfl (by kernel_rfl) (by kernel_rfl) (by kernel_rfl) (fun _ _ _ h => h) (Or.inl ⟨by rfl, ?_⟩) (by assumption) ?_
      · intro w' hSw; (try dsimp only at hSw); go_simp
      try simp only [Act.put, List.setIfInBounds_toArray, List.set_cons_zero, List.set_cons_succ]
      refine wpAnyH_take (i := 8) (v := .int .u8 (m2 : Int)) rfl (by kernel_rfl) (by kernel_rfl) (by kernel_rfl) (fun _ _ _ h => h) (Or.inl ⟨by rfl, ?_⟩) (by assumption) ?_
      · intro w' hSw; (try dsimp only at hSw); go_simp
      try simp only [Act.put, List.setIfInBounds_toArray, List.set_cons_zero, List.set_cons_succ]
      refine wpAnyH_ready (rs := [4, 9]) (by kernel_rfl) (by simp) (AllReadyH.cons rfl (fun K hK => ?_) (AllReadyH.cons rfl (fun K hK => ?_) AllReadyH.nil))
      · go_simp
        have ba := (Below.refl v0.heap.size v0).alloc (Nat.le_refl _) (.cells #[.string ⟨#[97, 64, 98]⟩, .string ⟨#[64, 98]⟩, .string ⟨#[97, 64]⟩, .string ⟨#[97, 64, 98, 64, 99]⟩, .string ⟨#[120]⟩] 9)
        have hs3 : Hid (StrsAt v0.heap.size amMails (v0.alloc (.cells #[.string ⟨#[97, 64, 98]⟩, .string ⟨#[64, 98]⟩, .string ⟨#[97, 64]⟩, .string ⟨#[97, 64, 98, 64, 99]⟩, .string ⟨#[120]⟩] 9))) := Lib.hid (strs_new v0 amMails 9)
        have hb2 := Lib.hid (hb0.out.trans (ba.mono hb0.out.size))
        refine hK.out _ _ (hcw.out _ hb2.out) (fun hH4 => ?_)
        clear hK K hH ba
        generalize v0.alloc (.cells #[.string ⟨#[97, 64, 98]⟩, .string ⟨#[64, 98]⟩, .string ⟨#[97, 64]⟩, .string ⟨#[97, 64, 98, 64, 99]⟩, .string ⟨#[120]⟩] 9) = v1 at *
        try simp only [Act.put, List.setIfInBounds_toArray, List.set_cons_zero, List.set_cons_succ]
        refine wpAnyH_ready (rs := [5, 9]) (by kernel_rfl) (by simp) (AllReadyH.cons rfl (fun K hK => ?_) (AllReadyH.cons rfl (fun K hK => ?_) AllReadyH.nil))
        · go_simp
          refine (pick_any m1 amMails (v0.heap.size) 5 5 v1 hs3.out rfl (by decide) (by decide) h1).mono ?_
          rintro e w' ⟨⟨tx5, ht6, rfl⟩, hw⟩
          rw [hw]
          replace ht6 := Lib.hid (amMails_small _ ht6)
          refine hK.out _ _ (hcw.out _ hb2.out) (fun hH7 => ?_)
          clear hK K hH4 hw w' hs3
          try simp only [Act.put, List.setIfInBounds_toArray, List.set_cons_zero, List.set_cons_succ]
          refine wpAnyH_ready (rs := [6, 9]) (by kernel_rfl) (by simp) (AllReadyH.cons rfl (fun K hK => ?_) (AllReadyH.cons rfl (fun K hK => ?_) AllReadyH.nil))
          · go_simp
            refine (el_any ⟨#[101, 109, 97, 105, 108]⟩ tx5 v1).mono ?_
            rintro e v8 ⟨ko10, kn11, kc12, rfl, hN13, -, ba⟩
            replace hN13 := Lib.hid (hN13.mono (S' := fun b => w8.heap.size ≤ b) (fun b hb _ => Nat.le_trans hb2.out.size hb))
            have hb9 := Lib.hid (hb2.out.trans (ba.mono hb2.out.size))
            refine hK.out _ _ (hcw.out _ hb9.out) (fun hH14 => ?_)
            clear hK K hH7 ba
            try simp only [Act.put, List.setIfInBounds_toArray, List.set_cons_zero, List.set_cons_succ]
            refine wpAnyH_ready (rs := [9]) (by kernel_rfl) (by simp) (AllReadyH.cons rfl (fun K hK => ?_) AllReadyH.nil)
            go_simp
            have ba := (Below.refl v8.heap.size v8).alloc (Nat.le_refl _) (.cells #[.string ⟨#[]⟩, .string ⟨#[104, 116, 116, 112, 58, 47, 47, 97]⟩, .string ⟨#[37]⟩] 9)
            have hs17 : Hid (StrsAt v8.heap.size amUris (v8.alloc (.cells #[.string ⟨#[]⟩, .string ⟨#[104, 116, 116, 112, 58, 47, 47, 97]⟩, .string ⟨#[37]⟩] 9))) := Lib.hid (strs_new v8 amUris 9)
            replace hN13 := Lib.hid (hN13.out.on ba)
            have hb16 := Lib.hid (hb9.out.trans (ba.mono hb9.out.size))
            refine hK.out _ _ (hcw.out _ hb16.out) (fun hH18 => ?_)
            clear hK K hH14 ba
            generalize v8.alloc (.cells #[.string ⟨#[]⟩, .string ⟨#[104, 116, 116, 112, 58, 47, 47, 97]⟩, .string ⟨#[37]⟩] 9) = v15 at *
            try simp only [Act.put, List.setIfInBounds_toArray, List.set_cons_zero, List.set_cons_succ]
            refine wpAnyH_ready (rs := [10]) (by kernel_rfl) (by simp) (AllReadyH.cons rfl (fun K hK => ?_) AllReadyH.nil)
            go_simp
            refine (pick_any m2 amUris (v8.heap.size) 3 3 v15 hs17.out rfl (by decide) (by decide) h2).mono ?_
            rintro e w' ⟨⟨tx19, ht20, rfl⟩, hw⟩
            rw [hw]
            replace ht20 := Lib.hid (amUris_small _ ht20)
            refine hK.out _ _ (hcw.out _ hb16.out) (fun hH21 => ?_)
            clear hK K hH18 hw w' hs17
            try simp only [Act.put, List.setIfInBounds_toArray, List.set_cons_zero, List.set_cons_succ]
            refine wpAnyH_ready (rs := [11]) (by kernel_rfl) (by simp) (AllReadyH.cons rfl (fun K hK => ?_) AllReadyH.nil)
            go_simp
            refine (el_any ⟨#[117, 114, 105]⟩ tx19 v15).mono ?_
            rintro e v22 ⟨ko24, kn25, kc26, rfl, hN27, -, ba⟩
            replace hN27 := Lib.hid (hN27.mono (S' := fun b => w8.heap.size ≤ b) (fun b hb _ => Nat.le_trans hb16.out.size hb))
            replace hN13 := Lib.hid (hN13.out.on ba)
            have hb23 := Lib.hid (hb16.out.trans (ba.mono hb16.out.size))
            refine hK.out _ _ (hcw.out _ hb23.out) (fun hH28 => ?_)
            clear hK K hH21 ba
            try simp only [Act.put, List.setIfInBounds_toArray, List.set_cons_zero, List.set_cons_succ]
            refine wpAnyH_ready (rs := [12]) (by kernel_rfl) (by simp) (AllReadyH.cons rfl (fun K hK => ?_) AllReadyH.nil)
            go_simp
            have ba := (Below.refl v22.heap.size v22).alloc (Nat.le_refl _) (.cells #[.int .i64 0, .string ⟨#[104, 116, 116, 112, 58, 47, 47, 119, 119, 119, 46, 119, 51, 46, 111, 114, 103, 47, 50, 48, 48, 53, 47, 65, 116, 111, 109]⟩, .string ⟨#[101, 109, 97, 105, 108]⟩, .slice none 0 0, .slice ko10 kn11 kc12, .string ⟨#[]⟩, .int .i64 0, .string ⟨#[104, 116, 116, 112, 58, 47, 47, 119, 119, 119, 46, 119, 51, 46, 111, 114, 103, 47, 50, 48, 48, 53, 47, 65, 116, 111, 109]⟩, .string ⟨#[117, 114, 105]⟩, .slice none 0 0, .slice ko24 kn25 kc26, .string ⟨#[]⟩] 25)
            have hr31 := Lib.hid (am_cells_row v22 [.int .i64 0, .string ⟨#[104, 116, 116, 112, 58, 47, 47, 119, 119, 119, 46, 119, 51, 46, 111, 114, 103, 47, 50, 48, 48, 53, 47, 65, 116, 111, 109]⟩, .string ⟨#[101, 109, 97, 105, 108]⟩, .slice none 0 0, .slice ko10 kn11 kc12, .string ⟨#[]⟩, .int .i64 0, .string ⟨#[104, 116, 116, 112, 58, 47, 47, 119, 119, 119, 46, 119, 51, 46, 111, 114, 103, 47, 50, 48, 48, 53, 47, 65, 116, 111, 109]⟩, .string ⟨#[117, 114, 105]⟩, .slice none 0 0, .slice ko24 kn25 kc26, .string ⟨#[]⟩] 25)
            replace hN13 := Lib.hid (hN13.out.on ba)
            replace hN27 := Lib.hid (hN27.out.on ba)
            have hb30 := Lib.hid (hb23.out.trans (ba.mono hb23.out.size))
            refine hK.out _ _ (hcw.out _ hb30.out) (fun hH32 => ?_)
            clear hK K hH28 ba
            generalize v22.alloc (.cells #[.int .i64 0, .string ⟨#[104, 116, 116, 112, 58, 47, 47, 119, 119, 119, 46, 119, 51, 46, 111, 114, 103, 47, 50, 48, 48, 53, 47, 65, 116, 111, 109]⟩, .string ⟨#[101, 109, 97, 105, 108]⟩, .slice none 0 0, .slice ko10 kn11 kc12, .string ⟨#[]⟩, .int .i64 0, .string ⟨#[104, 116, 116, 112, 58, 47, 47, 119, 119, 119, 46, 119, 51, 46, 111, 114, 103, 47, 50, 48, 48, 53, 47, 65, 116, 111, 109]⟩, .string ⟨#[117, 114, 105]⟩, .slice none 0 0, .slice ko24 kn25 kc26, .string ⟨#[]⟩] 25) = v29 at *
            try simp only [Act.put, List.setIfInBounds_toArray, List.set_cons_zero, List.set_cons_succ]
            refine wpAnyH_ready (rs := [13]) (by kernel_rfl) (by simp) (AllReadyH.cons rfl (fun K hK => ?_) AllReadyH.nil)
            have gW := g8.out.on hb30.out
            have kW := k8.out.on hb30.out
            have hlW := gW.n.lt
            have hbW := gW.lb
            have hl1 := l1.out
            obtain ⟨css, hcl, hown, hkd⟩ := gW.kid
            refine step_append_lies _ (by rfl) _ _ _ (by rfl) w1.heap.size 25 i0 _ 6 104 Tryz.underlying23 hi hz0 hz1 hz2 rfl (by decide) (.slice (some ⟨w7.heap.size, 0, none⟩) 1 1) 1 css.flatten (by rfl) hown ⟨v22.heap.size, 0, none⟩ 2 2 [.int .i64 0, .string ⟨#[104, 116, 116, 112, 58, 47, 47, 119, 119, 119, 46, 119, 51, 46, 111, 114, 103, 47, 50, 48, 48, 53, 47, 65, 116, 111, 109]⟩, .string ⟨#[101, 109, 97, 105, 108]⟩, .slice none 0 0, .slice ko10 kn11 kc12, .string ⟨#[]⟩, .int .i64 0, .string ⟨#[104, 116, 116, 112, 58, 47, 47, 119, 119, 119, 46, 119, 51, 46, 111, 114, 103, 47, 50, 48, 48, 53, 47, 65, 116, 111, 109]⟩, .string ⟨#[117, 114, 105]⟩, .slice none 0 0, .slice ko24 kn25 kc26, .string ⟨#[]⟩] rfl rfl hr31.out (by simp [Value.oneCell']) (by decide) (by simp [maxLen]) (by simp) (by have := gW.low.size; omega) _ rfl ?_
            intro gg cap5 v33 hown5 hg5 hat5 hlt5
            have hvb : ∀ j, (.slice (some ⟨w7.heap.size, 0, none⟩) 1 1 : Value).ownBlock = some j → w1.heap.size ≤ j := fun j e => (World.ownsRow.lt hown j e).1
            have nV : Cells v33 w4.heap.size 25 _ := (hg5.block w4.heap.size hlW gW.kb).trans gW.n
            have kV : Cells v33 w.heap.size 36 _ := (hg5.block w.heap.size (by omega) (fun e => by have := hvb _ e.symm; omega)).trans kW
            refine hK.out _ _ ⟨kV.cell (i := 1) rfl, kV.cell (i := 2) rfl, nV.cell (i := 4) rfl⟩ (fun hH34 => ?_)
            have nF := nV.free 4
            have nC := nV.cell (i := 4) rfl
            clear hK K hH32 nV kV kW
            try simp only [Act.put, List.setIfInBounds_toArray, List.set_cons_zero, List.set_cons_succ]
            refine wpAnyH_take (i := 14) (v := .pointer (some ⟨w4.heap.size, 4, none⟩)) rfl (by kernel_rfl) (by kernel_rfl) (by kernel_rfl) (fun _ _ _ h => h) (Or.inl ⟨by rfl, ?_⟩) (by assumption) ?_
            · intro w' hSw; (try dsimp only at hSw); go_simp
            try simp only [Act.put, List.setIfInBounds_toArray, List.set_cons_zero, List.set_cons_succ]
            refine wpAnyH_take (i := 15) (v := .bool true) rfl (by kernel_rfl) (by kernel_rfl) (by kernel_rfl) (fun _ _ _ h => h) (Or.inl ⟨by rfl, ?_⟩) (by assumption) ?_
            · intro w' hSw; (try dsimp only at hSw); go_simp
            try simp only [Act.put, List.setIfInBounds_toArray, List.set_cons_zero, List.set_cons_succ]
            refine wpAnyH_done (by kernel_rfl) ?_ _
            show Oper.wp _ _ _ _ _ _
            go_simp
            have st9 : Hid (KSt w1 w4.heap.size _ (700 + (400 + 2)) (v33.setCell ⟨w4.heap.size, 4, none⟩ (.slice (some ⟨gg, 0, none⟩) 3 cap5))) := Lib.hid (KSt.moreKids (n := elN ⟨#[101, 109, 97, 105, 108]⟩ tx5) (m := elN ⟨#[117, 114, 105]⟩ tx19) (c := [.int .i64 0, .string ⟨#[104, 116, 116, 112, 58, 47, 47, 119, 119, 119, 46, 119, 51, 46, 111, 114, 103, 47, 50, 48, 48, 53, 47, 65, 116, 111, 109]⟩, .string ⟨#[101, 109, 97, 105, 108]⟩, .slice none 0 0, .slice ko10 kn11 kc12, .string ⟨#[]⟩]) (d := [.int .i64 0, .string ⟨#[104, 116, 116, 112, 58, 47, 47, 119, 119, 119, 46, 119, 51, 46, 111, 114, 103, 47, 50, 48, 48, 53, 47, 65, 116, 111, 109]⟩, .string ⟨#[117, 114, 105]⟩, .slice none 0 0, .slice ko24 kn25 kc26, .string ⟨#[]⟩]) (css := css) gW hwt8.out (by have e1 := elN_wt (nm := ⟨#[101, 109, 97, 105, 108]⟩) (by decide) ht6.out; have e2 := elN_wt (nm := ⟨#[117, 114, 105]⟩) (by decide) ht20.out; omega) hcl hkd (kid_new g8.out hN13.out (Nat.le_refl _)) (kid_new g8.out hN27.out (Nat.le_refl _)) hown5 hg5 (hat5.imp (fun e => e.symm) (fun e => by rw [e]; first | rfl | simp [Value.ownBlock])))
            clear hown5 hg5 hat5 hlt5 hown hkd gW nC nF hcw
            generalize v33.setCell ⟨w4.heap.size, 4, none⟩ (.slice (some ⟨gg, 0, none⟩) 3 cap5) = w9 at *
            obtain ⟨ao, ca, bo, cb, as', kids, gE, hE, -, -⟩ := KSt.open' st9.out
            have zE := g8.out.same gE l1.out z8.out
            obtain ⟨x0, x1, x2, x3, x4, x5⟩ := node_open gE.n
            obtain ⟨z0, z1, z2, z3, z4, z5'⟩ := node_open (show Cells w9 _ _ (nodeArr 0 ⟨#[]⟩ ⟨#[]⟩ (.slice none 0 0) (.slice none 0 0) ⟨#[]⟩) from zE)
            have f0 := zE.free 0
            have f1 := zE.free 1
            have f2 := zE.free 2
            have f3 := zE.free 3
            have f4 := zE.free 4
            have f5 := zE.free 5
            have aE : amSp = ⟨#[104, 116, 116, 112, 58, 47, 47, 119, 119, 119, 46, 119, 51, 46, 111, 114, 103, 47, 50, 48, 48, 53, 47, 65, 116, 111, 109]⟩ := rfl
            rw [aE] at x1
            replace aE := Lib.hid aE
            replace gE := Lib.hid gE
            replace hE := Lib.hid hE
            replace zE := Lib.hid zE
            go_wp2_with fail
            exact kid_tail rfl rfl gE.out zE.out l1.out b1.out (Nat.le_trans hE.out (by omega))
          · go_simp
            have ba := (Below.refl v1.heap.size v1).alloc (Nat.le_refl _) (.cells #[.string ⟨#[]⟩, .string ⟨#[104, 116, 116, 112, 58, 47, 47, 97]⟩, .string ⟨#[37]⟩] 9)
            have hs37 : Hid (StrsAt v1.heap.size amUris (v1.alloc (.cells #[.string ⟨#[]⟩, .string ⟨#[104, 116, 116, 112, 58, 47, 47, 97]⟩, .string ⟨#[37]⟩] 9))) := Lib.hid (strs_new v1 amUris 9)
            have hb36 := Lib.hid (hb2.out.trans (ba.mono hb2.out.size))
            refine hK.out _ _ (hcw.out _ hb36.out) (fun hH38 => ?_)
            clear hK K hH7 ba
            generalize v1.alloc (.cells #[.string ⟨#[]⟩, .string ⟨#[104, 116, 116, 112, 58, 47, 47, 97]⟩, .string ⟨#[37]⟩] 9) = v35 at *
            try simp only [Act.put, List.setIfInBounds_toArray, List.set_cons_zero, List.set_cons_succ]
            refine wpAnyH_ready (rs := [6]) (by kernel_rfl) (by simp) (AllReadyH.cons rfl (fun K hK => ?_) AllReadyH.nil)
            go_simp
            refine (el_any ⟨#[101, 109, 97, 105, 108]⟩ tx5 v35).mono ?_
            rintro e v39 ⟨ko41, kn42, kc43, rfl, hN44, -, ba⟩
            replace hN44 := Lib.hid (hN44.mono (S' := fun b => w8.heap.size ≤ b) (fun b hb _ => Nat.le_trans hb36.out.size hb))
            replace hs37 := Lib.hid (hs37.out.on ba)
            have hb40 := Lib.hid (hb36.out.trans (ba.mono hb36.out.size))
            refine hK.out _ _ (hcw.out _ hb40.out) (fun hH45 => ?_)
            clear hK K hH38 ba
            try simp only [Act.put, List.setIfInBounds_toArray, List.set_cons_zero, List.set_cons_succ]
            refine wpAnyH_ready (rs := [10]) (by kernel_rfl) (by simp) (AllReadyH.cons rfl (fun K hK => ?_) AllReadyH.nil)
            go_simp
            refine (pick_any m2 amUris (v1.heap.size) 3 3 v39 hs37.out rfl (by decide) (by decide) h2).mono ?_
            rintro e w' ⟨⟨tx46, ht47, rfl⟩, hw⟩
            rw [hw]
            replace ht47 := Lib.hid (amUris_small _ ht47)
            refine hK.out _ _ (hcw.out _ hb40.out) (fun hH48 => ?_)
            clear hK K hH45 hw w' hs37
            try simp only [Act.put, List.setIfInBounds_toArray, List.set_cons_zero, List.set_cons_succ]
            refine wpAnyH_ready (rs := [11]) (by kernel_rfl) (by simp) (AllReadyH.cons rfl (fun K hK => ?_) AllReadyH.nil)
            go_simp
            refine (el_any ⟨#[117, 114, 105]⟩ tx46 v39).mono ?_
            rintro e v49 ⟨ko51, kn52, kc53, rfl, hN54, -, ba⟩
            replace hN54 := Lib.hid (hN54.mono (S' := fun b => w8.heap.size ≤ b) (fun b hb _ => Nat.le_trans hb40.out.size hb))
            replace hN44 := Lib.hid (hN44.out.on ba)
            have hb50 := Lib.hid (hb40.out.trans (ba.mono hb40.out.size))
            refine hK.out _ _ (hcw.out _ hb50.out) (fun hH55 => ?_)
            clear hK K hH48 ba
            try simp only [Act.put, List.setIfInBounds_toArray, List.set_cons_zero, List.set_cons_succ]
            refine wpAnyH_ready (rs := [12]) (by kernel_rfl) (by simp) (AllReadyH.cons rfl (fun K hK => ?_) AllReadyH.nil)
            go_simp
            have ba := (Below.refl v49.heap.size v49).alloc (Nat.le_refl _) (.cells #[.int .i64 0, .string ⟨#[104, 116, 116, 112, 58, 47, 47, 119, 119, 119, 46, 119, 51, 46, 111, 114, 103, 47, 50, 48, 48, 53, 47, 65, 116, 111, 109]⟩, .string ⟨#[101, 109, 97, 105, 108]⟩, .slice none 0 0, .slice ko41 kn42 kc43, .string ⟨#[]⟩, .int .i64 0, .string ⟨#[104, 116, 116, 112, 58, 47, 47, 119, 119, 119, 46, 119, 51, 46, 111, 114, 103, 47, 50, 48, 48, 53, 47, 65, 116, 111, 109]⟩, .string ⟨#[117, 114, 105]⟩, .slice none 0 0, .slice ko51 kn52 kc53, .string ⟨#[]⟩] 25)
            have hr58 := Lib.hid (am_cells_row v49 [.int .i64 0, .string ⟨#[104, 116, 116, 112, 58, 47, 47, 119, 119, 119, 46, 119, 51, 46, 111, 114, 103, 47, 50, 48, 48, 53, 47, 65, 116, 111, 109]⟩, .string ⟨#[101, 109, 97, 105, 108]⟩, .slice none 0 0, .slice ko41 kn42 kc43, .string ⟨#[]⟩, .int .i64 0, .string ⟨#[104, 116, 116, 112, 58, 47, 47, 119, 119, 119, 46, 119, 51, 46, 111, 114, 103, 47, 50, 48, 48, 53, 47, 65, 116, 111, 109]⟩, .string ⟨#[117, 114, 105]⟩, .slice none 0 0, .slice ko51 kn52 kc53, .string ⟨#[]⟩] 25)
            replace hN44 := Lib.hid (hN44.out.on ba)
            replace hN54 := Lib.hid (hN54.out.on ba)
            have hb57 := Lib.hid (hb50.out.trans (ba.mono hb50.out.size))
            refine hK.out _ _ (hcw.out _ hb57.out) (fun hH59 => ?_)
            clear hK K hH55 ba
            generalize v49.alloc (.cells #[.int .i64 0, .string ⟨#[104, 116, 116, 112, 58, 47, 47, 119, 119, 119, 46, 119, 51, 46, 111, 114, 103, 47, 50, 48, 48, 53, 47, 65, 116, 111, 109]⟩, .string ⟨#[101, 109, 97, 105, 108]⟩, .slice none 0 0, .slice ko41 kn42 kc43, .string ⟨#[]⟩, .int .i64 0, .string ⟨#[104, 116, 116, 112, 58, 47, 47, 119, 119, 119, 46, 119, 51, 46, 111, 114, 103, 47, 50, 48, 48, 53, 47, 65, 116, 111, 109]⟩, .string ⟨#[117, 114, 105]⟩, .slice none 0 0, .slice ko51 kn52 kc53, .string ⟨#[]⟩] 25) = v56 at *
            try simp only [Act.put, List.setIfInBounds_toArray, List.set_cons_zero, List.set_cons_succ]
            refine wpAnyH_ready (rs := [13]) (by kernel_rfl) (by simp) (AllReadyH.cons rfl (fun K hK => ?_) AllReadyH.nil)
            have gW := g8.out.on hb57.out
            have kW := k8.out.on hb57.out
            have hlW := gW.n.lt
            have hbW := gW.lb
            have hl1 := l1.out
            obtain ⟨css, hcl, hown, hkd⟩ := gW.kid
            refine step_append_lies _ (by rfl) _ _ _ (by rfl) w1.heap.size 25 i0 _ 6 104 Tryz.underlying23 hi hz0 hz1 hz2 rfl (by decide) (.slice (some ⟨w7.heap.size, 0, none⟩) 1 1) 1 css.flatten (by rfl) hown ⟨v49.heap.size, 0, none⟩ 2 2 [.int .i64 0, .string ⟨#[104, 116, 116, 112, 58, 47, 47, 119, 119, 119, 46, 119, 51, 46, 111, 114, 103, 47, 50, 48, 48, 53, 47, 65, 116, 111, 109]⟩, .string ⟨#[101, 109, 97, 105, 108]⟩, .slice none 0 0, .slice ko41 kn42 kc43, .string ⟨#[]⟩, .int .i64 0, .string ⟨#[104, 116, 116, 112, 58, 47, 47, 119, 119, 119, 46, 119, 51, 46, 111, 114, 103, 47, 50, 48, 48, 53, 47, 65, 116, 111, 109]⟩, .string ⟨#[117, 114, 105]⟩, .slice none 0 0, .slice ko51 kn52 kc53, .string ⟨#[]⟩] rfl rfl hr58.out (by simp [Value.oneCell']) (by decide) (by simp [maxLen]) (by simp) (by have := gW.low.size; omega) _ rfl ?_
            intro gg cap5 v60 hown5 hg5 hat5 hlt5
            have hvb : ∀ j, (.slice (some ⟨w7.heap.size, 0, none⟩) 1 1 : Value).ownBlock = some j → w1.heap.size ≤ j := fun j e => (World.ownsRow.lt hown j e).1
            have nV : Cells v60 w4.heap.size 25 _ := (hg5.block w4.heap.size hlW gW.kb).trans gW.n
            have kV : Cells v60 w.heap.size 36 _ := (hg5.block w.heap.size (by omega) (fun e => by have := hvb _ e.symm; omega)).trans kW
            refine hK.out _ _ ⟨kV.cell (i := 1) rfl, kV.cell (i := 2) rfl, nV.cell (i := 4) rfl⟩ (fun hH61 => ?_)
            have nF := nV.free 4
            have nC := nV.cell (i := 4) rfl
            clear hK K hH59 nV kV kW
            try simp only [Act.put, List.setIfInBounds_toArray, List.set_cons_zero, List.set_cons_succ]
            refine wpAnyH_take (i := 14) (v := .pointer (some ⟨w4.heap.size, 4, none⟩)) rfl (by kernel_rfl) (by kernel_rfl) (by kernel_rfl) (fun _ _ _ h => h) (Or.inl ⟨by rfl, ?_⟩) (by assumption) ?_
            · intro w' hSw; (try dsimp only at hSw); go_simp
            try simp only [Act.put, List.setIfInBounds_toArray, List.set_cons_zero, List.set_cons_succ]
            refine wpAnyH_take (i := 15) (v := .bool true) rfl (by kernel_rfl) (by kernel_rfl) (by kernel_rfl) (fun _ _ _ h => h) (Or.inl ⟨by rfl, ?_⟩) (by assumption) ?_
            · intro w' hSw; (try dsimp only at hSw); go_simp
            try simp only [Act.put, List.setIfInBounds_toArray, List.set_cons_zero, List.set_cons_succ]
            refine wpAnyH_done (by kernel_rfl) ?_ _
            show Oper.wp _ _ _ _ _ _
            go_simp
            have st9 : Hid (KSt w1 w4.heap.size _ (700 + (400 + 2)) (v60.setCell ⟨w4.heap.size, 4, none⟩ (.slice (some ⟨gg, 0, none⟩) 3 cap5))) := Lib.hid (KSt.moreKids (n := elN ⟨#[101, 109, 97, 105, 108]⟩ tx5) (m := elN ⟨#[117, 114, 105]⟩ tx46) (c := [.int .i64 0, .string ⟨#[104, 116, 116, 112, 58, 47, 47, 119, 119, 119, 46, 119, 51, 46, 111, 114, 103, 47, 50, 48, 48, 53, 47, 65, 116, 111, 109]⟩, .string ⟨#[101, 109, 97, 105, 108]⟩, .slice none 0 0, .slice ko41 kn42 kc43, .string ⟨#[]⟩]) (d := [.int .i64 0, .string ⟨#[104, 116, 116, 112, 58, 47, 47, 119, 119, 119, 46, 119, 51, 46, 111, 114, 103, 47, 50, 48, 48, 53, 47, 65, 116, 111, 109]⟩, .string ⟨#[117, 114, 105]⟩, .slice none 0 0, .slice ko51 kn52 kc53, .string ⟨#[]⟩]) (css := css) gW hwt8.out (by have e1 := elN_wt (nm := ⟨#[101, 109, 97, 105, 108]⟩) (by decide) ht6.out; have e2 := elN_wt (nm := ⟨#[117, 114, 105]⟩) (by decide) ht47.out; omega) hcl hkd (kid_new g8.out hN44.out (Nat.le_refl _)) (kid_new g8.out hN54.out (Nat.le_refl _)) hown5 hg5 (hat5.imp (fun e => e.symm) (fun e => by rw [e]; first | rfl | simp [Value.ownBlock])))
            clear hown5 hg5 hat5 hlt5 hown hkd gW nC nF hcw
            generalize v60.setCell ⟨w4.heap.size, 4, none⟩ (.slice (some ⟨gg, 0, none⟩) 3 cap5) = w9 at *
            obtain ⟨ao, ca, bo, cb, as', kids, gE, hE, -, -⟩ := KSt.open' st9.out
            have zE := g8.out.same gE l1.out z8.out
            obtain ⟨x0, x1, x2, x3, x4, x5⟩ := node_open gE.n
            obtain ⟨z0, z1, z2, z3, z4, z5'⟩ := node_open (show Cells w9 _ _ (nodeArr 0 ⟨#[]⟩ ⟨#[]⟩ (.slice none 0 0) (.slice none 0 0) ⟨#[]⟩) from zE)
            have f0 := zE.free 0
            have f1 := zE.free 1
            have f2 := zE.free 2
            have f3 := zE.free 3
            have f4 := zE.free 4
            have f5 := zE.free 5
            have aE : amSp = ⟨#[104, 116, 116, 112, 58, 47, 47, 119, 119, 119, 46, 119, 51, 46, 111, 114, 103, 47, 50, 48, 48, 53, 47, 65, 116, 111, 109]⟩ := rfl
            rw [aE] at x1
            replace aE := Lib.hid aE
            replace gE := Lib.hid gE
            replace hE := Lib.hid hE
            replace zE := Lib.hid zE
            go_wp2_with fail
            exact kid_tail rfl rfl gE.out zE.out l1.out b1.out (Nat.le_trans hE.out (by omega))
        · go_simp
          have ba := (Below.refl v1.heap.size v1).alloc (Nat.le_refl _) (.cells #[.string ⟨#[]⟩, .string ⟨#[104, 116, 116, 112, 58, 47, 47, 97]⟩, .string ⟨#[37]⟩] 9)
          have hs64 : Hid (StrsAt v1.heap.size amUris (v1.alloc (.cells #[.string ⟨#[]⟩, .string ⟨#[104, 116, 116, 112, 58, 47, 47, 97]⟩, .string ⟨#[37]⟩] 9))) := Lib.hid (strs_new v1 amUris 9)
          replace hs3 := Lib.hid (hs3.out.on ba)
          have hb63 := Lib.hid (hb2.out.trans (ba.mono hb2.out.size))
          refine hK.out _ _ (hcw.out _ hb63.out) (fun hH65 => ?_)
          clear hK K hH4 ba
          generalize v1.alloc (.cells #[.string ⟨#[]⟩, .string ⟨#[104, 116, 116, 112, 58, 47, 47, 97]⟩, .string ⟨#[37]⟩] 9) = v62 at *
          try simp only [Act.put, List.setIfInBounds_toArray, List.set_cons_zero, List.set_cons_succ]
          refine wpAnyH_ready (rs := [5]) (by kernel_rfl) (by simp) (AllReadyH.cons rfl (fun K hK => ?_) AllReadyH.nil)
          go_simp
          refine (pick_any m1 amMails (v0.heap.size) 5 5 v62 hs3.out rfl (by decide) (by decide) h1).mono ?_
          rintro e w' ⟨⟨tx66, ht67, rfl⟩, hw⟩
          rw [hw]
          replace ht67 := Lib.hid (amMails_small _ ht67)
          refine hK.out _ _ (hcw.out _ hb63.out) (fun hH68 => ?_)
          clear hK K hH65 hw w' hs3
          try simp only [Act.put, List.setIfInBounds_toArray, List.set_cons_zero, List.set_cons_succ]
          refine wpAnyH_ready (rs := [6]) (by kernel_rfl) (by simp) (AllReadyH.cons rfl (fun K hK => ?_) AllReadyH.nil)
          go_simp
          refine (el_any ⟨#[101, 109, 97, 105, 108]⟩ tx66 v62).mono ?_
          rintro e v69 ⟨ko71, kn72, kc73, rfl, hN74, -, ba⟩
          replace hN74 := Lib.hid (hN74.mono (S' := fun b => w8.heap.size ≤ b) (fun b hb _ => Nat.le_trans hb63.out.size hb))
          replace hs64 := Lib.hid (hs64.out.on ba)
          have hb70 := Lib.hid (hb63.out.trans (ba.mono hb63.out.size))
          refine hK.out _ _ (hcw.out _ hb70.out) (fun hH75 => ?_)
          clear hK K hH68 ba
          try simp only [Act.put, List.setIfInBounds_toArray, List.set_cons_zero, List.set_cons_succ]
          refine wpAnyH_ready (rs := [10]) (by kernel_rfl) (by simp) (AllReadyH.cons rfl (fun K hK => ?_) AllReadyH.nil)
          go_simp
          refine (pick_any m2 amUris (v1.heap.size) 3 3 v69 hs64.out rfl (by decide) (by decide) h2).mono ?_
          rintro e w' ⟨⟨tx76, ht77, rfl⟩, hw⟩
          rw [hw]
          replace ht77 := Lib.hid (amUris_small _ ht77)
          refine hK.out _ _ (hcw.out _ hb70.out) (fun hH78 => ?_)
          clear hK K hH75 hw w' hs64
          try simp only [Act.put, List.setIfInBounds_toArray, List.set_cons_zero, List.set_cons_succ]
          refine wpAnyH_ready (rs := [11]) (by kernel_rfl) (by simp) (AllReadyH.cons rfl (fun K hK => ?_) AllReadyH.nil)
          go_simp
          refine (el_any ⟨#[117, 114, 105]⟩ tx76 v69).mono ?_
          rintro e v79 ⟨ko81, kn82, kc83, rfl, hN84, -, ba⟩
          replace hN84 := Lib.hid (hN84.mono (S' := fun b => w8.heap.size ≤ b) (fun b hb _ => Nat.le_trans hb70.out.size hb))
          replace hN74 := Lib.hid (hN74.out.on ba)
          have hb80 := Lib.hid (hb70.out.trans (ba.mono hb70.out.size))
          refine hK.out _ _ (hcw.out _ hb80.out) (fun hH85 => ?_)
          clear hK K hH78 ba
          try simp only [Act.put, List.setIfInBounds_toArray, List.set_cons_zero, List.set_cons_succ]
          refine wpAnyH_ready (rs := [12]) (by kernel_rfl) (by simp) (AllReadyH.cons rfl (fun K hK => ?_) AllReadyH.nil)
          go_simp
          have ba := (Below.refl v79.heap.size v79).alloc (Nat.le_refl _) (.cells #[.int .i64 0, .string ⟨#[104, 116, 116, 112, 58, 47, 47, 119, 119, 119, 46, 119, 51, 46, 111, 114, 103, 47, 50, 48, 48, 53, 47, 65, 116, 111, 109]⟩, .string ⟨#[101, 109, 97, 105, 108]⟩, .slice none 0 0, .slice ko71 kn72 kc73, .string ⟨#[]⟩, .int .i64 0, .string ⟨#[104, 116, 116, 112, 58, 47, 47, 119, 119, 119, 46, 119, 51, 46, 111, 114, 103, 47, 50, 48, 48, 53, 47, 65, 116, 111, 109]⟩, .string ⟨#[117, 114, 105]⟩, .slice none 0 0, .slice ko81 kn82 kc83, .string ⟨#[]⟩] 25)
          have hr88 := Lib.hid (am_cells_row v79 [.int .i64 0, .string ⟨#[104, 116, 116, 112, 58, 47, 47, 119, 119, 119, 46, 119, 51, 46, 111, 114, 103, 47, 50, 48, 48, 53, 47, 65, 116, 111, 109]⟩, .string ⟨#[101, 109, 97, 105, 108]⟩, .slice none 0 0, .slice ko71 kn72 kc73, .string ⟨#[]⟩, .int .i64 0, .string ⟨#[104, 116, 116, 112, 58, 47, 47, 119, 119, 119, 46, 119, 51, 46, 111, 114, 103, 47, 50, 48, 48, 53, 47, 65, 116, 111, 109]⟩, .string ⟨#[117, 114, 105]⟩, .slice none 0 0, .slice ko81 kn82 kc83, .string ⟨#[]⟩] 25)
          replace hN74 := Lib.hid (hN74.out.on ba)
          replace hN84 := Lib.hid (hN84.out.on ba)
          have hb87 := Lib.hid (hb80.out.trans (ba.mono hb80.out.size))
          refine hK.out _ _ (hcw.out _ hb87.out) (fun hH89 => ?_)
          clear hK K hH85 ba
          generalize v79.alloc (.cells #[.int .i64 0, .string ⟨#[104, 116, 116, 112, 58, 47, 47, 119, 119, 119, 46, 119, 51, 46, 111, 114, 103, 47, 50, 48, 48, 53, 47, 65, 116, 111, 109]⟩, .string ⟨#[101, 109, 97, 105, 108]⟩, .slice none 0 0, .slice ko71 kn72 kc73, .string ⟨#[]⟩, .int .i64 0, .string ⟨#[104, 116, 116, 112, 58, 47, 47, 119, 119, 119, 46, 119, 51, 46, 111, 114, 103, 47, 50, 48, 48, 53, 47, 65, 116, 111, 109]⟩, .string ⟨#[117, 114, 105]⟩, .slice none 0 0, .slice ko81 kn82 kc83, .string ⟨#[]⟩] 25) = v86 at *
          try simp only [Act.put, List.setIfInBounds_toArray, List.set_cons_zero, List.set_cons_succ]
          refine wpAnyH_ready (rs := [13]) (by kernel_rfl) (by simp) (AllReadyH.cons rfl (fun K hK => ?_) AllReadyH.nil)
          have gW := g8.out.on hb87.out
          have kW := k8.out.on hb87.out
          have hlW := gW.n.lt
          have hbW := gW.lb
          have hl1 := l1.out
          obtain ⟨css, hcl, hown, hkd⟩ := gW.kid
          refine step_append_lies _ (by rfl) _ _ _ (by rfl) w1.heap.size 25 i0 _ 6 104 Tryz.underlying23 hi hz0 hz1 hz2 rfl (by decide) (.slice (some ⟨w7.heap.size, 0, none⟩) 1 1) 1 css.flatten (by rfl) hown ⟨v79.heap.size, 0, none⟩ 2 2 [.int .i64 0, .string ⟨#[104, 116, 116, 112, 58, 47, 47, 119, 119, 119, 46, 119, 51, 46, 111, 114, 103, 47, 50, 48, 48, 53, 47, 65, 116, 111, 109]⟩, .string ⟨#[101, 109, 97, 105, 108]⟩, .slice none 0 0, .slice ko71 kn72 kc73, .string ⟨#[]⟩, .int .i64 0, .string ⟨#[104, 116, 116, 112, 58, 47, 47, 119, 119, 119, 46, 119, 51, 46, 111, 114, 103, 47, 50, 48, 48, 53, 47, 65, 116, 111, 109]⟩, .string ⟨#[117, 114, 105]⟩, .slice none 0 0, .slice ko81 kn82 kc83, .string ⟨#[]⟩] rfl rfl hr88.out (by simp [Value.oneCell']) (by decide) (by simp [maxLen]) (by simp) (by have := gW.low.size; omega) _ rfl ?_
          intro gg cap5 v90 hown5 hg5 hat5 hlt5
          have hvb : ∀ j, (.slice (some ⟨w7.heap.size, 0, none⟩) 1 1 : Value).ownBlock = some j → w1.heap.size ≤ j := fun j e => (World.ownsRow.lt hown j e).1
          have nV : Cells v90 w4.heap.size 25 _ := (hg5.block w4.heap.size hlW gW.kb).trans gW.n
          have kV : Cells v90 w.heap.size 36 _ := (hg5.block w.heap.size (by omega) (fun e => by have := hvb _ e.symm; omega)).trans kW
          refine hK.out _ _ ⟨kV.cell (i := 1) rfl, kV.cell (i := 2) rfl, nV.cell (i := 4) rfl⟩ (fun hH91 => ?_)
          have nF := nV.free 4
          have nC := nV.cell (i := 4) rfl
          clear hK K hH89 nV kV kW
          try simp only [Act.put, List.setIfInBounds_toArray, List.set_cons_zero, List.set_cons_succ]
          refine wpAnyH_take (i := 14) (v := .pointer (some ⟨w4.heap.size, 4, none⟩)) rfl (by kernel_rfl) (by kernel_rfl) (by kernel_rfl) (fun _ _ _ h => h) (Or.inl ⟨by rfl, ?_⟩) (by assumption) ?_
          · intro w' hSw; (try dsimp only at hSw); go_simp
          try simp only [Act.put, List.setIfInBounds_toArray, List.set_cons_zero, List.set_cons_succ]
          refine wpAnyH_take (i := 15) (v := .bool true) rfl (by kernel_rfl) (by kernel_rfl) (by kernel_rfl) (fun _ _ _ h => h) (Or.inl ⟨by rfl, ?_⟩) (by assumption) ?_
          · intro w' hSw; (try dsimp only at hSw); go_simp
          try simp only [Act.put, List.setIfInBounds_toArray, List.set_cons_zero, List.set_cons_succ]
          refine wpAnyH_done (by kernel_rfl) ?_ _
          show Oper.wp _ _ _ _ _ _
          go_simp
          have st9 : Hid (KSt w1 w4.heap.size _ (700 + (400 + 2)) (v90.setCell ⟨w4.heap.size, 4, none⟩ (.slice (some ⟨gg, 0, none⟩) 3 cap5))) := Lib.hid (KSt.moreKids (n := elN ⟨#[101, 109, 97, 105, 108]⟩ tx66) (m := elN ⟨#[117, 114, 105]⟩ tx76) (c := [.int .i64 0, .string ⟨#[104, 116, 116, 112, 58, 47, 47, 119, 119, 119, 46, 119, 51, 46, 111, 114, 103, 47, 50, 48, 48, 53, 47, 65, 116, 111, 109]⟩, .string ⟨#[101, 109, 97, 105, 108]⟩, .slice none 0 0, .slice ko71 kn72 kc73, .string ⟨#[]⟩]) (d := [.int .i64 0, .string ⟨#[104, 116, 116, 112, 58, 47, 47, 119, 119, 119, 46, 119, 51, 46, 111, 114, 103, 47, 50, 48, 48, 53, 47, 65, 116, 111, 109]⟩, .string ⟨#[117, 114, 105]⟩, .slice none 0 0, .slice ko81 kn82 kc83, .string ⟨#[]⟩]) (css := css) gW hwt8.out (by have e1 := elN_wt (nm := ⟨#[101, 109, 97, 105, 108]⟩) (by decide) ht67.out; have e2 := elN_wt (nm := ⟨#[117, 114, 105]⟩) (by decide) ht77.out; omega) hcl hkd (kid_new g8.out hN74.out (Nat.le_refl _)) (kid_new g8.out hN84.out (Nat.le_refl _)) hown5 hg5 (hat5.imp (fun e => e.symm) (fun e => by rw [e]; first | rfl | simp [Value.ownBlock])))
          clear hown5 hg5 hat5 hlt5 hown hkd gW nC nF hcw
          generalize v90.setCell ⟨w4.heap.size, 4, none⟩ (.slice (some ⟨gg, 0, none⟩) 3 cap5) = w9 at *
          obtain ⟨ao, ca, bo, cb, as', kids, gE, hE, -, -⟩ := KSt.open' st9.out
          have zE := g8.out.same gE l1.out z8.out
          obtain ⟨x0, x1, x2, x3, x4, x5⟩ := node_open gE.n
          obtain ⟨z0, z1, z2, z3, z4, z5'⟩ := node_open (show Cells w9 _ _ (nodeArr 0 ⟨#[]⟩ ⟨#[]⟩ (.slice none 0 0) (.slice none 0 0) ⟨#[]⟩) from zE)
          have f0 := zE.free 0
          have f1 := zE.free 1
          have f2 := zE.free 2
          have f3 := zE.free 3
          have f4 := zE.free 4
          have f5 := zE.free 5
          have aE : amSp = ⟨#[104, 116, 116, 112, 58, 47, 47, 119, 119, 119, 46, 119, 51, 46, 111, 114, 103, 47, 50, 48, 48, 53, 47, 65, 116, 111, 109]⟩ := rfl
          rw [aE] at x1
          replace aE := Lib.hid aE
          replace gE := Lib.hid gE
          replace hE := Lib.hid hE
          replace zE := Lib.hid zE
          go_wp2_with fail
          exact kid_tail rfl rfl gE.out zE.out l1.out b1.out (Nat.le_trans hE.out (by omega))
      · go_simp
        have ba := (Below.refl v0.heap.size v0).alloc (Nat.le_refl _) (.cells #[.string ⟨#[]⟩, .string ⟨#[104, 116, 116, 112, 58, 47, 47, 97]⟩, .string ⟨#[37]⟩] 9)
        have hs94 : Hid (StrsAt v0.heap.size amUris (v0.alloc (.cells #[.string ⟨#[]⟩, .string ⟨#[104, 116, 116, 112, 58, 47, 47, 97]⟩, .string ⟨#[37]⟩] 9))) := Lib.hid (strs_new v0 amUris 9)
        have hb93 := Lib.hid (hb0.out.trans (ba.mono hb0.out.size))
        refine hK.out _ _ (hcw.out _ hb93.out) (fun hH95 => ?_)
        clear hK K hH ba
        generalize v0.alloc (.cells #[.string ⟨#[]⟩, .string ⟨#[104, 116, 116, 112, 58, 47, 47, 97]⟩, .string ⟨#[37]⟩] 9) = v92 at *
        try simp only [Act.put, List.setIfInBounds_toArray, List.set_cons_zero, List.set_cons_succ]
        refine wpAnyH_ready (rs := [4]) (by kernel_rfl) (by simp) (AllReadyH.cons rfl (fun K hK => ?_) AllReadyH.nil)
        go_simp
        have ba := (Below.refl v92.heap.size v92).alloc (Nat.le_refl _) (.cells #[.string ⟨#[97, 64, 98]⟩, .string ⟨#[64, 98]⟩, .string ⟨#[97, 64]⟩, .string ⟨#[97, 64, 98, 64, 99]⟩, .string ⟨#[120]⟩] 9)
        have hs98 : Hid (StrsAt v92.heap.size amMails (v92.alloc (.cells #[.string ⟨#[97, 64, 98]⟩, .string ⟨#[64, 98]⟩, .string ⟨#[97, 64]⟩, .string ⟨#[97, 64, 98, 64, 99]⟩, .string ⟨#[120]⟩] 9))) := Lib.hid (strs_new v92 amMails 9)
        replace hs94 := Lib.hid (hs94.out.on ba)
        have hb97 := Lib.hid (hb93.out.trans (ba.mono hb93.out.size))
        refine hK.out _ _ (hcw.out _ hb97.out) (fun hH99 => ?_)
        clear hK K hH95 ba
        generalize v92.alloc (.cells #[.string ⟨#[97, 64, 98]⟩, .string ⟨#[64, 98]⟩, .string ⟨#[97, 64]⟩, .string ⟨#[97, 64, 98, 64, 99]⟩, .string ⟨#[120]⟩] 9) = v96 at *
        try simp only [Act.put, List.setIfInBounds_toArray, List.set_cons_zero, List.set_cons_succ]
        refine wpAnyH_ready (rs := [5]) (by kernel_rfl) (by simp) (AllReadyH.cons rfl (fun K hK => ?_) AllReadyH.nil)
        go_simp
        refine (pick_any m1 amMails (v92.heap.size) 5 5 v96 hs98.out rfl (by decide) (by decide) h1).mono ?_
        rintro e w' ⟨⟨tx100, ht101, rfl⟩, hw⟩
        rw [hw]
        replace ht101 := Lib.hid (amMails_small _ ht101)
        refine hK.out _ _ (hcw.out _ hb97.out) (fun hH102 => ?_)
        clear hK K hH99 hw w' hs98
        try simp only [Act.put, List.setIfInBounds_toArray, List.set_cons_zero, List.set_cons_succ]
        refine wpAnyH_ready (rs := [6]) (by kernel_rfl) (by simp) (AllReadyH.cons rfl (fun K hK => ?_) AllReadyH.nil)
        go_simp
        refine (el_any ⟨#[101, 109, 97, 105, 108]⟩ tx100 v96).mono ?_
        rintro e v103 ⟨ko105, kn106, kc107, rfl, hN108, -, ba⟩
        replace hN108 := Lib.hid (hN108.mono (S' := fun b => w8.heap.size ≤ b) (fun b hb _ => Nat.le_trans hb97.out.size hb))
        replace hs94 := Lib.hid (hs94.out.on ba)
        have hb104 := Lib.hid (hb97.out.trans (ba.mono hb97.out.size))
        refine hK.out _ _ (hcw.out _ hb104.out) (fun hH109 => ?_)
        clear hK K hH102 ba
        try simp only [Act.put, List.setIfInBounds_toArray, List.set_cons_zero, List.set_cons_succ]
        refine wpAnyH_ready (rs := [10]) (by kernel_rfl) (by simp) (AllReadyH.cons rfl (fun K hK => ?_) AllReadyH.nil)
        go_simp
        refine (pick_any m2 amUris (v0.heap.size) 3 3 v103 hs94.out rfl (by decide) (by decide) h2).mono ?_
        rintro e w' ⟨⟨tx110, ht111, rfl⟩, hw⟩
        rw [hw]
        replace ht111 := Lib.hid (amUris_small _ ht111)
        refine hK.out _ _ (hcw.out _ hb104.out) (fun hH112 => ?_)
        clear hK K hH109 hw w' hs94
        try simp only [Act.put, List.setIfInBounds_toArray, List.set_cons_zero, List.set_cons_succ]
        refine wpAnyH_ready (rs := [11]) (by kernel_rfl) (by simp) (AllReadyH.cons rfl (fun K hK => ?_) AllReadyH.nil)
        go_simp
        refine (el_any ⟨#[117, 114, 105]⟩ tx110 v103).mono ?_
        rintro e v113 ⟨ko115, kn116, kc117, rfl, hN118, -, ba⟩
        replace hN118 := Lib.hid (hN118.mono (S' := fun b => w8.heap.size ≤ b) (fun b hb _ => Nat.le_trans hb104.out.size hb))
        replace hN108 := Lib.hid (hN108.out.on ba)
        have hb114 := Lib.hid (hb104.out.trans (ba.mono hb104.out.size))
        refine hK.out _ _ (hcw.out _ hb114.out) (fun hH119 => ?_)
        clear hK K hH112 ba
        try simp only [Act.put, List.setIfInBounds_toArray, List.set_cons_zero, List.set_cons_succ]
        refine wpAnyH_ready (rs := [12]) (by kernel_rfl) (by simp) (AllReadyH.cons rfl (fun K hK => ?_) AllReadyH.nil)
        go_simp
        have ba := (Below.refl v113.heap.size v113).alloc (Nat.le_refl _) (.cells #[.int .i64 0, .string ⟨#[104, 116, 116, 112, 58, 47, 47, 119, 119, 119, 46, 119, 51, 46, 111, 114, 103, 47, 50, 48, 48, 53, 47, 65, 116, 111, 109]⟩, .string ⟨#[101, 109, 97, 105, 108]⟩, .slice none 0 0, .slice ko105 kn106 kc107, .string ⟨#[]⟩, .int .i64 0, .string ⟨#[104, 116, 116, 112, 58, 47, 47, 119, 119, 119, 46, 119, 51, 46, 111, 114, 103, 47, 50, 48, 48, 53, 47, 65, 116, 111, 109]⟩, .string ⟨#[117, 114, 105]⟩, .slice none 0 0, .slice ko115 kn116 kc117, .string ⟨#[]⟩] 25)
        have hr122 := Lib.hid (am_cells_row v113 [.int .i64 0, .string ⟨#[104, 116, 116, 112, 58, 47, 47, 119, 119, 119, 46, 119, 51, 46, 111, 114, 103, 47, 50, 48, 48, 53, 47, 65, 116, 111, 109]⟩, .string ⟨#[101, 109, 97, 105, 108]⟩, .slice none 0 0, .slice ko105 kn106 kc107, .string ⟨#[]⟩, .int .i64 0, .string ⟨#[104, 116, 116, 112, 58, 47, 47, 119, 119, 119, 46, 119, 51, 46, 111, 114, 103, 47, 50, 48, 48, 53, 47, 65, 116, 111, 109]⟩, .string ⟨#[117, 114, 105]⟩, .slice none 0 0, .slice ko115 kn116 kc117, .string ⟨#[]⟩] 25)
        replace hN108 := Lib.hid (hN108.out.on ba)
        replace hN118 := Lib.hid (hN118.out.on ba)
        have hb121 := Lib.hid (hb114.out.trans (ba.mono hb114.out.size))
        refine hK.out _ _ (hcw.out _ hb121.out) (fun hH123 => ?_)
        clear hK K hH119 ba
        generalize v113.alloc (.cells #[.int .i64 0, .string ⟨#[104, 116, 116, 112, 58, 47, 47, 119, 119, 119, 46, 119, 51, 46, 111, 114, 103, 47, 50, 48, 48, 53, 47, 65, 116, 111, 109]⟩, .string ⟨#[101, 109, 97, 105, 108]⟩, .slice none 0 0, .slice ko105 kn106 kc107, .string ⟨#[]⟩, .int .i64 0, .string ⟨#[104, 116, 116, 112, 58, 47, 47, 119, 119, 119, 46, 119, 51, 46, 111, 114, 103, 47, 50, 48, 48, 53, 47, 65, 116, 111, 109]⟩, .string ⟨#[117, 114, 105]⟩, .slice none 0 0, .slice ko115 kn116 kc117, .string ⟨#[]⟩] 25) = v120 at *
        try simp only [Act.put, List.setIfInBounds_toArray, List.set_cons_zero, List.set_cons_succ]
        refine wpAnyH_ready (rs := [13]) (by kernel_rfl) (by simp) (AllReadyH.cons rfl (fun K hK => ?_) AllReadyH.nil)
        have gW := g8.out.on hb121.out
        have kW := k8.out.on hb121.out
        have hlW := gW.n.lt
        have hbW := gW.lb
        have hl1 := l1.out
        obtain ⟨css, hcl, hown, hkd⟩ := gW.kid
        refine step_append_lies _ (by rfl) _ _ _ (by rfl) w1.heap.size 25 i0 _ 6 104 Tryz.underlying23 hi hz0 hz1 hz2 rfl (by decide) (.slice (some ⟨w7.heap.size, 0, none⟩) 1 1) 1 css.flatten (by rfl) hown ⟨v113.heap.size, 0, none⟩ 2 2 [.int .i64 0, .string ⟨#[104, 116, 116, 112, 58, 47, 47, 119, 119, 119, 46, 119, 51, 46, 111, 114, 103, 47, 50, 48, 48, 53, 47, 65, 116, 111, 109]⟩, .string ⟨#[101, 109, 97, 105, 108]⟩, .slice none 0 0, .slice ko105 kn106 kc107, .string ⟨#[]⟩, .int .i64 0, .string ⟨#[104, 116, 116, 112, 58, 47, 47, 119, 119, 119, 46, 119, 51, 46, 111, 114, 103, 47, 50, 48, 48, 53, 47, 65, 116, 111, 109]⟩, .string ⟨#[117, 114, 105]⟩, .slice none 0 0, .slice ko115 kn116 kc117, .string ⟨#[]⟩] rfl rfl hr122.out (by simp [Value.oneCell']) (by decide) (by simp [maxLen]) (by simp) (by have := gW.low.size; omega) _ rfl ?_
        intro gg cap5 v124 hown5 hg5 hat5 hlt5
        have hvb : ∀ j, (.slice (some ⟨w7.heap.size, 0, none⟩) 1 1 : Value).ownBlock = some j → w1.heap.size ≤ j := fun j e => (World.ownsRow.lt hown j e).1
        have nV : Cells v124 w4.heap.size 25 _ := (hg5.block w4.heap.size hlW gW.kb).trans gW.n
        have kV : Cells v124 w.heap.size 36 _ := (hg5.block w.heap.size (by omega) (fun e => by have := hvb _ e.symm; omega)).trans kW
        refine hK.out _ _ ⟨kV.cell (i := 1) rfl, kV.cell (i := 2) rfl, nV.cell (i := 4) rfl⟩ (fun hH125 => ?_)
        have nF := nV.free 4
        have nC := nV.cell (i := 4) rfl
        clear hK K hH123 nV kV kW
        try simp only [Act.put, List.setIfInBounds_toArray, List.set_cons_zero, List.set_cons_succ]
        refine wpAnyH_take (i := 14) (v := .pointer (some ⟨w4.heap.size, 4, none⟩)) rfl (by kernel_rfl) (by kernel_rfl) (by kernel_rfl) (fun _ _ _ h => h) (Or.inl ⟨by rfl, ?_⟩) (by assumption) ?_
        · intro w' hSw; (try dsimp only at hSw); go_simp
        try simp only [Act.put, List.setIfInBounds_toArray, List.set_cons_zero, List.set_cons_succ]
        refine wpAnyH_take (i := 15) (v := .bool true) rfl (by kernel_rfl) (by kernel_rfl) (by kernel_rfl) (fun _ _ _ h => h) (Or.inl ⟨by rfl, ?_⟩) (by assumption) ?_
        · intro w' hSw; (try dsimp only at hSw); go_simp
        try simp only [Act.put, List.setIfInBounds_toArray, List.set_cons_zero, List.set_cons_succ]
        refine wpAnyH_done (by kernel_rfl) ?_ _
        show Oper.wp _ _ _ _ _ _
        go_simp
        have st9 : Hid (KSt w1 w4.heap.size _ (700 + (400 + 2)) (v124.setCell ⟨w4.heap.size, 4, none⟩ (.slice (some ⟨gg, 0, none⟩) 3 cap5))) := Lib.hid (KSt.moreKids (n := elN ⟨#[101, 109, 97, 105, 108]⟩ tx100) (m := elN ⟨#[117, 114, 105]⟩ tx110) (c := [.int .i64 0, .string ⟨#[104, 116, 116, 112, 58, 47, 47, 119, 119, 119, 46, 119, 51, 46, 111, 114, 103, 47, 50, 48, 48, 53, 47, 65, 116, 111, 109]⟩, .string ⟨#[101, 109, 97, 105, 108]⟩, .slice none 0 0, .slice ko105 kn106 kc107, .string ⟨#[]⟩]) (d := [.int .i64 0, .string ⟨#[104, 116, 116, 112, 58, 47, 47, 119, 119, 119, 46, 119, 51, 46, 111, 114, 103, 47, 50, 48, 48, 53, 47, 65, 116, 111, 109]⟩, .string ⟨#[117, 114, 105]⟩, .slice none 0 0, .slice ko115 kn116 kc117, .string ⟨#[]⟩]) (css := css) gW hwt8.out (by have e1 := elN_wt (nm := ⟨#[101, 109, 97, 105, 108]⟩) (by decide) ht101.out; have e2 := elN_wt (nm := ⟨#[117, 114, 105]⟩) (by decide) ht111.out; omega) hcl hkd (kid_new g8.out hN108.out (Nat.le_refl _)) (kid_new g8.out hN118.out (Nat.le_refl _)) hown5 hg5 (hat5.imp (fun e => e.symm) (fun e => by rw [e]; first | rfl | simp [Value.ownBlock])))
        clear hown5 hg5 hat5 hlt5 hown hkd gW nC nF hcw
        generalize v124.setCell ⟨w4.heap.size, 4, none⟩ (.slice (some ⟨gg, 0, none⟩) 3 cap5) = w9 at *
        obtain ⟨ao, ca, bo, cb, as', kids, gE, hE, -, -⟩ := KSt.open' st9.out
        have zE := g8.out.same gE l1.out z8.out
        obtain ⟨x0, x1, x2, x3, x4, x5⟩ := node_open gE.n
        obtain ⟨z0, z1, z2, z3, z4, z5'⟩ := node_open (show Cells w9 _ _ (nodeArr 0 ⟨#[]⟩ ⟨#[]⟩ (.slice none 0 0) (.slice none 0 0) ⟨#[]⟩) from zE)
        have f0 := zE.free 0
        have f1 := zE.free 1
        have f2 := zE.free 2
        have f3 := zE.free 3
        have f4 := zE.free 4
        have f5 := zE.free 5
        have aE : amSp = ⟨#[104, 116, 116, 112, 58, 47, 47, 119, 119, 119, 46, 119, 51, 46, 111, 114, 103, 47, 50, 48, 48, 53, 47, 65, 116, 111, 109]⟩ := rfl
        rw [aE] at x1
        replace aE := Lib.hid aE
        replace gE := Lib.hid gE
        replace hE := Lib.hid hE
        replace zE := Lib.hid zE
        go_wp2_with fail
        exact kid_tail rfl rfl gE.out zE.out l1.out b1.out (Nat.le_trans hE.out (by omega))
    · have hmb : ((m2 : Int) % 3 == 0) = false := by rw [beq_eq_false_iff_ne]; exact hm
      go_wp2_with fail
      exact kid_tail rfl rfl g8.out z8.out l1.out b1.out (Nat.le_trans hwt8.out (by omega))
  · have q1 := k5.out.cell (i := 1) rfl
    have hs1 := Lib.hid (strs_new w5 texts4 9)
    have ba := (Below.refl w5.heap.size w5).alloc (Nat.le_refl _) (.cells (texts4.map Value.string).toArray 9)
    have z6 := Lib.hid (z5.out.on ba)
    have k6 := Lib.hid (k5.out.on ba)
    have g6 := Lib.hid (g5.out.on ba)
    clear z5 g5 k5 ba
    go_wp2_with fail
    (refine (pick_any m1 texts4 w5.heap.size 4 4 _ hs1.out rfl (by decide) (by decide) h1).mono ?_); rintro e w' ⟨⟨t2, ht2, rfl⟩, rfl⟩
    clear q1 hs1
    have ht2 := Lib.hid (texts4_small _ ht2)
    generalize w5.alloc (.cells (texts4.map Value.string).toArray 9) = w6 at *
    go_wp2_with fail
    (refine (el_any ⟨#[110, 97, 109, 101]⟩ t2 _).mono ?_); rintro e w7 ⟨ko2, kn2, kc2, rfl, hN, -, b7⟩
    have bn := (Below.refl w7.heap.size w7).alloc (Nat.le_refl _) (.cells #[.int .i64 0, .string ⟨#[104, 116, 116, 112, 58, 47, 47, 119, 119, 119, 46, 119, 51, 46, 111, 114, 103, 47, 50, 48, 48, 53, 47, 65, 116, 111, 109]⟩, .string ⟨#[110, 97, 109, 101]⟩, .slice none 0 0, .slice ko2 kn2 kc2, .string ⟨#[]⟩] 25)
    have a4 := (((g6.out.n.on b7).on bn)).cell (i := 4) rfl
    have f4 := (((g6.out.n.on b7).on bn)).free 4
    have ll := Lib.hid (show w.heap.size + 1 ≠ w4.heap.size by have := l1.out; have := g6.out.lb; omega)
    have z8 := Lib.hid ((((z6.out.on b7).on bn)).other (c := w4.heap.size) 4 (.slice (some ⟨w7.heap.size, 0, none⟩) 1 1) ll.out)
    have k8 := Lib.hid ((((k6.out.on b7).on bn)).other (c := w4.heap.size) 4 (.slice (some ⟨w7.heap.size, 0, none⟩) 1 1) (by have := l1.out; have := g6.out.lb; omega))
    have g8 := Lib.hid (((g6.out.on b7).on bn).kids (v' := (.slice (some ⟨w7.heap.size, 0, none⟩) 1 1)) (owns_one (n := elN ⟨#[110, 97, 109, 101]⟩ t2) (Cells.new w7 25 #[.int .i64 0, .string ⟨#[104, 116, 116, 112, 58, 47, 47, 119, 119, 119, 46, 119, 51, 46, 111, 114, 103, 47, 50, 48, 48, 53, 47, 65, 116, 111, 109]⟩, .string ⟨#[110, 97, 109, 101]⟩, .slice none 0 0, .slice ko2 kn2 kc2, .string ⟨#[]⟩]) (by have := g6.out.low.size; have := b7.size; omega) (kid_far (hN.mono (S' := fun b => w6.heap.size ≤ b ∧ b < w7.heap.size) (fun b hb hl => ⟨hb, hl⟩)) bn (by have := g6.out.n.lt; exact this) g6.out.low.size)) (by show some w4.heap.size ≠ some w7.heap.size; intro h; injection h with h; have := g6.out.n.lt; have := b7.size; omega))
    have hwt8 := Lib.hid (kid_wtK (as' := []) (nm := ⟨#[99, 111, 110, 116, 114, 105, 98, 117, 116, 111, 114]⟩) (n := elN ⟨#[110, 97, 109, 101]⟩ t2) (by decide) (elN_wt (by decide) ht2.out) (by simp [Gv.attW]))
    clear bn g6 z6 k6 hN b7 hwt
    go_upto_region 7 with fail
    clear a4 f4
    generalize (w7.alloc (.cells #[.int .i64 0, .string ⟨#[104, 116, 116, 112, 58, 47, 47, 119, 119, 119, 46, 119, 51, 46, 111, 114, 103, 47, 50, 48, 48, 53, 47, 65, 116, 111, 109]⟩, .string ⟨#[110, 97, 109, 101]⟩, .slice none 0 0, .slice ko2 kn2 kc2, .string ⟨#[]⟩] 25)).setCell ⟨w4.heap.size, 4, none⟩ (.slice (some ⟨w7.heap.size, 0, none⟩) 1 1) = w8 at *
    have q2 := k8.out.cell (i := 2) rfl
    obtain ⟨x0, x1, x2, x3, x4, x5⟩ := node_open g8.out.n
    obtain ⟨z0, z1, z2, z3, z4, z5'⟩ := node_open (show Cells w8 _ _ (nodeArr 0 ⟨#[]⟩ ⟨#[]⟩ (.slice none 0 0) (.slice none 0 0) ⟨#[]⟩) from z8.out)
    have f0 := z8.out.free 0
    have f1 := z8.out.free 1
    have f2 := z8.out.free 2
    have f3 := z8.out.free 3
    have f4 := z8.out.free 4
    have f5 := z8.out.free 5
    by_cases hm : (m2 : Int) % 3 = 0
    · have hmb : ((m2 : Int) % 3 == 0) = true := by rw [beq_iff_eq]; exact hm
      have nK8 := Lib.hid g8.out.n
      have hcw : Hid (∀ w', Below w8.heap.size w8 w' → w'.cell? ⟨w.heap.size, 1, none⟩ = some (.int .u8 (m1 : Int)) ∧ w'.cell? ⟨w.heap.size, 2, none⟩ = some (.int .u8 (m2 : Int)) ∧ w'.cell? ⟨w4.heap.size, 4, none⟩ = some (.slice (some ⟨w7.heap.size, 0, none⟩) 1 1)) := Lib.hid (fun _ b => ⟨((k8.out.on b).cell (i := 1) rfl), ((k8.out.on b).cell (i := 2) rfl), ((nK8.out.on b).cell (i := 4) rfl)⟩)
      go_upto_region 8 with fail
      refine wp_region_last (n := 15) (S := fun w' => w'.cell? ⟨w.heap.size, 1, none⟩ = some (.int .u8 (m1 : Int)) ∧ w'.cell? ⟨w.heap.size, 2, none⟩ = some (.int .u8 (m2 : Int)) ∧ w'.cell? ⟨w4.heap.size, 4, none⟩ = some (.slice (some ⟨w7.heap.size, 0, none⟩) 1 1)) (by kernel_rfl) (by rfl) (by rfl) (by rfl) (by rfl) (by kernel_rfl) (hcw.out _ (Below.refl _ _).drew) (fun hH => ?_)
      simp only [lastNop, nopOf, List.setIfInBounds_toArray, List.set_cons_succ, List.set_cons_zero]
      have hb0 := Lib.hid (Below.refl w8.heap.size w8).drew
      generalize w8.drew = v0 at *
      refine wpAnyH_take (i := 0) (v := .pointer (some ⟨w4.heap.size, 4, none⟩)) rfl (by kernel_rfl) (by kernel_rfl) (by kernel_rfl) (fun _ _ _ h => h) (Or.inl ⟨by rfl, ?_⟩) (by assumption) ?_
      · intro w' hSw; (try dsimp only at hSw); go_simp
      try simp only [Act.put, List.setIfInBounds_toArray, List.set_cons_zero, List.set_cons_succ]
      refine wpAnyH_take (i := 1) (v := .slice (some ⟨w7.heap.size, 0, none⟩) 1 1) rfl (by kernel_rfl) (by kernel_rfl) (by kernel_rfl) (fun _ _ _ h => h) (Or.inl ⟨by rfl, ?_⟩) (by assumption) ?_
      · intro w' hSw; (try dsimp only at hSw); go_simp
      try simp only [Act.put, List.setIfInBounds_toArray, List.set_cons_zero, List.set_cons_succ]
      refine wpAnyH_take (i := 2) (v := .pointer (some ⟨w.heap.size, 1, none⟩)) rfl (by kernel_rfl) (by kernel_rfl) (by kernel_rfl) (fun _ _ _ h => h) (Or.inl ⟨by rfl, ?_⟩) (by assumption) ?_
      · intro w' hSw; (try dsimp only at hSw); go_simp
      try simp only [Act.put, List.setIfInBounds_toArray, List.set_cons_zero, List.set_cons_succ]
      refine wpAnyH_take (i := 3) (v := .int .u8 (m1 : Int)) rfl (by kernel_rfl) (by kernel_rfl) (by kernel_rfl) (fun _ _ _ h => h) (Or.inl ⟨by rfl, ?_⟩) (by assumption) ?_
      · intro w' hSw; (try dsimp only at hSw); go_simp
      try simp only [Act.put, List.setIfInBounds_toArray, List.set_cons_zero, List.set_cons_succ]
      refine wpAnyH_take (i := 7) (v := .pointer (some ⟨w.heap.size, 2, none⟩)) rfl (by kernel_rfl) (by kernel_rfl) (by kernel_rfl) (fun _ _ _ h => h) (Or.inl ⟨by rfl, ?_⟩) (by assumption) ?_
      · intro w' hSw; (try dsimp only at hSw); go_simp
      try simp only [Act.put, List.setIfInBounds_toArray, List.set_cons_zero, List.set_cons_succ]
      refine wpAnyH_take (i := 8) (v := .int .u8 (m2 : Int)) rfl (by kernel_rfl) (by kernel_rfl) (by kernel_rfl) (fun _ _ _ h => h) (Or.inl ⟨by rfl, ?_⟩) (by assumption) ?_
      · intro w' hSw; (try dsimp only at hSw); go_simp
      try simp only [Act.put, List.setIfInBounds_toArray, List.set_cons_zero, List.set_cons_succ]
      refine wpAnyH_ready (rs := [4, 9]) (by kernel_rfl) (by simp) (AllReadyH.cons rfl (fun K hK => ?_) (AllReadyH.cons rfl (fun K hK => ?_) AllReadyH.nil))
      · go_simp
        have ba := (Below.refl v0.heap.size v0).alloc (Nat.le_refl _) (.cells #[.string ⟨#[97, 64, 98]⟩, .string ⟨#[64, 98]⟩, .string ⟨#[97, 64]⟩, .string ⟨#[97, 64, 98, 64, 99]⟩, .string ⟨#[120]⟩] 9)
        have hs3 : Hid (StrsAt v0.heap.size amMails (v0.alloc (.cells #[.string ⟨#[97, 64, 98]⟩, .string ⟨#[64, 98]⟩, .string ⟨#[97, 64]⟩, .string ⟨#[97, 64, 98, 64, 99]⟩, .string ⟨#[120]⟩] 9))) := Lib.hid (strs_new v0 amMails 9)
        have hb2 := Lib.hid (hb0.out.trans (ba.mono hb0.out.size))
        refine hK.out _ _ (hcw.out _ hb2.out) (fun hH4 => ?_)
        clear hK K hH ba
        generalize v0.alloc (.cells #[.string ⟨#[97, 64, 98]⟩, .string ⟨#[64, 98]⟩, .string ⟨#[97, 64]⟩, .string ⟨#[97, 64, 98, 64, 99]⟩, .string ⟨#[120]⟩] 9) = v1 at *
        try simp only [Act.put, List.setIfInBounds_toArray, List.set_cons_zero, List.set_cons_succ]
        refine wpAnyH_ready (rs := [5, 9]) (by kernel_rfl) (by simp) (AllReadyH.cons rfl (fun K hK => ?_) (AllReadyH.cons rfl (fun K hK => ?_) AllReadyH.nil))
        · go_simp
          refine (pick_any m1 amMails (v0.heap.size) 5 5 v1 hs3.out rfl (by decide) (by decide) h1).mono ?_
          rintro e w' ⟨⟨tx5, ht6, rfl⟩, hw⟩
          rw [hw]
          replace ht6 := Lib.hid (amMails_small _ ht6)
          refine hK.out _ _ (hcw.out _ hb2.out) (fun hH7 => ?_)
          clear hK K hH4 hw w' hs3
          try simp only [Act.put, List.setIfInBounds_toArray, List.set_cons_zero, List.set_cons_succ]
          refine wpAnyH_ready (rs := [6, 9]) (by kernel_rfl) (by simp) (AllReadyH.cons rfl (fun K hK => ?_) (AllReadyH.cons rfl (fun K hK => ?_) AllReadyH.nil))
          · go_simp
            refine (el_any ⟨#[101, 109, 97, 105, 108]⟩ tx5 v1).mono ?_
            rintro e v8 ⟨ko10, kn11, kc12, rfl, hN13, -, ba⟩
            replace hN13 := Lib.hid (hN13.mono (S' := fun b => w8.heap.size ≤ b) (fun b hb _ => Nat.le_trans hb2.out.size hb))
            have hb9 := Lib.hid (hb2.out.trans (ba.mono hb2.out.size))
            refine hK.out _ _ (hcw.out _ hb9.out) (fun hH14 => ?_)
            clear hK K hH7 ba
            try simp only [Act.put, List.setIfInBounds_toArray, List.set_cons_zero, List.set_cons_succ]
            refine wpAnyH_ready (rs := [9]) (by kernel_rfl) (by simp) (AllReadyH.cons rfl (fun K hK => ?_) AllReadyH.nil)
            go_simp
            have ba := (Below.refl v8.heap.size v8).alloc (Nat.le_refl _) (.cells #[.string ⟨#[]⟩, .string ⟨#[104, 116, 116, 112, 58, 47, 47, 97]⟩, .string ⟨#[37]⟩] 9)
            have hs17 : Hid (StrsAt v8.heap.size amUris (v8.alloc (.cells #[.string ⟨#[]⟩, .string ⟨#[104, 116, 116, 112, 58, 47, 47, 97]⟩, .string ⟨#[37]⟩] 9))) := Lib.hid (strs_new v8 amUris 9)
            replace hN13 := Lib.hid (hN13.out.on ba)
            have hb16 := Lib.hid (hb9.out.trans (ba.mono hb9.out.size))
            refine hK.out _ _ (hcw.out _ hb16.out) (fun hH18 => ?_)
            clear hK K hH14 ba
            generalize v8.alloc (.cells #[.string ⟨#[]⟩, .string ⟨#[104, 116, 116, 112, 58, 47, 47, 97]⟩, .string ⟨#[37]⟩] 9) = v15 at *
            try simp only [Act.put, List.setIfInBounds_toArray, List.set_cons_zero, List.set_cons_succ]
            refine wpAnyH_ready (rs := [10]) (by kernel_rfl) (by simp) (AllReadyH.cons rfl (fun K hK => ?_) AllReadyH.nil)
            go_simp
            refine (pick_any m2 amUris (v8.heap.size) 3 3 v15 hs17.out rfl (by decide) (by decide) h2).mono ?_
            rintro e w' ⟨⟨tx19, ht20, rfl⟩, hw⟩
            rw [hw]
            replace ht20 := Lib.hid (amUris_small _ ht20)
            refine hK.out _ _ (hcw.out _ hb16.out) (fun hH21 => ?_)
            clear hK K hH18 hw w' hs17
            try simp only [Act.put, List.setIfInBounds_toArray, List.set_cons_zero, List.set_cons_succ]
            refine wpAnyH_ready (rs := [11]) (by kernel_rfl) (by simp) (AllReadyH.cons rfl (fun K hK => ?_) AllReadyH.nil)
            go_simp
            refine (el_any ⟨#[117, 114, 105]⟩ tx19 v15).mono ?_
            rintro e v22 ⟨ko24, kn25, kc26, rfl, hN27, -, ba⟩
            replace hN27 := Lib.hid (hN27.mono (S' := fun b => w8.heap.size ≤ b) (fun b hb _ => Nat.le_trans hb16.out.size hb))
            replace hN13 := Lib.hid (hN13.out.on ba)
            have hb23 := Lib.hid (hb16.out.trans (ba.mono hb16.out.size))
            refine hK.out _ _ (hcw.out _ hb23.out) (fun hH28 => ?_)
            clear hK K hH21 ba
            try simp only [Act.put, List.setIfInBounds_toArray, List.set_cons_zero, List.set_cons_succ]
            refine wpAnyH_ready (rs := [12]) (by kernel_rfl) (by simp) (AllReadyH.cons rfl (fun K hK => ?_) AllReadyH.nil)
            go_simp
            have ba := (Below.refl v22.heap.size v22).alloc (Nat.le_refl _) (.cells #[.int .i64 0, .string ⟨#[104, 116, 116, 112, 58, 47, 47, 119, 119, 119, 46, 119, 51, 46, 111, 114, 103, 47, 50, 48, 48, 53, 47, 65, 116, 111, 109]⟩, .string ⟨#[101, 109, 97, 105, 108]⟩, .slice none 0 0, .slice ko10 kn11 kc12, .string ⟨#[]⟩, .int .i64 0, .string ⟨#[104, 116, 116, 112, 58, 47, 47, 119, 119, 119, 46, 119, 51, 46, 111, 114, 103, 47, 50, 48, 48, 53, 47, 65, 116, 111, 109]⟩, .string ⟨#[117, 114, 105]⟩, .slice none 0 0, .slice ko24 kn25 kc26, .string ⟨#[]⟩] 25)
            have hr31 := Lib.hid (am_cells_row v22 [.int .i64 0, .string ⟨#[104, 116, 116, 112, 58, 47, 47, 119, 119, 119, 46, 119, 51, 46, 111, 114, 103, 47, 50, 48, 48, 53, 47, 65, 116, 111, 109]⟩, .string ⟨#[101, 109, 97, 105, 108]⟩, .slice none 0 0, .slice ko10 kn11 kc12, .string ⟨#[]⟩, .int .i64 0, .string ⟨#[104, 116, 116, 112, 58, 47, 47, 119, 119, 119, 46, 119, 51, 46, 111, 114, 103, 47, 50, 48, 48, 53, 47, 65, 116, 111, 109]⟩, .string ⟨#[117, 114, 105]⟩, .slice none 0 0, .slice ko24 kn25 kc26, .string ⟨#[]⟩] 25)
            replace hN13 := Lib.hid (hN13.out.on ba)
            replace hN27 := Lib.hid (hN27.out.on ba)
            have hb30 := Lib.hid (hb23.out.trans (ba.mono hb23.out.size))
            refine hK.out _ _ (hcw.out _ hb30.out) (fun hH32 => ?_)
            clear hK K hH28 ba
            generalize v22.alloc (.cells #[.int .i64 0, .string ⟨#[104, 116, 116, 112, 58, 47, 47, 119, 119, 119, 46, 119, 51, 46, 111, 114, 103, 47, 50, 48, 48, 53, 47, 65, 116, 111, 109]⟩, .string ⟨#[101, 109, 97, 105, 108]⟩, .slice none 0 0, .slice ko10 kn11 kc12, .string ⟨#[]⟩, .int .i64 0, .string ⟨#[104, 116, 116, 112, 58, 47, 47, 119, 119, 119, 46, 119, 51, 46, 111, 114, 103, 47, 50, 48, 48, 53, 47, 65, 116, 111, 109]⟩, .string ⟨#[117, 114, 105]⟩, .slice none 0 0, .slice ko24 kn25 kc26, .string ⟨#[]⟩] 25) = v29 at *
            try simp only [Act.put, List.setIfInBounds_toArray, List.set_cons_zero, List.set_cons_succ]
            refine wpAnyH_ready (rs := [13]) (by kernel_rfl) (by simp) (AllReadyH.cons rfl (fun K hK => ?_) AllReadyH.nil)
            have gW := g8.out.on hb30.out
            have kW := k8.out.on hb30.out
            have hlW := gW.n.lt
            have hbW := gW.lb
            have hl1 := l1.out
            obtain ⟨css, hcl, hown, hkd⟩ := gW.kid
            refine step_append_lies _ (by rfl) _ _ _ (by rfl) w1.heap.size 25 i0 _ 6 104 Tryz.underlying23 hi hz0 hz1 hz2 rfl (by decide) (.slice (some ⟨w7.heap.size, 0, none⟩) 1 1) 1 css.flatten (by rfl) hown ⟨v22.heap.size, 0, none⟩ 2 2 [.int .i64 0, .string ⟨#[104, 116, 116, 112, 58, 47, 47, 119, 119, 119, 46, 119, 51, 46, 111, 114, 103, 47, 50, 48, 48, 53, 47, 65, 116, 111, 109]⟩, .string ⟨#[101, 109, 97, 105, 108]⟩, .slice none 0 0, .slice ko10 kn11 kc12, .string ⟨#[]⟩, .int .i64 0, .string ⟨#[104, 116, 116, 112, 58, 47, 47, 119, 119, 119, 46, 119, 51, 46, 111, 114, 103, 47, 50, 48, 48, 53, 47, 65, 116, 111, 109]⟩, .string ⟨#[117, 114, 105]⟩, .slice none 0 0, .slice ko24 kn25 kc26, .string ⟨#[]⟩] rfl rfl hr31.out (by simp [Value.oneCell']) (by decide) (by simp [maxLen]) (by simp) (by have := gW.low.size; omega) _ rfl ?_
            intro gg cap5 v33 hown5 hg5 hat5 hlt5
            have hvb : ∀ j, (.slice (some ⟨w7.heap.size, 0, none⟩) 1 1 : Value).ownBlock = some j → w1.heap.size ≤ j := fun j e => (World.ownsRow.lt hown j e).1
            have nV : Cells v33 w4.heap.size 25 _ := (hg5.block w4.heap.size hlW gW.kb).trans gW.n
            have kV : Cells v33 w.heap.size 36 _ := (hg5.block w.heap.size (by omega) (fun e => by have := hvb _ e.symm; omega)).trans kW
            refine hK.out _ _ ⟨kV.cell (i := 1) rfl, kV.cell (i := 2) rfl, nV.cell (i := 4) rfl⟩ (fun hH34 => ?_)
            have nF := nV.free 4
            have nC := nV.cell (i := 4) rfl
            clear hK K hH32 nV kV kW
            try simp only [Act.put, List.setIfInBounds_toArray, List.set_cons_zero, List.set_cons_succ]
            refine wpAnyH_take (i := 14) (v := .pointer (some ⟨w4.heap.size, 4, none⟩)) rfl (by kernel_rfl) (by kernel_rfl) (by kernel_rfl) (fun _ _ _ h => h) (Or.inl ⟨by rfl, ?_⟩) (by assumption) ?_
            · intro w' hSw; (try dsimp only at hSw); go_simp
            try simp only [Act.put, List.setIfInBounds_toArray, List.set_cons_zero, List.set_cons_succ]
            refine wpAnyH_take (i := 15) (v := .bool true) rfl (by kernel_rfl) (by kernel_rfl) (by kernel_rfl) (fun _ _ _ h => h) (Or.inl ⟨by rfl, ?_⟩) (by assumption) ?_
            · intro w' hSw; (try dsimp only at hSw); go_simp
            try simp only [Act.put, List.setIfInBounds_toArray, List.set_cons_zero, List.set_cons_succ]
            refine wpAnyH_done (by kernel_rfl) ?_ _
            show Oper.wp _ _ _ _ _ _
            go_simp
            have st9 : Hid (KSt w1 w4.heap.size _ (700 + (400 + 2)) (v33.setCell ⟨w4.heap.size, 4, none⟩ (.slice (some ⟨gg, 0, none⟩) 3 cap5))) := Lib.hid (KSt.moreKids (n := elN ⟨#[101, 109, 97, 105, 108]⟩ tx5) (m := elN ⟨#[117, 114, 105]⟩ tx19) (c := [.int .i64 0, .string ⟨#[104, 116, 116, 112, 58, 47, 47, 119, 119, 119, 46, 119, 51, 46, 111, 114, 103, 47, 50, 48, 48, 53, 47, 65, 116, 111, 109]⟩, .string ⟨#[101, 109, 97, 105, 108]⟩, .slice none 0 0, .slice ko10 kn11 kc12, .string ⟨#[]⟩]) (d := [.int .i64 0, .string ⟨#[104, 116, 116, 112, 58, 47, 47, 119, 119, 119, 46, 119, 51, 46, 111, 114, 103, 47, 50, 48, 48, 53, 47, 65, 116, 111, 109]⟩, .string ⟨#[117, 114, 105]⟩, .slice none 0 0, .slice ko24 kn25 kc26, .string ⟨#[]⟩]) (css := css) gW hwt8.out (by have e1 := elN_wt (nm := ⟨#[101, 109, 97, 105, 108]⟩) (by decide) ht6.out; have e2 := elN_wt (nm := ⟨#[117, 114, 105]⟩) (by decide) ht20.out; omega) hcl hkd (kid_new g8.out hN13.out (Nat.le_refl _)) (kid_new g8.out hN27.out (Nat.le_refl _)) hown5 hg5 (hat5.imp (fun e => e.symm) (fun e => by rw [e]; first | rfl | simp [Value.ownBlock])))
            clear hown5 hg5 hat5 hlt5 hown hkd gW nC nF hcw
            generalize v33.setCell ⟨w4.heap.size, 4, none⟩ (.slice (some ⟨gg, 0, none⟩) 3 cap5) = w9 at *
            obtain ⟨ao, ca, bo, cb, as', kids, gE, hE, -, -⟩ := KSt.open' st9.out
            have zE := g8.out.same gE l1.out z8.out
            obtain ⟨x0, x1, x2, x3, x4, x5⟩ := node_open gE.n
            obtain ⟨z0, z1, z2, z3, z4, z5'⟩ := node_open (show Cells w9 _ _ (nodeArr 0 ⟨#[]⟩ ⟨#[]⟩ (.slice none 0 0) (.slice none 0 0) ⟨#[]⟩) from zE)
            have f0 := zE.free 0
            have f1 := zE.free 1
            have f2 := zE.free 2
            have f3 := zE.free 3
            have f4 := zE.free 4
            have f5 := zE.free 5
            have aE : amSp = ⟨#[104, 116, 116, 112, 58, 47, 47, 119, 119, 119, 46, 119, 51, 46, 111, 114, 103, 47, 50, 48, 48, 53, 47, 65, 116, 111, 109]⟩ := rfl
            rw [aE] at x1
            replace aE := Lib.hid aE
            replace gE := Lib.hid gE
            replace hE := Lib.hid hE
            replace zE := Lib.hid zE
            go_wp2_with fail
            exact kid_tail rfl rfl gE.out zE.out l1.out b1.out (Nat.le_trans hE.out (by omega))
          · go_simp
            have ba := (Below.refl v1.heap.size v1).alloc (Nat.le_refl _) (.cells #[.string ⟨#[]⟩, .string ⟨#[104, 116, 116, 112, 58, 47, 47, 97]⟩, .string ⟨#[37]⟩] 9)
            have hs37 : Hid (StrsAt v1.heap.size amUris (v1.alloc (.cells #[.string ⟨#[]⟩, .string ⟨#[104, 116, 116, 112, 58, 47, 47, 97]⟩, .string ⟨#[37]⟩] 9))) := Lib.hid (strs_new v1 amUris 9)
            have hb36 := Lib.hid (hb2.out.trans (ba.mono hb2.out.size))
            refine hK.out _ _ (hcw.out _ hb36.out) (fun hH38 => ?_)
            clear hK K hH7 ba
            generalize v1.alloc (.cells #[.string ⟨#[]⟩, .string ⟨#[104, 116, 116, 112, 58, 47, 47, 97]⟩, .string ⟨#[37]⟩] 9) = v35 at *
            try simp only [Act.put, List.setIfInBounds_toArray, List.set_cons_zero, List.set_cons_succ]
            refine wpAnyH_ready (rs := [6]) (by kernel_rfl) (by simp) (AllReadyH.cons rfl (fun K hK => ?_) AllReadyH.nil)
            go_simp
            refine (el_any ⟨#[101, 109, 97, 105, 108]⟩ tx5 v35).mono ?_
            rintro e v39 ⟨ko41, kn42, kc43, rfl, hN44, -, ba⟩
            replace hN44 := Lib.hid (hN44.mono (S' := fun b => w8.heap.size ≤ b) (fun b hb _ => Nat.le_trans hb36.out.size hb))
            replace hs37 := Lib.hid (hs37.out.on ba)
            have hb40 := Lib.hid (hb36.out.trans (ba.mono hb36.out.size))
            refine hK.out _ _ (hcw.out _ hb40.out) (fun hH45 => ?_)
            clear hK K hH38 ba
            try simp only [Act.put, List.setIfInBounds_toArray, List.set_cons_zero, List.set_cons_succ]
            refine wpAnyH_ready (rs := [10]) (by kernel_rfl) (by simp) (AllReadyH.cons rfl (fun K hK => ?_) AllReadyH.nil)
            go_simp
            refine (pick_any m2 amUris (v1.heap.size) 3 3 v39 hs37.out rfl (by decide) (by decide) h2).mono ?_
            rintro e w' ⟨⟨tx46, ht47, rfl⟩, hw⟩
            rw [hw]
            replace ht47 := Lib.hid (amUris_small _ ht47)
            refine hK.out _ _ (hcw.out _ hb40.out) (fun hH48 => ?_)
            clear hK K hH45 hw w' hs37
            try simp only [Act.put, List.setIfInBounds_toArray, List.set_cons_zero, List.set_cons_succ]
            refine wpAnyH_ready (rs := [11]) (by kernel_rfl) (by simp) (AllReadyH.cons rfl (fun K hK => ?_) AllReadyH.nil)
            go_simp
            refine (el_any ⟨#[117, 114, 105]⟩ tx46 v39).mono ?_
            rintro e v49 ⟨ko51, kn52, kc53, rfl, hN54, -, ba⟩
            replace hN54 := Lib.hid (hN54.mono (S' := fun b => w8.heap.size ≤ b) (fun b hb _ => Nat.le_trans hb40.out.size hb))
            replace hN44 := Lib.hid (hN44.out.on ba)
            have hb50 := Lib.hid (hb40.out.trans (ba.mono hb40.out.size))
            refine hK.out _ _ (hcw.out _ hb50.out) (fun hH55 => ?_)
            clear hK K hH48 ba
            try simp only [Act.put, List.setIfInBounds_toArray, List.set_cons_zero, List.set_cons_succ]
            refine wpAnyH_ready (rs := [12]) (by kernel_rfl) (by simp) (AllReadyH.cons rfl (fun K hK => ?_) AllReadyH.nil)
            go_simp
            have ba := (Below.refl v49.heap.size v49).alloc (Nat.le_refl _) (.cells #[.int .i64 0, .string ⟨#[104, 116, 116, 112, 58, 47, 47, 119, 119, 119, 46, 119, 51, 46, 111, 114, 103, 47, 50, 48, 48, 53, 47, 65, 116, 111, 109]⟩, .string ⟨#[101, 109, 97, 105, 108]⟩, .slice none 0 0, .slice ko41 kn42 kc43, .string ⟨#[]⟩, .int .i64 0, .string ⟨#[104, 116, 116, 112, 58, 47, 47, 119, 119, 119, 46, 119, 51, 46, 111, 114, 103, 47, 50, 48, 48, 53, 47, 65, 116, 111, 109]⟩, .string ⟨#[117, 114, 105]⟩, .slice none 0 0, .slice ko51 kn52 kc53, .string ⟨#[]⟩] 25)
            have hr58 := Lib.hid (am_cells_row v49 [.int .i64 0, .string ⟨#[104, 116, 116, 112, 58, 47, 47, 119, 119, 119, 46, 119, 51, 46, 111, 114, 103, 47, 50, 48, 48, 53, 47, 65, 116, 111, 109]⟩, .string ⟨#[101, 109, 97, 105, 108]⟩, .slice none 0 0, .slice ko41 kn42 kc43, .string ⟨#[]⟩, .int .i64 0, .string ⟨#[104, 116, 116, 112, 58, 47, 47, 119, 119, 119, 46, 119, 51, 46, 111, 114, 103, 47, 50, 48, 48, 53, 47, 65, 116, 111, 109]⟩, .string ⟨#[117, 114, 105]⟩, .slice none 0 0, .slice ko51 kn52 kc53, .string ⟨#[]⟩] 25)
            replace hN44 := Lib.hid (hN44.out.on ba)
            replace hN54 := Lib.hid (hN54.out.on ba)
            have hb57 := Lib.hid (hb50.out.trans (ba.mono hb50.out.size))
            refine hK.out _ _ (hcw.out _ hb57.out) (fun hH59 => ?_)
            clear hK K hH55 ba
            generalize v49.alloc (.cells #[.int .i64 0, .string ⟨#[104, 116, 116, 112, 58, 47, 47, 119, 119, 119, 46, 119, 51, 46, 111, 114, 103, 47, 50, 48, 48, 53, 47, 65, 116, 111, 109]⟩, .string ⟨#[101, 109, 97, 105, 108]⟩, .slice none 0 0, .slice ko41 kn42 kc43, .string ⟨#[]⟩, .int .i64 0, .string ⟨#[104, 116, 116, 112, 58, 47, 47, 119, 119, 119, 46, 119, 51, 46, 111, 114, 103, 47, 50, 48, 48, 53, 47, 65, 116, 111, 109]⟩, .string ⟨#[117, 114, 105]⟩, .slice none 0 0, .slice ko51 kn52 kc53, .string ⟨#[]⟩] 25) = v56 at *
            try simp only [Act.put, List.setIfInBounds_toArray, List.set_cons_zero, List.set_cons_succ]
            refine wpAnyH_ready (rs := [13]) (by kernel_rfl) (by simp) (AllReadyH.cons rfl (fun K hK => ?_) AllReadyH.nil)
            have gW := g8.out.on hb57.out
            have kW := k8.out.on hb57.out
            have hlW := gW.n.lt
            have hbW := gW.lb
            have hl1 := l1.out
            obtain ⟨css, hcl, hown, hkd⟩ := gW.kid
            refine step_append_lies _ (by rfl) _ _ _ (by rfl) w1.heap.size 25 i0 _ 6 104 Tryz.underlying23 hi hz0 hz1 hz2 rfl (by decide) (.slice (some ⟨w7.heap.size, 0, none⟩) 1 1) 1 css.flatten (by rfl) hown ⟨v49.heap.size, 0, none⟩ 2 2 [.int .i64 0, .string ⟨#[104, 116, 116, 112, 58, 47, 47, 119, 119, 119, 46, 119, 51, 46, 111, 114, 103, 47, 50, 48, 48, 53, 47, 65, 116, 111, 109]⟩, .string ⟨#[101, 109, 97, 105, 108]⟩, .slice none 0 0, .slice ko41 kn42 kc43, .string ⟨#[]⟩, .int .i64 0, .string ⟨#[104, 116, 116, 112, 58, 47, 47, 119, 119, 119, 46, 119, 51, 46, 111, 114, 103, 47, 50, 48, 48, 53, 47, 65, 116, 111, 109]⟩, .string ⟨#[117, 114, 105]⟩, .slice none 0 0, .slice ko51 kn52 kc53, .string ⟨#[]⟩] rfl rfl hr58.out (by simp [Value.oneCell']) (by decide) (by simp [maxLen]) (by simp) (by have := gW.low.size; omega) _ rfl ?_
            intro gg cap5 v60 hown5 hg5 hat5 hlt5
            have hvb : ∀ j, (.slice (some ⟨w7.heap.size, 0, none⟩) 1 1 : Value).ownBlock = some j → w1.heap.size ≤ j := fun j e => (World.ownsRow.lt hown j e).1
            have nV : Cells v60 w4.heap.size 25 _ := (hg5.block w4.heap.size hlW gW.kb).trans gW.n
            have kV : Cells v60 w.heap.size 36 _ := (hg5.block w.heap.size (by omega) (fun e => by have := hvb _ e.symm; omega)).trans kW
            refine hK.out _ _ ⟨kV.cell (i := 1) rfl, kV.cell (i := 2) rfl, nV.cell (i := 4) rfl⟩ (fun hH61 => ?_)
            have nF := nV.free 4
            have nC := nV.cell (i := 4) rfl
            clear hK K hH59 nV kV kW
            try simp only [Act.put, List.setIfInBounds_toArray, List.set_cons_zero, List.set_cons_succ]
            refine wpAnyH_take (i := 14) (v := .pointer (some ⟨w4.heap.size, 4, none⟩)) rfl (by kernel_rfl) (by kernel_rfl) (by kernel_rfl) (fun _ _ _ h => h) (Or.inl ⟨by rfl, ?_⟩) (by assumption) ?_
            · intro w' hSw; (try dsimp only at hSw); go_simp
            try simp only [Act.put, List.setIfInBounds_toArray, List.set_cons_zero, List.set_cons_succ]
            refine wpAnyH_take (i := 15) (v := .bool true) rfl (by kernel_rfl) (by kernel_rfl) (by kernel_rfl) (fun _ _ _ h => h) (Or.inl ⟨by rfl, ?_⟩) (by assumption) ?_
            · intro w' hSw; (try dsimp only at hSw); go_simp
            try simp only [Act.put, List.setIfInBounds_toArray, List.set_cons_zero, List.set_cons_succ]
            refine wpAnyH_done (by kernel_rfl) ?_ _
            show Oper.wp _ _ _ _ _ _
            go_simp
            have st9 : Hid (KSt w1 w4.heap.size _ (700 + (400 + 2)) (v60.setCell ⟨w4.heap.size, 4, none⟩ (.slice (some ⟨gg, 0, none⟩) 3 cap5))) := Lib.hid (KSt.moreKids (n := elN ⟨#[101, 109, 97, 105, 108]⟩ tx5) (m := elN ⟨#[117, 114, 105]⟩ tx46) (c := [.int .i64 0, .string ⟨#[104, 116, 116, 112, 58, 47, 47, 119, 119, 119, 46, 119, 51, 46, 111, 114, 103, 47, 50, 48, 48, 53, 47, 65, 116, 111, 109]⟩, .string ⟨#[101, 109, 97, 105, 108]⟩, .slice none 0 0, .slice ko41 kn42 kc43, .string ⟨#[]⟩]) (d := [.int .i64 0, .string ⟨#[104, 116, 116, 112, 58, 47, 47, 119, 119, 119, 46, 119, 51, 46, 111, 114, 103, 47, 50, 48, 48, 53, 47, 65, 116, 111, 109]⟩, .string ⟨#[117, 114, 105]⟩, .slice none 0 0, .slice ko51 kn52 kc53, .string ⟨#[]⟩]) (css := css) gW hwt8.out (by have e1 := elN_wt (nm := ⟨#[101, 109, 97, 105, 108]⟩) (by decide) ht6.out; have e2 := elN_wt (nm := ⟨#[117, 114, 105]⟩) (by decide) ht47.out; omega) hcl hkd (kid_new g8.out hN44.out (Nat.le_refl _)) (kid_new g8.out hN54.out (Nat.le_refl _)) hown5 hg5 (hat5.imp (fun e => e.symm) (fun e => by rw [e]; first | rfl | simp [Value.ownBlock])))
            clear hown5 hg5 hat5 hlt5 hown hkd gW nC nF hcw
            generalize v60.setCell ⟨w4.heap.size, 4, none⟩ (.slice (some ⟨gg, 0, none⟩) 3 cap5) = w9 at *
            obtain ⟨ao, ca, bo, cb, as', kids, gE, hE, -, -⟩ := KSt.open' st9.out
            have zE := g8.out.same gE l1.out z8.out
            obtain ⟨x0, x1, x2, x3, x4, x5⟩ := node_open gE.n
            obtain ⟨z0, z1, z2, z3, z4, z5'⟩ := node_open (show Cells w9 _ _ (nodeArr 0 ⟨#[]⟩ ⟨#[]⟩ (.slice none 0 0) (.slice none 0 0) ⟨#[]⟩) from zE)
            have f0 := zE.free 0
            have f1 := zE.free 1
            have f2 := zE.free 2
            have f3 := zE.free 3
            have f4 := zE.free 4
            have f5 := zE.free 5
            have aE : amSp = ⟨#[104, 116, 116, 112, 58, 47, 47, 119, 119, 119, 46, 119, 51, 46, 111, 114, 103, 47, 50, 48, 48, 53, 47, 65, 116, 111, 109]⟩ := rfl
            rw [aE] at x1
            replace aE := Lib.hid aE
            replace gE := Lib.hid gE
            replace hE := Lib.hid hE
            replace zE := Lib.hid zE
            go_wp2_with fail
            exact kid_tail rfl rfl gE.out zE.out l1.out b1.out (Nat.le_trans hE.out (by omega))
        · go_simp
          have ba := (Below.refl v1.heap.size v1).alloc (Nat.le_refl _) (.cells #[.string ⟨#[]⟩, .string ⟨#[104, 116, 116, 112, 58, 47, 47, 97]⟩, .string ⟨#[37]⟩] 9)
          have hs64 : Hid (StrsAt v1.heap.size amUris (v1.alloc (.cells #[.string ⟨#[]⟩, .string ⟨#[104, 116, 116, 112, 58, 47, 47, 97]⟩, .string ⟨#[37]⟩] 9))) := Lib.hid (strs_new v1 amUris 9)
          replace hs3 := Lib.hid (hs3.out.on ba)
          have hb63 := Lib.hid (hb2.out.trans (ba.mono hb2.out.size))
          refine hK.out _ _ (hcw.out _ hb63.out) (fun hH65 => ?_)
          clear hK K hH4 ba
          generalize v1.alloc (.cells #[.string ⟨#[]⟩, .string ⟨#[104, 116, 116, 112, 58, 47, 47, 97]⟩, .string ⟨#[37]⟩] 9) = v62 at *
          try simp only [Act.put, List.setIfInBounds_toArray, List.set_cons_zero, List.set_cons_succ]
          refine wpAnyH_ready (rs := [5]) (by kernel_rfl) (by simp) (AllReadyH.cons rfl (fun K hK => ?_) AllReadyH.nil)
          go_simp
          refine (pick_any m1 amMails (v0.heap.size) 5 5 v62 hs3.out rfl (by decide) (by decide) h1).mono ?_
          rintro e w' ⟨⟨tx66, ht67, rfl⟩, hw⟩
          rw [hw]
          replace ht67 := Lib.hid (amMails_small _ ht67)
          refine hK.out _ _ (hcw.out _ hb63.out) (fun hH68 => ?_)
          clear hK K hH65 hw w' hs3
          try simp only [Act.put, List.setIfInBounds_toArray, List.set_cons_zero, List.set_cons_succ]
          refine wpAnyH_ready (rs := [6]) (by kernel_rfl) (by simp) (AllReadyH.cons rfl (fun K hK => ?_) AllReadyH.nil)
          go_simp
          refine (el_any ⟨#[101, 109, 97, 105, 108]⟩ tx66 v62).mono ?_
          rintro e v69 ⟨ko71, kn72, kc73, rfl, hN74, -, ba⟩
          replace hN74 := Lib.hid (hN74.mono (S' := fun b => w8.heap.size ≤ b) (fun b hb _ => Nat.le_trans hb63.out.size hb))
          replace hs64 := Lib.hid (hs64.out.on ba)
          have hb70 := Lib.hid (hb63.out.trans (ba.mono hb63.out.size))
          refine hK.out _ _ (hcw.out _ hb70.out) (fun hH75 => ?_)
          clear hK K hH68 ba
          try simp only [Act.put, List.setIfInBounds_toArray, List.set_cons_zero, List.set_cons_succ]
          refine wpAnyH_ready (rs := [10]) (by kernel_rfl) (by simp) (AllReadyH.cons rfl (fun K hK => ?_) AllReadyH.nil)
          go_simp
          refine (pick_any m2 amUris (v1.heap.size) 3 3 v69 hs64.out rfl (by decide) (by decide) h2).mono ?_
          rintro e w' ⟨⟨tx76, ht77, rfl⟩, hw⟩
          rw [hw]
          replace ht77 := Lib.hid (amUris_small _ ht77)
          refine hK.out _ _ (hcw.out _ hb70.out) (fun hH78 => ?_)
          clear hK K hH75 hw w' hs64
          try simp only [Act.put, List.setIfInBounds_toArray, List.set_cons_zero, List.set_cons_succ]
          refine wpAnyH_ready (rs := [11]) (by kernel_rfl) (by simp) (AllReadyH.cons rfl (fun K hK => ?_) AllReadyH.nil)
          go_simp
          refine (el_any ⟨#[117, 114, 105]⟩ tx76 v69).mono ?_
          rintro e v79 ⟨ko81, kn82, kc83, rfl, hN84, -, ba⟩
          replace hN84 := Lib.hid (hN84.mono (S' := fun b => w8.heap.size ≤ b) (fun b hb _ => Nat.le_trans hb70.out.size hb))
          replace hN74 := Lib.hid (hN74.out.on ba)
          have hb80 := Lib.hid (hb70.out.trans (ba.mono hb70.out.size))
          refine hK.out _ _ (hcw.out _ hb80.out) (fun hH85 => ?_)
          clear hK K hH78 ba
          try simp only [Act.put, List.setIfInBounds_toArray, List.set_cons_zero, List.set_cons_succ]
          refine wpAnyH_ready (rs := [12]) (by kernel_rfl) (by simp) (AllReadyH.cons rfl (fun K hK => ?_) AllReadyH.nil)
          go_simp
          have ba := (Below.refl v79.heap.size v79).alloc (Nat.le_refl _) (.cells #[.int .i64 0, .string ⟨#[104, 116, 116, 112, 58, 47, 47, 119, 119, 119, 46, 119, 51, 46, 111, 114, 103, 47, 50, 48, 48, 53, 47, 65, 116, 111, 109]⟩, .string ⟨#[101, 109, 97, 105, 108]⟩, .slice none 0 0, .slice ko71 kn72 kc73, .string ⟨#[]⟩, .int .i64 0, .string ⟨#[104, 116, 116, 112, 58, 47, 47, 119, 119, 119, 46, 119, 51, 46, 111, 114, 103, 47, 50, 48, 48, 53, 47, 65, 116, 111, 109]⟩, .string ⟨#[117, 114, 105]⟩, .slice none 0 0, .slice ko81 kn82 kc83, .string ⟨#[]⟩] 25)
          have hr88 := Lib.hid (am_cells_row v79 [.int .i64 0, .string ⟨#[104, 116, 116, 112, 58, 47, 47, 119, 119, 119, 46, 119, 51, 46, 111, 114, 103, 47, 50, 48, 48, 53, 47, 65, 116, 111, 109]⟩, .string ⟨#[101, 109, 97, 105, 108]⟩, .slice none 0 0, .slice ko71 kn72 kc73, .string ⟨#[]⟩, .int .i64 0, .string ⟨#[104, 116, 116, 112, 58, 47, 47, 119, 119, 119, 46, 119, 51, 46, 111, 114, 103, 47, 50, 48, 48, 53, 47, 65, 116, 111, 109]⟩, .string ⟨#[117, 114, 105]⟩, .slice none 0 0, .slice ko81 kn82 kc83, .string ⟨#[]⟩] 25)
          replace hN74 := Lib.hid (hN74.out.on ba)
          replace hN84 := Lib.hid (hN84.out.on ba)
          have hb87 := Lib.hid (hb80.out.trans (ba.mono hb80.out.size))
          refine hK.out _ _ (hcw.out _ hb87.out) (fun hH89 => ?_)
          clear hK K hH85 ba
          generalize v79.alloc (.cells #[.int .i64 0, .string ⟨#[104, 116, 116, 112, 58, 47, 47, 119, 119, 119, 46, 119, 51, 46, 111, 114, 103, 47, 50, 48, 48, 53, 47, 65, 116, 111, 109]⟩, .string ⟨#[101, 109, 97, 105, 108]⟩, .slice none 0 0, .slice ko71 kn72 kc73, .string ⟨#[]⟩, .int .i64 0, .string ⟨#[104, 116, 116, 112, 58, 47, 47, 119, 119, 119, 46, 119, 51, 46, 111, 114, 103, 47, 50, 48, 48, 53, 47, 65, 116, 111, 109]⟩, .string ⟨#[117, 114, 105]⟩, .slice none 0 0, .slice ko81 kn82 kc83, .string ⟨#[]⟩] 25) = v86 at *
          try simp only [Act.put, List.setIfInBounds_toArray, List.set_cons_zero, List.set_cons_succ]
          refine wpAnyH_ready (rs := [13]) (by kernel_rfl) (by simp) (AllReadyH.cons rfl (fun K hK => ?_) AllReadyH.nil)
          have gW := g8.out.on hb87.out
          have kW := k8.out.on hb87.out
          have hlW := gW.n.lt
          have hbW := gW.lb
          have hl1 := l1.out
          obtain ⟨css, hcl, hown, hkd⟩ := gW.kid
          refine step_append_lies _ (by rfl) _ _ _ (by rfl) w1.heap.size 25 i0 _ 6 104 Tryz.underlying23 hi hz0 hz1 hz2 rfl (by decide) (.slice (some ⟨w7.heap.size, 0, none⟩) 1 1) 1 css.flatten (by rfl) hown ⟨v79.heap.size, 0, none⟩ 2 2 [.int .i64 0, .string ⟨#[104, 116, 116, 112, 58, 47, 47, 119, 119, 119, 46, 119, 51, 46, 111, 114, 103, 47, 50, 48, 48, 53, 47, 65, 116, 111, 109]⟩, .string ⟨#[101, 109, 97, 105, 108]⟩, .slice none 0 0, .slice ko71 kn72 kc73, .string ⟨#[]⟩, .int .i64 0, .string ⟨#[104, 116, 116, 112, 58, 47, 47, 119, 119, 119, 46, 119, 51, 46, 111, 114, 103, 47, 50, 48, 48, 53, 47, 65, 116, 111, 109]⟩, .string ⟨#[117, 114, 105]⟩, .slice none 0 0, .slice ko81 kn82 kc83, .string ⟨#[]⟩] rfl rfl hr88.out (by simp [Value.oneCell']) (by decide) (by simp [maxLen]) (by simp) (by have := gW.low.size; omega) _ rfl ?_
          intro gg cap5 v90 hown5 hg5 hat5 hlt5
          have hvb : ∀ j, (.slice (some ⟨w7.heap.size, 0, none⟩) 1 1 : Value).ownBlock = some j → w1.heap.size ≤ j := fun j e => (World.ownsRow.lt hown j e).1
          have nV : Cells v90 w4.heap.size 25 _ := (hg5.block w4.heap.size hlW gW.kb).trans gW.n
          have kV : Cells v90 w.heap.size 36 _ := (hg5.block w.heap.size (by omega) (fun e => by have := hvb _ e.symm; omega)).trans kW
          refine hK.out _ _ ⟨kV.cell (i := 1) rfl, kV.cell (i := 2) rfl, nV.cell (i := 4) rfl⟩ (fun hH91 => ?_)
          have nF := nV.free 4
          have nC := nV.cell (i := 4) rfl
          clear hK K hH89 nV kV kW
          try simp only [Act.put, List.setIfInBounds_toArray, List.set_cons_zero, List.set_cons_succ]
          refine wpAnyH_take (i := 14) (v := .pointer (some ⟨w4.heap.size, 4, none⟩)) rfl (by kernel_rfl) (by kernel_rfl) (by kernel_rfl) (fun _ _ _ h => h) (Or.inl ⟨by rfl, ?_⟩) (by assumption) ?_
          · intro w' hSw; (try dsimp only at hSw); go_simp
          try simp only [Act.put, List.setIfInBounds_toArray, List.set_cons_zero, List.set_cons_succ]
          refine wpAnyH_take (i := 15) (v := .bool true) rfl (by kernel_rfl) (by kernel_rfl) (by kernel_rfl) (fun _ _ _ h => h) (Or.inl ⟨by rfl, ?_⟩) (by assumption) ?_
          · intro w' hSw; (try dsimp only at hSw); go_simp
          try simp only [Act.put, List.setIfInBounds_toArray, List.set_cons_zero, List.set_cons_succ]
          refine wpAnyH_done (by kernel_rfl) ?_ _
          show Oper.wp _ _ _ _ _ _
          go_simp
          have st9 : Hid (KSt w1 w4.heap.size _ (700 + (400 + 2)) (v90.setCell ⟨w4.heap.size, 4, none⟩ (.slice (some ⟨gg, 0, none⟩) 3 cap5))) := Lib.hid (KSt.moreKids (n := elN ⟨#[101, 109, 97, 105, 108]⟩ tx66) (m := elN ⟨#[117, 114, 105]⟩ tx76) (c := [.int .i64 0, .string ⟨#[104, 116, 116, 112, 58, 47, 47, 119, 119, 119, 46, 119, 51, 46, 111, 114, 103, 47, 50, 48, 48, 53, 47, 65, 116, 111, 109]⟩, .string ⟨#[101, 109, 97, 105, 108]⟩, .slice none 0 0, .slice ko71 kn72 kc73, .string ⟨#[]⟩]) (d := [.int .i64 0, .string ⟨#[104, 116, 116, 112, 58, 47, 47, 119, 119, 119, 46, 119, 51, 46, 111, 114, 103, 47, 50, 48, 48, 53, 47, 65, 116, 111, 109]⟩, .string ⟨#[117, 114, 105]⟩, .slice none 0 0, .slice ko81 kn82 kc83, .string ⟨#[]⟩]) (css := css) gW hwt8.out (by have e1 := elN_wt (nm := ⟨#[101, 109, 97, 105, 108]⟩) (by decide) ht67.out; have e2 := elN_wt (nm := ⟨#[117, 114, 105]⟩) (by decide) ht77.out; omega) hcl hkd (kid_new g8.out hN74.out (Nat.le_refl _)) (kid_new g8.out hN84.out (Nat.le_refl _)) hown5 hg5 (hat5.imp (fun e => e.symm) (fun e => by rw [e]; first | rfl | simp [Value.ownBlock])))
          clear hown5 hg5 hat5 hlt5 hown hkd gW nC nF hcw
          generalize v90.setCell ⟨w4.heap.size, 4, none⟩ (.slice (some ⟨gg, 0, none⟩) 3 cap5) = w9 at *
          obtain ⟨ao, ca, bo, cb, as', kids, gE, hE, -, -⟩ := KSt.open' st9.out
          have zE := g8.out.same gE l1.out z8.out
          obtain ⟨x0, x1, x2, x3, x4, x5⟩ := node_open gE.n
          obtain ⟨z0, z1, z2, z3, z4, z5'⟩ := node_open (show Cells w9 _ _ (nodeArr 0 ⟨#[]⟩ ⟨#[]⟩ (.slice none 0 0) (.slice none 0 0) ⟨#[]⟩) from zE)
          have f0 := zE.free 0
          have f1 := zE.free 1
          have f2 := zE.free 2
          have f3 := zE.free 3
          have f4 := zE.free 4
          have f5 := zE.free 5
          have aE : amSp = ⟨#[104, 116, 116, 112, 58, 47, 47, 119, 119, 119, 46, 119, 51, 46, 111, 114, 103, 47, 50, 48, 48, 53, 47, 65, 116, 111, 109]⟩ := rfl
          rw [aE] at x1
          replace aE := Lib.hid aE
          replace gE := Lib.hid gE
          replace hE := Lib.hid hE
          replace zE := Lib.hid zE
          go_wp2_with fail
          exact kid_tail rfl rfl gE.out zE.out l1.out b1.out (Nat.le_trans hE.out (by omega))
      · go_simp
        have ba := (Below.refl v0.heap.size v0).alloc (Nat.le_refl _) (.cells #[.string ⟨#[]⟩, .string ⟨#[104, 116, 116, 112, 58, 47, 47, 97]⟩, .string ⟨#[37]⟩] 9)
        have hs94 : Hid (StrsAt v0.heap.size amUris (v0.alloc (.cells #[.string ⟨#[]⟩, .string ⟨#[104, 116, 116, 112, 58, 47, 47, 97]⟩, .string ⟨#[37]⟩] 9))) := Lib.hid (strs_new v0 amUris 9)
        have hb93 := Lib.hid (hb0.out.trans (ba.mono hb0.out.size))
        refine hK.out _ _ (hcw.out _ hb93.out) (fun hH95 => ?_)
        clear hK K hH ba
        generalize v0.alloc (.cells #[.string ⟨#[]⟩, .string ⟨#[104, 116, 116, 112, 58, 47, 47, 97]⟩, .string ⟨#[37]⟩] 9) = v92 at *
        try simp only [Act.put, List.setIfInBounds_toArray, List.set_cons_zero, List.set_cons_succ]
        refine wpAnyH_ready (rs := [4]) (by kernel_rfl) (by simp) (AllReadyH.cons rfl (fun K hK => ?_) AllReadyH.nil)
        go_simp
        have ba := (Below.refl v92.heap.size v92).alloc (Nat.le_refl _) (.cells #[.string ⟨#[97, 64, 98]⟩, .string ⟨#[64, 98]⟩, .string ⟨#[97, 64]⟩, .string ⟨#[97, 64, 98, 64, 99]⟩, .string ⟨#[120]⟩] 9)
        have hs98 : Hid (StrsAt v92.heap.size amMails (v92.alloc (.cells #[.string ⟨#[97, 64, 98]⟩, .string ⟨#[64, 98]⟩, .string ⟨#[97, 64]⟩, .string ⟨#[97, 64, 98, 64, 99]⟩, .string ⟨#[120]⟩] 9))) := Lib.hid (strs_new v92 amMails 9)
        replace hs94 := Lib.hid (hs94.out.on ba)
        have hb97 := Lib.hid (hb93.out.trans (ba.mono hb93.out.size))
        refine hK.out _ _ (hcw.out _ hb97.out) (fun hH99 => ?_)
        clear hK K hH95 ba
        generalize v92.alloc (.cells #[.string ⟨#[97, 64, 98]⟩, .string ⟨#[64, 98]⟩, .string ⟨#[97, 64]⟩, .string ⟨#[97, 64, 98, 64, 99]⟩, .string ⟨#[120]⟩] 9) = v96 at *
        try simp only [Act.put, List.setIfInBounds_toArray, List.set_cons_zero, List.set_cons_succ]
        refine wpAnyH_ready (rs := [5]) (by kernel_rfl) (by simp) (AllReadyH.cons rfl (fun K hK => ?_) AllReadyH.nil)
        go_simp
        refine (pick_any m1 amMails (v92.heap.size) 5 5 v96 hs98.out rfl (by decide) (by decide) h1).mono ?_
        rintro e w' ⟨⟨tx100, ht101, rfl⟩, hw⟩
        rw [hw]
        replace ht101 := Lib.hid (amMails_small _ ht101)
        refine hK.out _ _ (hcw.out _ hb97.out) (fun hH102 => ?_)
        clear hK K hH99 hw w' hs98
        try simp only [Act.put, List.setIfInBounds_toArray, List.set_cons_zero, List.set_cons_succ]
        refine wpAnyH_ready (rs := [6]) (by kernel_rfl) (by simp) (AllReadyH.cons rfl (fun K hK => ?_) AllReadyH.nil)
        go_simp
        refine (el_any ⟨#[101, 109, 97, 105, 108]⟩ tx100 v96).mono ?_
        rintro e v103 ⟨ko105, kn106, kc107, rfl, hN108, -, ba⟩
        replace hN108 := Lib.hid (hN108.mono (S' := fun b => w8.heap.size ≤ b) (fun b hb _ => Nat.le_trans hb97.out.size hb))
        replace hs94 := Lib.hid (hs94.out.on ba)
        have hb104 := Lib.hid (hb97.out.trans (ba.mono hb97.out.size))
        refine hK.out _ _ (hcw.out _ hb104.out) (fun hH109 => ?_)
        clear hK K hH102 ba
        try simp only [Act.put, List.setIfInBounds_toArray, List.set_cons_zero, List.set_cons_succ]
        refine wpAnyH_ready (rs := [10]) (by kernel_rfl) (by simp) (AllReadyH.cons rfl (fun K hK => ?_) AllReadyH.nil)
        go_simp
        refine (pick_any m2 amUris (v0.heap.size) 3 3 v103 hs94.out rfl (by decide) (by decide) h2).mono ?_
        rintro e w' ⟨⟨tx110, ht111, rfl⟩, hw⟩
        rw [hw]
        replace ht111 := Lib.hid (amUris_small _ ht111)
        refine hK.out _ _ (hcw.out _ hb104.out) (fun hH112 => ?_)
        clear hK K hH109 hw w' hs94
        try simp only [Act.put, List.setIfInBounds_toArray, List.set_cons_zero, List.set_cons_succ]
        refine wpAnyH_ready (rs := [11]) (by kernel_rfl) (by simp) (AllReadyH.cons rfl (fun K hK => ?_) AllReadyH.nil)
        go_simp
        refine (el_any ⟨#[117, 114, 105]⟩ tx110 v103).mono ?_
        rintro e v113 ⟨ko115, kn116, kc117, rfl, hN118, -, ba⟩
        replace hN118 := Lib.hid (hN118.mono (S' := fun b => w8.heap.size ≤ b) (fun b hb _ => Nat.le_trans hb104.out.size hb))
        replace hN108 := Lib.hid (hN108.out.on ba)
        have hb114 := Lib.hid (hb104.out.trans (ba.mono hb104.out.size))
        refine hK.out _ _ (hcw.out _ hb114.out) (fun hH119 => ?_)
        clear hK K hH112 ba
        try simp only [Act.put, List.setIfInBounds_toArray, List.set_cons_zero, List.set_cons_succ]
        refine wpAnyH_ready (rs := [12]) (by kernel_rfl) (by simp) (AllReadyH.cons rfl (fun K hK => ?_) AllReadyH.nil)
        go_simp
        have ba := (Below.refl v113.heap.size v113).alloc (Nat.le_refl _) (.cells #[.int .i64 0, .string ⟨#[104, 116, 116, 112, 58, 47, 47, 119, 119, 119, 46, 119, 51, 46, 111, 114, 103, 47, 50, 48, 48, 53, 47, 65, 116, 111, 109]⟩, .string ⟨#[101, 109, 97, 105, 108]⟩, .slice none 0 0, .slice ko105 kn106 kc107, .string ⟨#[]⟩, .int .i64 0, .string ⟨#[104, 116, 116, 112, 58, 47, 47, 119, 119, 119, 46, 119, 51, 46, 111, 114, 103, 47, 50, 48, 48, 53, 47, 65, 116, 111, 109]⟩, .string ⟨#[117, 114, 105]⟩, .slice none 0 0, .slice ko115 kn116 kc117, .string ⟨#[]⟩] 25)
        have hr122 := Lib.hid (am_cells_row v113 [.int .i64 0, .string ⟨#[104, 116, 116, 112, 58, 47, 47, 119, 119, 119, 46, 119, 51, 46, 111, 114, 103, 47, 50, 48, 48, 53, 47, 65, 116, 111, 109]⟩, .string ⟨#[101, 109, 97, 105, 108]⟩, .slice none 0 0, .slice ko105 kn106 kc107, .string ⟨#[]⟩, .int .i64 0, .string ⟨#[104, 116, 116, 112, 58, 47, 47, 119, 119, 119, 46, 119, 51, 46, 111, 114, 103, 47, 50, 48, 48, 53, 47, 65, 116, 111, 109]⟩, .string ⟨#[117, 114, 105]⟩, .slice none 0 0, .slice ko115 kn116 kc117, .string ⟨#[]⟩] 25)
        replace hN108 := Lib.hid (hN108.out.on ba)
        replace hN118 := Lib.hid (hN118.out.on ba)
        have hb121 := Lib.hid (hb114.out.trans (ba.mono hb114.out.size))
        refine hK.out _ _ (hcw.out _ hb121.out) (fun hH123 => ?_)
        clear hK K hH119 ba
        generalize v113.alloc (.cells #[.int .i64 0, .string ⟨#[104, 116, 116, 112, 58, 47, 47, 119, 119, 119, 46, 119, 51, 46, 111, 114, 103, 47, 50, 48, 48, 53, 47, 65, 116, 111, 109]⟩, .string ⟨#[101, 109, 97, 105, 108]⟩, .slice none 0 0, .slice ko105 kn106 kc107, .string ⟨#[]⟩, .int .i64 0, .string ⟨#[104, 116, 116, 112, 58, 47, 47, 119, 119, 119, 46, 119, 51, 46, 111, 114, 103, 47, 50, 48, 48, 53, 47, 65, 116, 111, 109]⟩, .string ⟨#[117, 114, 105]⟩, .slice none 0 0, .slice ko115 kn116 kc117, .string ⟨#[]⟩] 25) = v120 at *
        try simp only [Act.put, List.setIfInBounds_toArray, List.set_cons_zero, List.set_cons_succ]
        refine wpAnyH_ready (rs := [13]) (by kernel_rfl) (by simp) (AllReadyH.cons rfl (fun K hK => ?_) AllReadyH.nil)
        have gW := g8.out.on hb121.out
        have kW := k8.out.on hb121.out
        have hlW := gW.n.lt
        have hbW := gW.lb
        have hl1 := l1.out
        obtain ⟨css, hcl, hown, hkd⟩ := gW.kid
        refine step_append_lies _ (by rfl) _ _ _ (by rfl) w1.heap.size 25 i0 _ 6 104 Tryz.underlying23 hi hz0 hz1 hz2 rfl (by decide) (.slice (some ⟨w7.heap.size, 0, none⟩) 1 1) 1 css.flatten (by rfl) hown ⟨v113.heap.size, 0, none⟩ 2 2 [.int .i64 0, .string ⟨#[104, 116, 116, 112, 58, 47, 47, 119, 119, 119, 46, 119, 51, 46, 111, 114, 103, 47, 50, 48, 48, 53, 47, 65, 116, 111, 109]⟩, .string ⟨#[101, 109, 97, 105, 108]⟩, .slice none 0 0, .slice ko105 kn106 kc107, .string ⟨#[]⟩, .int .i64 0, .string ⟨#[104, 116, 116, 112, 58, 47, 47, 119, 119, 119, 46, 119, 51, 46, 111, 114, 103, 47, 50, 48, 48, 53, 47, 65, 116, 111, 109]⟩, .string ⟨#[117, 114, 105]⟩, .slice none 0 0, .slice ko115 kn116 kc117, .string ⟨#[]⟩] rfl rfl hr122.out (by simp [Value.oneCell']) (by decide) (by simp [maxLen]) (by simp) (by have := gW.low.size; omega) _ rfl ?_
        intro gg cap5 v124 hown5 hg5 hat5 hlt5
        have hvb : ∀ j, (.slice (some ⟨w7.heap.size, 0, none⟩) 1 1 : Value).ownBlock = some j → w1.heap.size ≤ j := fun j e => (World.ownsRow.lt hown j e).1
        have nV : Cells v124 w4.heap.size 25 _ := (hg5.block w4.heap.size hlW gW.kb).trans gW.n
        have kV : Cells v124 w.heap.size 36 _ := (hg5.block w.heap.size (by omega) (fun e => by have := hvb _ e.symm; omega)).trans kW
        refine hK.out _ _ ⟨kV.cell (i := 1) rfl, kV.cell (i := 2) rfl, nV.cell (i := 4) rfl⟩ (fun hH125 => ?_)
        have nF := nV.free 4
        have nC := nV.cell (i := 4) rfl
        clear hK K hH123 nV kV kW
        try simp only [Act.put, List.setIfInBounds_toArray, List.set_cons_zero, List.set_cons_succ]
        refine wpAnyH_take (i := 14) (v := .pointer (some ⟨w4.heap.size, 4, none⟩)) rfl (by kernel_rfl) (by kernel_rfl) (by kernel_rfl) (fun _ _ _ h => h) (Or.inl ⟨by rfl, ?_⟩) (by assumption) ?_
        · intro w' hSw; (try dsimp only at hSw); go_simp
        try simp only [Act.put, List.setIfInBounds_toArray, List.set_cons_zero, List.set_cons_succ]
        refine wpAnyH_take (i := 15) (v := .bool true) rfl (by kernel_rfl) (by kernel_rfl) (by kernel_rfl) (fun _ _ _ h => h) (Or.inl ⟨by rfl, ?_⟩) (by assumption) ?_
        · intro w' hSw; (try dsimp only at hSw); go_simp
        try simp only [Act.put, List.setIfInBounds_toArray, List.set_cons_zero, List.set_cons_succ]
        refine wpAnyH_done (by kernel_rfl) ?_ _
        show Oper.wp _ _ _ _ _ _
        go_simp
        have st9 : Hid (KSt w1 w4.heap.size _ (700 + (400 + 2)) (v124.setCell ⟨w4.heap.size, 4, none⟩ (.slice (some ⟨gg, 0, none⟩) 3 cap5))) := Lib.hid (KSt.moreKids (n := elN ⟨#[101, 109, 97, 105, 108]⟩ tx100) (m := elN ⟨#[117, 114, 105]⟩ tx110) (c := [.int .i64 0, .string ⟨#[104, 116, 116, 112, 58, 47, 47, 119, 119, 119, 46, 119, 51, 46, 111, 114, 103, 47, 50, 48, 48, 53, 47, 65, 116, 111, 109]⟩, .string ⟨#[101, 109, 97, 105, 108]⟩, .slice none 0 0, .slice ko105 kn106 kc107, .string ⟨#[]⟩]) (d := [.int .i64 0, .string ⟨#[104, 116, 116, 112, 58, 47, 47, 119, 119, 119, 46, 119, 51, 46, 111, 114, 103, 47, 50, 48, 48, 53, 47, 65, 116, 111, 109]⟩, .string ⟨#[117, 114, 105]⟩, .slice none 0 0, .slice ko115 kn116 kc117, .string ⟨#[]⟩]) (css := css) gW hwt8.out (by have e1 := elN_wt (nm := ⟨#[101, 109, 97, 105, 108]⟩) (by decide) ht101.out; have e2 := elN_wt (nm := ⟨#[117, 114, 105]⟩) (by decide) ht111.out; omega) hcl hkd (kid_new g8.out hN108.out (Nat.le_refl _)) (kid_new g8.out hN118.out (Nat.le_refl _)) hown5 hg5 (hat5.imp (fun e => e.symm) (fun e => by rw [e]; first | rfl | simp [Value.ownBlock])))
        clear hown5 hg5 hat5 hlt5 hown hkd gW nC nF hcw
        generalize v124.setCell ⟨w4.heap.size, 4, none⟩ (.slice (some ⟨gg, 0, none⟩) 3 cap5) = w9 at *
        obtain ⟨ao, ca, bo, cb, as', kids, gE, hE, -, -⟩ := KSt.open' st9.out
        have zE := g8.out.same gE l1.out z8.out
        obtain ⟨x0, x1, x2, x3, x4, x5⟩ := node_open gE.n
        obtain ⟨z0, z1, z2, z3, z4, z5'⟩ := node_open (show Cells w9 _ _ (nodeArr 0 ⟨#[]⟩ ⟨#[]⟩ (.slice none 0 0) (.slice none 0 0) ⟨#[]⟩) from zE)
        have f0 := zE.free 0
        have f1 := zE.free 1
        have f2 := zE.free 2
        have f3 := zE.free 3
        have f4 := zE.free 4
        have f5 := zE.free 5
        have aE : amSp = ⟨#[104, 116, 116, 112, 58, 47, 47, 119, 119, 119, 46, 119, 51, 46, 111, 114, 103, 47, 50, 48, 48, 53, 47, 65, 116, 111, 109]⟩ := rfl
        rw [aE] at x1
        replace aE := Lib.hid aE
        replace gE := Lib.hid gE
        replace hE := Lib.hid hE
        replace zE := Lib.hid zE
        go_wp2_with fail
        exact kid_tail rfl rfl gE.out zE.out l1.out b1.out (Nat.le_trans hE.out (by omega))
    · have hmb : ((m2 : Int) % 3 == 0) = false := by rw [beq_eq_false_iff_ne]; exact hm
      go_wp2_with fail
      exact kid_tail rfl rfl g8.out z8.out l1.out b1.out (Nat.le_trans hwt8.out (by omega))
  · obtain ⟨x0, x1, x2, x3, x4, x5⟩ := node_open g5.out.n
    obtain ⟨z0, z1, z2, z3, z4, z5'⟩ := node_open (show Cells w5 _ _ (nodeArr 0 ⟨#[]⟩ ⟨#[]⟩ (.slice none 0 0) (.slice none 0 0) ⟨#[]⟩) from z5.out)
    have f0 := z5.out.free 0
    have f1 := z5.out.free 1
    have f2 := z5.out.free 2
    have f3 := z5.out.free 3
    have f4 := z5.out.free 4
    have f5 := z5.out.free 5
    go_wp2_with fail
    exact kid_tail rfl rfl g5.out z5.out l1.out b1.out (by have := hwt.out; omega)
  · obtain ⟨x0, x1, x2, x3, x4, x5⟩ := node_open g5.out.n
    obtain ⟨z0, z1, z2, z3, z4, z5'⟩ := node_open (show Cells w5 _ _ (nodeArr 0 ⟨#[]⟩ ⟨#[]⟩ (.slice none 0 0) (.slice none 0 0) ⟨#[]⟩) from z5.out)
    have f0 := z5.out.free 0
    have f1 := z5.out.free 1
    have f2 := z5.out.free 2
    have f3 := z5.out.free 3
    have f4 := z5.out.free 4
    have f5 := z5.out.free 5
    go_wp2_with fail
    exact kid_tail rfl rfl g5.out z5.out l1.out b1.out (by have := hwt.out; omega)
  · have hS0 : Hid (KSt w1 w4.heap.size ⟨#[116, 105, 116, 108, 101]⟩ 200 w5) := Lib.hid ⟨_, _, _, _, g5.out, hwt.out⟩
    have k0 := k5
    have q0 := k0.out.cell (i := 2) rfl
    go_upto_if 107 with fail
    go_cut [108] (fun _ wx => Hid (KSt w1 w4.heap.size ⟨#[116, 105, 116, 108, 101]⟩ 330 wx))
    case first =>
      by_cases hm : (m2 : Int) % 2 = 0
      · have hmb : ((m2 : Int) % 2 == 0) = true := by rw [beq_iff_eq]; exact hm
        have d2 : ((m2 : Int)).tdiv 2 = ((m2 / 2 : Nat) : Int) := by rw [Int.tdiv_eq_ediv_of_nonneg (by omega)]; rfl
        have hs := Lib.hid (strs_new w5 amKinds 9)
        have ba := (Below.refl w5.heap.size w5).alloc (Nat.le_refl _) (.cells (amKinds.map Value.string).toArray 9)
        have g6 := Lib.hid (g5.out.on ba)
        clear ba
        go_wp2_with fail
        (refine (pick_any (m2 / 2) amKinds w5.heap.size 6 6 _ hs.out rfl (by decide) (by decide) (by omega)).mono ?_); rintro e w' ⟨⟨t, ht, rfl⟩, rfl⟩
        replace ht := Lib.hid (amKinds_small _ ht)
        generalize w5.alloc (.cells (amKinds.map Value.string).toArray 9) = w6 at *
        have an1 := Lib.hid (att_new (B := w1.heap.size) w6 ⟨#[116, 121, 112, 101]⟩ t g6.out.low.size)
        have gG := Lib.hid (World.grownBy_alloc w6 (.cells #[.string ⟨#[]⟩, .string ⟨#[116, 121, 112, 101]⟩, .string t] 41) (Value.slice none 0 0).ownBlock)
        have a3 := (g6.out.n.alloc (.cells #[.string ⟨#[]⟩, .string ⟨#[116, 121, 112, 101]⟩, .string t] 41)).cell (i := 3) rfl
        have f3 := (g6.out.n.alloc (.cells #[.string ⟨#[]⟩, .string ⟨#[116, 121, 112, 101]⟩, .string t] 41)).free 3
        go_wp2_with fail
        go_meet
        exact Lib.hid (KSt.le (KSt.newAtts g6.out hwt.out (by have := ht.out; have e1 : ByteArray.size ⟨#[116, 121, 112, 101]⟩ = 4 := rfl; omega) an1.out gG.out (Nat.le_refl _)) (by omega))
      · have hmb : ((m2 : Int) % 2 == 0) = false := by rw [beq_eq_false_iff_ne]; exact hm
        go_wp2_with fail
        go_meet
        exact Lib.hid (KSt.le hS0.out (by omega))
    case rest =>
    have hSA := hcut
    clear hcut
    generalize wc = A at *
    clear wc
    obtain ⟨aoA, caA, boA, cbA, asA, kdA, gA, hzA, laA, lkA⟩ := KSt.open' hSA.out
    have kA := Lib.hid (g5.out.same gA (show w.heap.size < w1.heap.size by have := l1.out; omega) k5.out)
    replace gA := Lib.hid gA
    replace hzA := Lib.hid hzA
    have nA := Lib.hid gA.out.n
    have qA := kA.out.cell (i := 1) rfl
    go_upto_if 119 with fail
    go_cut [120] (fun _ wx => Hid (KSt w1 w4.heap.size ⟨#[116, 105, 116, 108, 101]⟩ 440 wx))
    case first =>
      by_cases hm : (m1 : Int) % 5 = 0
      · have hmb : ((m1 : Int) % 5 == 0) = true := by rw [beq_iff_eq]; exact hm
        have ba := (Below.refl A.heap.size A).alloc (Nat.le_refl _) (.cells #[.int .i64 0, .string ⟨#[104, 116, 116, 112, 58, 47, 47, 119, 119, 119, 46, 119, 51, 46, 111, 114, 103, 47, 49, 57, 57, 57, 47, 120, 104, 116, 109, 108]⟩, .string ⟨#[100, 105, 118]⟩, .slice none 0 0, .slice none 0 0, .string ⟨#[]⟩] 25)
        have gW := gA.out.on ba
        have x4 := gW.n.cell (i := 4) rfl
        have y4 := gA.out.n.cell (i := 4) rfl
        have hr := am_cells_row A [.int .i64 0, .string ⟨#[104, 116, 116, 112, 58, 47, 47, 119, 119, 119, 46, 119, 51, 46, 111, 114, 103, 47, 49, 57, 57, 57, 47, 120, 104, 116, 109, 108]⟩, .string ⟨#[100, 105, 118]⟩, .slice none 0 0, .slice none 0 0, .string ⟨#[]⟩] 25
        obtain ⟨css, hcl, hown, hkd⟩ := gW.kid
        have hkb := gW.kb
        have hlt := gW.n.lt
        replace gW := Lib.hid gW
        replace hkd := Lib.hid hkd
        go_wp2_with (at_builtin; refine wpList_append_lies _ rfl _ _ 23 rfl w1.heap.size 25 i0 _ 6 104 Tryz.underlying23 hi hz0 hz1 hz2 rfl (by decide) _ kdA.length css.flatten rfl hown ⟨A.heap.size, 0, none⟩ 1 1 [.int .i64 0, .string ⟨#[104, 116, 116, 112, 58, 47, 47, 119, 119, 119, 46, 119, 51, 46, 111, 114, 103, 47, 49, 57, 57, 57, 47, 120, 104, 116, 109, 108]⟩, .string ⟨#[100, 105, 118]⟩, .slice none 0 0, .slice none 0 0, .string ⟨#[]⟩] rfl rfl hr (by simp [Value.oneCell']) (by decide) (by unfold maxLen; omega) (by omega) gW.out.low.size _ rfl ?_)
        intro gg cap5 w6 hown5 hg5 hat5 hlt5
        have nW : Cells w6 w4.heap.size 25 _ := (hg5.block w4.heap.size hlt hkb).trans gW.out.n
        have s4 := nW.cell (i := 4) rfl
        have sf := nW.free 4
        clear nW
        have st9 := Lib.hid (KSt.moreKid (j := 100) (n := .mk 0 ⟨#[104, 116, 116, 112, 58, 47, 47, 119, 119, 119, 46, 119, 51, 46, 111, 114, 103, 47, 49, 57, 57, 57, 47, 120, 104, 116, 109, 108]⟩ ⟨#[100, 105, 118]⟩ [] [] ⟨#[]⟩) (c := [.int .i64 0, .string ⟨#[104, 116, 116, 112, 58, 47, 47, 119, 119, 119, 46, 119, 51, 46, 111, 114, 103, 47, 49, 57, 57, 57, 47, 120, 104, 116, 109, 108]⟩, .string ⟨#[100, 105, 118]⟩, .slice none 0 0, .slice none 0 0, .string ⟨#[]⟩]) gW.out hzA.out (by decide) hcl hkd.out (kid_new (k := A.heap.size) gA.out (node_plain _ _ 0 ⟨#[104, 116, 116, 112, 58, 47, 47, 119, 119, 119, 46, 119, 51, 46, 111, 114, 103, 47, 49, 57, 57, 57, 47, 120, 104, 116, 109, 108]⟩ ⟨#[100, 105, 118]⟩ ⟨#[]⟩) (Nat.le_refl _)) hown5 hg5 (hat5.imp (fun e => e.symm) (fun e => by rw [e]; first | rfl | simp [Value.ownBlock])))
        clear hown5 hg5 hat5 hlt5 hown hr ba x4 y4 hkb hlt
        go_wp2_with fail
        go_meet
        exact Lib.hid (KSt.le st9.out (by omega))
      · have hmb : ((m1 : Int) % 5 == 0) = false := by rw [beq_eq_false_iff_ne]; exact hm
        go_wp2_with fail
        go_meet
        exact Lib.hid (KSt.le hSA.out (by omega))
    case rest =>
    have hSB := hcut
    clear hcut
    generalize wc = B at *
    clear wc
    obtain ⟨aoB, caB, boB, cbB, asB, kdB, gB, hzB, laB, lkB⟩ := KSt.open' hSB.out
    have kB := Lib.hid (g5.out.same gB (show w.heap.size < w1.heap.size by have := l1.out; omega) k5.out)
    replace gB := Lib.hid gB
    replace hzB := Lib.hid hzB
    have nB := Lib.hid gB.out.n
    have qB := kB.out.cell (i := 1) rfl
    go_upto_if 129 with fail
    by_cases hm : (m1 : Int) % 7 = 0
    · have hmb : ((m1 : Int) % 7 == 0) = true := by rw [beq_iff_eq]; exact hm
      have ba := (Below.refl B.heap.size B).alloc (Nat.le_refl _) (.cells #[.string ⟨#[]⟩, .string ⟨#[115, 114, 99]⟩, .string ⟨#[115]⟩] 41)
      have gW := gB.out.on ba
      have x3 := gW.n.cell (i := 3) rfl
      have y3 := gB.out.n.cell (i := 3) rfl
      have hr := am_cells_row B [.string ⟨#[]⟩, .string ⟨#[115, 114, 99]⟩, .string ⟨#[115]⟩] 41
      have hown : World.ownsRow _ _ _ _ _ _ _ := gW.att
      have hlt := gW.n.lt
      have hne : some w4.heap.size ≠ (Value.slice aoB asB.length caB).ownBlock := fun e => km_cells_apart hown gW.n (by decide) e.symm
      replace gW := Lib.hid gW
      go_wp2_with (at_builtin; refine wpList_append_lies _ rfl _ _ 22 rfl w1.heap.size 41 j0 _ 3 48 Tryz.underlying22 ji jz0 jz1 jz2 rfl (by decide) _ asB.length (asB.flatMap attCells) rfl hown ⟨B.heap.size, 0, none⟩ 1 1 [.string ⟨#[]⟩, .string ⟨#[115, 114, 99]⟩, .string ⟨#[115]⟩] rfl rfl hr (by simp [Value.oneCell']) (by decide) (by unfold maxLen; omega) (by omega) gW.out.low.size _ rfl ?_)
      intro gg cap5 w6 hown5 hg5 hat5 hlt5
      have nW : Cells w6 w4.heap.size 25 _ := (hg5.block w4.heap.size hlt hne).trans gW.out.n
      have s4 := nW.cell (i := 3) rfl
      have sf := nW.free 3
      clear nW
      have st9 := Lib.hid (KSt.moreAtts gW.out hzB.out (by decide) hown5 hg5 (hat5.imp (fun e => e.symm) (fun e => by rw [e]; first | rfl | simp [Value.ownBlock])) (Nat.le_refl _))
      clear hown5 hg5 hat5 hlt5 hown hr ba x3 y3 hne hlt
      go_upto_region 27 with fail
      clear s4 sf
      generalize w6.setCell ⟨w4.heap.size, 3, none⟩ (.slice (some ⟨gg, 0, none⟩) (asB.length + 1) cap5) = w9 at *
      obtain ⟨ao, ca, bo, cb, as', kids, gE, hE, -, -⟩ := KSt.open' st9.out
      have zE := g5.out.same gE l1.out z5.out
      obtain ⟨x0, x1, x2, x3, x4, x5⟩ := node_open gE.n
      obtain ⟨z0, z1, z2, z3, z4, z5'⟩ := node_open (show Cells w9 _ _ (nodeArr 0 ⟨#[]⟩ ⟨#[]⟩ (.slice none 0 0) (.slice none 0 0) ⟨#[]⟩) from zE)
      have f0 := zE.free 0
      have f1 := zE.free 1
      have f2 := zE.free 2
      have f3 := zE.free 3
      have f4 := zE.free 4
      have f5 := zE.free 5
      have aE : amSp = ⟨#[104, 116, 116, 112, 58, 47, 47, 119, 119, 119, 46, 119, 51, 46, 111, 114, 103, 47, 50, 48, 48, 53, 47, 65, 116, 111, 109]⟩ := rfl
      rw [aE] at x1
      replace aE := Lib.hid aE
      replace gE := Lib.hid gE
      replace hE := Lib.hid hE
      replace zE := Lib.hid zE
      go_wp2_with fail
      exact kid_tail rfl rfl gE.out zE.out l1.out b1.out (Nat.le_trans hE.out (by omega))
    · have hmb : ((m1 : Int) % 7 == 0) = false := by rw [beq_eq_false_iff_ne]; exact hm
      obtain ⟨ao, ca, bo, cb, as', kids, gE, hE, -, -⟩ := KSt.open' hSB.out
      have zE := g5.out.same gE l1.out z5.out
      obtain ⟨x0, x1, x2, x3, x4, x5⟩ := node_open gE.n
      obtain ⟨z0, z1, z2, z3, z4, z5'⟩ := node_open (show Cells B _ _ (nodeArr 0 ⟨#[]⟩ ⟨#[]⟩ (.slice none 0 0) (.slice none 0 0) ⟨#[]⟩) from zE)
      have f0 := zE.free 0
      have f1 := zE.free 1
      have f2 := zE.free 2
      have f3 := zE.free 3
      have f4 := zE.free 4
      have f5 := zE.free 5
      have aE : amSp = ⟨#[104, 116, 116, 112, 58, 47, 47, 119, 119, 119, 46, 119, 51, 46, 111, 114, 103, 47, 50, 48, 48, 53, 47, 65, 116, 111, 109]⟩ := rfl
      rw [aE] at x1
      replace aE := Lib.hid aE
      replace gE := Lib.hid gE
      replace hE := Lib.hid hE
      replace zE := Lib.hid zE
      go_wp2_with fail
      exact kid_tail rfl rfl gE.out zE.out l1.out b1.out (Nat.le_trans hE.out (by omega))
  · have hS0 : Hid (KSt w1 w4.heap.size ⟨#[115, 117, 109, 109, 97, 114, 121]⟩ 200 w5) := Lib.hid ⟨_, _, _, _, g5.out, hwt.out⟩
    have k0 := k5
    have q0 := k0.out.cell (i := 2) rfl
    go_upto_if 107 with fail
    go_cut [108] (fun _ wx => Hid (KSt w1 w4.heap.size ⟨#[115, 117, 109, 109, 97, 114, 121]⟩ 330 wx))
    case first =>
      by_cases hm : (m2 : Int) % 2 = 0
      · have hmb : ((m2 : Int) % 2 == 0) = true := by rw [beq_iff_eq]; exact hm
        have d2 : ((m2 : Int)).tdiv 2 = ((m2 / 2 : Nat) : Int) := by rw [Int.tdiv_eq_ediv_of_nonneg (by omega)]; rfl
        have hs := Lib.hid (strs_new w5 amKinds 9)
        have ba := (Below.refl w5.heap.size w5).alloc (Nat.le_refl _) (.cells (amKinds.map Value.string).toArray 9)
        have g6 := Lib.hid (g5.out.on ba)
        clear ba
        go_wp2_with fail
        (refine (pick_any (m2 / 2) amKinds w5.heap.size 6 6 _ hs.out rfl (by decide) (by decide) (by omega)).mono ?_); rintro e w' ⟨⟨t, ht, rfl⟩, rfl⟩
        replace ht := Lib.hid (amKinds_small _ ht)
        generalize w5.alloc (.cells (amKinds.map Value.string).toArray 9) = w6 at *
        have an1 := Lib.hid (att_new (B := w1.heap.size) w6 ⟨#[116, 121, 112, 101]⟩ t g6.out.low.size)
        have gG := Lib.hid (World.grownBy_alloc w6 (.cells #[.string ⟨#[]⟩, .string ⟨#[116, 121, 112, 101]⟩, .string t] 41) (Value.slice none 0 0).ownBlock)
        have a3 := (g6.out.n.alloc (.cells #[.string ⟨#[]⟩, .string ⟨#[116, 121, 112, 101]⟩, .string t] 41)).cell (i := 3) rfl
        have f3 := (g6.out.n.alloc (.cells #[.string ⟨#[]⟩, .string ⟨#[116, 121, 112, 101]⟩, .string t] 41)).free 3
        go_wp2_with fail
        go_meet
        exact Lib.hid (KSt.le (KSt.newAtts g6.out hwt.out (by have := ht.out; have e1 : ByteArray.size ⟨#[116, 121, 112, 101]⟩ = 4 := rfl; omega) an1.out gG.out (Nat.le_refl _)) (by omega))
      · have hmb : ((m2 : Int) % 2 == 0) = false := by rw [beq_eq_false_iff_ne]; exact hm
        go_wp2_with fail
        go_meet
        exact Lib.hid (KSt.le hS0.out (by omega))
    case rest =>
    have hSA := hcut
    clear hcut
    generalize wc = A at *
    clear wc
    obtain ⟨aoA, caA, boA, cbA, asA, kdA, gA, hzA, laA, lkA⟩ := KSt.open' hSA.out
    have kA := Lib.hid (g5.out.same gA (show w.heap.size < w1.heap.size by have := l1.out; omega) k5.out)
    replace gA := Lib.hid gA
    replace hzA := Lib.hid hzA
    have nA := Lib.hid gA.out.n
    have qA := kA.out.cell (i := 1) rfl
    go_upto_if 119 with fail
    go_cut [120] (fun _ wx => Hid (KSt w1 w4.heap.size ⟨#[115, 117, 109, 109, 97, 114, 121]⟩ 440 wx))
    case first =>
      by_cases hm : (m1 : Int) % 5 = 0
      · have hmb : ((m1 : Int) % 5 == 0) = true := by rw [beq_iff_eq]; exact hm
        have ba := (Below.refl A.heap.size A).alloc (Nat.le_refl _) (.cells #[.int .i64 0, .string ⟨#[104, 116, 116, 112, 58, 47, 47, 119, 119, 119, 46, 119, 51, 46, 111, 114, 103, 47, 49, 57, 57, 57, 47, 120, 104, 116, 109, 108]⟩, .string ⟨#[100, 105, 118]⟩, .slice none 0 0, .slice none 0 0, .string ⟨#[]⟩] 25)
        have gW := gA.out.on ba
        have x4 := gW.n.cell (i := 4) rfl
        have y4 := gA.out.n.cell (i := 4) rfl
        have hr := am_cells_row A [.int .i64 0, .string ⟨#[104, 116, 116, 112, 58, 47, 47, 119, 119, 119, 46, 119, 51, 46, 111, 114, 103, 47, 49, 57, 57, 57, 47, 120, 104, 116, 109, 108]⟩, .string ⟨#[100, 105, 118]⟩, .slice none 0 0, .slice none 0 0, .string ⟨#[]⟩] 25
        obtain ⟨css, hcl, hown, hkd⟩ := gW.kid
        have hkb := gW.kb
        have hlt := gW.n.lt
        replace gW := Lib.hid gW
        replace hkd := Lib.hid hkd
        go_wp2_with (at_builtin; refine wpList_append_lies _ rfl _ _ 23 rfl w1.heap.size 25 i0 _ 6 104 Tryz.underlying23 hi hz0 hz1 hz2 rfl (by decide) _ kdA.length css.flatten rfl hown ⟨A.heap.size, 0, none⟩ 1 1 [.int .i64 0, .string ⟨#[104, 116, 116, 112, 58, 47, 47, 119, 119, 119, 46, 119, 51, 46, 111, 114, 103, 47, 49, 57, 57, 57, 47, 120, 104, 116, 109, 108]⟩, .string ⟨#[100, 105, 118]⟩, .slice none 0 0, .slice none 0 0, .string ⟨#[]⟩] rfl rfl hr (by simp [Value.oneCell']) (by decide) (by unfold maxLen; omega) (by omega) gW.out.low.size _ rfl ?_)
        intro gg cap5 w6 hown5 hg5 hat5 hlt5
        have nW : Cells w6 w4.heap.size 25 _ := (hg5.block w4.heap.size hlt hkb).trans gW.out.n
        have s4 := nW.cell (i := 4) rfl
        have sf := nW.free 4
        clear nW
        have st9 := Lib.hid (KSt.moreKid (j := 100) (n := .mk 0 ⟨#[104, 116, 116, 112, 58, 47, 47, 119, 119, 119, 46, 119, 51, 46, 111, 114, 103, 47, 49, 57, 57, 57, 47, 120, 104, 116, 109, 108]⟩ ⟨#[100, 105, 118]⟩ [] [] ⟨#[]⟩) (c := [.int .i64 0, .string ⟨#[104, 116, 116, 112, 58, 47, 47, 119, 119, 119, 46, 119, 51, 46, 111, 114, 103, 47, 49, 57, 57, 57, 47, 120, 104, 116, 109, 108]⟩, .string ⟨#[100, 105, 118]⟩, .slice none 0 0, .slice none 0 0, .string ⟨#[]⟩]) gW.out hzA.out (by decide) hcl hkd.out (kid_new (k := A.heap.size) gA.out (node_plain _ _ 0 ⟨#[104, 116, 116, 112, 58, 47, 47, 119, 119, 119, 46, 119, 51, 46, 111, 114, 103, 47, 49, 57, 57, 57, 47, 120, 104, 116, 109, 108]⟩ ⟨#[100, 105, 118]⟩ ⟨#[]⟩) (Nat.le_refl _)) hown5 hg5 (hat5.imp (fun e => e.symm) (fun e => by rw [e]; first | rfl | simp [Value.ownBlock])))
        clear hown5 hg5 hat5 hlt5 hown hr ba x4 y4 hkb hlt
        go_wp2_with fail
        go_meet
        exact Lib.hid (KSt.le st9.out (by omega))
      · have hmb : ((m1 : Int) % 5 == 0) = false := by rw [beq_eq_false_iff_ne]; exact hm
        go_wp2_with fail
        go_meet
        exact Lib.hid (KSt.le hSA.out (by omega))
    case rest =>
    have hSB := hcut
    clear hcut
    generalize wc = B at *
    clear wc
    obtain ⟨aoB, caB, boB, cbB, asB, kdB, gB, hzB, laB, lkB⟩ := KSt.open' hSB.out
    have kB := Lib.hid (g5.out.same gB (show w.heap.size < w1.heap.size by have := l1.out; omega) k5.out)
    replace gB := Lib.hid gB
    replace hzB := Lib.hid hzB
    have nB := Lib.hid gB.out.n
    have qB := kB.out.cell (i := 1) rfl
    go_upto_if 129 with fail
    by_cases hm : (m1 : Int) % 7 = 0
    · have hmb : ((m1 : Int) % 7 == 0) = true := by rw [beq_iff_eq]; exact hm
      have ba := (Below.refl B.heap.size B).alloc (Nat.le_refl _) (.cells #[.string ⟨#[]⟩, .string ⟨#[115, 114, 99]⟩, .string ⟨#[115]⟩] 41)
      have gW := gB.out.on ba
      have x3 := gW.n.cell (i := 3) rfl
      have y3 := gB.out.n.cell (i := 3) rfl
      have hr := am_cells_row B [.string ⟨#[]⟩, .string ⟨#[115, 114, 99]⟩, .string ⟨#[115]⟩] 41
      have hown : World.ownsRow _ _ _ _ _ _ _ := gW.att
      have hlt := gW.n.lt
      have hne : some w4.heap.size ≠ (Value.slice aoB asB.length caB).ownBlock := fun e => km_cells_apart hown gW.n (by decide) e.symm
      replace gW := Lib.hid gW
      go_wp2_with (at_builtin; refine wpList_append_lies _ rfl _ _ 22 rfl w1.heap.size 41 j0 _ 3 48 Tryz.underlying22 ji jz0 jz1 jz2 rfl (by decide) _ asB.length (asB.flatMap attCells) rfl hown ⟨B.heap.size, 0, none⟩ 1 1 [.string ⟨#[]⟩, .string ⟨#[115, 114, 99]⟩, .string ⟨#[115]⟩] rfl rfl hr (by simp [Value.oneCell']) (by decide) (by unfold maxLen; omega) (by omega) gW.out.low.size _ rfl ?_)
      intro gg cap5 w6 hown5 hg5 hat5 hlt5
      have nW : Cells w6 w4.heap.size 25 _ := (hg5.block w4.heap.size hlt hne).trans gW.out.n
      have s4 := nW.cell (i := 3) rfl
      have sf := nW.free 3
      clear nW
      have st9 := Lib.hid (KSt.moreAtts gW.out hzB.out (by decide) hown5 hg5 (hat5.imp (fun e => e.symm) (fun e => by rw [e]; first | rfl | simp [Value.ownBlock])) (Nat.le_refl _))
      clear hown5 hg5 hat5 hlt5 hown hr ba x3 y3 hne hlt
      go_upto_region 27 with fail
      clear s4 sf
      generalize w6.setCell ⟨w4.heap.size, 3, none⟩ (.slice (some ⟨gg, 0, none⟩) (asB.length + 1) cap5) = w9 at *
      obtain ⟨ao, ca, bo, cb, as', kids, gE, hE, -, -⟩ := KSt.open' st9.out
      have zE := g5.out.same gE l1.out z5.out
      obtain ⟨x0, x1, x2, x3, x4, x5⟩ := node_open gE.n
      obtain ⟨z0, z1, z2, z3, z4, z5'⟩ := node_open (show Cells w9 _ _ (nodeArr 0 ⟨#[]⟩ ⟨#[]⟩ (.slice none 0 0) (.slice none 0 0) ⟨#[]⟩) from zE)
      have f0 := zE.free 0
      have f1 := zE.free 1
      have f2 := zE.free 2
      have f3 := zE.free 3
      have f4 := zE.free 4
      have f5 := zE.free 5
      have aE : amSp = ⟨#[104, 116, 116, 112, 58, 47, 47, 119, 119, 119, 46, 119, 51, 46, 111, 114, 103, 47, 50, 48, 48, 53, 47, 65, 116, 111, 109]⟩ := rfl
      rw [aE] at x1
      replace aE := Lib.hid aE
      replace gE := Lib.hid gE
      replace hE := Lib.hid hE
      replace zE := Lib.hid zE
      go_wp2_with fail
      exact kid_tail rfl rfl gE.out zE.out l1.out b1.out (Nat.le_trans hE.out (by omega))
    · have hmb : ((m1 : Int) % 7 == 0) = false := by rw [beq_eq_false_iff_ne]; exact hm
      obtain ⟨ao, ca, bo, cb, as', kids, gE, hE, -, -⟩ := KSt.open' hSB.out
      have zE := g5.out.same gE l1.out z5.out
      obtain ⟨x0, x1, x2, x3, x4, x5⟩ := node_open gE.n
      obtain ⟨z0, z1, z2, z3, z4, z5'⟩ := node_open (show Cells B _ _ (nodeArr 0 ⟨#[]⟩ ⟨#[]⟩ (.slice none 0 0) (.slice none 0 0) ⟨#[]⟩) from zE)
      have f0 := zE.free 0
      have f1 := zE.free 1
      have f2 := zE.free 2
      have f3 := zE.free 3
      have f4 := zE.free 4
      have f5 := zE.free 5
      have aE : amSp = ⟨#[104, 116, 116, 112, 58, 47, 47, 119, 119, 119, 46, 119, 51, 46, 111, 114, 103, 47, 50, 48, 48, 53, 47, 65, 116, 111, 109]⟩ := rfl
      rw [aE] at x1
      replace aE := Lib.hid aE
      replace gE := Lib.hid gE
      replace hE := Lib.hid hE
      replace zE := Lib.hid zE
      go_wp2_with fail
      exact kid_tail rfl rfl gE.out zE.out l1.out b1.out (Nat.le_trans hE.out (by omega))
  · have hS0 : Hid (KSt w1 w4.heap.size ⟨#[114, 105, 103, 104, 116, 115]⟩ 200 w5) := Lib.hid ⟨_, _, _, _, g5.out, hwt.out⟩
    have k0 := k5
    have q0 := k0.out.cell (i := 2) rfl
    go_upto_if 107 with fail
    go_cut [108] (fun _ wx => Hid (KSt w1 w4.heap.size ⟨#[114, 105, 103, 104, 116, 115]⟩ 330 wx))
    case first =>
      by_cases hm : (m2 : Int) % 2 = 0
      · have hmb : ((m2 : Int) % 2 == 0) = true := by rw [beq_iff_eq]; exact hm
        have d2 : ((m2 : Int)).tdiv 2 = ((m2 / 2 : Nat) : Int) := by rw [Int.tdiv_eq_ediv_of_nonneg (by omega)]; rfl
        have hs := Lib.hid (strs_new w5 amKinds 9)
        have ba := (Below.refl w5.heap.size w5).alloc (Nat.le_refl _) (.cells (amKinds.map Value.string).toArray 9)
        have g6 := Lib.hid (g5.out.on ba)
        clear ba
        go_wp2_with fail
        (refine (pick_any (m2 / 2) amKinds w5.heap.size 6 6 _ hs.out rfl (by decide) (by decide) (by omega)).mono ?_); rintro e w' ⟨⟨t, ht, rfl⟩, rfl⟩
        replace ht := Lib.hid (amKinds_small _ ht)
        generalize w5.alloc (.cells (amKinds.map Value.string).toArray 9) = w6 at *
        have an1 := Lib.hid (att_new (B := w1.heap.size) w6 ⟨#[116, 121, 112, 101]⟩ t g6.out.low.size)
        have gG := Lib.hid (World.grownBy_alloc w6 (.cells #[.string ⟨#[]⟩, .string ⟨#[116, 121, 112, 101]⟩, .string t] 41) (Value.slice none 0 0).ownBlock)
        have a3 := (g6.out.n.alloc (.cells #[.string ⟨#[]⟩, .string ⟨#[116, 121, 112, 101]⟩, .string t] 41)).cell (i := 3) rfl
        have f3 := (g6.out.n.alloc (.cells #[.string ⟨#[]⟩, .string ⟨#[116, 121, 112, 101]⟩, .string t] 41)).free 3
        go_wp2_with fail
        go_meet
        exact Lib.hid (KSt.le (KSt.newAtts g6.out hwt.out (by have := ht.out; have e1 : ByteArray.size ⟨#[116, 121, 112, 101]⟩ = 4 := rfl; omega) an1.out gG.out (Nat.le_refl _)) (by omega))
      · have hmb : ((m2 : Int) % 2 == 0) = false := by rw [beq_eq_false_iff_ne]; exact hm
        go_wp2_with fail
        go_meet
        exact Lib.hid (KSt.le hS0.out (by omega))
    case rest =>
    have hSA := hcut
    clear hcut
    generalize wc = A at *
    clear wc
    obtain ⟨aoA, caA, boA, cbA, asA, kdA, gA, hzA, laA, lkA⟩ := KSt.open' hSA.out
    have kA := Lib.hid (g5.out.same gA (show w.heap.size < w1.heap.size by have := l1.out; omega) k5.out)
    replace gA := Lib.hid gA
    replace hzA := Lib.hid hzA
    have nA := Lib.hid gA.out.n
    have qA := kA.out.cell (i := 1) rfl
    go_upto_if 119 with fail
    go_cut [120] (fun _ wx => Hid (KSt w1 w4.heap.size ⟨#[114, 105, 103, 104, 116, 115]⟩ 440 wx))
    case first =>
      by_cases hm : (m1 : Int) % 5 = 0
      · have hmb : ((m1 : Int) % 5 == 0) = true := by rw [beq_iff_eq]; exact hm
        have ba := (Below.refl A.heap.size A).alloc (Nat.le_refl _) (.cells #[.int .i64 0, .string ⟨#[104, 116, 116, 112, 58, 47, 47, 119, 119, 119, 46, 119, 51, 46, 111, 114, 103, 47, 49, 57, 57, 57, 47, 120, 104, 116, 109, 108]⟩, .string ⟨#[100, 105, 118]⟩, .slice none 0 0, .slice none 0 0, .string ⟨#[]⟩] 25)
        have gW := gA.out.on ba
        have x4 := gW.n.cell (i := 4) rfl
        have y4 := gA.out.n.cell (i := 4) rfl
        have hr := am_cells_row A [.int .i64 0, .string ⟨#[104, 116, 116, 112, 58, 47, 47, 119, 119, 119, 46, 119, 51, 46, 111, 114, 103, 47, 49, 57, 57, 57, 47, 120, 104, 116, 109, 108]⟩, .string ⟨#[100, 105, 118]⟩, .slice none 0 0, .slice none 0 0, .string ⟨#[]⟩] 25
        obtain ⟨css, hcl, hown, hkd⟩ := gW.kid
        have hkb := gW.kb
        have hlt := gW.n.lt
        replace gW := Lib.hid gW
        replace hkd := Lib.hid hkd
        go_wp2_with (at_builtin; refine wpList_append_lies _ rfl _ _ 23 rfl w1.heap.size 25 i0 _ 6 104 Tryz.underlying23 hi hz0 hz1 hz2 rfl (by decide) _ kdA.length css.flatten rfl hown ⟨A.heap.size, 0, none⟩ 1 1 [.int .i64 0, .string ⟨#[104, 116, 116, 112, 58, 47, 47, 119, 119, 119, 46, 119, 51, 46, 111, 114, 103, 47, 49, 57, 57, 57, 47, 120, 104, 116, 109, 108]⟩, .string ⟨#[100, 105, 118]⟩, .slice none 0 0, .slice none 0 0, .string ⟨#[]⟩] rfl rfl hr (by simp [Value.oneCell']) (by decide) (by unfold maxLen; omega) (by omega) gW.out.low.size _ rfl ?_)
        intro gg cap5 w6 hown5 hg5 hat5 hlt5
        have nW : Cells w6 w4.heap.size 25 _ := (hg5.block w4.heap.size hlt hkb).trans gW.out.n
        have s4 := nW.cell (i := 4) rfl
        have sf := nW.free 4
        clear nW
        have st9 := Lib.hid (KSt.moreKid (j := 100) (n := .mk 0 ⟨#[104, 116, 116, 112, 58, 47, 47, 119, 119, 119, 46, 119, 51, 46, 111, 114, 103, 47, 49, 57, 57, 57, 47, 120, 104, 116, 109, 108]⟩ ⟨#[100, 105, 118]⟩ [] [] ⟨#[]⟩) (c := [.int .i64 0, .string ⟨#[104, 116, 116, 112, 58, 47, 47, 119, 119, 119, 46, 119, 51, 46, 111, 114, 103, 47, 49, 57, 57, 57, 47, 120, 104, 116, 109, 108]⟩, .string ⟨#[100, 105, 118]⟩, .slice none 0 0, .slice none 0 0, .string ⟨#[]⟩]) gW.out hzA.out (by decide) hcl hkd.out (kid_new (k := A.heap.size) gA.out (node_plain _ _ 0 ⟨#[104, 116, 116, 112, 58, 47, 47, 119, 119, 119, 46, 119, 51, 46, 111, 114, 103, 47, 49, 57, 57, 57, 47, 120, 104, 116, 109, 108]⟩ ⟨#[100, 105, 118]⟩ ⟨#[]⟩) (Nat.le_refl _)) hown5 hg5 (hat5.imp (fun e => e.symm) (fun e => by rw [e]; first | rfl | simp [Value.ownBlock])))
        clear hown5 hg5 hat5 hlt5 hown hr ba x4 y4 hkb hlt
        go_wp2_with fail
        go_meet
        exact Lib.hid (KSt.le st9.out (by omega))
      · have hmb : ((m1 : Int) % 5 == 0) = false := by rw [beq_eq_false_iff_ne]; exact hm
        go_wp2_with fail
        go_meet
        exact Lib.hid (KSt.le hSA.out (by omega))
    case rest =>
    have hSB := hcut
    clear hcut
    generalize wc = B at *
    clear wc
    obtain ⟨aoB, caB, boB, cbB, asB, kdB, gB, hzB, laB, lkB⟩ := KSt.open' hSB.out
    have kB := Lib.hid (g5.out.same gB (show w.heap.size < w1.heap.size by have := l1.out; omega) k5.out)
    replace gB := Lib.hid gB
    replace hzB := Lib.hid hzB
    have nB := Lib.hid gB.out.n
    have qB := kB.out.cell (i := 1) rfl
    go_upto_if 129 with fail
    by_cases hm : (m1 : Int) % 7 = 0
    · have hmb : ((m1 : Int) % 7 == 0) = true := by rw [beq_iff_eq]; exact hm
      have ba := (Below.refl B.heap.size B).alloc (Nat.le_refl _) (.cells #[.string ⟨#[]⟩, .string ⟨#[115, 114, 99]⟩, .string ⟨#[115]⟩] 41)
      have gW := gB.out.on ba
      have x3 := gW.n.cell (i := 3) rfl
      have y3 := gB.out.n.cell (i := 3) rfl
      have hr := am_cells_row B [.string ⟨#[]⟩, .string ⟨#[115, 114, 99]⟩, .string ⟨#[115]⟩] 41
      have hown : World.ownsRow _ _ _ _ _ _ _ := gW.att
      have hlt := gW.n.lt
      have hne : some w4.heap.size ≠ (Value.slice aoB asB.length caB).ownBlock := fun e => km_cells_apart hown gW.n (by decide) e.symm
      replace gW := Lib.hid gW
      go_wp2_with (at_builtin; refine wpList_append_lies _ rfl _ _ 22 rfl w1.heap.size 41 j0 _ 3 48 Tryz.underlying22 ji jz0 jz1 jz2 rfl (by decide) _ asB.length (asB.flatMap attCells) rfl hown ⟨B.heap.size, 0, none⟩ 1 1 [.string ⟨#[]⟩, .string ⟨#[115, 114, 99]⟩, .string ⟨#[115]⟩] rfl rfl hr (by simp [Value.oneCell']) (by decide) (by unfold maxLen; omega) (by omega) gW.out.low.size _ rfl ?_)
      intro gg cap5 w6 hown5 hg5 hat5 hlt5
      have nW : Cells w6 w4.heap.size 25 _ := (hg5.block w4.heap.size hlt hne).trans gW.out.n
      have s4 := nW.cell (i := 3) rfl
      have sf := nW.free 3
      clear nW
      have st9 := Lib.hid (KSt.moreAtts gW.out hzB.out (by decide) hown5 hg5 (hat5.imp (fun e => e.symm) (fun e => by rw [e]; first | rfl | simp [Value.ownBlock])) (Nat.le_refl _))
      clear hown5 hg5 hat5 hlt5 hown hr ba x3 y3 hne hlt
      go_upto_region 27 with fail
      clear s4 sf
      generalize w6.setCell ⟨w4.heap.size, 3, none⟩ (.slice (some ⟨gg, 0, none⟩) (asB.length + 1) cap5) = w9 at *
      obtain ⟨ao, ca, bo, cb, as', kids, gE, hE, -, -⟩ := KSt.open' st9.out
      have zE := g5.out.same gE l1.out z5.out
      obtain ⟨x0, x1, x2, x3, x4, x5⟩ := node_open gE.n
      obtain ⟨z0, z1, z2, z3, z4, z5'⟩ := node_open (show Cells w9 _ _ (nodeArr 0 ⟨#[]⟩ ⟨#[]⟩ (.slice none 0 0) (.slice none 0 0) ⟨#[]⟩) from zE)
      have f0 := zE.free 0
      have f1 := zE.free 1
      have f2 := zE.free 2
      have f3 := zE.free 3
      have f4 := zE.free 4
      have f5 := zE.free 5
      have aE : amSp = ⟨#[104, 116, 116, 112, 58, 47, 47, 119, 119, 119, 46, 119, 51, 46, 111, 114, 103, 47, 50, 48, 48, 53, 47, 65, 116, 111, 109]⟩ := rfl
      rw [aE] at x1
      replace aE := Lib.hid aE
      replace gE := Lib.hid gE
      replace hE := Lib.hid hE
      replace zE := Lib.hid zE
      go_wp2_with fail
      exact kid_tail rfl rfl gE.out zE.out l1.out b1.out (Nat.le_trans hE.out (by omega))
    · have hmb : ((m1 : Int) % 7 == 0) = false := by rw [beq_eq_false_iff_ne]; exact hm
      obtain ⟨ao, ca, bo, cb, as', kids, gE, hE, -, -⟩ := KSt.open' hSB.out
      have zE := g5.out.same gE l1.out z5.out
      obtain ⟨x0, x1, x2, x3, x4, x5⟩ := node_open gE.n
      obtain ⟨z0, z1, z2, z3, z4, z5'⟩ := node_open (show Cells B _ _ (nodeArr 0 ⟨#[]⟩ ⟨#[]⟩ (.slice none 0 0) (.slice none 0 0) ⟨#[]⟩) from zE)
      have f0 := zE.free 0
      have f1 := zE.free 1
      have f2 := zE.free 2
      have f3 := zE.free 3
      have f4 := zE.free 4
      have f5 := zE.free 5
      have aE : amSp = ⟨#[104, 116, 116, 112, 58, 47, 47, 119, 119, 119, 46, 119, 51, 46, 111, 114, 103, 47, 50, 48, 48, 53, 47, 65, 116, 111, 109]⟩ := rfl
      rw [aE] at x1
      replace aE := Lib.hid aE
      replace gE := Lib.hid gE
      replace hE := Lib.hid hE
      replace zE := Lib.hid zE
      go_wp2_with fail
      exact kid_tail rfl rfl gE.out zE.out l1.out b1.out (Nat.le_trans hE.out (by omega))
  · obtain ⟨x0, x1, x2, x3, x4, x5⟩ := node_open g5.out.n
    obtain ⟨z0, z1, z2, z3, z4, z5'⟩ := node_open (show Cells w5 _ _ (nodeArr 0 ⟨#[]⟩ ⟨#[]⟩ (.slice none 0 0) (.slice none 0 0) ⟨#[]⟩) from z5.out)
    have f0 := z5.out.free 0
    have f1 := z5.out.free 1
    have f2 := z5.out.free 2
    have f3 := z5.out.free 3
    have f4 := z5.out.free 4
    have f5 := z5.out.free 5
    go_wp2_with fail
    exact kid_tail rfl rfl g5.out z5.out l1.out b1.out (by have := hwt.out; omega)
  · have nK5 := Lib.hid g5.out.n
    go_upto_region 10 with fail
    go_cut [57] (fun _ wx => Hid (KSt w1 w4.heap.size ⟨#[108, 105, 110, 107]⟩ 400 wx))
    case first =>
      have hcw : Hid (∀ w', Below w5.heap.size w5 w' → w'.cell? ⟨w.heap.size, 1, none⟩ = some (.int .u8 (m1 : Int)) ∧ w'.cell? ⟨w.heap.size, 2, none⟩ = some (.int .u8 (m2 : Int))) := Lib.hid (fun _ b => ⟨((k5.out.on b).cell (i := 1) rfl), ((k5.out.on b).cell (i := 2) rfl)⟩)
      refine wp_region_last (n := 11) (S := fun w' => w'.cell? ⟨w.heap.size, 1, none⟩ = some (.int .u8 (m1 : Int)) ∧ w'.cell? ⟨w.heap.size, 2, none⟩ = some (.int .u8 (m2 : Int))) (by kernel_rfl) (by rfl) (by rfl) (by rfl) (by rfl) (by kernel_rfl) (hcw.out _ (Below.refl _ _).drew) (fun hH => ?_)
      simp only [lastNop, nopOf, List.setIfInBounds_toArray, List.set_cons_succ, List.set_cons_zero]
      have hb0 := Lib.hid (Below.refl w5.heap.size w5).drew
      generalize w5.drew = v0 at *
      refine wpAnyH_take (i := 0) (v := .pointer (some ⟨w.heap.size, 1, none⟩)) rfl (by kernel_rfl) (by kernel_rfl) (by kernel_rfl) (fun _ _ _ h => h) (Or.inl ⟨by rfl, ?_⟩) (by assumption) ?_
      · intro w' hSw; (try dsimp only at hSw); go_simp
      try simp only [Act.put, List.setIfInBounds_toArray, List.set_cons_zero, List.set_cons_succ]
      refine wpAnyH_take (i := 1) (v := .int .u8 (m1 : Int)) rfl (by kernel_rfl) (by kernel_rfl) (by kernel_rfl) (fun _ _ _ h => h) (Or.inl ⟨by rfl, ?_⟩) (by assumption) ?_
      · intro w' hSw; (try dsimp only at hSw); go_simp
      try simp only [Act.put, List.setIfInBounds_toArray, List.set_cons_zero, List.set_cons_succ]
      refine wpAnyH_take (i := 4) (v := .pointer (some ⟨w.heap.size, 2, none⟩)) rfl (by kernel_rfl) (by kernel_rfl) (by kernel_rfl) (fun _ _ _ h => h) (Or.inl ⟨by rfl, ?_⟩) (by assumption) ?_
      · intro w' hSw; (try dsimp only at hSw); go_simp
      try simp only [Act.put, List.setIfInBounds_toArray, List.set_cons_zero, List.set_cons_succ]
      refine wpAnyH_take (i := 5) (v := .int .u8 (m2 : Int)) rfl (by kernel_rfl) (by kernel_rfl) (by kernel_rfl) (fun _ _ _ h => h) (Or.inl ⟨by rfl, ?_⟩) (by assumption) ?_
      · intro w' hSw; (try dsimp only at hSw); go_simp
      try simp only [Act.put, List.setIfInBounds_toArray, List.set_cons_zero, List.set_cons_succ]
      refine wpAnyH_ready (rs := [2, 6]) (by kernel_rfl) (by simp) (AllReadyH.cons rfl (fun K hK => ?_) (AllReadyH.cons rfl (fun K hK => ?_) AllReadyH.nil))
      · go_simp
        have ba := (Below.refl v0.heap.size v0).alloc (Nat.le_refl _) (.cells #[.string ⟨#[104, 114, 101, 102]⟩, .string ⟨#[104, 114, 101, 102]⟩, .string ⟨#[104, 114, 101, 102]⟩, .string ⟨#[115, 114, 99]⟩] 9)
        have hs3 : Hid (StrsAt v0.heap.size amHrefs (v0.alloc (.cells #[.string ⟨#[104, 114, 101, 102]⟩, .string ⟨#[104, 114, 101, 102]⟩, .string ⟨#[104, 114, 101, 102]⟩, .string ⟨#[115, 114, 99]⟩] 9))) := Lib.hid (strs_new v0 amHrefs 9)
        have hb2 := Lib.hid (hb0.out.trans (ba.mono hb0.out.size))
        refine hK.out _ _ (hcw.out _ hb2.out) (fun hH4 => ?_)
        clear hK K hH ba
        generalize v0.alloc (.cells #[.string ⟨#[104, 114, 101, 102]⟩, .string ⟨#[104, 114, 101, 102]⟩, .string ⟨#[104, 114, 101, 102]⟩, .string ⟨#[115, 114, 99]⟩] 9) = v1 at *
        try simp only [Act.put, List.setIfInBounds_toArray, List.set_cons_zero, List.set_cons_succ]
        refine wpAnyH_ready (rs := [3, 6]) (by kernel_rfl) (by simp) (AllReadyH.cons rfl (fun K hK => ?_) (AllReadyH.cons rfl (fun K hK => ?_) AllReadyH.nil))
        · go_simp
          refine (pick_any m1 amHrefs (v0.heap.size) 4 4 v1 hs3.out rfl (by decide) (by decide) h1).mono ?_
          rintro e w' ⟨⟨tx5, ht6, rfl⟩, hw⟩
          rw [hw]
          replace ht6 := Lib.hid (amHrefs_small _ ht6)
          refine hK.out _ _ (hcw.out _ hb2.out) (fun hH7 => ?_)
          clear hK K hH4 hw w' hs3
          try simp only [Act.put, List.setIfInBounds_toArray, List.set_cons_zero, List.set_cons_succ]
          refine wpAnyH_ready (rs := [6]) (by kernel_rfl) (by simp) (AllReadyH.cons rfl (fun K hK => ?_) AllReadyH.nil)
          go_simp
          have ba := (Below.refl v1.heap.size v1).alloc (Nat.le_refl _) (.cells #[.string ⟨#[97]⟩, .string ⟨#[104, 116, 116, 112, 58, 47, 47, 97]⟩, .string ⟨#[97]⟩, .string ⟨#[37]⟩] 9)
          have hs10 : Hid (StrsAt v1.heap.size amRefs (v1.alloc (.cells #[.string ⟨#[97]⟩, .string ⟨#[104, 116, 116, 112, 58, 47, 47, 97]⟩, .string ⟨#[97]⟩, .string ⟨#[37]⟩] 9))) := Lib.hid (strs_new v1 amRefs 9)
          have hb9 := Lib.hid (hb2.out.trans (ba.mono hb2.out.size))
          refine hK.out _ _ (hcw.out _ hb9.out) (fun hH11 => ?_)
          clear hK K hH7 ba
          generalize v1.alloc (.cells #[.string ⟨#[97]⟩, .string ⟨#[104, 116, 116, 112, 58, 47, 47, 97]⟩, .string ⟨#[97]⟩, .string ⟨#[37]⟩] 9) = v8 at *
          try simp only [Act.put, List.setIfInBounds_toArray, List.set_cons_zero, List.set_cons_succ]
          refine wpAnyH_ready (rs := [7]) (by kernel_rfl) (by simp) (AllReadyH.cons rfl (fun K hK => ?_) AllReadyH.nil)
          go_simp
          refine (pick_any m2 amRefs (v1.heap.size) 4 4 v8 hs10.out rfl (by decide) (by decide) h2).mono ?_
          rintro e w' ⟨⟨tx12, ht13, rfl⟩, hw⟩
          rw [hw]
          replace ht13 := Lib.hid (amRefs_small _ ht13)
          refine hK.out _ _ (hcw.out _ hb9.out) (fun hH14 => ?_)
          clear hK K hH11 hw w' hs10
          try simp only [Act.put, List.setIfInBounds_toArray, List.set_cons_zero, List.set_cons_succ]
          refine wpAnyH_take (i := 8) (v := .agg #[.string ⟨#[]⟩, .string tx5, .string tx12]) rfl (by kernel_rfl) (by kernel_rfl) (by kernel_rfl) (fun _ _ _ h => h) (Or.inl ⟨by rfl, ?_⟩) (by assumption) ?_
          · intro w' hSw; (try dsimp only at hSw); go_simp
          try simp only [Act.put, List.setIfInBounds_toArray, List.set_cons_zero, List.set_cons_succ]
          refine wpAnyH_ready (rs := [9]) (by kernel_rfl) (by simp) (AllReadyH.cons rfl (fun K hK => ?_) AllReadyH.nil)
          go_simp
          have ba := (Below.refl v8.heap.size v8).alloc (Nat.le_refl _) (.cells #[.string ⟨#[]⟩, .string tx5, .string tx12] 41)
          have an17 := Lib.hid (att_new (B := w1.heap.size) v8 tx5 tx12 (Nat.le_trans (Nat.le_trans g5.out.low.size (Nat.le_refl _)) hb9.out.size))
          have gG := Lib.hid (World.grownBy_alloc v8 (.cells #[.string ⟨#[]⟩, .string tx5, .string tx12] 41) (Value.slice none 0 0).ownBlock)
          have hb16 := Lib.hid (hb9.out.trans (ba.mono hb9.out.size))
          refine hK.out _ _ (hcw.out _ hb16.out) (fun hH18 => ?_)
          clear hK K hH14 ba
          generalize v8.alloc (.cells #[.string ⟨#[]⟩, .string tx5, .string tx12] 41) = v15 at *
          try simp only [Act.put, List.setIfInBounds_toArray, List.set_cons_zero, List.set_cons_succ]
          refine wpAnyH_take (i := 10) (v := .pointer (some ⟨w4.heap.size, 3, none⟩)) rfl (by kernel_rfl) (by kernel_rfl) (by kernel_rfl) (fun _ _ _ h => h) (Or.inl ⟨by rfl, ?_⟩) (by assumption) ?_
          · intro w' hSw; (try dsimp only at hSw); go_simp
          try simp only [Act.put, List.setIfInBounds_toArray, List.set_cons_zero, List.set_cons_succ]
          refine wpAnyH_take (i := 11) (v := .bool true) rfl (by kernel_rfl) (by kernel_rfl) (by kernel_rfl) (fun _ _ _ h => h) (Or.inl ⟨by rfl, ?_⟩) (by assumption) ?_
          · intro w' hSw; (try dsimp only at hSw); go_simp
          try simp only [Act.put, List.setIfInBounds_toArray, List.set_cons_zero, List.set_cons_succ]
          refine wpAnyH_done (by kernel_rfl) ?_ _
          show Oper.wp _ _ _ _ _ _
          have nC := (nK5.out.on hb16.out).cell (i := 3) rfl
          have nF := (nK5.out.on hb16.out).free 3
          go_simp
          go_wp2_with fail
          go_meet
          exact Lib.hid (KSt.le (KSt.newAtts (g5.out.on hb9.out) hwt.out (by have := ht6.out; have := ht13.out; omega) an17.out gG.out (Nat.le_refl _)) (by omega))
        · go_simp
          have ba := (Below.refl v1.heap.size v1).alloc (Nat.le_refl _) (.cells #[.string ⟨#[97]⟩, .string ⟨#[104, 116, 116, 112, 58, 47, 47, 97]⟩, .string ⟨#[97]⟩, .string ⟨#[37]⟩] 9)
          have hs21 : Hid (StrsAt v1.heap.size amRefs (v1.alloc (.cells #[.string ⟨#[97]⟩, .string ⟨#[104, 116, 116, 112, 58, 47, 47, 97]⟩, .string ⟨#[97]⟩, .string ⟨#[37]⟩] 9))) := Lib.hid (strs_new v1 amRefs 9)
          replace hs3 := Lib.hid (hs3.out.on ba)
          have hb20 := Lib.hid (hb2.out.trans (ba.mono hb2.out.size))
          refine hK.out _ _ (hcw.out _ hb20.out) (fun hH22 => ?_)
          clear hK K hH4 ba
          generalize v1.alloc (.cells #[.string ⟨#[97]⟩, .string ⟨#[104, 116, 116, 112, 58, 47, 47, 97]⟩, .string ⟨#[97]⟩, .string ⟨#[37]⟩] 9) = v19 at *
          try simp only [Act.put, List.setIfInBounds_toArray, List.set_cons_zero, List.set_cons_succ]
          refine wpAnyH_ready (rs := [3]) (by kernel_rfl) (by simp) (AllReadyH.cons rfl (fun K hK => ?_) AllReadyH.nil)
          go_simp
          refine (pick_any m1 amHrefs (v0.heap.size) 4 4 v19 hs3.out rfl (by decide) (by decide) h1).mono ?_
          rintro e w' ⟨⟨tx23, ht24, rfl⟩, hw⟩
          rw [hw]
          replace ht24 := Lib.hid (amHrefs_small _ ht24)
          refine hK.out _ _ (hcw.out _ hb20.out) (fun hH25 => ?_)
          clear hK K hH22 hw w' hs3
          try simp only [Act.put, List.setIfInBounds_toArray, List.set_cons_zero, List.set_cons_succ]
          refine wpAnyH_ready (rs := [7]) (by kernel_rfl) (by simp) (AllReadyH.cons rfl (fun K hK => ?_) AllReadyH.nil)
          go_simp
          refine (pick_any m2 amRefs (v1.heap.size) 4 4 v19 hs21.out rfl (by decide) (by decide) h2).mono ?_
          rintro e w' ⟨⟨tx26, ht27, rfl⟩, hw⟩
          rw [hw]
          replace ht27 := Lib.hid (amRefs_small _ ht27)
          refine hK.out _ _ (hcw.out _ hb20.out) (fun hH28 => ?_)
          clear hK K hH25 hw w' hs21
          try simp only [Act.put, List.setIfInBounds_toArray, List.set_cons_zero, List.set_cons_succ]
          refine wpAnyH_take (i := 8) (v := .agg #[.string ⟨#[]⟩, .string tx23, .string tx26]) rfl (by kernel_rfl) (by kernel_rfl) (by kernel_rfl) (fun _ _ _ h => h) (Or.inl ⟨by rfl, ?_⟩) (by assumption) ?_
          · intro w' hSw; (try dsimp only at hSw); go_simp
          try simp only [Act.put, List.setIfInBounds_toArray, List.set_cons_zero, List.set_cons_succ]
          refine wpAnyH_ready (rs := [9]) (by kernel_rfl) (by simp) (AllReadyH.cons rfl (fun K hK => ?_) AllReadyH.nil)
          go_simp
          have ba := (Below.refl v19.heap.size v19).alloc (Nat.le_refl _) (.cells #[.string ⟨#[]⟩, .string tx23, .string tx26] 41)
          have an31 := Lib.hid (att_new (B := w1.heap.size) v19 tx23 tx26 (Nat.le_trans (Nat.le_trans g5.out.low.size (Nat.le_refl _)) hb20.out.size))
          have gG := Lib.hid (World.grownBy_alloc v19 (.cells #[.string ⟨#[]⟩, .string tx23, .string tx26] 41) (Value.slice none 0 0).ownBlock)
          have hb30 := Lib.hid (hb20.out.trans (ba.mono hb20.out.size))
          refine hK.out _ _ (hcw.out _ hb30.out) (fun hH32 => ?_)
          clear hK K hH28 ba
          generalize v19.alloc (.cells #[.string ⟨#[]⟩, .string tx23, .string tx26] 41) = v29 at *
          try simp only [Act.put, List.setIfInBounds_toArray, List.set_cons_zero, List.set_cons_succ]
          refine wpAnyH_take (i := 10) (v := .pointer (some ⟨w4.heap.size, 3, none⟩)) rfl (by kernel_rfl) (by kernel_rfl) (by kernel_rfl) (fun _ _ _ h => h) (Or.inl ⟨by rfl, ?_⟩) (by assumption) ?_
          · intro w' hSw; (try dsimp only at hSw); go_simp
          try simp only [Act.put, List.setIfInBounds_toArray, List.set_cons_zero, List.set_cons_succ]
          refine wpAnyH_take (i := 11) (v := .bool true) rfl (by kernel_rfl) (by kernel_rfl) (by kernel_rfl) (fun _ _ _ h => h) (Or.inl ⟨by rfl, ?_⟩) (by assumption) ?_
          · intro w' hSw; (try dsimp only at hSw); go_simp
          try simp only [Act.put, List.setIfInBounds_toArray, List.set_cons_zero, List.set_cons_succ]
          refine wpAnyH_done (by kernel_rfl) ?_ _
          show Oper.wp _ _ _ _ _ _
          have nC := (nK5.out.on hb30.out).cell (i := 3) rfl
          have nF := (nK5.out.on hb30.out).free 3
          go_simp
          go_wp2_with fail
          go_meet
          exact Lib.hid (KSt.le (KSt.newAtts (g5.out.on hb20.out) hwt.out (by have := ht24.out; have := ht27.out; omega) an31.out gG.out (Nat.le_refl _)) (by omega))
      · go_simp
        have ba := (Below.refl v0.heap.size v0).alloc (Nat.le_refl _) (.cells #[.string ⟨#[97]⟩, .string ⟨#[104, 116, 116, 112, 58, 47, 47, 97]⟩, .string ⟨#[97]⟩, .string ⟨#[37]⟩] 9)
        have hs35 : Hid (StrsAt v0.heap.size amRefs (v0.alloc (.cells #[.string ⟨#[97]⟩, .string ⟨#[104, 116, 116, 112, 58, 47, 47, 97]⟩, .string ⟨#[97]⟩, .string ⟨#[37]⟩] 9))) := Lib.hid (strs_new v0 amRefs 9)
        have hb34 := Lib.hid (hb0.out.trans (ba.mono hb0.out.size))
        refine hK.out _ _ (hcw.out _ hb34.out) (fun hH36 => ?_)
        clear hK K hH ba
        generalize v0.alloc (.cells #[.string ⟨#[97]⟩, .string ⟨#[104, 116, 116, 112, 58, 47, 47, 97]⟩, .string ⟨#[97]⟩, .string ⟨#[37]⟩] 9) = v33 at *
        try simp only [Act.put, List.setIfInBounds_toArray, List.set_cons_zero, List.set_cons_succ]
        refine wpAnyH_ready (rs := [2]) (by kernel_rfl) (by simp) (AllReadyH.cons rfl (fun K hK => ?_) AllReadyH.nil)
        go_simp
        have ba := (Below.refl v33.heap.size v33).alloc (Nat.le_refl _) (.cells #[.string ⟨#[104, 114, 101, 102]⟩, .string ⟨#[104, 114, 101, 102]⟩, .string ⟨#[104, 114, 101, 102]⟩, .string ⟨#[115, 114, 99]⟩] 9)
        have hs39 : Hid (StrsAt v33.heap.size amHrefs (v33.alloc (.cells #[.string ⟨#[104, 114, 101, 102]⟩, .string ⟨#[104, 114, 101, 102]⟩, .string ⟨#[104, 114, 101, 102]⟩, .string ⟨#[115, 114, 99]⟩] 9))) := Lib.hid (strs_new v33 amHrefs 9)
        replace hs35 := Lib.hid (hs35.out.on ba)
        have hb38 := Lib.hid (hb34.out.trans (ba.mono hb34.out.size))
        refine hK.out _ _ (hcw.out _ hb38.out) (fun hH40 => ?_)
        clear hK K hH36 ba
        generalize v33.alloc (.cells #[.string ⟨#[104, 114, 101, 102]⟩, .string ⟨#[104, 114, 101, 102]⟩, .string ⟨#[104, 114, 101, 102]⟩, .string ⟨#[115, 114, 99]⟩] 9) = v37 at *
        try simp only [Act.put, List.setIfInBounds_toArray, List.set_cons_zero, List.set_cons_succ]
        refine wpAnyH_ready (rs := [3]) (by kernel_rfl) (by simp) (AllReadyH.cons rfl (fun K hK => ?_) AllReadyH.nil)
        go_simp
        refine (pick_any m1 amHrefs (v33.heap.size) 4 4 v37 hs39.out rfl (by decide) (by decide) h1).mono ?_
        rintro e w' ⟨⟨tx41, ht42, rfl⟩, hw⟩
        rw [hw]
        replace ht42 := Lib.hid (amHrefs_small _ ht42)
        refine hK.out _ _ (hcw.out _ hb38.out) (fun hH43 => ?_)
        clear hK K hH40 hw w' hs39
        try simp only [Act.put, List.setIfInBounds_toArray, List.set_cons_zero, List.set_cons_succ]
        refine wpAnyH_ready (rs := [7]) (by kernel_rfl) (by simp) (AllReadyH.cons rfl (fun K hK => ?_) AllReadyH.nil)
        go_simp
        refine (pick_any m2 amRefs (v0.heap.size) 4 4 v37 hs35.out rfl (by decide) (by decide) h2).mono ?_
        rintro e w' ⟨⟨tx44, ht45, rfl⟩, hw⟩
        rw [hw]
        replace ht45 := Lib.hid (amRefs_small _ ht45)
        refine hK.out _ _ (hcw.out _ hb38.out) (fun hH46 => ?_)
        clear hK K hH43 hw w' hs35
        try simp only [Act.put, List.setIfInBounds_toArray, List.set_cons_zero, List.set_cons_succ]
        refine wpAnyH_take (i := 8) (v := .agg #[.string ⟨#[]⟩, .string tx41, .string tx44]) rfl (by kernel_rfl) (by kernel_rfl) (by kernel_rfl) (fun _ _ _ h => h) (Or.inl ⟨by rfl, ?_⟩) (by assumption) ?_
        · intro w' hSw; (try dsimp only at hSw); go_simp
        try simp only [Act.put, List.setIfInBounds_toArray, List.set_cons_zero, List.set_cons_succ]
        refine wpAnyH_ready (rs := [9]) (by kernel_rfl) (by simp) (AllReadyH.cons rfl (fun K hK => ?_) AllReadyH.nil)
        go_simp
        have ba := (Below.refl v37.heap.size v37).alloc (Nat.le_refl _) (.cells #[.string ⟨#[]⟩, .string tx41, .string tx44] 41)
        have an49 := Lib.hid (att_new (B := w1.heap.size) v37 tx41 tx44 (Nat.le_trans (Nat.le_trans g5.out.low.size (Nat.le_refl _)) hb38.out.size))
        have gG := Lib.hid (World.grownBy_alloc v37 (.cells #[.string ⟨#[]⟩, .string tx41, .string tx44] 41) (Value.slice none 0 0).ownBlock)
        have hb48 := Lib.hid (hb38.out.trans (ba.mono hb38.out.size))
        refine hK.out _ _ (hcw.out _ hb48.out) (fun hH50 => ?_)
        clear hK K hH46 ba
        generalize v37.alloc (.cells #[.string ⟨#[]⟩, .string tx41, .string tx44] 41) = v47 at *
        try simp only [Act.put, List.setIfInBounds_toArray, List.set_cons_zero, List.set_cons_succ]
        refine wpAnyH_take (i := 10) (v := .pointer (some ⟨w4.heap.size, 3, none⟩)) rfl (by kernel_rfl) (by kernel_rfl) (by kernel_rfl) (fun _ _ _ h => h) (Or.inl ⟨by rfl, ?_⟩) (by assumption) ?_
        · intro w' hSw; (try dsimp only at hSw); go_simp
        try simp only [Act.put, List.setIfInBounds_toArray, List.set_cons_zero, List.set_cons_succ]
        refine wpAnyH_take (i := 11) (v := .bool true) rfl (by kernel_rfl) (by kernel_rfl) (by kernel_rfl) (fun _ _ _ h => h) (Or.inl ⟨by rfl, ?_⟩) (by assumption) ?_
        · intro w' hSw; (try dsimp only at hSw); go_simp
        try simp only [Act.put, List.setIfInBounds_toArray, List.set_cons_zero, List.set_cons_succ]
        refine wpAnyH_done (by kernel_rfl) ?_ _
        show Oper.wp _ _ _ _ _ _
        have nC := (nK5.out.on hb48.out).cell (i := 3) rfl
        have nF := (nK5.out.on hb48.out).free 3
        go_simp
        go_wp2_with fail
        go_meet
        exact Lib.hid (KSt.le (KSt.newAtts (g5.out.on hb38.out) hwt.out (by have := ht42.out; have := ht45.out; omega) an49.out gG.out (Nat.le_refl _)) (by omega))
    case rest =>
    have hSA := hcut
    clear hcut
    generalize wc = A at *
    clear wc
    obtain ⟨aoA, caA, boA, cbA, asA, kdA, gA, hzA, laA, lkA⟩ := KSt.open' hSA.out
    have kA := Lib.hid (g5.out.same gA (show w.heap.size < w1.heap.size by have := l1.out; omega) k5.out)
    replace gA := Lib.hid gA
    replace hzA := Lib.hid hzA
    have nA := Lib.hid gA.out.n
    have qA := kA.out.cell (i := 2) rfl
    go_upto_if 61 with fail
    go_cut [62] (fun _ wx => Hid (KSt w1 w4.heap.size ⟨#[108, 105, 110, 107]⟩ 530 wx))
    case first =>
      by_cases hm : (m2 : Int) % 2 = 0
      · have hmb : ((m2 : Int) % 2 == 0) = true := by rw [beq_iff_eq]; exact hm
        have hcw : Hid (∀ w', Below A.heap.size A w' → w'.cell? ⟨w.heap.size, 1, none⟩ = some (.int .u8 (m1 : Int)) ∧ w'.cell? ⟨w.heap.size, 2, none⟩ = some (.int .u8 (m2 : Int)) ∧ w'.cell? ⟨w4.heap.size, 3, none⟩ = some (.slice aoA asA.length caA)) := Lib.hid (fun _ b => ⟨((kA.out.on b).cell (i := 1) rfl), ((kA.out.on b).cell (i := 2) rfl), ((nA.out.on b).cell (i := 3) rfl)⟩)
        go_upto_region 12 with fail
        refine wp_region_last (n := 10) (S := fun w' => w'.cell? ⟨w.heap.size, 1, none⟩ = some (.int .u8 (m1 : Int)) ∧ w'.cell? ⟨w.heap.size, 2, none⟩ = some (.int .u8 (m2 : Int)) ∧ w'.cell? ⟨w4.heap.size, 3, none⟩ = some (.slice aoA asA.length caA)) (by kernel_rfl) (by rfl) (by rfl) (by rfl) (by rfl) (by kernel_rfl) (hcw.out _ (Below.refl _ _).drew) (fun hH => ?_)
        simp only [lastNop, nopOf, List.setIfInBounds_toArray, List.set_cons_succ, List.set_cons_zero]
        have hb0 := Lib.hid (Below.refl A.heap.size A).drew
        generalize A.drew = v0 at *
        refine wpAnyH_take (i := 0) (v := .pointer (some ⟨w4.heap.size, 3, none⟩)) rfl (by kernel_rfl) (by kernel_rfl) (by kernel_rfl) (fun _ _ _ h => h) (Or.inl ⟨by rfl, ?_⟩) (by assumption) ?_
        · intro w' hSw; (try dsimp only at hSw); go_simp
        try simp only [Act.put, List.setIfInBounds_toArray, List.set_cons_zero, List.set_cons_succ]
        refine wpAnyH_take (i := 1) (v := .slice aoA asA.length caA) rfl (by kernel_rfl) (by kernel_rfl) (by kernel_rfl) (fun _ _ _ h => h) (Or.inl ⟨by rfl, ?_⟩) (by assumption) ?_
        · intro w' hSw; (try dsimp only at hSw); go_simp
        try simp only [Act.put, List.setIfInBounds_toArray, List.set_cons_zero, List.set_cons_succ]
        refine wpAnyH_take (i := 2) (v := .pointer (some ⟨w.heap.size, 1, none⟩)) rfl (by kernel_rfl) (by kernel_rfl) (by kernel_rfl) (fun _ _ _ h => h) (Or.inl ⟨by rfl, ?_⟩) (by assumption) ?_
        · intro w' hSw; (try dsimp only at hSw); go_simp
        try simp only [Act.put, List.setIfInBounds_toArray, List.set_cons_zero, List.set_cons_succ]
        refine wpAnyH_take (i := 3) (v := .int .u8 (m1 : Int)) rfl (by kernel_rfl) (by kernel_rfl) (by kernel_rfl) (fun _ _ _ h => h) (Or.inl ⟨by rfl, ?_⟩) (by assumption) ?_
        · intro w' hSw; (try dsimp only at hSw); go_simp
        try simp only [Act.put, List.setIfInBounds_toArray, List.set_cons_zero, List.set_cons_succ]
        refine wpAnyH_ready (rs := [4]) (by kernel_rfl) (by simp) (AllReadyH.cons rfl (fun K hK => ?_) AllReadyH.nil)
        go_simp
        have ba := (Below.refl v0.heap.size v0).alloc (Nat.le_refl _) (.cells #[.string ⟨#[97, 108, 116, 101, 114, 110, 97, 116, 101]⟩, .string ⟨#[115, 101, 108, 102]⟩, .string ⟨#[101, 100, 105, 116]⟩] 9)
        have hs53 : Hid (StrsAt v0.heap.size amRels (v0.alloc (.cells #[.string ⟨#[97, 108, 116, 101, 114, 110, 97, 116, 101]⟩, .string ⟨#[115, 101, 108, 102]⟩, .string ⟨#[101, 100, 105, 116]⟩] 9))) := Lib.hid (strs_new v0 amRels 9)
        have hb52 := Lib.hid (hb0.out.trans (ba.mono hb0.out.size))
        refine hK.out _ _ (hcw.out _ hb52.out) (fun hH54 => ?_)
        clear hK K hH ba
        generalize v0.alloc (.cells #[.string ⟨#[97, 108, 116, 101, 114, 110, 97, 116, 101]⟩, .string ⟨#[115, 101, 108, 102]⟩, .string ⟨#[101, 100, 105, 116]⟩] 9) = v51 at *
        try simp only [Act.put, List.setIfInBounds_toArray, List.set_cons_zero, List.set_cons_succ]
        refine wpAnyH_ready (rs := [5]) (by kernel_rfl) (by simp) (AllReadyH.cons rfl (fun K hK => ?_) AllReadyH.nil)
        go_simp
        refine (pick_any m1 amRels (v0.heap.size) 3 3 v51 hs53.out rfl (by decide) (by decide) h1).mono ?_
        rintro e w' ⟨⟨tx55, ht56, rfl⟩, hw⟩
        rw [hw]
        replace ht56 := Lib.hid (amRels_small _ ht56)
        refine hK.out _ _ (hcw.out _ hb52.out) (fun hH57 => ?_)
        clear hK K hH54 hw w' hs53
        try simp only [Act.put, List.setIfInBounds_toArray, List.set_cons_zero, List.set_cons_succ]
        refine wpAnyH_take (i := 6) (v := .agg #[.string ⟨#[]⟩, .string ⟨#[114, 101, 108]⟩, .string tx55]) rfl (by kernel_rfl) (by kernel_rfl) (by kernel_rfl) (fun _ _ _ h => h) (Or.inl ⟨by rfl, ?_⟩) (by assumption) ?_
        · intro w' hSw; (try dsimp only at hSw); go_simp
        try simp only [Act.put, List.setIfInBounds_toArray, List.set_cons_zero, List.set_cons_succ]
        refine wpAnyH_ready (rs := [7]) (by kernel_rfl) (by simp) (AllReadyH.cons rfl (fun K hK => ?_) AllReadyH.nil)
        go_simp
        have ba := (Below.refl v51.heap.size v51).alloc (Nat.le_refl _) (.cells #[.string ⟨#[]⟩, .string ⟨#[114, 101, 108]⟩, .string tx55] 41)
        have hr60 := Lib.hid (am_cells_row v51 [.string ⟨#[]⟩, .string ⟨#[114, 101, 108]⟩, .string tx55] 41)
        have hb59 := Lib.hid (hb52.out.trans (ba.mono hb52.out.size))
        refine hK.out _ _ (hcw.out _ hb59.out) (fun hH61 => ?_)
        clear hK K hH57 ba
        generalize v51.alloc (.cells #[.string ⟨#[]⟩, .string ⟨#[114, 101, 108]⟩, .string tx55] 41) = v58 at *
        try simp only [Act.put, List.setIfInBounds_toArray, List.set_cons_zero, List.set_cons_succ]
        refine wpAnyH_ready (rs := [8]) (by kernel_rfl) (by simp) (AllReadyH.cons rfl (fun K hK => ?_) AllReadyH.nil)
        have gW := gA.out.on hb59.out
        have kW := kA.out.on hb59.out
        have hlW := gW.n.lt
        have hbW := gW.lb
        have hl1 := l1.out
        have hown := gW.att
        refine step_append_lies _ (by rfl) _ _ _ (by rfl) w1.heap.size 41 j0 _ 3 48 Tryz.underlying22 ji jz0 jz1 jz2 rfl (by decide) (.slice aoA asA.length caA) asA.length (asA.flatMap attCells) (by rfl) hown ⟨v51.heap.size, 0, none⟩ 1 1 [.string ⟨#[]⟩, .string ⟨#[114, 101, 108]⟩, .string tx55] rfl rfl hr60.out (by simp [Value.oneCell']) (by decide) (by unfold maxLen; omega) (by omega) (by have := gW.low.size; omega) _ rfl ?_
        intro gg cap5 v62 hown5 hg5 hat5 hlt5
        have hvb : ∀ j, (.slice aoA asA.length caA : Value).ownBlock = some j → w1.heap.size ≤ j := fun j e => (World.ownsRow.lt hown j e).1
        have nV : Cells v62 w4.heap.size 25 _ := (hg5.block w4.heap.size hlW (fun e => km_cells_apart hown gW.n (by decide) e.symm)).trans gW.n
        have kV : Cells v62 w.heap.size 36 _ := (hg5.block w.heap.size (by omega) (fun e => by have := hvb _ e.symm; omega)).trans kW
        refine hK.out _ _ ⟨kV.cell (i := 1) rfl, kV.cell (i := 2) rfl, nV.cell (i := 3) rfl⟩ (fun hH63 => ?_)
        have nF := nV.free 3
        have nC := nV.cell (i := 3) rfl
        clear hK K hH61 nV kV kW
        try simp only [Act.put, List.setIfInBounds_toArray, List.set_cons_zero, List.set_cons_succ]
        refine wpAnyH_take (i := 9) (v := .pointer (some ⟨w4.heap.size, 3, none⟩)) rfl (by kernel_rfl) (by kernel_rfl) (by kernel_rfl) (fun _ _ _ h => h) (Or.inl ⟨by rfl, ?_⟩) (by assumption) ?_
        · intro w' hSw; (try dsimp only at hSw); go_simp
        try simp only [Act.put, List.setIfInBounds_toArray, List.set_cons_zero, List.set_cons_succ]
        refine wpAnyH_take (i := 10) (v := .bool true) rfl (by kernel_rfl) (by kernel_rfl) (by kernel_rfl) (fun _ _ _ h => h) (Or.inl ⟨by rfl, ?_⟩) (by assumption) ?_
        · intro w' hSw; (try dsimp only at hSw); go_simp
        try simp only [Act.put, List.setIfInBounds_toArray, List.set_cons_zero, List.set_cons_succ]
        refine wpAnyH_done (by kernel_rfl) ?_ _
        show Oper.wp _ _ _ _ _ _
        go_simp
        go_wp2_with fail
        go_meet
        exact Lib.hid (KSt.le (KSt.moreAtts gW hzA.out (by have := ht56.out; have e0 : ByteArray.size ⟨#[114, 101, 108]⟩ = 3 := rfl; omega) hown5 hg5 (hat5.imp (fun e => e.symm) (fun e => by rw [e]; first | rfl | simp [Value.ownBlock])) (Nat.le_refl _)) (by omega))
      · have hmb : ((m2 : Int) % 2 == 0) = false := by rw [beq_eq_false_iff_ne]; exact hm
        go_wp2_with fail
        go_meet
        exact Lib.hid (KSt.le hSA.out (by omega))
    case rest =>
    have hSB := hcut
    clear hcut
    generalize wc = B at *
    clear wc
    obtain ⟨aoB, caB, boB, cbB, asB, kdB, gB, hzB, laB, lkB⟩ := KSt.open' hSB.out
    have kB := Lib.hid (g5.out.same gB (show w.heap.size < w1.heap.size by have := l1.out; omega) k5.out)
    replace gB := Lib.hid gB
    replace hzB := Lib.hid hzB
    have nB := Lib.hid gB.out.n
    have qB := kB.out.cell (i := 1) rfl
    go_upto_if 75 with fail
    by_cases hm : (m1 : Int) % 3 = 0
    · have hmb : ((m1 : Int) % 3 == 0) = true := by rw [beq_iff_eq]; exact hm
      have hcw : Hid (∀ w', Below B.heap.size B w' → w'.cell? ⟨w.heap.size, 1, none⟩ = some (.int .u8 (m1 : Int)) ∧ w'.cell? ⟨w.heap.size, 2, none⟩ = some (.int .u8 (m2 : Int)) ∧ w'.cell? ⟨w4.heap.size, 3, none⟩ = some (.slice aoB asB.length caB)) := Lib.hid (fun _ b => ⟨((kB.out.on b).cell (i := 1) rfl), ((kB.out.on b).cell (i := 2) rfl), ((nB.out.on b).cell (i := 3) rfl)⟩)
      go_upto_region 14 with fail
      refine wp_region_last (n := 14) (S := fun w' => w'.cell? ⟨w.heap.size, 1, none⟩ = some (.int .u8 (m1 : Int)) ∧ w'.cell? ⟨w.heap.size, 2, none⟩ = some (.int .u8 (m2 : Int)) ∧ w'.cell? ⟨w4.heap.size, 3, none⟩ = some (.slice aoB asB.length caB)) (by kernel_rfl) (by rfl) (by rfl) (by rfl) (by rfl) (by kernel_rfl) (hcw.out _ (Below.refl _ _).drew) (fun hH => ?_)
      simp only [lastNop, nopOf, List.setIfInBounds_toArray, List.set_cons_succ, List.set_cons_zero]
      have hb0 := Lib.hid (Below.refl B.heap.size B).drew
      generalize B.drew = v0 at *
      refine wpAnyH_take (i := 0) (v := .pointer (some ⟨w4.heap.size, 3, none⟩)) rfl (by kernel_rfl) (by kernel_rfl) (by kernel_rfl) (fun _ _ _ h => h) (Or.inl ⟨by rfl, ?_⟩) (by assumption) ?_
      · intro w' hSw; (try dsimp only at hSw); go_simp
      try simp only [Act.put, List.setIfInBounds_toArray, List.set_cons_zero, List.set_cons_succ]
      refine wpAnyH_take (i := 1) (v := .slice aoB asB.length caB) rfl (by kernel_rfl) (by kernel_rfl) (by kernel_rfl) (fun _ _ _ h => h) (Or.inl ⟨by rfl, ?_⟩) (by assumption) ?_
      · intro w' hSw; (try dsimp only at hSw); go_simp
      try simp only [Act.put, List.setIfInBounds_toArray, List.set_cons_zero, List.set_cons_succ]
      refine wpAnyH_take (i := 2) (v := .pointer (some ⟨w.heap.size, 2, none⟩)) rfl (by kernel_rfl) (by kernel_rfl) (by kernel_rfl) (fun _ _ _ h => h) (Or.inl ⟨by rfl, ?_⟩) (by assumption) ?_
      · intro w' hSw; (try dsimp only at hSw); go_simp
      try simp only [Act.put, List.setIfInBounds_toArray, List.set_cons_zero, List.set_cons_succ]
      refine wpAnyH_take (i := 3) (v := .int .u8 (m2 : Int)) rfl (by kernel_rfl) (by kernel_rfl) (by kernel_rfl) (fun _ _ _ h => h) (Or.inl ⟨by rfl, ?_⟩) (by assumption) ?_
      · intro w' hSw; (try dsimp only at hSw); go_simp
      try simp only [Act.put, List.setIfInBounds_toArray, List.set_cons_zero, List.set_cons_succ]
      refine wpAnyH_take (i := 6) (v := .pointer (some ⟨w.heap.size, 2, none⟩)) rfl (by kernel_rfl) (by kernel_rfl) (by kernel_rfl) (fun _ _ _ h => h) (Or.inl ⟨by rfl, ?_⟩) (by assumption) ?_
      · intro w' hSw; (try dsimp only at hSw); go_simp
      try simp only [Act.put, List.setIfInBounds_toArray, List.set_cons_zero, List.set_cons_succ]
      refine wpAnyH_take (i := 7) (v := .int .u8 (m2 : Int)) rfl (by kernel_rfl) (by kernel_rfl) (by kernel_rfl) (fun _ _ _ h => h) (Or.inl ⟨by rfl, ?_⟩) (by assumption) ?_
      · intro w' hSw; (try dsimp only at hSw); go_simp
      try simp only [Act.put, List.setIfInBounds_toArray, List.set_cons_zero, List.set_cons_succ]
      refine wpAnyH_ready (rs := [4, 8]) (by kernel_rfl) (by simp) (AllReadyH.cons rfl (fun K hK => ?_) (AllReadyH.cons rfl (fun K hK => ?_) AllReadyH.nil))
      · go_simp
        have ba := (Below.refl v0.heap.size v0).alloc (Nat.le_refl _) (.cells #[.string ⟨#[116, 121, 112, 101]⟩, .string ⟨#[104, 114, 101, 102, 108, 97, 110, 103]⟩] 9)
        have hs66 : Hid (StrsAt v0.heap.size amLangs (v0.alloc (.cells #[.string ⟨#[116, 121, 112, 101]⟩, .string ⟨#[104, 114, 101, 102, 108, 97, 110, 103]⟩] 9))) := Lib.hid (strs_new v0 amLangs 9)
        have hb65 := Lib.hid (hb0.out.trans (ba.mono hb0.out.size))
        refine hK.out _ _ (hcw.out _ hb65.out) (fun hH67 => ?_)
        clear hK K hH ba
        generalize v0.alloc (.cells #[.string ⟨#[116, 121, 112, 101]⟩, .string ⟨#[104, 114, 101, 102, 108, 97, 110, 103]⟩] 9) = v64 at *
        try simp only [Act.put, List.setIfInBounds_toArray, List.set_cons_zero, List.set_cons_succ]
        refine wpAnyH_ready (rs := [5, 8]) (by kernel_rfl) (by simp) (AllReadyH.cons rfl (fun K hK => ?_) (AllReadyH.cons rfl (fun K hK => ?_) AllReadyH.nil))
        · go_simp
          refine (pick_any m2 amLangs (v0.heap.size) 2 2 v64 hs66.out rfl (by decide) (by decide) h2).mono ?_
          rintro e w' ⟨⟨tx68, ht69, rfl⟩, hw⟩
          rw [hw]
          replace ht69 := Lib.hid (amLangs_small _ ht69)
          refine hK.out _ _ (hcw.out _ hb65.out) (fun hH70 => ?_)
          clear hK K hH67 hw w' hs66
          try simp only [Act.put, List.setIfInBounds_toArray, List.set_cons_zero, List.set_cons_succ]
          refine wpAnyH_ready (rs := [8]) (by kernel_rfl) (by simp) (AllReadyH.cons rfl (fun K hK => ?_) AllReadyH.nil)
          go_simp
          have ba := (Below.refl v64.heap.size v64).alloc (Nat.le_refl _) (.cells #[.string ⟨#[116, 101, 120, 116, 47, 104, 116, 109, 108]⟩, .string ⟨#[84, 101, 120, 116, 47, 72, 84, 77, 76]⟩, .string ⟨#[120]⟩, .string ⟨#[101, 110]⟩] 9)
          have hs73 : Hid (StrsAt v64.heap.size amTypes (v64.alloc (.cells #[.string ⟨#[116, 101, 120, 116, 47, 104, 116, 109, 108]⟩, .string ⟨#[84, 101, 120, 116, 47, 72, 84, 77, 76]⟩, .string ⟨#[120]⟩, .string ⟨#[101, 110]⟩] 9))) := Lib.hid (strs_new v64 amTypes 9)
          have hb72 := Lib.hid (hb65.out.trans (ba.mono hb65.out.size))
          refine hK.out _ _ (hcw.out _ hb72.out) (fun hH74 => ?_)
          clear hK K hH70 ba
          generalize v64.alloc (.cells #[.string ⟨#[116, 101, 120, 116, 47, 104, 116, 109, 108]⟩, .string ⟨#[84, 101, 120, 116, 47, 72, 84, 77, 76]⟩, .string ⟨#[120]⟩, .string ⟨#[101, 110]⟩] 9) = v71 at *
          try simp only [Act.put, List.setIfInBounds_toArray, List.set_cons_zero, List.set_cons_succ]
          refine wpAnyH_ready (rs := [9]) (by kernel_rfl) (by simp) (AllReadyH.cons rfl (fun K hK => ?_) AllReadyH.nil)
          go_simp
          refine (pick_any m2 amTypes (v64.heap.size) 4 4 v71 hs73.out rfl (by decide) (by decide) h2).mono ?_
          rintro e w' ⟨⟨tx75, ht76, rfl⟩, hw⟩
          rw [hw]
          replace ht76 := Lib.hid (amTypes_small _ ht76)
          refine hK.out _ _ (hcw.out _ hb72.out) (fun hH77 => ?_)
          clear hK K hH74 hw w' hs73
          try simp only [Act.put, List.setIfInBounds_toArray, List.set_cons_zero, List.set_cons_succ]
          refine wpAnyH_take (i := 10) (v := .agg #[.string ⟨#[]⟩, .string tx68, .string tx75]) rfl (by kernel_rfl) (by kernel_rfl) (by kernel_rfl) (fun _ _ _ h => h) (Or.inl ⟨by rfl, ?_⟩) (by assumption) ?_
          · intro w' hSw; (try dsimp only at hSw); go_simp
          try simp only [Act.put, List.setIfInBounds_toArray, List.set_cons_zero, List.set_cons_succ]
          refine wpAnyH_ready (rs := [11]) (by kernel_rfl) (by simp) (AllReadyH.cons rfl (fun K hK => ?_) AllReadyH.nil)
          go_simp
          have ba := (Below.refl v71.heap.size v71).alloc (Nat.le_refl _) (.cells #[.string ⟨#[]⟩, .string tx68, .string tx75] 41)
          have hr80 := Lib.hid (am_cells_row v71 [.string ⟨#[]⟩, .string tx68, .string tx75] 41)
          have hb79 := Lib.hid (hb72.out.trans (ba.mono hb72.out.size))
          refine hK.out _ _ (hcw.out _ hb79.out) (fun hH81 => ?_)
          clear hK K hH77 ba
          generalize v71.alloc (.cells #[.string ⟨#[]⟩, .string tx68, .string tx75] 41) = v78 at *
          try simp only [Act.put, List.setIfInBounds_toArray, List.set_cons_zero, List.set_cons_succ]
          refine wpAnyH_ready (rs := [12]) (by kernel_rfl) (by simp) (AllReadyH.cons rfl (fun K hK => ?_) AllReadyH.nil)
          have gW := gB.out.on hb79.out
          have kW := kB.out.on hb79.out
          have hlW := gW.n.lt
          have hbW := gW.lb
          have hl1 := l1.out
          have hown := gW.att
          refine step_append_lies _ (by rfl) _ _ _ (by rfl) w1.heap.size 41 j0 _ 3 48 Tryz.underlying22 ji jz0 jz1 jz2 rfl (by decide) (.slice aoB asB.length caB) asB.length (asB.flatMap attCells) (by rfl) hown ⟨v71.heap.size, 0, none⟩ 1 1 [.string ⟨#[]⟩, .string tx68, .string tx75] rfl rfl hr80.out (by simp [Value.oneCell']) (by decide) (by unfold maxLen; omega) (by omega) (by have := gW.low.size; omega) _ rfl ?_
          intro gg cap5 v82 hown5 hg5 hat5 hlt5
          have hvb : ∀ j, (.slice aoB asB.length caB : Value).ownBlock = some j → w1.heap.size ≤ j := fun j e => (World.ownsRow.lt hown j e).1
          have nV : Cells v82 w4.heap.size 25 _ := (hg5.block w4.heap.size hlW (fun e => km_cells_apart hown gW.n (by decide) e.symm)).trans gW.n
          have kV : Cells v82 w.heap.size 36 _ := (hg5.block w.heap.size (by omega) (fun e => by have := hvb _ e.symm; omega)).trans kW
          refine hK.out _ _ ⟨kV.cell (i := 1) rfl, kV.cell (i := 2) rfl, nV.cell (i := 3) rfl⟩ (fun hH83 => ?_)
          have nF := nV.free 3
          have nC := nV.cell (i := 3) rfl
          clear hK K hH81 nV kV kW
          try simp only [Act.put, List.setIfInBounds_toArray, List.set_cons_zero, List.set_cons_succ]
          refine wpAnyH_take (i := 13) (v := .pointer (some ⟨w4.heap.size, 3, none⟩)) rfl (by kernel_rfl) (by kernel_rfl) (by kernel_rfl) (fun _ _ _ h => h) (Or.inl ⟨by rfl, ?_⟩) (by assumption) ?_
          · intro w' hSw; (try dsimp only at hSw); go_simp
          try simp only [Act.put, List.setIfInBounds_toArray, List.set_cons_zero, List.set_cons_succ]
          refine wpAnyH_take (i := 14) (v := .bool true) rfl (by kernel_rfl) (by kernel_rfl) (by kernel_rfl) (fun _ _ _ h => h) (Or.inl ⟨by rfl, ?_⟩) (by assumption) ?_
          · intro w' hSw; (try dsimp only at hSw); go_simp
          try simp only [Act.put, List.setIfInBounds_toArray, List.set_cons_zero, List.set_cons_succ]
          refine wpAnyH_done (by kernel_rfl) ?_ _
          show Oper.wp _ _ _ _ _ _
          go_simp
          have stF : Hid (KSt w1 w4.heap.size _ 660 (v82.setCell ⟨w4.heap.size, 3, none⟩ (.slice (some ⟨gg, 0, none⟩) (asB.length + 1) cap5))) := Lib.hid (KSt.le (KSt.moreAtts gW hzB.out (by have := ht69.out; have := ht76.out; omega) hown5 hg5 (hat5.imp (fun e => e.symm) (fun e => by rw [e]; first | rfl | simp [Value.ownBlock])) (Nat.le_refl _)) (by omega))
          clear hown5 hg5 hat5 hlt5
          generalize v82.setCell ⟨w4.heap.size, 3, none⟩ (.slice (some ⟨gg, 0, none⟩) (asB.length + 1) cap5) = w9 at *
          obtain ⟨ao, ca, bo, cb, as', kids, gE, hE, -, -⟩ := KSt.open' stF.out
          have zE := g5.out.same gE l1.out z5.out
          obtain ⟨x0, x1, x2, x3, x4, x5⟩ := node_open gE.n
          obtain ⟨z0, z1, z2, z3, z4, z5'⟩ := node_open (show Cells w9 _ _ (nodeArr 0 ⟨#[]⟩ ⟨#[]⟩ (.slice none 0 0) (.slice none 0 0) ⟨#[]⟩) from zE)
          have f0 := zE.free 0
          have f1 := zE.free 1
          have f2 := zE.free 2
          have f3 := zE.free 3
          have f4 := zE.free 4
          have f5 := zE.free 5
          have aE : amSp = ⟨#[104, 116, 116, 112, 58, 47, 47, 119, 119, 119, 46, 119, 51, 46, 111, 114, 103, 47, 50, 48, 48, 53, 47, 65, 116, 111, 109]⟩ := rfl
          rw [aE] at x1
          replace aE := Lib.hid aE
          replace gE := Lib.hid gE
          replace hE := Lib.hid hE
          replace zE := Lib.hid zE
          go_wp2_with fail
          exact kid_tail rfl rfl gE.out zE.out l1.out b1.out (Nat.le_trans hE.out (by omega))
        · go_simp
          have ba := (Below.refl v64.heap.size v64).alloc (Nat.le_refl _) (.cells #[.string ⟨#[116, 101, 120, 116, 47, 104, 116, 109, 108]⟩, .string ⟨#[84, 101, 120, 116, 47, 72, 84, 77, 76]⟩, .string ⟨#[120]⟩, .string ⟨#[101, 110]⟩] 9)
          have hs86 : Hid (StrsAt v64.heap.size amTypes (v64.alloc (.cells #[.string ⟨#[116, 101, 120, 116, 47, 104, 116, 109, 108]⟩, .string ⟨#[84, 101, 120, 116, 47, 72, 84, 77, 76]⟩, .string ⟨#[120]⟩, .string ⟨#[101, 110]⟩] 9))) := Lib.hid (strs_new v64 amTypes 9)
          replace hs66 := Lib.hid (hs66.out.on ba)
          have hb85 := Lib.hid (hb65.out.trans (ba.mono hb65.out.size))
          refine hK.out _ _ (hcw.out _ hb85.out) (fun hH87 => ?_)
          clear hK K hH67 ba
          generalize v64.alloc (.cells #[.string ⟨#[116, 101, 120, 116, 47, 104, 116, 109, 108]⟩, .string ⟨#[84, 101, 120, 116, 47, 72, 84, 77, 76]⟩, .string ⟨#[120]⟩, .string ⟨#[101, 110]⟩] 9) = v84 at *
          try simp only [Act.put, List.setIfInBounds_toArray, List.set_cons_zero, List.set_cons_succ]
          refine wpAnyH_ready (rs := [5]) (by kernel_rfl) (by simp) (AllReadyH.cons rfl (fun K hK => ?_) AllReadyH.nil)
          go_simp
          refine (pick_any m2 amLangs (v0.heap.size) 2 2 v84 hs66.out rfl (by decide) (by decide) h2).mono ?_
          rintro e w' ⟨⟨tx88, ht89, rfl⟩, hw⟩
          rw [hw]
          replace ht89 := Lib.hid (amLangs_small _ ht89)
          refine hK.out _ _ (hcw.out _ hb85.out) (fun hH90 => ?_)
          clear hK K hH87 hw w' hs66
          try simp only [Act.put, List.setIfInBounds_toArray, List.set_cons_zero, List.set_cons_succ]
          refine wpAnyH_ready (rs := [9]) (by kernel_rfl) (by simp) (AllReadyH.cons rfl (fun K hK => ?_) AllReadyH.nil)
          go_simp
          refine (pick_any m2 amTypes (v64.heap.size) 4 4 v84 hs86.out rfl (by decide) (by decide) h2).mono ?_
          rintro e w' ⟨⟨tx91, ht92, rfl⟩, hw⟩
          rw [hw]
          replace ht92 := Lib.hid (amTypes_small _ ht92)
          refine hK.out _ _ (hcw.out _ hb85.out) (fun hH93 => ?_)
          clear hK K hH90 hw w' hs86
          try simp only [Act.put, List.setIfInBounds_toArray, List.set_cons_zero, List.set_cons_succ]
          refine wpAnyH_take (i := 10) (v := .agg #[.string ⟨#[]⟩, .string tx88, .string tx91]) rfl (by kernel_rfl) (by kernel_rfl) (by kernel_rfl) (fun _ _ _ h => h) (Or.inl ⟨by rfl, ?_⟩) (by assumption) ?_
          · intro w' hSw; (try dsimp only at hSw); go_simp
          try simp only [Act.put, List.setIfInBounds_toArray, List.set_cons_zero, List.set_cons_succ]
          refine wpAnyH_ready (rs := [11]) (by kernel_rfl) (by simp) (AllReadyH.cons rfl (fun K hK => ?_) AllReadyH.nil)
          go_simp
          have ba := (Below.refl v84.heap.size v84).alloc (Nat.le_refl _) (.cells #[.string ⟨#[]⟩, .string tx88, .string tx91] 41)
          have hr96 := Lib.hid (am_cells_row v84 [.string ⟨#[]⟩, .string tx88, .string tx91] 41)
          have hb95 := Lib.hid (hb85.out.trans (ba.mono hb85.out.size))
          refine hK.out _ _ (hcw.out _ hb95.out) (fun hH97 => ?_)
          clear hK K hH93 ba
          generalize v84.alloc (.cells #[.string ⟨#[]⟩, .string tx88, .string tx91] 41) = v94 at *
          try simp only [Act.put, List.setIfInBounds_toArray, List.set_cons_zero, List.set_cons_succ]
          refine wpAnyH_ready (rs := [12]) (by kernel_rfl) (by simp) (AllReadyH.cons rfl (fun K hK => ?_) AllReadyH.nil)
          have gW := gB.out.on hb95.out
          have kW := kB.out.on hb95.out
          have hlW := gW.n.lt
          have hbW := gW.lb
          have hl1 := l1.out
          have hown := gW.att
          refine step_append_lies _ (by rfl) _ _ _ (by rfl) w1.heap.size 41 j0 _ 3 48 Tryz.underlying22 ji jz0 jz1 jz2 rfl (by decide) (.slice aoB asB.length caB) asB.length (asB.flatMap attCells) (by rfl) hown ⟨v84.heap.size, 0, none⟩ 1 1 [.string ⟨#[]⟩, .string tx88, .string tx91] rfl rfl hr96.out (by simp [Value.oneCell']) (by decide) (by unfold maxLen; omega) (by omega) (by have := gW.low.size; omega) _ rfl ?_
          intro gg cap5 v98 hown5 hg5 hat5 hlt5
          have hvb : ∀ j, (.slice aoB asB.length caB : Value).ownBlock = some j → w1.heap.size ≤ j := fun j e => (World.ownsRow.lt hown j e).1
          have nV : Cells v98 w4.heap.size 25 _ := (hg5.block w4.heap.size hlW (fun e => km_cells_apart hown gW.n (by decide) e.symm)).trans gW.n
          have kV : Cells v98 w.heap.size 36 _ := (hg5.block w.heap.size (by omega) (fun e => by have := hvb _ e.symm; omega)).trans kW
          refine hK.out _ _ ⟨kV.cell (i := 1) rfl, kV.cell (i := 2) rfl, nV.cell (i := 3) rfl⟩ (fun hH99 => ?_)
          have nF := nV.free 3
          have nC := nV.cell (i := 3) rfl
          clear hK K hH97 nV kV kW
          try simp only [Act.put, List.setIfInBounds_toArray, List.set_cons_zero, List.set_cons_succ]
          refine wpAnyH_take (i := 13) (v := .pointer (some ⟨w4.heap.size, 3, none⟩)) rfl (by kernel_rfl) (by kernel_rfl) (by kernel_rfl) (fun _ _ _ h => h) (Or.inl ⟨by rfl, ?_⟩) (by assumption) ?_
          · intro w' hSw; (try dsimp only at hSw); go_simp
          try simp only [Act.put, List.setIfInBounds_toArray, List.set_cons_zero, List.set_cons_succ]
          refine wpAnyH_take (i := 14) (v := .bool true) rfl (by kernel_rfl) (by kernel_rfl) (by kernel_rfl) (fun _ _ _ h => h) (Or.inl ⟨by rfl, ?_⟩) (by assumption) ?_
          · intro w' hSw; (try dsimp only at hSw); go_simp
          try simp only [Act.put, List.setIfInBounds_toArray, List.set_cons_zero, List.set_cons_succ]
          refine wpAnyH_done (by kernel_rfl) ?_ _
          show Oper.wp _ _ _ _ _ _
          go_simp
          have stF : Hid (KSt w1 w4.heap.size _ 660 (v98.setCell ⟨w4.heap.size, 3, none⟩ (.slice (some ⟨gg, 0, none⟩) (asB.length + 1) cap5))) := Lib.hid (KSt.le (KSt.moreAtts gW hzB.out (by have := ht89.out; have := ht92.out; omega) hown5 hg5 (hat5.imp (fun e => e.symm) (fun e => by rw [e]; first | rfl | simp [Value.ownBlock])) (Nat.le_refl _)) (by omega))
          clear hown5 hg5 hat5 hlt5
          generalize v98.setCell ⟨w4.heap.size, 3, none⟩ (.slice (some ⟨gg, 0, none⟩) (asB.length + 1) cap5) = w9 at *
          obtain ⟨ao, ca, bo, cb, as', kids, gE, hE, -, -⟩ := KSt.open' stF.out
          have zE := g5.out.same gE l1.out z5.out
          obtain ⟨x0, x1, x2, x3, x4, x5⟩ := node_open gE.n
          obtain ⟨z0, z1, z2, z3, z4, z5'⟩ := node_open (show Cells w9 _ _ (nodeArr 0 ⟨#[]⟩ ⟨#[]⟩ (.slice none 0 0) (.slice none 0 0) ⟨#[]⟩) from zE)
          have f0 := zE.free 0
          have f1 := zE.free 1
          have f2 := zE.free 2
          have f3 := zE.free 3
          have f4 := zE.free 4
          have f5 := zE.free 5
          have aE : amSp = ⟨#[104, 116, 116, 112, 58, 47, 47, 119, 119, 119, 46, 119, 51, 46, 111, 114, 103, 47, 50, 48, 48, 53, 47, 65, 116, 111, 109]⟩ := rfl
          rw [aE] at x1
          replace aE := Lib.hid aE
          replace gE := Lib.hid gE
          replace hE := Lib.hid hE
          replace zE := Lib.hid zE
          go_wp2_with fail
          exact kid_tail rfl rfl gE.out zE.out l1.out b1.out (Nat.le_trans hE.out (by omega))
      · go_simp
        have ba := (Below.refl v0.heap.size v0).alloc (Nat.le_refl _) (.cells #[.string ⟨#[116, 101, 120, 116, 47, 104, 116, 109, 108]⟩, .string ⟨#[84, 101, 120, 116, 47, 72, 84, 77, 76]⟩, .string ⟨#[120]⟩, .string ⟨#[101, 110]⟩] 9)
        have hs102 : Hid (StrsAt v0.heap.size amTypes (v0.alloc (.cells #[.string ⟨#[116, 101, 120, 116, 47, 104, 116, 109, 108]⟩, .string ⟨#[84, 101, 120, 116, 47, 72, 84, 77, 76]⟩, .string ⟨#[120]⟩, .string ⟨#[101, 110]⟩] 9))) := Lib.hid (strs_new v0 amTypes 9)
        have hb101 := Lib.hid (hb0.out.trans (ba.mono hb0.out.size))
        refine hK.out _ _ (hcw.out _ hb101.out) (fun hH103 => ?_)
        clear hK K hH ba
        generalize v0.alloc (.cells #[.string ⟨#[116, 101, 120, 116, 47, 104, 116, 109, 108]⟩, .string ⟨#[84, 101, 120, 116, 47, 72, 84, 77, 76]⟩, .string ⟨#[120]⟩, .string ⟨#[101, 110]⟩] 9) = v100 at *
        try simp only [Act.put, List.setIfInBounds_toArray, List.set_cons_zero, List.set_cons_succ]
        refine wpAnyH_ready (rs := [4]) (by kernel_rfl) (by simp) (AllReadyH.cons rfl (fun K hK => ?_) AllReadyH.nil)
        go_simp
        have ba := (Below.refl v100.heap.size v100).alloc (Nat.le_refl _) (.cells #[.string ⟨#[116, 121, 112, 101]⟩, .string ⟨#[104, 114, 101, 102, 108, 97, 110, 103]⟩] 9)
        have hs106 : Hid (StrsAt v100.heap.size amLangs (v100.alloc (.cells #[.string ⟨#[116, 121, 112, 101]⟩, .string ⟨#[104, 114, 101, 102, 108, 97, 110, 103]⟩] 9))) := Lib.hid (strs_new v100 amLangs 9)
        replace hs102 := Lib.hid (hs102.out.on ba)
        have hb105 := Lib.hid (hb101.out.trans (ba.mono hb101.out.size))
        refine hK.out _ _ (hcw.out _ hb105.out) (fun hH107 => ?_)
        clear hK K hH103 ba
        generalize v100.alloc (.cells #[.string ⟨#[116, 121, 112, 101]⟩, .string ⟨#[104, 114, 101, 102, 108, 97, 110, 103]⟩] 9) = v104 at *
        try simp only [Act.put, List.setIfInBounds_toArray, List.set_cons_zero, List.set_cons_succ]
        refine wpAnyH_ready (rs := [5]) (by kernel_rfl) (by simp) (AllReadyH.cons rfl (fun K hK => ?_) AllReadyH.nil)
        go_simp
        refine (pick_any m2 amLangs (v100.heap.size) 2 2 v104 hs106.out rfl (by decide) (by decide) h2).mono ?_
        rintro e w' ⟨⟨tx108, ht109, rfl⟩, hw⟩
        rw [hw]
        replace ht109 := Lib.hid (amLangs_small _ ht109)
        refine hK.out _ _ (hcw.out _ hb105.out) (fun hH110 => ?_)
        clear hK K hH107 hw w' hs106
        try simp only [Act.put, List.setIfInBounds_toArray, List.set_cons_zero, List.set_cons_succ]
        refine wpAnyH_ready (rs := [9]) (by kernel_rfl) (by simp) (AllReadyH.cons rfl (fun K hK => ?_) AllReadyH.nil)
        go_simp
        refine (pick_any m2 amTypes (v0.heap.size) 4 4 v104 hs102.out rfl (by decide) (by decide) h2).mono ?_
        rintro e w' ⟨⟨tx111, ht112, rfl⟩, hw⟩
        rw [hw]
        replace ht112 := Lib.hid (amTypes_small _ ht112)
        refine hK.out _ _ (hcw.out _ hb105.out) (fun hH113 => ?_)
        clear hK K hH110 hw w' hs102
        try simp only [Act.put, List.setIfInBounds_toArray, List.set_cons_zero, List.set_cons_succ]
        refine wpAnyH_take (i := 10) (v := .agg #[.string ⟨#[]⟩, .string tx108, .string tx111]) rfl (by kernel_rfl) (by kernel_rfl) (by kernel_rfl) (fun _ _ _ h => h) (Or.inl ⟨by rfl, ?_⟩) (by assumption) ?_
        · intro w' hSw; (try dsimp only at hSw); go_simp
        try simp only [Act.put, List.setIfInBounds_toArray, List.set_cons_zero, List.set_cons_succ]
        refine wpAnyH_ready (rs := [11]) (by kernel_rfl) (by simp) (AllReadyH.cons rfl (fun K hK => ?_) AllReadyH.nil)
        go_simp
        have ba := (Below.refl v104.heap.size v104).alloc (Nat.le_refl _) (.cells #[.string ⟨#[]⟩, .string tx108, .string tx111] 41)
        have hr116 := Lib.hid (am_cells_row v104 [.string ⟨#[]⟩, .string tx108, .string tx111] 41)
        have hb115 := Lib.hid (hb105.out.trans (ba.mono hb105.out.size))
        refine hK.out _ _ (hcw.out _ hb115.out) (fun hH117 => ?_)
        clear hK K hH113 ba
        generalize v104.alloc (.cells #[.string ⟨#[]⟩, .string tx108, .string tx111] 41) = v114 at *
        try simp only [Act.put, List.setIfInBounds_toArray, List.set_cons_zero, List.set_cons_succ]
        refine wpAnyH_ready (rs := [12]) (by kernel_rfl) (by simp) (AllReadyH.cons rfl (fun K hK => ?_) AllReadyH.nil)
        have gW := gB.out.on hb115.out
        have kW := kB.out.on hb115.out
        have hlW := gW.n.lt
        have hbW := gW.lb
        have hl1 := l1.out
        have hown := gW.att
        refine step_append_lies _ (by rfl) _ _ _ (by rfl) w1.heap.size 41 j0 _ 3 48 Tryz.underlying22 ji jz0 jz1 jz2 rfl (by decide) (.slice aoB asB.length caB) asB.length (asB.flatMap attCells) (by rfl) hown ⟨v104.heap.size, 0, none⟩ 1 1 [.string ⟨#[]⟩, .string tx108, .string tx111] rfl rfl hr116.out (by simp [Value.oneCell']) (by decide) (by unfold maxLen; omega) (by omega) (by have := gW.low.size; omega) _ rfl ?_
        intro gg cap5 v118 hown5 hg5 hat5 hlt5
        have hvb : ∀ j, (.slice aoB asB.length caB : Value).ownBlock = some j → w1.heap.size ≤ j := fun j e => (World.ownsRow.lt hown j e).1
        have nV : Cells v118 w4.heap.size 25 _ := (hg5.block w4.heap.size hlW (fun e => km_cells_apart hown gW.n (by decide) e.symm)).trans gW.n
        have kV : Cells v118 w.heap.size 36 _ := (hg5.block w.heap.size (by omega) (fun e => by have := hvb _ e.symm; omega)).trans kW
        refine hK.out _ _ ⟨kV.cell (i := 1) rfl, kV.cell (i := 2) rfl, nV.cell (i := 3) rfl⟩ (fun hH119 => ?_)
        have nF := nV.free 3
        have nC := nV.cell (i := 3) rfl
        clear hK K hH117 nV kV kW
        try simp only [Act.put, List.setIfInBounds_toArray, List.set_cons_zero, List.set_cons_succ]
        refine wpAnyH_take (i := 13) (v := .pointer (some ⟨w4.heap.size, 3, none⟩)) rfl (by kernel_rfl) (by kernel_rfl) (by kernel_rfl) (fun _ _ _ h => h) (Or.inl ⟨by rfl, ?_⟩) (by assumption) ?_
        · intro w' hSw; (try dsimp only at hSw); go_simp
        try simp only [Act.put, List.setIfInBounds_toArray, List.set_cons_zero, List.set_cons_succ]
        refine wpAnyH_take (i := 14) (v := .bool true) rfl (by kernel_rfl) (by kernel_rfl) (by kernel_rfl) (fun _ _ _ h => h) (Or.inl ⟨by rfl, ?_⟩) (by assumption) ?_
        · intro w' hSw; (try dsimp only at hSw); go_simp
        try simp only [Act.put, List.setIfInBounds_toArray, List.set_cons_zero, List.set_cons_succ]
        refine wpAnyH_done (by kernel_rfl) ?_ _
        show Oper.wp _ _ _ _ _ _
        go_simp
        have stF : Hid (KSt w1 w4.heap.size _ 660 (v118.setCell ⟨w4.heap.size, 3, none⟩ (.slice (some ⟨gg, 0, none⟩) (asB.length + 1) cap5))) := Lib.hid (KSt.le (KSt.moreAtts gW hzB.out (by have := ht109.out; have := ht112.out; omega) hown5 hg5 (hat5.imp (fun e => e.symm) (fun e => by rw [e]; first | rfl | simp [Value.ownBlock])) (Nat.le_refl _)) (by omega))
        clear hown5 hg5 hat5 hlt5
        generalize v118.setCell ⟨w4.heap.size, 3, none⟩ (.slice (some ⟨gg, 0, none⟩) (asB.length + 1) cap5) = w9 at *
        obtain ⟨ao, ca, bo, cb, as', kids, gE, hE, -, -⟩ := KSt.open' stF.out
        have zE := g5.out.same gE l1.out z5.out
        obtain ⟨x0, x1, x2, x3, x4, x5⟩ := node_open gE.n
        obtain ⟨z0, z1, z2, z3, z4, z5'⟩ := node_open (show Cells w9 _ _ (nodeArr 0 ⟨#[]⟩ ⟨#[]⟩ (.slice none 0 0) (.slice none 0 0) ⟨#[]⟩) from zE)
        have f0 := zE.free 0
        have f1 := zE.free 1
        have f2 := zE.free 2
        have f3 := zE.free 3
        have f4 := zE.free 4
        have f5 := zE.free 5
        have aE : amSp = ⟨#[104, 116, 116, 112, 58, 47, 47, 119, 119, 119, 46, 119, 51, 46, 111, 114, 103, 47, 50, 48, 48, 53, 47, 65, 116, 111, 109]⟩ := rfl
        rw [aE] at x1
        replace aE := Lib.hid aE
        replace gE := Lib.hid gE
        replace hE := Lib.hid hE
        replace zE := Lib.hid zE
        go_wp2_with fail
        exact kid_tail rfl rfl gE.out zE.out l1.out b1.out (Nat.le_trans hE.out (by omega))
    · have hmb : ((m1 : Int) % 3 == 0) = false := by rw [beq_eq_false_iff_ne]; exact hm
      obtain ⟨ao, ca, bo, cb, as', kids, gE, hE, -, -⟩ := KSt.open' hSB.out
      have zE := g5.out.same gE l1.out z5.out
      obtain ⟨x0, x1, x2, x3, x4, x5⟩ := node_open gE.n
      obtain ⟨z0, z1, z2, z3, z4, z5'⟩ := node_open (show Cells B _ _ (nodeArr 0 ⟨#[]⟩ ⟨#[]⟩ (.slice none 0 0) (.slice none 0 0) ⟨#[]⟩) from zE)
      have f0 := zE.free 0
      have f1 := zE.free 1
      have f2 := zE.free 2
      have f3 := zE.free 3
      have f4 := zE.free 4
      have f5 := zE.free 5
      have aE : amSp = ⟨#[104, 116, 116, 112, 58, 47, 47, 119, 119, 119, 46, 119, 51, 46, 111, 114, 103, 47, 50, 48, 48, 53, 47, 65, 116, 111, 109]⟩ := rfl
      rw [aE] at x1
      replace aE := Lib.hid aE
      replace gE := Lib.hid gE
      replace hE := Lib.hid hE
      replace zE := Lib.hid zE
      go_wp2_with fail
      exact kid_tail rfl rfl gE.out zE.out l1.out b1.out (Nat.le_trans hE.out (by omega))
  · have q1 := k5.out.cell (i := 1) rfl
    have hs1 := Lib.hid (strs_new w5 terms3 9)
    have ba := (Below.refl w5.heap.size w5).alloc (Nat.le_refl _) (.cells (terms3.map Value.string).toArray 9)
    have z6 := Lib.hid (z5.out.on ba)
    have g6 := Lib.hid (g5.out.on ba)
    clear z5 g5 k5 ba
    go_wp2_with fail
    (refine (pick_any m1 terms3 w5.heap.size 3 3 _ hs1.out rfl (by decide) (by decide) h1).mono ?_); rintro e w' ⟨⟨an, han, rfl⟩, rfl⟩
    clear q1 hs1
    have han := Lib.hid (terms3_small _ han)
    generalize w5.alloc (.cells (terms3.map Value.string).toArray 9) = w6 at *
    have a3 := (g6.out.n.alloc (.cells #[.string ⟨#[]⟩, .string an, .string ⟨#[116]⟩] 41)).cell (i := 3) rfl
    have f3 := (g6.out.n.alloc (.cells #[.string ⟨#[]⟩, .string an, .string ⟨#[116]⟩] 41)).free 3
    have an1 := Lib.hid (atts_new (B := w1.heap.size) w6 an ⟨#[116]⟩ g6.out.low.size)
    go_upto_region 27 with fail
    have g7 := Lib.hid (g6.out.atts (v' := .slice (some ⟨w6.heap.size, 0, none⟩) 1 1) an1.out (World.grownBy_alloc w6 (.cells #[.string ⟨#[]⟩, .string an, .string ⟨#[116]⟩] 41) _) (.inr (.inr ⟨_, rfl, Nat.le_refl _⟩)))
    have z7 := Lib.hid ((z6.out.alloc (.cells #[.string ⟨#[]⟩, .string an, .string ⟨#[116]⟩] 41)).other (c := w4.heap.size) 3 (.slice (some ⟨w6.heap.size, 0, none⟩) 1 1) (by have := l1.out; have := g6.out.lb; omega))
    have hwt7 := Lib.hid (kid_wtA (a := ⟨⟨#[]⟩, an, ⟨#[116]⟩⟩) hwt.out (by have := han.out; show ByteArray.size ⟨#[]⟩ + an.size + ByteArray.size ⟨#[116]⟩ ≤ 120; have e1 : ByteArray.size ⟨#[]⟩ = 0 := rfl; have e2 : ByteArray.size ⟨#[116]⟩ = 1 := rfl; omega))
    clear a3 f3 g6 z6 an1 hwt han
    generalize (w6.alloc (.cells #[.string ⟨#[]⟩, .string an, .string ⟨#[116]⟩] 41)).setCell ⟨w4.heap.size, 3, none⟩ (.slice (some ⟨w6.heap.size, 0, none⟩) 1 1) = w7 at *
    obtain ⟨x0, x1, x2, x3, x4, x5⟩ := node_open g7.out.n
    obtain ⟨z0, z1, z2, z3, z4, z5'⟩ := node_open (show Cells w7 _ _ (nodeArr 0 ⟨#[]⟩ ⟨#[]⟩ (.slice none 0 0) (.slice none 0 0) ⟨#[]⟩) from z7.out)
    have f0 := z7.out.free 0
    have f1 := z7.out.free 1
    have f2 := z7.out.free 2
    have f3 := z7.out.free 3
    have f4 := z7.out.free 4
    have f5 := z7.out.free 5
    go_wp2_with fail
    exact kid_tail rfl rfl g7.out z7.out l1.out b1.out (Nat.le_trans hwt7.out (by omega))
  · have hS0 : Hid (KSt w1 w4.heap.size ⟨#[99, 111, 110, 116, 101, 110, 116]⟩ 200 w5) := Lib.hid ⟨_, _, _, _, g5.out, hwt.out⟩
    have k0 := k5
    have q0 := k0.out.cell (i := 2) rfl
    go_upto_if 107 with fail
    go_cut [108] (fun _ wx => Hid (KSt w1 w4.heap.size ⟨#[99, 111, 110, 116, 101, 110, 116]⟩ 330 wx))
    case first =>
      by_cases hm : (m2 : Int) % 2 = 0
      · have hmb : ((m2 : Int) % 2 == 0) = true := by rw [beq_iff_eq]; exact hm
        have d2 : ((m2 : Int)).tdiv 2 = ((m2 / 2 : Nat) : Int) := by rw [Int.tdiv_eq_ediv_of_nonneg (by omega)]; rfl
        have hs := Lib.hid (strs_new w5 amKinds 9)
        have ba := (Below.refl w5.heap.size w5).alloc (Nat.le_refl _) (.cells (amKinds.map Value.string).toArray 9)
        have g6 := Lib.hid (g5.out.on ba)
        clear ba
        go_wp2_with fail
        (refine (pick_any (m2 / 2) amKinds w5.heap.size 6 6 _ hs.out rfl (by decide) (by decide) (by omega)).mono ?_); rintro e w' ⟨⟨t, ht, rfl⟩, rfl⟩
        replace ht := Lib.hid (amKinds_small _ ht)
        generalize w5.alloc (.cells (amKinds.map Value.string).toArray 9) = w6 at *
        have an1 := Lib.hid (att_new (B := w1.heap.size) w6 ⟨#[116, 121, 112, 101]⟩ t g6.out.low.size)
        have gG := Lib.hid (World.grownBy_alloc w6 (.cells #[.string ⟨#[]⟩, .string ⟨#[116, 121, 112, 101]⟩, .string t] 41) (Value.slice none 0 0).ownBlock)
        have a3 := (g6.out.n.alloc (.cells #[.string ⟨#[]⟩, .string ⟨#[116, 121, 112, 101]⟩, .string t] 41)).cell (i := 3) rfl
        have f3 := (g6.out.n.alloc (.cells #[.string ⟨#[]⟩, .string ⟨#[116, 121, 112, 101]⟩, .string t] 41)).free 3
        go_wp2_with fail
        go_meet
        exact Lib.hid (KSt.le (KSt.newAtts g6.out hwt.out (by have := ht.out; have e1 : ByteArray.size ⟨#[116, 121, 112, 101]⟩ = 4 := rfl; omega) an1.out gG.out (Nat.le_refl _)) (by omega))
      · have hmb : ((m2 : Int) % 2 == 0) = false := by rw [beq_eq_false_iff_ne]; exact hm
        go_wp2_with fail
        go_meet
        exact Lib.hid (KSt.le hS0.out (by omega))
    case rest =>
    have hSA := hcut
    clear hcut
    generalize wc = A at *
    clear wc
    obtain ⟨aoA, caA, boA, cbA, asA, kdA, gA, hzA, laA, lkA⟩ := KSt.open' hSA.out
    have kA := Lib.hid (g5.out.same gA (show w.heap.size < w1.heap.size by have := l1.out; omega) k5.out)
    replace gA := Lib.hid gA
    replace hzA := Lib.hid hzA
    have nA := Lib.hid gA.out.n
    have qA := kA.out.cell (i := 1) rfl
    go_upto_if 119 with fail
    go_cut [120] (fun _ wx => Hid (KSt w1 w4.heap.size ⟨#[99, 111, 110, 116, 101, 110, 116]⟩ 440 wx))
    case first =>
      by_cases hm : (m1 : Int) % 5 = 0
      · have hmb : ((m1 : Int) % 5 == 0) = true := by rw [beq_iff_eq]; exact hm
        have ba := (Below.refl A.heap.size A).alloc (Nat.le_refl _) (.cells #[.int .i64 0, .string ⟨#[104, 116, 116, 112, 58, 47, 47, 119, 119, 119, 46, 119, 51, 46, 111, 114, 103, 47, 49, 57, 57, 57, 47, 120, 104, 116, 109, 108]⟩, .string ⟨#[100, 105, 118]⟩, .slice none 0 0, .slice none 0 0, .string ⟨#[]⟩] 25)
        have gW := gA.out.on ba
        have x4 := gW.n.cell (i := 4) rfl
        have y4 := gA.out.n.cell (i := 4) rfl
        have hr := am_cells_row A [.int .i64 0, .string ⟨#[104, 116, 116, 112, 58, 47, 47, 119, 119, 119, 46, 119, 51, 46, 111, 114, 103, 47, 49, 57, 57, 57, 47, 120, 104, 116, 109, 108]⟩, .string ⟨#[100, 105, 118]⟩, .slice none 0 0, .slice none 0 0, .string ⟨#[]⟩] 25
        obtain ⟨css, hcl, hown, hkd⟩ := gW.kid
        have hkb := gW.kb
        have hlt := gW.n.lt
        replace gW := Lib.hid gW
        replace hkd := Lib.hid hkd
        go_wp2_with (at_builtin; refine wpList_append_lies _ rfl _ _ 23 rfl w1.heap.size 25 i0 _ 6 104 Tryz.underlying23 hi hz0 hz1 hz2 rfl (by decide) _ kdA.length css.flatten rfl hown ⟨A.heap.size, 0, none⟩ 1 1 [.int .i64 0, .string ⟨#[104, 116, 116, 112, 58, 47, 47, 119, 119, 119, 46, 119, 51, 46, 111, 114, 103, 47, 49, 57, 57, 57, 47, 120, 104, 116, 109, 108]⟩, .string ⟨#[100, 105, 118]⟩, .slice none 0 0, .slice none 0 0, .string ⟨#[]⟩] rfl rfl hr (by simp [Value.oneCell']) (by decide) (by unfold maxLen; omega) (by omega) gW.out.low.size _ rfl ?_)
        intro gg cap5 w6 hown5 hg5 hat5 hlt5
        have nW : Cells w6 w4.heap.size 25 _ := (hg5.block w4.heap.size hlt hkb).trans gW.out.n
        have s4 := nW.cell (i := 4) rfl
        have sf := nW.free 4
        clear nW
        have st9 := Lib.hid (KSt.moreKid (j := 100) (n := .mk 0 ⟨#[104, 116, 116, 112, 58, 47, 47, 119, 119, 119, 46, 119, 51, 46, 111, 114, 103, 47, 49, 57, 57, 57, 47, 120, 104, 116, 109, 108]⟩ ⟨#[100, 105, 118]⟩ [] [] ⟨#[]⟩) (c := [.int .i64 0, .string ⟨#[104, 116, 116, 112, 58, 47, 47, 119, 119, 119, 46, 119, 51, 46, 111, 114, 103, 47, 49, 57, 57, 57, 47, 120, 104, 116, 109, 108]⟩, .string ⟨#[100, 105, 118]⟩, .slice none 0 0, .slice none 0 0, .string ⟨#[]⟩]) gW.out hzA.out (by decide) hcl hkd.out (kid_new (k := A.heap.size) gA.out (node_plain _ _ 0 ⟨#[104, 116, 116, 112, 58, 47, 47, 119, 119, 119, 46, 119, 51, 46, 111, 114, 103, 47, 49, 57, 57, 57, 47, 120, 104, 116, 109, 108]⟩ ⟨#[100, 105, 118]⟩ ⟨#[]⟩) (Nat.le_refl _)) hown5 hg5 (hat5.imp (fun e => e.symm) (fun e => by rw [e]; first | rfl | simp [Value.ownBlock])))
        clear hown5 hg5 hat5 hlt5 hown hr ba x4 y4 hkb hlt
        go_wp2_with fail
        go_meet
        exact Lib.hid (KSt.le st9.out (by omega))
      · have hmb : ((m1 : Int) % 5 == 0) = false := by rw [beq_eq_false_iff_ne]; exact hm
        go_wp2_with fail
        go_meet
        exact Lib.hid (KSt.le hSA.out (by omega))
    case rest =>
    have hSB := hcut
    clear hcut
    generalize wc = B at *
    clear wc
    obtain ⟨aoB, caB, boB, cbB, asB, kdB, gB, hzB, laB, lkB⟩ := KSt.open' hSB.out
    have kB := Lib.hid (g5.out.same gB (show w.heap.size < w1.heap.size by have := l1.out; omega) k5.out)
    replace gB := Lib.hid gB
    replace hzB := Lib.hid hzB
    have nB := Lib.hid gB.out.n
    have qB := kB.out.cell (i := 1) rfl
    go_upto_if 129 with fail
    by_cases hm : (m1 : Int) % 7 = 0
    · have hmb : ((m1 : Int) % 7 == 0) = true := by rw [beq_iff_eq]; exact hm
      have ba := (Below.refl B.heap.size B).alloc (Nat.le_refl _) (.cells #[.string ⟨#[]⟩, .string ⟨#[115, 114, 99]⟩, .string ⟨#[115]⟩] 41)
      have gW := gB.out.on ba
      have x3 := gW.n.cell (i := 3) rfl
      have y3 := gB.out.n.cell (i := 3) rfl
      have hr := am_cells_row B [.string ⟨#[]⟩, .string ⟨#[115, 114, 99]⟩, .string ⟨#[115]⟩] 41
      have hown : World.ownsRow _ _ _ _ _ _ _ := gW.att
      have hlt := gW.n.lt
      have hne : some w4.heap.size ≠ (Value.slice aoB asB.length caB).ownBlock := fun e => km_cells_apart hown gW.n (by decide) e.symm
      replace gW := Lib.hid gW
      go_wp2_with (at_builtin; refine wpList_append_lies _ rfl _ _ 22 rfl w1.heap.size 41 j0 _ 3 48 Tryz.underlying22 ji jz0 jz1 jz2 rfl (by decide) _ asB.length (asB.flatMap attCells) rfl hown ⟨B.heap.size, 0, none⟩ 1 1 [.string ⟨#[]⟩, .string ⟨#[115, 114, 99]⟩, .string ⟨#[115]⟩] rfl rfl hr (by simp [Value.oneCell']) (by decide) (by unfold maxLen; omega) (by omega) gW.out.low.size _ rfl ?_)
      intro gg cap5 w6 hown5 hg5 hat5 hlt5
      have nW : Cells w6 w4.heap.size 25 _ := (hg5.block w4.heap.size hlt hne).trans gW.out.n
      have s4 := nW.cell (i := 3) rfl
      have sf := nW.free 3
      clear nW
      have st9 := Lib.hid (KSt.moreAtts gW.out hzB.out (by decide) hown5 hg5 (hat5.imp (fun e => e.symm) (fun e => by rw [e]; first | rfl | simp [Value.ownBlock])) (Nat.le_refl _))
      clear hown5 hg5 hat5 hlt5 hown hr ba x3 y3 hne hlt
      go_upto_region 27 with fail
      clear s4 sf
      generalize w6.setCell ⟨w4.heap.size, 3, none⟩ (.slice (some ⟨gg, 0, none⟩) (asB.length + 1) cap5) = w9 at *
      obtain ⟨ao, ca, bo, cb, as', kids, gE, hE, -, -⟩ := KSt.open' st9.out
      have zE := g5.out.same gE l1.out z5.out
      obtain ⟨x0, x1, x2, x3, x4, x5⟩ := node_open gE.n
      obtain ⟨z0, z1, z2, z3, z4, z5'⟩ := node_open (show Cells w9 _ _ (nodeArr 0 ⟨#[]⟩ ⟨#[]⟩ (.slice none 0 0) (.slice none 0 0) ⟨#[]⟩) from zE)
      have f0 := zE.free 0
      have f1 := zE.free 1
      have f2 := zE.free 2
      have f3 := zE.free 3
      have f4 := zE.free 4
      have f5 := zE.free 5
      have aE : amSp = ⟨#[104, 116, 116, 112, 58, 47, 47, 119, 119, 119, 46, 119, 51, 46, 111, 114, 103, 47, 50, 48, 48, 53, 47, 65, 116, 111, 109]⟩ := rfl
      rw [aE] at x1
      replace aE := Lib.hid aE
      replace gE := Lib.hid gE
      replace hE := Lib.hid hE
      replace zE := Lib.hid zE
      go_wp2_with fail
      exact kid_tail rfl rfl gE.out zE.out l1.out b1.out (Nat.le_trans hE.out (by omega))
    · have hmb : ((m1 : Int) % 7 == 0) = false := by rw [beq_eq_false_iff_ne]; exact hm
      obtain ⟨ao, ca, bo, cb, as', kids, gE, hE, -, -⟩ := KSt.open' hSB.out
      have zE := g5.out.same gE l1.out z5.out
      obtain ⟨x0, x1, x2, x3, x4, x5⟩ := node_open gE.n
      obtain ⟨z0, z1, z2, z3, z4, z5'⟩ := node_open (show Cells B _ _ (nodeArr 0 ⟨#[]⟩ ⟨#[]⟩ (.slice none 0 0) (.slice none 0 0) ⟨#[]⟩) from zE)
      have f0 := zE.free 0
      have f1 := zE.free 1
      have f2 := zE.free 2
      have f3 := zE.free 3
      have f4 := zE.free 4
      have f5 := zE.free 5
      have aE : amSp = ⟨#[104, 116, 116, 112, 58, 47, 47, 119, 119, 119, 46, 119, 51, 46, 111, 114, 103, 47, 50, 48, 48, 53, 47, 65, 116, 111, 109]⟩ := rfl
      rw [aE] at x1
      replace aE := Lib.hid aE
      replace gE := Lib.hid gE
      replace hE := Lib.hid hE
      replace zE := Lib.hid zE
      go_wp2_with fail
      exact kid_tail rfl rfl gE.out zE.out l1.out b1.out (Nat.le_trans hE.out (by omega))
  · obtain ⟨x0, x1, x2, x3, x4, x5⟩ := node_open g5.out.n
    obtain ⟨z0, z1, z2, z3, z4, z5'⟩ := node_open (show Cells w5 _ _ (nodeArr 0 ⟨#[]⟩ ⟨#[]⟩ (.slice none 0 0) (.slice none 0 0) ⟨#[]⟩) from z5.out)
    have f0 := z5.out.free 0
    have f1 := z5.out.free 1
    have f2 := z5.out.free 2
    have f3 := z5.out.free 3
    have f4 := z5.out.free 4
    have f5 := z5.out.free 5
    go_wp2_with fail
    exact kid_tail rfl rfl g5.out z5.out l1.out b1.out (by have := hwt.out; omega)
end Go.Proofs.YtbaclacfadkjdaaGreatDoor
