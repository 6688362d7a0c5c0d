/-
  THE PROGRAM's Print: the text of a tree that may be told; ErrLong, ErrForm.
  What the laws ask of any right program: two trees, told and refused.
-/
import Derived.Test.YtegaidfmkfnbnaaGreatDoorP18
namespace Go.Proofs.YtegaidfmkfnbnaaGreatDoor
open Go.RowKit

set_option maxRecDepth 100000 in
set_option maxHeartbeats 1600000 in
theorem isLong_any (B b : Nat) (l : List UInt8) (w : World) (h : Tells B b l w) (r : Bool) (hr : r = decide (100000 < l.length)) :
    Calls Tryz.prog 17 #[.pointer (some ⟨b, 0, none⟩)] w fun e w' => e = .returned (.bool r) ∧ w' = w := by
  have c := teller_len B b l w h
  have hl : (100000 : Int) < (l.length : Int) ↔ 100000 < l.length := by omega
  go_enter Tryz.func17, Tryz.ntmps17
  by_cases hh : 100000 < l.length
  · have hx := Lib.hid (show r = true by rw [hr]; simpa using hh)
    have g : (100000 : Int) < (l.length : Int) := by omega
    clear hr hl hh h
    go_wp2_with fail
    (with_reducible refine c.mono ?_); rintro e w1 ⟨rfl, rfl⟩
    go_wp2_with fail
    go_ret
    exact ⟨ret_of hx.out, rfl⟩
  · have hx := Lib.hid (show r = false by rw [hr]; simpa using hh)
    have g : ¬ (100000 : Int) < (l.length : Int) := by omega
    have g2 : decide ((100000 : Int) < (l.length : Int)) = false := by simpa using g
    clear hr hl hh h
    go_wp2_with fail
    (with_reducible refine c.mono ?_); rintro e w1 ⟨rfl, rfl⟩
    go_wp2_with fail
    go_ret
    exact ⟨ret_of hx.out, rfl⟩

theorem told_refl {B b : Nat} {w : World} {l : List UInt8} (h : Tells B b l w) : Told B b w l (.returned (.tuple #[])) w := ⟨rfl, h, Below.refl _ _, Keeps.refl _ _⟩
theorem flat1 (x : List UInt8) : ([⟨x.toArray⟩] : List ByteArray).flatMap lst = x := by simp [lst]

set_option maxRecDepth 100000 in
set_option maxHeartbeats 12800000 in
theorem node_step (f : Nat) (hf : f ≤ 30) (ih : ∀ g, f = g + 1 → NodeSpec g) : NodeSpec f := by
  intro B b l up c n w h hB hN hmay hz hl
  obtain ⟨k, sp, nm, d, as', kids, ao, bo, ca, cb, cs, rfl, rfl, hat, hrow, hk, hm1, hm2⟩ := hN.open'
  obtain ⟨z1, z2, z3, z4, z5⟩ := may_fits hz
  have b0 := (Below.refl w.heap.size w).alloc (Nat.le_refl _) (.cells (nodeArr k sp nm (.slice ao as'.length ca) (.slice bo kids.length cb) d) 25)
  have kA := Cells.new w 25 (nodeArr k sp nm (.slice ao as'.length ca) (.slice bo kids.length cb) d)
  have h0 := tells_below h b0
  have hB0 := Nat.le_trans hB b0.size
  obtain ⟨x0, x1, x2, x3, x4, x5⟩ := node_open kA
  replace kA := Lib.hid kA
  have hlong := isLong_any B b l _ h0 _ rfl
  go_enter Tryz.func16, Tryz.ntmps16
  by_cases hbig : 100000 < l.length
  · rw [show decide (100000 < l.length) = true by simpa using hbig] at hlong
    have hx := Lib.hid (Sc.told_long (f := f) (up := up) (n := .mk k sp nm as' kids d) hbig)
    have ht := Lib.hid (told_refl h0)
    clear hat hrow hk hm1 hm2 z1 z2 z3 z4 z5 hmay hz h h0 ih hN hbig hl
    unfold nodeArr at *
    go_wp2_with fail
    (with_reducible refine hlong.mono ?_); rintro e w1 ⟨rfl, rfl⟩
    go_wp2_with fail
    go_end0
    rw [hx.out]
    exact told_after b0 hB ht.out
  rw [show decide (100000 < l.length) = false by simpa using hbig] at hlong
  by_cases k0 : k = 0
  · subst k0
    obtain ⟨g, rfl, he, hkm⟩ := Sc.may_elem hmay rfl
    have c1 := element_any g (by omega) (ih g rfl) B b l up sp nm d as' kids ao bo ca cb cs _ h0 hB0 (hat.stay (stay_below b0)) (hrow.stay (stay_below b0)) (fun j h => (hk j h).on b0) he.many hm2 (Sc.kids_may hkm) hz (by omega) _ rfl
    have hx := Lib.hid (show Sc.told (g + 1) up (.mk 0 sp nm as' kids d) l = if kids.length = 0 then l ++ Sc.headText up (.mk 0 sp nm as' kids d) ++ [47, 62] else (kids.foldl (fun acc k => Sc.told g sp k acc) (l ++ Sc.headText up (.mk 0 sp nm as' kids d) ++ [62])) ++ 60 :: 47 :: (nm.data.toList ++ [62]) by
      rw [Sc.told, if_neg hbig, if_pos (show (Gv.Node.mk 0 sp nm as' kids d).kind = 0 from rfl)]
      rfl)
    rw [← hx.out] at c1
    clear hat hrow hk hm1 hm2 z1 z2 z3 z4 z5 hmay hz h h0 ih hN hbig hl he hkm hx
    unfold nodeArr at *
    go_wp2_with fail
    (with_reducible refine hlong.mono ?_); rintro e w1 ⟨rfl, rfl⟩
    go_wp2_with fail
    (with_reducible refine c1.mono ?_); rintro e w2 ⟨rfl, q⟩
    go_wp2_with fail
    go_end0
    exact told_after b0 hB ⟨rfl, q⟩
  have hleaf := (Sc.may_leaf hmay k0).1
  have hx := Lib.hid (show Sc.told f up (.mk k sp nm as' kids d) l = l ++ Sc.leafText (.mk k sp nm as' kids d) by
    cases f <;> (rw [Sc.told, if_neg hbig, if_neg (show ¬ (Gv.Node.mk k sp nm as' kids d).kind = 0 from k0)]))
  rw [hx.out]
  have hlt : Sc.leafText (.mk k sp nm as' kids d) = if k = 1 then E.escape false d.data.toList else if k = 2 then 60 :: 33 :: 45 :: 45 :: (d.data.toList ++ [45, 45, 62]) else 60 :: 63 :: (nm.data.toList ++ ((if d = ByteArray.empty then [] else 32 :: d.data.toList) ++ [63, 62])) := rfl
  rw [hlt]
  have g0 : (k == 0) = false := by simpa using k0
  clear hat hrow hk hm1 hm2 z4 z5 hmay hz h ih hN hx hlt
  by_cases k1 : k = 1
  · subst k1
    rw [if_pos rfl]
    have c1 := fun W => eEscape_at d false W z3
    have hle := E.escape_le false d.data.toList
    rw [list_len] at hle
    have c2 := fun w1 (b1 : Below (w.alloc (.cells (nodeArr 1 sp nm (.slice ao as'.length ca) (.slice bo kids.length cb) d) 25)).heap.size (w.alloc (.cells (nodeArr 1 sp nm (.slice ao as'.length ca) (.slice bo kids.length cb) d) 25)) w1) => tell_new [⟨(E.escape false d.data.toList).toArray⟩] (tells_below h0 b1) (Nat.le_trans hB0 b1.size) (by simp) (by rw [tot_le _ _ (flat1 _)]; omega)
    rw [flat1] at c2
    simp only [List.map_cons, List.map_nil, List.length_cons, List.length_nil, Nat.zero_add] at c2
    generalize E.escape false d.data.toList = x at *
    replace c2 := Lib.hid c2
    clear hleaf hl hbig h0 hle z1 z2
    unfold nodeArr at *
    go_wp2_with fail
    (with_reducible refine hlong.mono ?_); rintro e w1 ⟨rfl, rfl⟩
    go_wp2_with fail
    (with_reducible refine (c1 _).mono ?_); rintro e w1 ⟨rfl, b1⟩
    have c3 := c2.out w1 b1
    clear x0 x1 x2 x3 x4 x5
    go_wp2_with fail
    (with_reducible refine c3.mono ?_); rintro e w2 ⟨rfl, q⟩
    go_wp2_with fail
    go_end0
    exact told_after b0 hB (told_after b1 hB0 ⟨rfl, q⟩)
  have g1 : (k == 1) = false := by simpa using k1
  rw [if_neg k1]
  by_cases k2 : k = 2
  · subst k2
    rw [if_pos rfl]
    have t3 := flat3 [60, 33, 45, 45] [45, 45, 62] d
    have c2 := tell_new [⟨#[60, 33, 45, 45]⟩, d, ⟨#[45, 45, 62]⟩] h0 hB0 (by simp) (by rw [tot_le _ _ t3]; simp only [List.length_append, List.length_cons, List.length_nil, list_len]; omega)
    rw [t3] at c2
    simp only [List.map_cons, List.map_nil, List.length_cons, List.length_nil, Nat.zero_add, Nat.reduceAdd] at c2
    rw [World.size_alloc] at c2
    clear hleaf hl hbig h0 z1 z2 z3 t3
    unfold nodeArr at *
    go_wp2_with fail
    (with_reducible refine hlong.mono ?_); rintro e w1 ⟨rfl, rfl⟩
    go_wp2_with fail
    (with_reducible refine c2.mono ?_); rintro e w2 ⟨rfl, q⟩
    go_wp2_with fail
    go_end0
    exact told_after b0 hB ⟨rfl, q⟩
  have g2 : (k == 2) = false := by simpa using k2
  rw [if_neg k2]
  have k3 : k = 3 := by
    rw [show Sc.leafOk (.mk k sp nm as' kids d) = (decide (sp = ByteArray.empty) && decide (as'.length + kids.length = 0) && G.check d.data.toList && Sc.leafData k nm d) from rfl] at hleaf
    unfold Sc.leafData at hleaf
    rw [if_neg k1, if_neg k2] at hleaf
    by_cases k3 : k = 3
    · exact k3
    · rw [if_neg k3] at hleaf; simp at hleaf
  subst k3
  have c2 := instruction_any B b l 3 sp nm d (.slice ao as'.length ca) (.slice bo kids.length cb) ⟨_, _, _, rfl⟩ ⟨_, _, _, rfl⟩ _ h0 hB0 (by omega) z2 z3
  generalize l ++ 60 :: 63 :: (nm.data.toList ++ ((if d = ByteArray.empty then [] else 32 :: d.data.toList) ++ [63, 62])) = x at *
  clear hleaf hl hbig h0 z1 z2 z3
  unfold nodeArr at *
  go_wp2_with fail
  (with_reducible refine hlong.mono ?_); rintro e w1 ⟨rfl, rfl⟩
  go_wp2_with fail
  (with_reducible refine c2.mono ?_); rintro e w2 ⟨rfl, q⟩
  go_wp2_with fail
  go_end0
  exact told_after b0 hB ⟨rfl, q⟩

theorem node_any : ∀ (f : Nat), f ≤ 30 → NodeSpec f := by
  intro f
  induction f with
  | zero => exact fun hf => node_step 0 hf (fun g e => by cases e)
  | succ g ih => exact fun hf => node_step (g + 1) hf (fun g' e => by cases e; exact ih (by omega))

/-! ### Print -/
namespace Sc
/-- the text that is told, and the error. -/
def prE (n : Gv.Node) : Nat := if right n = false then 30 else if 100000 < (text n).length then 2 else 0
def prA (n : Gv.Node) : ByteArray := if right n = false then ByteArray.empty else if 100000 < (text n).length then ByteArray.empty else Gv.str (text n)
end Sc
theorem ret_pr {a b : ByteArray} {x y : Int} (h1 : a = b) (h2 : x = y) : Ending.returned (.tuple #[.string a, .int .i64 x]) = .returned (.tuple #[.string b, .int .i64 y]) := by rw [h1, h2]

set_option maxRecDepth 100000 in
set_option maxHeartbeats 6400000 in
/-- THE PROGRAM's Print. -/
theorem sPrint_any {S : Nat → Prop} (c : List Value) (n : Gv.Node) (w : World) (hN : NodeAt S w c n) (hz : Fits n) (hE : Env w) :
    Calls Tryz.prog 9 #[.agg c.toArray] w fun e w' => e = .returned (.tuple #[.string (Sc.prA n), .int .i64 (Sc.prE n : Nat)]) ∧ Below w.heap.size w w' := by
  have hN' : NodeAt (fun x => x < w.heap.size) w c n := hN.mono fun b _ hb => hb
  obtain ⟨k, sp, nm, d, as', kids, ao, bo, ca, cb, cs, en, ec, hat, hrow, hk, hm1, hm2⟩ := hN.open'
  have hc : c.toArray = nodeArr k sp nm (.slice ao as'.length ca) (.slice bo kids.length cb) d := by rw [ec]; rfl
  have b0 := (Below.refl w.heap.size w).alloc (Nat.le_refl _) (.cells (nodeArr k sp nm (.slice ao as'.length ca) (.slice bo kids.length cb) d) 25)
  have kA := Cells.new w 25 (nodeArr k sp nm (.slice ao as'.length ca) (.slice bo kids.length cb) d)
  obtain ⟨x0, x1, x2, x3, x4, x5⟩ := node_open kA
  have c1 := mayBe_any 30 (Nat.le_refl _) _ c n (hN.on b0) hz (hE.on b0)
  rw [show (30 : Int) - ((30 : Nat) : Int) = 0 by omega, hc] at c1
  have hkind : n.kind = k := by rw [en]; rfl
  rw [hc]
  by_cases k0 : k = 0
  case neg =>
    have e1 : Sc.right n = false := by unfold Sc.right; rw [hkind]; simp [k0]
    have q := Lib.hid (show Sc.prA n = ByteArray.empty ∧ Sc.prE n = 30 from ⟨by unfold Sc.prA; rw [if_pos e1], by unfold Sc.prE; rw [if_pos e1]⟩)
    have z : (k != 0) = true := by simpa using k0
    clear hN hN' hat hrow hk hm1 hm2 e1 hkind en ec hc c1 hz hE kA
    unfold nodeArr at *
    go_enter Tryz.func9, Tryz.ntmps9
    go_wp2_with fail
    go_ret2
    exact ⟨ret_pr q.out.1.symm (by rw [q.out.2]; rfl), b0⟩
  subst k0
  by_cases hm : Sc.may 30 n = true
  case neg =>
    have hmf : Sc.may 30 n = false := by simpa using hm
    rw [hmf] at c1
    have e1 : Sc.right n = false := by unfold Sc.right; rw [hmf]; simp
    have q := Lib.hid (show Sc.prA n = ByteArray.empty ∧ Sc.prE n = 30 from ⟨by unfold Sc.prA; rw [if_pos e1], by unfold Sc.prE; rw [if_pos e1]⟩)
    clear hN hN' hat hrow hk hm1 hm2 e1 hkind en ec hc hz hE kA hmf hm
    unfold nodeArr at *
    go_enter Tryz.func9, Tryz.ntmps9
    go_wp2_with fail
    (with_reducible refine c1.mono ?_); rintro e w1 ⟨rfl, b1⟩
    go_wp2_with fail
    go_ret2
    exact ⟨ret_pr q.out.1.symm (by rw [q.out.2]; rfl), b0.trans (b1.mono b0.size)⟩
  rw [hm] at c1
  have e1 : Sc.right n = true := by unfold Sc.right; rw [hkind, hm]; rfl
  have hal := Sc.told_alike 30 ByteArray.empty n hm []
  rw [List.nil_append] at hal
  have hne : Sc.text n ≠ [] := by
    have := Sc.spell_head (f := 30) (up := ByteArray.empty) hm (by rw [hkind]; decide)
    intro e
    rw [show Sc.spell 30 ByteArray.empty n = [] from e] at this
    cases this
  have c2 := fun (w1 : World) (hb : Below w.heap.size w w1) => node_any 30 (Nat.le_refl _) w1.heap.size w1.heap.size [] ByteArray.empty c n (w1.alloc (.cells #[.pointer none, .slice none 0 0] 46)) (tells_new w1) (by simp)
    (((hN'.on hb).mono fun x hx _ => Nat.lt_of_lt_of_le hx hb.size).on ((Below.refl w1.heap.size w1).alloc (Nat.le_refl _) (.cells #[.pointer none, .slice none 0 0] 46))) hm hz (by simp)
  rw [hc] at c2
  have hkeep := Lib.hid (fun W hb => node_open (kA.on (w' := W) hb))
  replace c2 := Lib.hid c2
  have hq : Sc.prA n = (if 100000 < (Sc.text n).length then ByteArray.empty else Gv.str (Sc.text n)) ∧ Sc.prE n = (if 100000 < (Sc.text n).length then 2 else 0) := ⟨by unfold Sc.prA; rw [if_neg (by rw [e1]; simp)], by unfold Sc.prE; rw [if_neg (by rw [e1]; simp)]⟩
  have hal2 : Sc.Alike (Sc.text n) (Sc.told 30 ByteArray.empty n []) := hal
  generalize Sc.told 30 ByteArray.empty n [] = y at *
  generalize Sc.text n = t at *
  replace hq := Lib.hid hq
  clear hN hN' hat hrow hk hm1 hm2 e1 hkind en ec hc hz hE hm hal
  replace kA := Lib.hid kA
  unfold nodeArr at *
  go_enter Tryz.func9, Tryz.ntmps9
  go_wp2_with fail
  (with_reducible refine c1.mono ?_); rintro e w1 ⟨rfl, b1⟩
  have bb := b0.trans (b1.mono b0.size)
  have c3 := c2.out w1 bb
  rw [show (.string ByteArray.empty : Value) = .string ⟨#[]⟩ from rfl] at c3
  have b2 := (Below.refl w1.heap.size w1).alloc (Nat.le_refl _) (.cells #[.pointer none, .slice none 0 0] 46)
  clear x0 x1 x2 x3 x4 x5
  obtain ⟨x0, x1, x2, x3, x4, x5⟩ := hkeep.out _ (b1.trans (b2.mono b1.size))
  clear c1
  have hy0 : y ≠ [] := by
    rcases hal2 with ⟨_, e⟩ | ⟨_, h2⟩
    · rw [e]; exact hne
    · intro e; rw [e] at h2; simp at h2
  go_wp2_with fail
  (with_reducible refine c3.mono ?_); rintro e w2 ⟨rfl, d1, d2, d3⟩
  have q2 := Lib.hid (bb.trans ((b2.trans ((d2.mono (Nat.le_refl _)))).mono bb.size))
  have c4 := isLong_any _ _ _ _ d1 _ rfl
  have c5 := teller_string _ _ _ _ d1 hy0
  have hbs := Lib.hid bb.size
  clear d1 d2 d3 b2 x0 x1 x2 x3 x4 x5 c3 bb b1
  rcases hal2 with ⟨h1, rfl⟩ | ⟨h1, h2⟩
  · have q := Lib.hid (show Sc.prA n = Gv.str y ∧ Sc.prE n = 0 from ⟨by rw [hq.out.1, if_neg (by omega)], by rw [hq.out.2, if_neg (by omega)]⟩)
    rw [show decide (100000 < y.length) = false by simpa using h1] at c4
    clear hq hne hy0 h1
    go_wp2_with fail
    (with_reducible refine c4.mono ?_); rintro e w3 ⟨rfl, rfl⟩
    go_wp2_with fail
    (with_reducible refine c5.mono ?_); rintro e w4 ⟨rfl, b4⟩
    go_wp2_with fail
    go_ret2
    exact ⟨ret_pr q.out.1.symm (by rw [q.out.2]; rfl), q2.out.trans (b4.mono hbs.out)⟩
  · have q := Lib.hid (show Sc.prA n = ByteArray.empty ∧ Sc.prE n = 2 from ⟨by rw [hq.out.1, if_pos h1], by rw [hq.out.2, if_pos h1]⟩)
    rw [show decide (100000 < y.length) = true by simpa using h2] at c4
    clear hq hne hy0 h1 h2 c5
    go_wp2_with fail
    (with_reducible refine c4.mono ?_); rintro e w3 ⟨rfl, rfl⟩
    go_wp2_with fail
    go_ret2
    exact ⟨ret_pr q.out.1.symm (by rw [q.out.2]; rfl), q2.out⟩
end Go.Proofs.YtegaidfmkfnbnaaGreatDoor
namespace Go.Proofs.YtegaidfmkfnbnaaGreatDoor
open Go.RowKit

def kid0 : Gv.Node := .mk 1 ByteArray.empty ByteArray.empty [] [] ⟨#[60]⟩
def node0 : Gv.Node := .mk 0 ⟨#[117]⟩ ⟨#[97]⟩ [⟨⟨#[118]⟩, ⟨#[98]⟩, ⟨#[49]⟩⟩] [kid0] ByteArray.empty
def bare0 : Gv.Node := .mk 0 ByteArray.empty ByteArray.empty [] [] ByteArray.empty
theorem node0_text : Sc.prA node0 = ⟨#[60, 97, 32, 120, 109, 108, 110, 115, 61, 34, 117, 34, 32, 120, 109, 108, 110, 115, 58, 110, 48, 61, 34, 118, 34, 32, 110, 48, 58, 98, 61, 34, 49, 34, 62, 38, 108, 116, 59, 60, 47, 97, 62]⟩ ∧ Sc.prE node0 = 0 := by decide +kernel
theorem bare0_text : Sc.prE bare0 = 30 := by decide +kernel
theorem fits0 : Fits node0 := .mk (by decide) (by decide) (by decide) (fun a ha => by
  obtain rfl := List.mem_singleton.1 ha
  decide) (fun n hn => by
  obtain rfl := List.mem_singleton.1 hn
  exact .mk (by decide) (by decide) (by decide) (fun a ha => by cases ha) (fun n hn => by cases hn))
theorem fitsb : Fits bare0 := .mk (by decide) (by decide) (by decide) (fun a ha => by cases ha) (fun n hn => by cases hn)
theorem node_bare (S : Nat → Prop) (w : World) (k : Int) (sp nm d : ByteArray) : NodeAt S w [.int .i64 k, .string sp, .string nm, .slice none 0 0, .slice none 0 0, .string d] (.mk k sp nm [] [] d) :=
  .mk (fun _ => []) ⟨by unfold maxLen; simp, by unfold maxLen; simp⟩ ⟨none, 0, rfl, Nat.le_refl _, fun j hj => by simp at hj⟩ ⟨none, 0, rfl, fun j hj => by simp at hj⟩ (fun j hj => by simp at hj)
theorem node0_at (w : World) : NodeAt (fun _ => True) ((w.alloc (.cells #[.string ⟨#[118]⟩, .string ⟨#[98]⟩, .string ⟨#[49]⟩] 40)).alloc (.cells (nodeArr 1 ⟨#[]⟩ ⟨#[]⟩ (.slice none 0 0) (.slice none 0 0) ⟨#[60]⟩) 25))
    [.int .i64 0, .string ⟨#[117]⟩, .string ⟨#[97]⟩, .slice (some ⟨w.heap.size, 0, none⟩) 1 1, .slice (some ⟨w.heap.size + 1, 0, none⟩) 1 1, .string ⟨#[]⟩] node0 := by
  have kA := (Cells.new w 40 #[.string ⟨#[118]⟩, .string ⟨#[98]⟩, .string ⟨#[49]⟩]).alloc (.cells (nodeArr 1 ⟨#[]⟩ ⟨#[]⟩ (.slice none 0 0) (.slice none 0 0) ⟨#[60]⟩) 25)
  have kB := Cells.new (w.alloc (.cells #[.string ⟨#[118]⟩, .string ⟨#[98]⟩, .string ⟨#[49]⟩] 40)) 25 (nodeArr 1 ⟨#[]⟩ ⟨#[]⟩ (.slice none 0 0) (.slice none 0 0) ⟨#[60]⟩)
  rw [World.size_alloc] at kB
  generalize (w.alloc (.cells #[.string ⟨#[118]⟩, .string ⟨#[98]⟩, .string ⟨#[49]⟩] 40)).alloc (.cells (nodeArr 1 ⟨#[]⟩ ⟨#[]⟩ (.slice none 0 0) (.slice none 0 0) ⟨#[60]⟩) 25) = w1 at *
  refine .mk (fun _ => [.int .i64 (1 : Int), .string ByteArray.empty, .string ByteArray.empty, .slice none 0 0, .slice none 0 0, .string ⟨#[60]⟩]) ⟨by unfold maxLen; simp, by unfold maxLen; simp⟩ ?_ ?_ ?_
  · refine ⟨_, _, rfl, Nat.le_refl _, fun j hj => ⟨w.heap.size, 0, rfl, trivial, fun i u hu => ?_⟩⟩
    obtain rfl : j = 0 := by simp at hj; omega
    rw [Nat.zero_mul, Nat.zero_add]
    refine kA.cell ?_
    simpa [attCells] using hu
  · refine ⟨_, _, rfl, fun j hj => ⟨rfl, w.heap.size + 1, 0, rfl, trivial, fun i u hu => ?_⟩⟩
    obtain rfl : j = 0 := by simp at hj; omega
    rw [Nat.zero_mul, Nat.zero_add]
    refine kB.cell ?_
    have hu' : ([.int .i64 (1 : Int), .string ByteArray.empty, .string ByteArray.empty, .slice none 0 0, .slice none 0 0, .string ⟨#[60]⟩] : List Value)[i]? = some u := hu
    unfold nodeArr
    rw [List.getElem?_toArray]
    exact hu'
  · intro j hj
    obtain rfl : j = 0 := by simp at hj; omega
    exact node_bare _ w1 1 ByteArray.empty ByteArray.empty ⟨#[60]⟩

set_option maxRecDepth 100000 in
set_option maxHeartbeats 6400000 in
theorem awake_any (w : World) (hE : Env w) : Calls Tryz.prog 8 #[] w fun e w' => e = .returned (.bool true) ∧ Below w.heap.size w w' := by
  have b0 := ((Below.refl w.heap.size w).alloc (Nat.le_refl _) (.cells #[.string ⟨#[118]⟩, .string ⟨#[98]⟩, .string ⟨#[49]⟩] 40)).alloc (by simp) (.cells (nodeArr 1 ⟨#[]⟩ ⟨#[]⟩ (.slice none 0 0) (.slice none 0 0) ⟨#[60]⟩) 25)
  have c1 := sPrint_any _ node0 _ (node0_at w) fits0 (hE.on b0)
  rw [node0_text.1, node0_text.2] at c1
  have c2 := Lib.hid (fun (W : World) (hb : Below w.heap.size w W) => sPrint_any _ bare0 W (node_bare (fun _ => True) W 0 ByteArray.empty ByteArray.empty ByteArray.empty) fitsb (hE.on hb))
  rw [bare0_text] at c2
  generalize Sc.prA bare0 = x at *
  clear hE
  unfold nodeArr at *
  go_enter Tryz.func8, Tryz.ntmps8
  go_wp2_with fail
  (with_reducible refine c1.mono ?_); rintro e w1 ⟨rfl, b1⟩
  have bb := b0.trans (b1.mono b0.size)
  have c3 := c2.out w1 bb
  rw [show (.string ByteArray.empty : Value) = .string ⟨#[]⟩ from rfl] at c3
  clear c1 c2
  go_wp2_with fail
  (with_reducible refine c3.mono ?_); rintro e w2 ⟨rfl, b2⟩
  go_wp2_with fail
  go_ret
  exact ⟨rfl, bb.trans (b2.mono bb.size)⟩
end Go.Proofs.YtegaidfmkfnbnaaGreatDoor
