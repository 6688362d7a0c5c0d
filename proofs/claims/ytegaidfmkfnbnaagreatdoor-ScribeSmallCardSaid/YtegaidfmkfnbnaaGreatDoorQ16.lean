/-
  What the document's own spelling of a tree comes to.
-/
import Derived.Test.YtegaidfmkfnbnaaGreatDoorQ15
namespace Go.Proofs.YtegaidfmkfnbnaaGreatDoor
open Go.RowKit

namespace Sc
/-- what follows so many attributes. -/
def tailA (f : Nat) (sp nm : ByteArray) (kids : List Gv.Node) : List UInt8 := if kids.length = 0 then [47, 62] else 62 :: (kids.flatMap (spell f sp) ++ 60 :: 47 :: (nm.data.toList ++ [62]))
def restA (j : Nat) (as' : List Gv.Att) (t : List UInt8) : List UInt8 := (rawsFrom j (as'.drop j)).flatMap one ++ t
theorem rest_step {j : Nat} {as' : List Gv.Att} {t : List UInt8} (h : j < as'.length) : restA j as' t = (rawAtt j as'[j]).flatMap one ++ restA (j + 1) as' t := by
  unfold restA
  rw [List.drop_eq_getElem_cons h, rawsFrom, List.flatMap_append, List.append_assoc]
theorem att_xml {j : Nat} {a : Gv.Att} (h : a.space = P.xmlS) : (rawAtt j a).flatMap one = 32 :: ([120, 109, 108, 58] ++ a.name.data.toList ++ 61 :: 34 :: (E.escape true a.value.data.toList ++ [34])) := by
  unfold rawAtt rawDecl rawName
  rw [if_pos h, if_pos h]
  simp [one]
theorem att_none {j : Nat} {a : Gv.Att} (h : a.space = ByteArray.empty) : (rawAtt j a).flatMap one = 32 :: (a.name.data.toList ++ 61 :: 34 :: (E.escape true a.value.data.toList ++ [34])) := by
  have h2 : ¬ a.space = P.xmlS := by rw [h]; decide +kernel
  unfold rawAtt rawDecl rawName
  rw [if_neg h2, if_neg h2, if_neg (by simpa using h), if_neg (by simpa using h)]
  simp [one]
theorem att_ns {j : Nat} {a : Gv.Att} (h : ¬ a.space = P.xmlS) (h2 : ¬ a.space = ByteArray.empty) : (rawAtt j a).flatMap one = [32, 120, 109, 108, 110, 115, 58] ++ 110 :: dig j ++ 61 :: 34 :: (E.escape true a.space.data.toList ++ [34]) ++ 32 :: (110 :: dig j ++ 58 :: a.name.data.toList ++ 61 :: 34 :: (E.escape true a.value.data.toList ++ [34])) := by
  unfold rawAtt rawDecl rawName
  rw [if_neg h, if_neg h, if_pos h2, if_pos h2]
  simp [one, nI]
theorem elem_text {f : Nat} {up sp nm d : ByteArray} {as' : List Gv.Att} {kids : List Gv.Node} : spell (f + 1) up (.mk 0 sp nm as' kids d) = 60 :: nm.data.toList ++ (if sp ≠ up then [32, 120, 109, 108, 110, 115, 61, 34] ++ E.escape true sp.data.toList ++ [34] else []) ++ restA 0 as' (tailA f sp nm kids) := by
  unfold spell restA tailA headText raws
  simp only [Gv.Node.kind, Gv.Node.name, Gv.Node.space, Gv.Node.attrs, Gv.Node.kids, List.drop_zero, if_true]
  by_cases h : sp = up
  · simp [h]
  · simp [h, one]
end Sc
theorem front_le {L X : List UInt8} {t : ByteArray} {k : Nat} (h : L = t.data.toList ++ X) (hk : L.length ≤ k) : t.size ≤ k := by
  have h1 := congrArg List.length h
  have h2 : t.data.toList.length = t.size := by rw [list_len]
  rw [List.length_append] at h1; omega
theorem esc_small {s : ByteArray} (h : s.size ≤ 1000000) : ∃ E1 : ByteArray, (⟨(E.escape true s.data.toList).toArray⟩ : ByteArray) = E1 ∧ E1.data.toList = E.escape true s.data.toList ∧ E1.size ≤ 6000000 := by
  refine ⟨_, rfl, by simp, ?_⟩
  have := Sc.escape_six true s.data.toList
  rw [list_len] at this
  have e : (⟨(E.escape true s.data.toList).toArray⟩ : ByteArray).size = (E.escape true s.data.toList).length := by rw [← list_len]
  omega
theorem dig_small (j : Nat) : ∃ D : ByteArray, (⟨(Sc.dig j).toArray⟩ : ByteArray) = D ∧ D.data.toList = Sc.dig j ∧ D.size ≤ 2 := by
  refine ⟨_, rfl, by simp, ?_⟩
  have := Sc.dig_le j
  have e : (⟨(Sc.dig j).toArray⟩ : ByteArray).size = (Sc.dig j).length := by rw [← list_len]
  omega
/-- a call that keeps what memory holds. -/
theorem keepS {f : FuncId} {args : Array Value} {v : Value} {S : World → Prop} {W : World} (hC : ∀ W, S W → Calls Tryz.prog f args W fun e w' => e = .returned v ∧ Below W.heap.size W w') (hS : ∀ W w', S W → Below W.heap.size W w' → S w') (h : S W) :
    Calls Tryz.prog f args W fun e w' => e = .returned v ∧ S w' :=
  (hC W h).mono fun _ w' he => ⟨he.1, hS W w' h he.2⟩

set_option maxRecDepth 100000 in
set_option maxHeartbeats 12800000 in
/-- AN ELEMENT. -/
theorem refSpellElem_any {S : Nat → Prop} (f : Nat) (sp nm d up : ByteArray) (as' : List Gv.Att) (kids : List Gv.Node) (ao bo : Option Addr) (ca cb : Nat) (cs : Nat → List Value) (w : World)
    (r : ByteArray) (hr : r = Gv.str (Sc.spell (f + 1) up (.mk 0 sp nm as' kids d))) (hlen : (Sc.spell (f + 1) up (.mk 0 sp nm as' kids d)).length ≤ 32000000)
    (hat : AttsAt S w (.slice ao as'.length ca) as') (h24 : as'.length ≤ 24) (haz : ∀ a ∈ as', a.space.size ≤ 1000000 ∧ a.name.size ≤ 1000000 ∧ a.value.size ≤ 1000000)
    (hl : RowsAt S w (.slice bo kids.length cb) kids.length cs) (hm : kids.length ≤ 1000000) (hn : ∀ j (h : j < kids.length), NodeAt S w (cs j) kids[j])
    (h1 : sp.size ≤ 1000000) (h2 : nm.size ≤ 1000000)
    (hcall : ∀ (W : World), Below w.heap.size w W → ∀ j (h : j < kids.length), Calls Tryz.prog 20 #[.agg (cs j).toArray, .string sp] W fun e w' => e = .returned (.string (Gv.str (Sc.spell f sp kids[j]))) ∧ Below W.heap.size W w') :
    Calls Tryz.prog 20 #[.agg (nodeArr 0 sp nm (.slice ao as'.length ca) (.slice bo kids.length cb) d), .string up] w fun e w' => e = .returned (.string r) ∧ Below w.heap.size w w' := by
  have b0 := (Below.refl w.heap.size w).alloc (Nat.le_refl _) (.cells (nodeArr 0 sp nm (.slice ao as'.length ca) (.slice bo kids.length cb) d) 25)
  have kA := Cells.new w 25 (nodeArr 0 sp nm (.slice ao as'.length ca) (.slice bo kids.length cb) d)
  have hshape : ∀ j (h : j < kids.length), ∃ (kk : Int) (ksp knm kd : ByteArray) (kao kbo : Option Addr) (ka kb kc1 kc2 : Nat), cs j = [.int .i64 kk, .string ksp, .string knm, .slice kao ka kc1, .slice kbo kb kc2, .string kd] := fun j h => by
    obtain ⟨_, _, _, _, _, _, _, _, _, _, _, _, e, _, _, _⟩ := (hn j h).open'
    exact ⟨_, _, _, _, _, _, _, _, _, _, e⟩
  replace hshape := Lib.hid hshape
  clear hn
  obtain ⟨E0, he0, he1, he2⟩ := esc_small h1
  have c0 := fun W => refEscape_any sp true W h1
  rw [he0] at c0
  have hL := Sc.elem_text (f := f) (up := up) (sp := sp) (nm := nm) (d := d) (as' := as') (kids := kids)
  rw [← he1] at hL
  have hrl : r.data.toList = Sc.spell (f + 1) up (.mk 0 sp nm as' kids d) := by rw [hr]; simp [Gv.str]
  generalize Sc.spell (f + 1) up (.mk 0 sp nm as' kids d) = L at *
  have hT := Lib.hid (rfl : Sc.tailA f sp nm kids = Sc.tailA f sp nm kids)
  replace hrl := Lib.hid hrl
  replace hL := Lib.hid hL
  replace hlen := Lib.hid hlen
  replace he1 := Lib.hid he1
  replace haz := Lib.hid haz
  replace hat := Lib.hid hat
  replace hl := Lib.hid hl
  replace hcall := Lib.hid hcall
  obtain ⟨ub, m1, m2, hU⟩ : ∃ ub : Bool, (sp.toList == up.toList) = !ub ∧ (sp.toList != up.toList) = ub ∧ Hid (ub = decide (sp ≠ up)) := by
    rcases two_is sp up with ⟨hu, m1, m2, m3⟩ | ⟨hu, m1, m2, m3⟩
    · exact ⟨true, m1, m3, Lib.hid hu.symm⟩
    · exact ⟨false, m1, m3, Lib.hid hu.symm⟩
  clear hr he0 hT
  have sA : (⟨#[32, 120, 109, 108, 110, 115, 61, 34]⟩ : ByteArray).size = 8 := rfl
  have sB : (⟨#[34]⟩ : ByteArray).size = 1 := rfl
  have sC : (⟨#[60]⟩ : ByteArray).size = 1 := rfl
  have sD : (⟨#[120, 109, 108, 58]⟩ : ByteArray).size = 4 := rfl
  have sE : (⟨#[110]⟩ : ByteArray).size = 1 := rfl
  have sF : (⟨#[32, 120, 109, 108, 110, 115, 58]⟩ : ByteArray).size = 7 := rfl
  have sG : (⟨#[61, 34]⟩ : ByteArray).size = 2 := rfl
  have sH : (⟨#[58]⟩ : ByteArray).size = 1 := rfl
  have sI : (⟨#[32]⟩ : ByteArray).size = 1 := rfl
  have sJ : (⟨#[47, 62]⟩ : ByteArray).size = 2 := rfl
  have sK : (⟨#[62]⟩ : ByteArray).size = 1 := rfl
  have sL : (⟨#[60, 47]⟩ : ByteArray).size = 2 := rfl
  unfold nodeArr at *
  obtain ⟨x0, x1, x2, x3, x4, x5⟩ := node_open kA
  have hc := Lib.hid (fun W hb => node_open (kA.on (w' := W) hb))
  replace kA := Lib.hid kA
  go_enter Tryz.func20, Tryz.ntmps20
  try generalize hW0 : w.alloc (.cells #[.int .i64 0, .string sp, .string nm, .slice ao as'.length ca, .slice bo kids.length cb, .string d] 25) = w0 at *
  go_upto_if 47 with fail
  go_cut [5] (fun x wx => ∃ t : ByteArray, x = .string t ∧ t.size ≤ 32000000 ∧ Hid (L = t.data.toList ++ Sc.restA 0 as' (Sc.tailA f sp nm kids)) ∧ Hid (Below w0.heap.size w0 wx))
  case first =>
    clear m1 m2
    cases ub
    case true =>
      have hu : sp ≠ up := by simpa using hU.out
      have q := Lib.hid (show L = ((⟨#[60]⟩ : ByteArray) ++ nm ++ ⟨#[32, 120, 109, 108, 110, 115, 61, 34]⟩ ++ E0 ++ ⟨#[34]⟩).data.toList ++ Sc.restA 0 as' (Sc.tailA f sp nm kids) by
        rw [hL.out, if_pos hu]; simp)
      have q2 := Lib.hid (front_le q.out hlen.out)
      clear hu
      go_wp2_with fail
      (with_reducible refine (c0 _).mono ?_); rintro e w1 ⟨rfl, rfl⟩
      go_wp2_with fail
      go_meet
      exact ⟨_, rfl, q2.out, q, Lib.hid (Below.refl _ _)⟩
    case false =>
      have hu : sp = up := by simpa using hU.out
      have q := Lib.hid (show L = ((⟨#[60]⟩ : ByteArray) ++ nm).data.toList ++ Sc.restA 0 as' (Sc.tailA f sp nm kids) by
        rw [hL.out, if_neg (by simpa using hu)]; simp)
      have q2 := Lib.hid (front_le q.out hlen.out)
      clear hu
      go_wp2_with fail
      go_meet
      exact ⟨_, rfl, q2.out, q, Lib.hid (Below.refl _ _)⟩
  case rest =>
    obtain ⟨t0, rfl, ht0, hI, BI⟩ := hcut
    clear hU m1 m2 c0 he1 he2 hL x0 x1 x2 x3 x4 x5
    clear E0
    go_wp2_with fail
    go_loopg [5, 6, 7, 8, 9] as'.length (fun gg s5 s6 _ _ _ wr => ∃ (j : Nat) (t : ByteArray), j ≤ as'.length ∧ as'.length - j ≤ gg ∧ s5 = .string t ∧ s6 = .int .i64 j ∧ t.size ≤ 32000000 ∧ Hid (L = t.data.toList ++ Sc.restA j as' (Sc.tailA f sp nm kids)) ∧ Hid (Below w0.heap.size w0 wr))
    case atStart => exact ⟨0, t0, Nat.zero_le _, by omega, rfl, rfl, ht0, hI, BI⟩
    case round =>
      obtain ⟨j, t, hj, hg, rfl, rfl, ht, hJ, BW⟩ := hrel
      clear hI BI ht0
      obtain ⟨x0, x1, x2, x3, x4, x5⟩ := hc.out _ BW.out
      have BB := Lib.hid (b0.trans (BW.out.mono b0.size))
      by_cases hlt : j < as'.length
      · have hltz : (j : Int) < (as'.length : Int) := by omega
        obtain ⟨z1, z2, z3⟩ := haz.out as'[j] (List.getElem_mem hlt)
        have hst := Sc.rest_step (j := j) (as' := as') (t := Sc.tailA f sp nm kids) hlt
        obtain ⟨b, off, rfl, p0, p1, p2⟩ := (hat.out.stay (stay_below BB.out)).cells hlt (sp := as'[j].space) (nm := as'[j].name) (va := as'[j].value) rfl
        obtain ⟨E2, v0, v1, v2⟩ := esc_small z3
        have cV := fun W => refEscape_any as'[j].value true W z3
        rw [v0] at cV
        obtain ⟨E1, y0, y1, y2⟩ := esc_small z1
        have cS := fun W => refEscape_any as'[j].space true W z1
        rw [y0] at cS
        obtain ⟨D, d0, d1, d2⟩ := dig_small j
        have cD := fun W => refDigitsN_any j W (by omega)
        rw [d0] at cD
        have aX := Lib.hid (Sc.att_xml (j := j) (a := as'[j]))
        have aN := Lib.hid (Sc.att_none (j := j) (a := as'[j]))
        have aS := Lib.hid (Sc.att_ns (j := j) (a := as'[j]))
        rw [← v1, ← y1, ← d1] at aS
        rw [← v1] at aX aN
        generalize (Sc.rawAtt j as'[j]).flatMap Sc.one = R at *
        generalize as'[j].space = us at *
        generalize as'[j].name = un at *
        generalize as'[j].value = uv at *
        have hJ2 := Lib.hid (hJ.out.trans (by rw [hst]) : L = t.data.toList ++ (R ++ Sc.restA (j + 1) as' (Sc.tailA f sp nm kids)))
        clear hJ hst v0 y0 d0 z1 z3 haz hat hl hcall hshape
        replace v1 := Lib.hid v1
        replace y1 := Lib.hid y1
        replace d1 := Lib.hid d1
        have bW := (Below.refl wr.heap.size wr).alloc (Nat.le_refl _) (.cells #[.string us, .string un, .string uv] 40)
        have kB := Cells.new wr 40 #[.string us, .string un, .string uv]
        have kC := Lib.hid (fun W hb => kB.on (w' := W) hb)
        have a0 := kB.cell (i := 0) (v := .string us) rfl
        have a1 := kB.cell (i := 1) (v := .string un) rfl
        have a2 := kB.cell (i := 2) (v := .string uv) rfl
        replace kB := Lib.hid kB
        have hX := two_is us P.xmlS
        rw [xmlS_lit] at hX
        have hE := nil_is (s := us)
        replace hE := Lib.hid hE
        replace cV := Lib.hid cV
        replace cS := Lib.hid cS
        replace cD := Lib.hid cD
        have bWW := Lib.hid (BW.out.trans (bW.mono BW.out.size))
        rcases hX with ⟨hx, m1, m2, m3⟩ | ⟨hx, m1, m2, m3⟩
        case inr =>
          have hx : us = P.xmlS := by simpa using hx
          have q := Lib.hid (show L = (t ++ ⟨#[32]⟩ ++ ((⟨#[120, 109, 108, 58]⟩ : ByteArray) ++ un) ++ ⟨#[61, 34]⟩ ++ E2 ++ ⟨#[34]⟩).data.toList ++ Sc.restA (j + 1) as' (Sc.tailA f sp nm kids) by
            rw [hJ2.out, aX.out hx]; simp)
          have q2 := Lib.hid (front_le q.out hlen.out)
          clear hx hJ2 aX aN aS hE cS cD y1 y2 d1 d2
          go_wp2_with fail
          (with_reducible refine (cV.out _).mono ?_); rintro e w1 ⟨rfl, rfl⟩
          go_wp2_with fail
          go_roundg (as'.length - (j + 1))
          case measure => omega
          case rel => exact ⟨j + 1, _, by omega, by omega, rfl, by go_num, q2.out, q, bWW⟩
        rcases hE.out with ⟨hy, n1, n2⟩ | ⟨hy, n1, n2⟩
        · have hy : us = ByteArray.empty := by simpa using hy
          have q := Lib.hid (show L = (t ++ ⟨#[32]⟩ ++ un ++ ⟨#[61, 34]⟩ ++ E2 ++ ⟨#[34]⟩).data.toList ++ Sc.restA (j + 1) as' (Sc.tailA f sp nm kids) by
            rw [hJ2.out, aN.out hy]; simp)
          have q2 := Lib.hid (front_le q.out hlen.out)
          clear hx hy hJ2 aX aN aS hE cS cD y1 y2 d1 d2
          go_wp2_with fail
          (with_reducible refine (cV.out _).mono ?_); rintro e w1 ⟨rfl, rfl⟩
          go_wp2_with fail
          go_roundg (as'.length - (j + 1))
          case measure => omega
          case rel => exact ⟨j + 1, _, by omega, by omega, rfl, by go_num, q2.out, q, bWW⟩
        · have hy : ¬ us = ByteArray.empty := by simpa using hy
          have hx : ¬ us = P.xmlS := by simpa using hx
          have q := Lib.hid (show L = (t ++ ⟨#[32, 120, 109, 108, 110, 115, 58]⟩ ++ ((⟨#[110]⟩ : ByteArray) ++ D) ++ ⟨#[61, 34]⟩ ++ E1 ++ ⟨#[34]⟩ ++ ⟨#[32]⟩ ++ ((⟨#[110]⟩ : ByteArray) ++ D ++ ⟨#[58]⟩ ++ un) ++ ⟨#[61, 34]⟩ ++ E2 ++ ⟨#[34]⟩).data.toList ++ Sc.restA (j + 1) as' (Sc.tailA f sp nm kids) by
            rw [hJ2.out, aS.out hx hy]; simp)
          have q2 := Lib.hid (front_le q.out hlen.out)
          clear hx hy hJ2 aX aN aS hE
          go_wp2_with fail
          clear p0 p1 p2 x0 x1 x2 x3 x4 x5
          (with_reducible refine (cD.out _).mono ?_); rintro e w1 ⟨rfl, b1⟩
          clear a0 a1 a2
          have kk := kC.out _ b1
          have a0 := kk.cell (i := 0) (v := .string us) rfl
          have a1 := kk.cell (i := 1) (v := .string un) rfl
          have a2 := kk.cell (i := 2) (v := .string uv) rfl
          have bW3 := Lib.hid (bWW.out.trans (b1.mono bWW.out.size))
          replace kk := Lib.hid kk
          clear cD b1 bW bWW
          go_wp2_with fail
          (with_reducible refine (cS.out _).mono ?_); rintro e w2 ⟨rfl, rfl⟩
          go_wp2_with fail
          (with_reducible refine (cV.out _).mono ?_); rintro e w3 ⟨rfl, rfl⟩
          go_wp2_with fail
          go_roundg (as'.length - (j + 1))
          case measure => omega
          case rel => exact ⟨j + 1, _, by omega, by omega, rfl, by go_num, q2.out, q, bW3⟩
      · have hltz : ¬ (j : Int) < (as'.length : Int) := by omega
        have hJ2 := hJ.out
        rw [show Sc.restA j as' (Sc.tailA f sp nm kids) = Sc.tailA f sp nm kids by unfold Sc.restA; rw [List.drop_eq_nil_of_le (by omega)]; rfl] at hJ2
        unfold Sc.tailA at hJ2
        by_cases hk0 : kids.length = 0
        · rw [if_pos hk0] at hJ2
          have hfin := Lib.hid (show t ++ ⟨#[47, 62]⟩ = r from bytes_eq (by rw [hrl.out, hJ2]; simp))
          have hk1 : ((kids.length : Int) == 0) = true := by simp [hk0]
          have hk2 : (kids.length : Int) = 0 := by omega
          clear hJ hJ2 hk0 hlt
          go_wp2_with fail
          go_ret
          exact ⟨ret_text hfin.out, BB.out⟩
        · rw [if_neg hk0] at hJ2
          have hK := Lib.hid (show L = (t ++ ⟨#[62]⟩).data.toList ++ ((kids.drop 0).flatMap (Sc.spell f sp) ++ 60 :: 47 :: (nm.data.toList ++ [62])) by rw [hJ2]; simp)
          have hkz := Lib.hid (front_le hK.out hlen.out)
          have hk1 : ((kids.length : Int) == 0) = false := by simp [hk0]
          have hk2 : ¬ (kids.length : Int) = 0 := by omega
          clear hJ hJ2 hk0 hlt
          go_wp2_with fail
          clear x0 x1 x2 x3 x4 x5
          go_loopg [5, 10] kids.length (fun gg s5 s10 wr => ∃ (j : Nat) (t : ByteArray), j ≤ kids.length ∧ kids.length - j ≤ gg ∧ s5 = .string t ∧ s10 = .int .i64 j ∧ t.size ≤ 32000000 ∧ Hid (L = t.data.toList ++ ((kids.drop j).flatMap (Sc.spell f sp) ++ 60 :: 47 :: (nm.data.toList ++ [62]))) ∧ Hid (Below w0.heap.size w0 wr))
          case atStart => exact ⟨0, _, Nat.zero_le _, by omega, rfl, rfl, hkz.out, hK, BW⟩
          case round =>
            clear hK hkz ht hj hg hltz BW BB
            obtain ⟨j2, t2, hj, hg, rfl, rfl, ht, hJ, BW⟩ := hrel
            obtain ⟨x0, x1, x2, x3, x4, x5⟩ := hc.out _ BW.out
            have BB := Lib.hid (b0.trans (BW.out.mono b0.size))
            by_cases hlt : j2 < kids.length
            · have hltz : (j2 : Int) < (kids.length : Int) := by omega
              obtain ⟨kk, ksp, knm, kdt, kao, kbo, ka, kb, kc1, kc2, hy⟩ := hshape.out j2 hlt
              have hJ2 := hJ.out
              rw [List.drop_eq_getElem_cons hlt, List.flatMap_cons] at hJ2
              have c1 := fun W hb => hcall.out W hb j2 hlt
              rw [hy] at c1
              obtain ⟨b, off, rfl, p0, p1, p2, p3, p4, p5⟩ := (hl.out.stay (stay_below BB.out)).cells hlt hy
              have hmk : (Gv.str (Sc.spell f sp kids[j2])).data.toList = Sc.spell f sp kids[j2] := by simp [Gv.str]
              rw [← hmk] at hJ2
              generalize Gv.str (Sc.spell f sp kids[j2]) = X at *
              have q := Lib.hid (show L = (t2 ++ X).data.toList ++ ((kids.drop (j2 + 1)).flatMap (Sc.spell f sp) ++ 60 :: 47 :: (nm.data.toList ++ [62])) by rw [hJ2]; simp)
              have q2 := Lib.hid (front_le q.out hlen.out)
              have hXz : X.size ≤ 32000000 := by
                have := q2.out
                rw [ByteArray.size_append] at this
                omega
              clear hJ hJ2 hmk hy
              have b0' := Lib.hid b0
              have hSB : ∀ W w', (W.cell? ⟨w.heap.size, 1, none⟩ = some (.string sp) ∧ W.cell? ⟨w.heap.size, 4, none⟩ = some (.slice (some ⟨b, off, none⟩) kids.length cb) ∧ W.cell? ⟨b, off + j2 * 6, none⟩ = some (.int .i64 kk) ∧ W.cell? ⟨b, off + j2 * 6 + 1, none⟩ = some (.string ksp) ∧ W.cell? ⟨b, off + j2 * 6 + 2, none⟩ = some (.string knm) ∧ W.cell? ⟨b, off + j2 * 6 + 3, none⟩ = some (.slice kao ka kc1) ∧ W.cell? ⟨b, off + j2 * 6 + 4, none⟩ = some (.slice kbo kb kc2) ∧ W.cell? ⟨b, off + j2 * 6 + 5, none⟩ = some (.string kdt) ∧ Below w0.heap.size w0 W) → Below W.heap.size W w' → (w'.cell? ⟨w.heap.size, 1, none⟩ = some (.string sp) ∧ w'.cell? ⟨w.heap.size, 4, none⟩ = some (.slice (some ⟨b, off, none⟩) kids.length cb) ∧ w'.cell? ⟨b, off + j2 * 6, none⟩ = some (.int .i64 kk) ∧ w'.cell? ⟨b, off + j2 * 6 + 1, none⟩ = some (.string ksp) ∧ w'.cell? ⟨b, off + j2 * 6 + 2, none⟩ = some (.string knm) ∧ w'.cell? ⟨b, off + j2 * 6 + 3, none⟩ = some (.slice kao ka kc1) ∧ w'.cell? ⟨b, off + j2 * 6 + 4, none⟩ = some (.slice kbo kb kc2) ∧ w'.cell? ⟨b, off + j2 * 6 + 5, none⟩ = some (.string kdt) ∧ Below w0.heap.size w0 w') := fun W w' ⟨g0, g1, g2, g3, g4, g5, g6, g7, g8⟩ hb => by
                have on := fun {a : Addr} {x : Value} (hx : W.cell? a = some x) => (hb.cell (World.block_lt_of_cell? W _ hx)).trans hx
                exact ⟨on g0, on g1, on g2, on g3, on g4, on g5, on g6, on g7, g8.trans (hb.mono g8.size)⟩
              have hC := fun W (h : (W.cell? ⟨w.heap.size, 1, none⟩ = some (.string sp) ∧ W.cell? ⟨w.heap.size, 4, none⟩ = some (.slice (some ⟨b, off, none⟩) kids.length cb) ∧ W.cell? ⟨b, off + j2 * 6, none⟩ = some (.int .i64 kk) ∧ W.cell? ⟨b, off + j2 * 6 + 1, none⟩ = some (.string ksp) ∧ W.cell? ⟨b, off + j2 * 6 + 2, none⟩ = some (.string knm) ∧ W.cell? ⟨b, off + j2 * 6 + 3, none⟩ = some (.slice kao ka kc1) ∧ W.cell? ⟨b, off + j2 * 6 + 4, none⟩ = some (.slice kbo kb kc2) ∧ W.cell? ⟨b, off + j2 * 6 + 5, none⟩ = some (.string kdt) ∧ Below w0.heap.size w0 W)) => keepS (f := 20) (fun W (h : (W.cell? ⟨w.heap.size, 1, none⟩ = some (.string sp) ∧ W.cell? ⟨w.heap.size, 4, none⟩ = some (.slice (some ⟨b, off, none⟩) kids.length cb) ∧ W.cell? ⟨b, off + j2 * 6, none⟩ = some (.int .i64 kk) ∧ W.cell? ⟨b, off + j2 * 6 + 1, none⟩ = some (.string ksp) ∧ W.cell? ⟨b, off + j2 * 6 + 2, none⟩ = some (.string knm) ∧ W.cell? ⟨b, off + j2 * 6 + 3, none⟩ = some (.slice kao ka kc1) ∧ W.cell? ⟨b, off + j2 * 6 + 4, none⟩ = some (.slice kbo kb kc2) ∧ W.cell? ⟨b, off + j2 * 6 + 5, none⟩ = some (.string kdt) ∧ Below w0.heap.size w0 W)) => c1 W (b0'.out.trans (h.2.2.2.2.2.2.2.2.mono b0'.out.size))) hSB h
              have s0 : (wr.drew.cell? ⟨w.heap.size, 1, none⟩ = some (.string sp) ∧ wr.drew.cell? ⟨w.heap.size, 4, none⟩ = some (.slice (some ⟨b, off, none⟩) kids.length cb) ∧ wr.drew.cell? ⟨b, off + j2 * 6, none⟩ = some (.int .i64 kk) ∧ wr.drew.cell? ⟨b, off + j2 * 6 + 1, none⟩ = some (.string ksp) ∧ wr.drew.cell? ⟨b, off + j2 * 6 + 2, none⟩ = some (.string knm) ∧ wr.drew.cell? ⟨b, off + j2 * 6 + 3, none⟩ = some (.slice kao ka kc1) ∧ wr.drew.cell? ⟨b, off + j2 * 6 + 4, none⟩ = some (.slice kbo kb kc2) ∧ wr.drew.cell? ⟨b, off + j2 * 6 + 5, none⟩ = some (.string kdt) ∧ Below w0.heap.size w0 wr.drew) := hSB wr wr.drew ⟨x1, x4, p0, p1, p2, p3, p4, p5, BW.out⟩ (Below.refl _ _).drew
              have hC := Lib.hid hC
              clear hSB c1 hcall hshape hl
              have hn1 : ¬ 9223372036854775807 < t2.size + X.size := by omega
              go_wp2_with fail
              go_region_held3 (fun w' => w'.cell? ⟨w.heap.size, 1, none⟩ = some (.string sp) ∧ w'.cell? ⟨w.heap.size, 4, none⟩ = some (.slice (some ⟨b, off, none⟩) kids.length cb) ∧ w'.cell? ⟨b, off + j2 * 6, none⟩ = some (.int .i64 kk) ∧ w'.cell? ⟨b, off + j2 * 6 + 1, none⟩ = some (.string ksp) ∧ w'.cell? ⟨b, off + j2 * 6 + 2, none⟩ = some (.string knm) ∧ w'.cell? ⟨b, off + j2 * 6 + 3, none⟩ = some (.slice kao ka kc1) ∧ w'.cell? ⟨b, off + j2 * 6 + 4, none⟩ = some (.slice kbo kb kc2) ∧ w'.cell? ⟨b, off + j2 * 6 + 5, none⟩ = some (.string kdt) ∧ Below w0.heap.size w0 w') (first | exact s0 | assumption)
                (first
                  | (go_at_call 20; refine (hC.out _ ?_).mono ?_; assumption; rintro e w' ⟨rfl, hcb⟩))
              all_goals
                have bw3 := Lib.hid hcb.2.2.2.2.2.2.2.2
                clear hcb s0 x0 x1 x2 x3 x4 x5 p0 p1 p2 p3 p4 p5 hC
                go_wp2_with fail
                go_roundg (kids.length - (j2 + 1))
                case measure => omega
                case rel => exact ⟨j2 + 1, _, by omega, by omega, rfl, by go_num, q2.out, q, bw3⟩
            · have hltz : ¬ (j2 : Int) < (kids.length : Int) := by omega
              have hfin := Lib.hid (show t2 ++ ⟨#[60, 47]⟩ ++ nm ++ ⟨#[62]⟩ = r from bytes_eq (by rw [hrl.out, hJ.out, List.drop_eq_nil_of_le (by omega)]; simp))
              clear hJ hlt hl hcall hshape
              go_wp2_with fail
              go_ret
              exact ⟨ret_text hfin.out, BB.out⟩

theorem kidsGo_mem {m : Gv.Node → Bool} : ∀ {l : List Gv.Node} {p : Option Int}, Sc.kidsGo m p l = true → ∀ n ∈ l, m n = true
  | [], _, _, n, h => by cases h
  | a :: l, p, hh, n, h => by
    rw [Sc.kidsGo] at hh
    simp only [Bool.and_eq_true] at hh
    rcases List.mem_cons.1 h with rfl | h
    · exact hh.1.1
    · exact kidsGo_mem hh.2 n h
theorem leaf_kind {f : Nat} {k : Int} {sp nm d : ByteArray} {as' : List Gv.Att} {kids : List Gv.Node} (k0 : ¬ k = 0) (h : Sc.may f (.mk k sp nm as' kids d) = true) : k = 1 ∨ k = 2 ∨ k = 3 := by
  have h2 : Sc.leafOk (.mk k sp nm as' kids d) = true := by
    rw [← h]; cases f <;> simp [Sc.may, Gv.Node.kind, k0]
  unfold Sc.leafOk at h2
  rw [Bool.and_eq_true] at h2
  have h3 : Sc.leafData k nm d = true := h2.2
  unfold Sc.leafData at h3
  by_cases k1 : k = 1
  · exact .inl k1
  · rw [if_neg k1] at h3
    by_cases k2 : k = 2
    · exact .inr (.inl k2)
    · rw [if_neg k2] at h3
      by_cases k3 : k = 3
      · exact .inr (.inr k3)
      · rw [if_neg k3] at h3; cases h3
/-- THE DOCUMENT'S TEXT of a node that may be told. -/
theorem refSpell_any {S : Nat → Prop} : ∀ (f : Nat) (w : World) (c : List Value) (n : Gv.Node) (up : ByteArray), NodeAt S w c n → Gv.wt n ≤ 1000000 → Sc.may f n = true →
    Calls Tryz.prog 20 #[.agg c.toArray, .string up] w fun e w' => e = .returned (.string (Gv.str (Sc.spell f up n))) ∧ Below w.heap.size w w' := by
  intro f
  induction f with
  | zero =>
    intro w c n up hn hz hmay
    obtain ⟨k, sp, nm, d, as', kids, ao, bo, ca, cb, cs, rfl, rfl, hat, hl, hk, hm1, hm2⟩ := hn.open'
    obtain ⟨z1, z2, z3, z4, z5, z6, z7⟩ := Gv.wt_parts hz
    have k0 : ¬ k = 0 := fun e => by subst e; simp [Sc.may, Gv.Node.kind] at hmay
    have hkind : k = 1 ∨ k = 2 ∨ k = 3 := leaf_kind (f := 0) k0 hmay
    exact refSpellLeaf_any k hkind sp nm d up as' kids _ _ _ (by unfold Sc.spell; rw [if_neg (by simpa [Gv.Node.kind] using k0)]) w z2 z3
  | succ f ih =>
    intro w c n up hn hz hmay
    obtain ⟨k, sp, nm, d, as', kids, ao, bo, ca, cb, cs, rfl, rfl, hat, hl, hk, hm1, hm2⟩ := hn.open'
    obtain ⟨z1, z2, z3, z4, z5, z6, z7⟩ := Gv.wt_parts hz
    by_cases k0 : k = 0
    · subst k0
      have hm : (Sc.elemOk (.mk 0 sp nm as' kids d) && Sc.kidsGo (Sc.may f) none kids) = true := by
        have := hmay
        unfold Sc.may at this
        rwa [if_pos (by rfl)] at this
      rw [Bool.and_eq_true] at hm
      have h24 : as'.length ≤ 24 := by
        have := hm.1
        unfold Sc.elemOk at this
        simp only [Bool.and_eq_true, decide_eq_true_eq] at this
        exact this.1.1.1.1.1
      exact refSpellElem_any f sp nm d up as' kids ao bo ca cb cs w _ rfl (Nat.le_trans (Sc.spell_le _ _ _) (by omega)) hat h24 z4 hl z7 hk z1 z2 (fun W hb j h => ih W (cs j) kids[j] sp ((hk j h).on hb) (z5 _ (List.getElem_mem h)) (kidsGo_mem hm.2 _ (List.getElem_mem h)))
    · have hkind : k = 1 ∨ k = 2 ∨ k = 3 := leaf_kind (f := f + 1) k0 hmay
      exact refSpellLeaf_any k hkind sp nm d up as' kids _ _ _ (by unfold Sc.spell; rw [if_neg (by simpa [Gv.Node.kind] using k0)]) w z2 z3
end Go.Proofs.YtegaidfmkfnbnaaGreatDoor
