/-
  What the document's own words of references come to: Parse.
-/
import Derived.Test.YtmfmgbjkbadndaaRefLoc5
import Derived.Test.YtmfmgbjkbadndaaRefNames
namespace Go.Proofs.Ytmfmgbjkbadndaa
open Go.RowKit

namespace Lc
theorem scA_len (l : List UInt8) : (scA l).length ≤ l.length := by
  unfold scA
  split
  · exact cut_len _ _
  · simp
theorem scR_len (l : List UInt8) : (scR l).length ≤ l.length := by
  unfold scR
  split
  · have := rest_len l [58, 47, 63, 35]
    rw [List.length_drop]
    omega
  · omega
theorem hoA_len (l : List UInt8) : (hoA l).length ≤ l.length := by
  unfold hoA
  split
  · have := cut_len (l.drop 2) [47, 63, 35]
    rw [List.length_drop] at this
    omega
  · simp
theorem hoR_len (l : List UInt8) : (hoR l).length ≤ l.length := by
  unfold hoR
  split
  · have := rest_len (l.drop 2) [47, 63, 35]
    rw [List.length_drop] at this
    omega
  · omega
theorem quA_len (l : List UInt8) : (quA l).length ≤ l.length := by
  unfold quA
  split
  · have := cut_len l [35]
    rw [List.length_drop]
    omega
  · simp
theorem quR_len (l : List UInt8) : (quR l).length ≤ l.length := by
  unfold quR
  split
  · exact rest_len l [35]
  · omega
/-- The parts are no longer than the text. -/
theorem split_len (l : List UInt8) : (split l).scheme.length ≤ l.length ∧ (split l).host.length ≤ l.length ∧ (split l).path.length ≤ l.length ∧ (split l).query.length ≤ l.length ∧ (split l).frag.length ≤ l.length := by
  have h1 := scR_len l
  have h2 := hoR_len (scR l)
  have h3 := rest_len (hoR (scR l)) [63, 35]
  have h4 := quR_len (paR (hoR (scR l)))
  have h5 := hoA_len (scR l)
  have h6 := cut_len (hoR (scR l)) [63, 35]
  have h7 := quA_len (paR (hoR (scR l)))
  have h8 := scA_len l
  have h9 : (frA (quR (paR (hoR (scR l))))).length ≤ (quR (paR (hoR (scR l)))).length := by unfold frA; rw [List.length_drop]; omega
  unfold paR at *
  unfold split paA paR
  dsimp only
  exact ⟨by omega, by omega, by omega, by omega, by omega⟩
def fineU (u : U) : Bool := (!u.hasS || scheme u.scheme) && signs [91, 93] u.host && signs [47] u.path && signs [47, 63] u.query && signs [47, 63] u.frag
/-- May a text be a reference. -/
def fine (l : List UInt8) : Bool := decide (G.checkN l = 0) && fineU (split l)
def parseU (l : List UInt8) : U := if fine l = true then split l else none
def parseE (l : List UInt8) : Int := if fine l = true then 0 else 120
end Lc

set_option maxRecDepth 100000 in
set_option maxHeartbeats 12800000 in
theorem lParse_any (s : ByteArray) (w : World) (hs : s.size ≤ 1000000) : Calls Try.prog 12 #[.string s] w fun e w' => e = .returned (.tuple #[.agg (uArr (Lc.parseU s.data.toList)), .int .i64 (Lc.parseE s.data.toList)]) ∧ Below w.heap.size w w' := by
  have kR := Cells.new w 24 #[.string ⟨#[]⟩, .string ⟨#[]⟩, .string ⟨#[]⟩, .string ⟨#[]⟩, .string ⟨#[]⟩, .bool false, .bool false, .bool false, .bool false]
  have bR := (Below.refl w.heap.size w).alloc (Nat.le_refl _) (.cells #[.string ⟨#[]⟩, .string ⟨#[]⟩, .string ⟨#[]⟩, .string ⟨#[]⟩, .string ⟨#[]⟩, .bool false, .bool false, .bool false, .bool false] 24)
  have hsm : s.size ≤ maxLen := by unfold maxLen; omega
  have cs := Lib.hid (fun W => lSplit_any s W hs)
  have cc := Lib.hid (fun W => refCheck_any s W hsm)
  obtain ⟨L, hL⟩ : ∃ L, L = s.data.toList := ⟨_, rfl⟩
  have hfit : Hid (∀ l : List UInt8, l.length ≤ L.length → (Lc.str l).size ≤ 1000000) := Lib.hid (fun l h => by
    rw [Lc.str_size]
    rw [hL, list_len] at h
    omega)
  rw [← hL] at cs cc ⊢
  obtain ⟨u, hu⟩ : ∃ u, u = Lc.split L := ⟨_, rfl⟩
  obtain ⟨z0, z1, z2, z3, z4⟩ : _ ∧ _ ∧ _ ∧ _ ∧ _ := Lc.split_len L
  rw [← hu] at cs z0 z1 z2 z3 z4
  obtain ⟨ce, hce⟩ : ∃ ce, ce = G.checkN L := ⟨_, rfl⟩
  rw [← hce] at cc
  have hfu : Hid (Lc.fine L = (decide (ce = 0) && Lc.fineU u)) := Lib.hid (by rw [Lc.fine, ← hce, ← hu])
  have c0 := Lib.hid (fun W => lScheme_any (Lc.str u.scheme) W (hfit.out _ z0))
  have c1 := Lib.hid (fun W => lSigns_any (Lc.str u.host) ⟨#[91, 93]⟩ [91, 93] W (hfit.out _ z1) (by decide) rfl)
  have c2 := Lib.hid (fun W => lSigns_any (Lc.str u.path) ⟨#[47]⟩ [47] W (hfit.out _ z2) (by decide) rfl)
  have c3 := Lib.hid (fun W => lSigns_any (Lc.str u.query) ⟨#[47, 63]⟩ [47, 63] W (hfit.out _ z3) (by decide) rfl)
  have c4 := Lib.hid (fun W => lSigns_any (Lc.str u.frag) ⟨#[47, 63]⟩ [47, 63] W (hfit.out _ z4) (by decide) rfl)
  rw [Lc.str_list] at c0 c1 c2 c3 c4
  replace hL := Lib.hid hL
  replace hu := Lib.hid hu
  replace hce := Lib.hid hce
  clear z0 z1 z2 z3 z4 hfit hsm hs
  go_enter Try.func12, Try.ntmps12
  replace kR := Lib.hid kR
  go_wp2_with fail
  (refine (cs.out _).mono ?_); rintro e w1 ⟨rfl, b1⟩
  have kR1 := kR.out.on b1
  have bR1 := bR.trans (b1.mono bR.size)
  have kU := Cells.new w1 24 (uArr u)
  have bU := (Below.refl w1.heap.size w1).alloc (Nat.le_refl _) (.cells (uArr u) 24)
  have kR2 := kR1.on bU
  have bR2 := bR1.trans (bU.mono bR1.size)
  have hne : ¬ w.heap.size = w1.heap.size := by have := kR1.lt; omega
  clear kR kR1 bR1 b1 bU bR cs
  unfold uArr at kU kR2 bR2 ⊢
  go_upto_region 2 with fail
  generalize w1.alloc (.cells #[.string (Lc.str u.scheme), .string (Lc.str u.host), .string (Lc.str u.path), .string (Lc.str u.query), .string (Lc.str u.frag), .bool u.hasS, .bool u.hasH, .bool u.hasQ, .bool u.hasF] 24) = w2 at *
  replace kU := Lib.hid kU
  replace kR2 := Lib.hid kR2
  replace bR2 := Lib.hid bR2
  go_cut [43] (fun c wx => c = .bool (!Lc.fine L) ∧ Hid (Below w2.heap.size w2 wx))
  case first =>
    go_wp2_with fail
    (refine (cc.out _).mono ?_); rintro e w3 ⟨rfl, b3⟩
    obtain ⟨y0, y1, y2, y3, y4, y5, y6, y7, y8⟩ := uri_open (u := u) (kU.out.on b3)
    replace b3 := Lib.hid b3
    by_cases h0 : ce = 0
    case neg =>
      have h0i : ¬ (ce : Int) = 0 := by omega
      have h0b : ((ce : Int) != 0) = true := by rw [bne_iff_ne]; omega
      have hq : Hid (Lc.fine L = false) := Lib.hid (by rw [hfu.out, decide_eq_false h0]; rfl)
      clear h0
      go_wp2_with fail
      go_meet
      exact ⟨by rw [hq.out]; rfl, b3⟩
    have hq : Hid (Lc.fine L = Lc.fineU u) := Lib.hid (by rw [hfu.out, decide_eq_true h0]; rfl)
    have h0i : (ce : Int) = 0 := by omega
    have h0b : ((ce : Int) != 0) = false := by rw [bne_eq_false_iff_eq]; omega
    clear h0
    cases hS : u.hasS
    case false =>
      rw [hS] at y5
      replace hS := Lib.hid hS
      go_wp2_with fail
      (refine (c1.out _).mono ?_); rintro e w9 ⟨rfl, rfl⟩
      cases g1 : Lc.signs [91, 93] u.host
      case false =>
        have hf : Hid (Lc.fine L = false) := Lib.hid (by rw [hq.out, Lc.fineU, g1]; simp)
        replace g1 := Lib.hid g1
        go_wp2_with fail
        go_meet
        exact ⟨by rw [hf.out]; rfl, b3⟩
      replace g1 := Lib.hid g1
      go_wp2_with fail
      (refine (c2.out _).mono ?_); rintro e w9 ⟨rfl, rfl⟩
      cases g2 : Lc.signs [47] u.path
      case false =>
        have hf : Hid (Lc.fine L = false) := Lib.hid (by rw [hq.out, Lc.fineU, g2]; simp)
        replace g2 := Lib.hid g2
        go_wp2_with fail
        go_meet
        exact ⟨by rw [hf.out]; rfl, b3⟩
      replace g2 := Lib.hid g2
      go_wp2_with fail
      (refine (c3.out _).mono ?_); rintro e w9 ⟨rfl, rfl⟩
      cases g3 : Lc.signs [47, 63] u.query
      case false =>
        have hf : Hid (Lc.fine L = false) := Lib.hid (by rw [hq.out, Lc.fineU, g3]; simp)
        replace g3 := Lib.hid g3
        go_wp2_with fail
        go_meet
        exact ⟨by rw [hf.out]; rfl, b3⟩
      replace g3 := Lib.hid g3
      go_wp2_with fail
      (refine (c4.out _).mono ?_); rintro e w9 ⟨rfl, rfl⟩
      cases g4 : Lc.signs [47, 63] u.frag
      case false =>
        have hf : Hid (Lc.fine L = false) := Lib.hid (by rw [hq.out, Lc.fineU, g4]; simp)
        replace g4 := Lib.hid g4
        go_wp2_with fail
        go_meet
        exact ⟨by rw [hf.out]; rfl, b3⟩
      replace g4 := Lib.hid g4
      go_wp2_with fail
      have hf : Hid (Lc.fine L = true) := Lib.hid (by rw [hq.out, Lc.fineU, hS.out, g1.out, g2.out, g3.out, g4.out]; rfl)
      go_meet
      exact ⟨by rw [hf.out]; rfl, b3⟩
    rw [hS] at y5
    replace hS := Lib.hid hS
    go_wp2_with fail
    (refine (c0.out _).mono ?_); rintro e w9 ⟨rfl, rfl⟩
    cases g0 : Lc.scheme u.scheme
    case false =>
      have hf : Hid (Lc.fine L = false) := Lib.hid (by rw [hq.out, Lc.fineU, hS.out, g0]; simp)
      replace g0 := Lib.hid g0
      go_wp2_with fail
      go_meet
      exact ⟨by rw [hf.out]; rfl, b3⟩
    replace g0 := Lib.hid g0
    go_wp2_with fail
    (refine (c1.out _).mono ?_); rintro e w9 ⟨rfl, rfl⟩
    cases g1 : Lc.signs [91, 93] u.host
    case false =>
      have hf : Hid (Lc.fine L = false) := Lib.hid (by rw [hq.out, Lc.fineU, g1]; simp)
      replace g1 := Lib.hid g1
      go_wp2_with fail
      go_meet
      exact ⟨by rw [hf.out]; rfl, b3⟩
    replace g1 := Lib.hid g1
    go_wp2_with fail
    (refine (c2.out _).mono ?_); rintro e w9 ⟨rfl, rfl⟩
    cases g2 : Lc.signs [47] u.path
    case false =>
      have hf : Hid (Lc.fine L = false) := Lib.hid (by rw [hq.out, Lc.fineU, g2]; simp)
      replace g2 := Lib.hid g2
      go_wp2_with fail
      go_meet
      exact ⟨by rw [hf.out]; rfl, b3⟩
    replace g2 := Lib.hid g2
    go_wp2_with fail
    (refine (c3.out _).mono ?_); rintro e w9 ⟨rfl, rfl⟩
    cases g3 : Lc.signs [47, 63] u.query
    case false =>
      have hf : Hid (Lc.fine L = false) := Lib.hid (by rw [hq.out, Lc.fineU, g3]; simp)
      replace g3 := Lib.hid g3
      go_wp2_with fail
      go_meet
      exact ⟨by rw [hf.out]; rfl, b3⟩
    replace g3 := Lib.hid g3
    go_wp2_with fail
    (refine (c4.out _).mono ?_); rintro e w9 ⟨rfl, rfl⟩
    cases g4 : Lc.signs [47, 63] u.frag
    case false =>
      have hf : Hid (Lc.fine L = false) := Lib.hid (by rw [hq.out, Lc.fineU, g4]; simp)
      replace g4 := Lib.hid g4
      go_wp2_with fail
      go_meet
      exact ⟨by rw [hf.out]; rfl, b3⟩
    replace g4 := Lib.hid g4
    go_wp2_with fail
    have hf : Hid (Lc.fine L = true) := Lib.hid (by rw [hq.out, Lc.fineU, hS.out, g0.out, g1.out, g2.out, g3.out, g4.out]; rfl)
    go_meet
    exact ⟨by rw [hf.out]; rfl, b3⟩
  case rest =>
  obtain ⟨rfl, bx⟩ := hcut
  have kR3 := kR2.out.on bx.out
  have kU3 := kU.out.on bx.out
  have bR3 := bR2.out.trans (bx.out.mono bR2.out.size)
  obtain ⟨x0, x1, x2, x3, x4, x5, x6, x7, x8⟩ := zero_open (show Cells _ _ _ (uArr Lc.none) from kR3)
  have f0 := kR3.free 0
  have f1 := kR3.free 1
  have f2 := kR3.free 2
  have f3 := kR3.free 3
  have f4 := kR3.free 4
  have f5 := kR3.free 5
  have f6 := kR3.free 6
  have f7 := kR3.free 7
  have f8 := kR3.free 8
  obtain ⟨y0, y1, y2, y3, y4, y5, y6, y7, y8⟩ := uri_open (u := u) kU3
  have hN := Lib.hid (nine_cells (A := uArr Lc.none) rfl kR3 (.string (Lc.str u.scheme)) (.string (Lc.str u.host)) (.string (Lc.str u.path)) (.string (Lc.str u.query)) (.string (Lc.str u.frag)) (.bool u.hasS) (.bool u.hasH) (.bool u.hasQ) (.bool u.hasF))
  have hB := Lib.hid (nine_below bR3 (Nat.le_refl _) (.string (Lc.str u.scheme)) (.string (Lc.str u.host)) (.string (Lc.str u.path)) (.string (Lc.str u.query)) (.string (Lc.str u.frag)) (.bool u.hasS) (.bool u.hasH) (.bool u.hasQ) (.bool u.hasF))
  have hN2 := Lib.hid (nine_cells (A := uArr Lc.none) rfl kR3 (.string ⟨#[]⟩) (.string ⟨#[]⟩) (.string ⟨#[]⟩) (.string ⟨#[]⟩) (.string ⟨#[]⟩) (.bool false) (.bool false) (.bool false) (.bool false))
  have hB2 := Lib.hid (nine_below bR3 (Nat.le_refl _) (.string ⟨#[]⟩) (.string ⟨#[]⟩) (.string ⟨#[]⟩) (.string ⟨#[]⟩) (.string ⟨#[]⟩) (.bool false) (.bool false) (.bool false) (.bool false))
  clear kR3 kU3 bR3 bx kR2 kU bR2 hfu cc c0 c1 c2 c3 c4
  cases hq : Lc.fine L
  case true =>
    have hfin : Hid (Lc.parseU L = u ∧ Lc.parseE L = 0) := Lib.hid (by rw [Lc.parseU, Lc.parseE, hq, if_pos rfl, if_pos rfl]; exact ⟨hu.out.symm, rfl⟩)
    rw [show (!true) = false from rfl]
    replace hq := Lib.hid hq
    go_wp2_with fail
    exact uri_end2 (rb := w.heap.size) (u := u) rfl rfl rfl hN.out ⟨by rw [hfin.out.1, hfin.out.2], hB.out⟩
  case false =>
    have hfin : Hid (Lc.parseU L = Lc.none ∧ Lc.parseE L = 120) := Lib.hid (by rw [Lc.parseU, Lc.parseE, hq, if_neg (by simp), if_neg (by simp)]; exact ⟨rfl, rfl⟩)
    rw [show (!false) = true from rfl]
    replace hq := Lib.hid hq
    go_wp2_with fail
    exact uri_end2 (rb := w.heap.size) (u := Lc.none) rfl rfl rfl hN2.out ⟨by rw [hfin.out.1, hfin.out.2], hB2.out⟩
end Go.Proofs.Ytmfmgbjkbadndaa
