/-
  The statements' walks: LocatorTexts.
-/
import Derived.Test.YtmfmgbjkbadndaaLocLaw5
import Derived.Test.YtmfmgbjkbadndaaLocLaw2
import Derived.Deep.RegionHeld3
namespace Go.Proofs.Ytmfmgbjkbadndaa
open Go.RowKit

set_option maxRecDepth 100000 in
set_option maxHeartbeats 12800000 in
theorem texts_any (s t : ByteArray) (w : World) (hs : s.size ≤ maxLen) (ht : t.size ≤ maxLen) (hE : Env w) : Calls Try.prog 5 #[.string s, .string t] w fun e w' => e = .returned (.bool true) ∧ Below w.heap.size w w' := by
  unfold maxLen at hs ht
  have ca := Lib.hid (fun W (h : Env W) => awake_any W h)
  go_enter Try.func5, Try.ntmps5
  by_cases h1 : 1000 < s.size
  case pos =>
    have h1i : (1000 : Int) < (s.size : Int) := by omega
    have ca' := Lib.hid (ca.out w hE)
    go_wp2_with fail
    (refine ca'.out.mono ?_); rintro e w9 ⟨rfl, b9⟩
    go_wp2_with fail
    go_ret
    exact ⟨rfl, b9⟩
  have h1i : ¬ (1000 : Int) < (s.size : Int) := by omega
  have h1b : decide ((1000 : Int) < (s.size : Int)) = false := by simpa using h1i
  by_cases h2 : 1000 < t.size
  case pos =>
    have h2i : (1000 : Int) < (t.size : Int) := by omega
    have ca' := Lib.hid (ca.out w hE)
    go_wp2_with fail
    (refine ca'.out.mono ?_); rintro e w9 ⟨rfl, b9⟩
    go_wp2_with fail
    go_ret
    exact ⟨rfl, b9⟩
  have h2i : ¬ (1000 : Int) < (t.size : Int) := by omega
  have h2b : decide ((1000 : Int) < (t.size : Int)) = false := by simpa using h2i
  have hsb := Lib.hid (Lc.small_split (s := s) (by omega))
  have hsr := Lib.hid (Lc.small_split (s := t) (by omega))
  have c1 := Lib.hid (fun W => lSplit_any s W (by omega))
  have c2 := Lib.hid (fun W => lSplit_any t W (by omega))
  have hps : Lc.str (Lc.print (Lc.split s.data.toList)) = s := by rw [Lc.print_split, ← Lc.str_of rfl]
  have hsz := Lib.hid (show s.size ≤ 100000 by omega)
  obtain ⟨b, hbd⟩ : ∃ b, b = Lc.split s.data.toList := ⟨_, rfl⟩
  obtain ⟨r, hrd⟩ : ∃ r, r = Lc.split t.data.toList := ⟨_, rfl⟩
  rw [← hbd] at c1 hsb hps
  rw [← hrd] at c2 hsr
  clear hbd hrd
  replace hps := Lib.hid hps
  go_wp2_with fail
  (refine (c1.out _).mono ?_); rintro e w1 ⟨rfl, b1⟩
  go_wp2_with fail
  (refine (c2.out _).mono ?_); rintro e w2 ⟨rfl, b2⟩
  have g2 := b1.trans (b2.mono b1.size)
  have kb5 : Cells ((w2.alloc (.cells #[.string (Lc.str b.scheme), .string (Lc.str b.host), .string (Lc.str b.path), .string (Lc.str b.query), .string (Lc.str b.frag), .bool b.hasS, .bool b.hasH, .bool b.hasQ, .bool b.hasF] 24)).alloc (.cells #[.string (Lc.str r.scheme), .string (Lc.str r.host), .string (Lc.str r.path), .string (Lc.str r.query), .string (Lc.str r.frag), .bool r.hasS, .bool r.hasH, .bool r.hasQ, .bool r.hasF] 24)) w2.heap.size 24 (uArr b) := (Cells.new w2 24 (uArr b)).alloc _
  have kr5 : Cells ((w2.alloc (.cells #[.string (Lc.str b.scheme), .string (Lc.str b.host), .string (Lc.str b.path), .string (Lc.str b.query), .string (Lc.str b.frag), .bool b.hasS, .bool b.hasH, .bool b.hasQ, .bool b.hasF] 24)).alloc (.cells #[.string (Lc.str r.scheme), .string (Lc.str r.host), .string (Lc.str r.path), .string (Lc.str r.query), .string (Lc.str r.frag), .bool r.hasS, .bool r.hasH, .bool r.hasQ, .bool r.hasF] 24)) (w2.heap.size + 1) 24 (uArr r) := by
    have := Cells.new (w2.alloc (.cells #[.string (Lc.str b.scheme), .string (Lc.str b.host), .string (Lc.str b.path), .string (Lc.str b.query), .string (Lc.str b.frag), .bool b.hasS, .bool b.hasH, .bool b.hasQ, .bool b.hasF] 24)) 24 (uArr r)
    rw [World.size_alloc] at this
    exact this
  have g5 : Below w.heap.size w ((w2.alloc (.cells #[.string (Lc.str b.scheme), .string (Lc.str b.host), .string (Lc.str b.path), .string (Lc.str b.query), .string (Lc.str b.frag), .bool b.hasS, .bool b.hasH, .bool b.hasQ, .bool b.hasF] 24)).alloc (.cells #[.string (Lc.str r.scheme), .string (Lc.str r.host), .string (Lc.str r.path), .string (Lc.str r.query), .string (Lc.str r.frag), .bool r.hasS, .bool r.hasH, .bool r.hasQ, .bool r.hasF] 24)) := (g2.alloc g2.size _).alloc (by have := g2.size; simp; omega) _
  clear b1 b2 g2 c1 c2
  unfold uArr
  go_upto_region 4 with fail
  generalize (w2.alloc (.cells #[.string (Lc.str b.scheme), .string (Lc.str b.host), .string (Lc.str b.path), .string (Lc.str b.query), .string (Lc.str b.frag), .bool b.hasS, .bool b.hasH, .bool b.hasQ, .bool b.hasF] 24)).alloc (.cells #[.string (Lc.str r.scheme), .string (Lc.str r.host), .string (Lc.str r.path), .string (Lc.str r.query), .string (Lc.str r.frag), .bool r.hasS, .bool r.hasH, .bool r.hasQ, .bool r.hasF] 24) = w5 at *
  generalize hB1 : w2.heap.size + 1 = B1 at *
  generalize w2.heap.size = B0 at *
  clear hB1
  replace g5 := Lib.hid g5
  have hEW := Lib.hid (fun W (h : Below w5.heap.size w5 W) => hE.on (g5.out.trans (h.mono g5.out.size)))
  have d0 := Lib.hid (fun W h => ca.out W (hEW.out W h))
  have d1 := fun W h => pPrint_any b W hsb.out (hEW.out W h)
  rw [hps.out] at d1
  have d3 := fun W h => pDots_any s W hsz.out (hEW.out W h)
  have d4 : ∀ W, Below w5.heap.size w5 W → Calls Try.prog 17 #[.string s] W fun e w' => e = .returned (.string (Lc.str (Lc.dots s.data.toList))) ∧ Below W.heap.size W w' := fun W _ => (lDots_any s W (Nat.le_trans hsz.out (by omega))).mono fun _ _ ⟨h1, h2⟩ => ⟨h1, by rw [← h2]; exact Below.refl _ _⟩
  have d5 := fun W h => pResolve_any b r W hsb.out hsr.out (hEW.out W h)
  have d6 := fun W (_ : Below w5.heap.size w5 W) => lResolve_any b r W hsb.out hsr.out
  generalize Lc.resolve b r = u at *
  generalize Lc.str (Lc.dots s.data.toList) = sd at *
  unfold uArr at d1 d5 d6
  replace d1 := Lib.hid d1
  replace d3 := Lib.hid d3
  replace d4 := Lib.hid d4
  replace d5 := Lib.hid d5
  replace d6 := Lib.hid d6
  obtain ⟨x0, x1, x2, x3, x4, x5, x6, x7, x8⟩ := uri_open kb5
  obtain ⟨y0, y1, y2, y3, y4, y5, y6, y7, y8⟩ := uri_open kr5
  clear kb5 kr5 ca hE hEW h1 h1i h1b h2 h2i h2b hs ht
  go_region_held3 (fun w' => w'.cell? ⟨B0, 0, none⟩ = some (.string (Lc.str b.scheme)) ∧ w'.cell? ⟨B0, 1, none⟩ = some (.string (Lc.str b.host)) ∧ w'.cell? ⟨B0, 2, none⟩ = some (.string (Lc.str b.path)) ∧ w'.cell? ⟨B0, 3, none⟩ = some (.string (Lc.str b.query)) ∧ w'.cell? ⟨B0, 4, none⟩ = some (.string (Lc.str b.frag)) ∧ w'.cell? ⟨B0, 5, none⟩ = some (.bool b.hasS) ∧ w'.cell? ⟨B0, 6, none⟩ = some (.bool b.hasH) ∧ w'.cell? ⟨B0, 7, none⟩ = some (.bool b.hasQ) ∧ w'.cell? ⟨B0, 8, none⟩ = some (.bool b.hasF) ∧ w'.cell? ⟨B1, 0, none⟩ = some (.string (Lc.str r.scheme)) ∧ w'.cell? ⟨B1, 1, none⟩ = some (.string (Lc.str r.host)) ∧ w'.cell? ⟨B1, 2, none⟩ = some (.string (Lc.str r.path)) ∧ w'.cell? ⟨B1, 3, none⟩ = some (.string (Lc.str r.query)) ∧ w'.cell? ⟨B1, 4, none⟩ = some (.string (Lc.str r.frag)) ∧ w'.cell? ⟨B1, 5, none⟩ = some (.bool r.hasS) ∧ w'.cell? ⟨B1, 6, none⟩ = some (.bool r.hasH) ∧ w'.cell? ⟨B1, 7, none⟩ = some (.bool r.hasQ) ∧ w'.cell? ⟨B1, 8, none⟩ = some (.bool r.hasF) ∧ Below w5.heap.size w5 w') (first | exact ⟨x0, x1, x2, x3, x4, x5, x6, x7, x8, y0, y1, y2, y3, y4, y5, y6, y7, y8, (Below.refl _ _).drew⟩ | assumption)
    (first
        | (go_at_call 10; refine (keep18 (w0 := w5) (a0 := ⟨B0, 0, none⟩) (a1 := ⟨B0, 1, none⟩) (a2 := ⟨B0, 2, none⟩) (a3 := ⟨B0, 3, none⟩) (a4 := ⟨B0, 4, none⟩) (a5 := ⟨B0, 5, none⟩) (a6 := ⟨B0, 6, none⟩) (a7 := ⟨B0, 7, none⟩) (a8 := ⟨B0, 8, none⟩) (a9 := ⟨B1, 0, none⟩) (a10 := ⟨B1, 1, none⟩) (a11 := ⟨B1, 2, none⟩) (a12 := ⟨B1, 3, none⟩) (a13 := ⟨B1, 4, none⟩) (a14 := ⟨B1, 5, none⟩) (a15 := ⟨B1, 6, none⟩) (a16 := ⟨B1, 7, none⟩) (a17 := ⟨B1, 8, none⟩) (x0 := .string (Lc.str b.scheme)) (x1 := .string (Lc.str b.host)) (x2 := .string (Lc.str b.path)) (x3 := .string (Lc.str b.query)) (x4 := .string (Lc.str b.frag)) (x5 := .bool b.hasS) (x6 := .bool b.hasH) (x7 := .bool b.hasQ) (x8 := .bool b.hasF) (x9 := .string (Lc.str r.scheme)) (x10 := .string (Lc.str r.host)) (x11 := .string (Lc.str r.path)) (x12 := .string (Lc.str r.query)) (x13 := .string (Lc.str r.frag)) (x14 := .bool r.hasS) (x15 := .bool r.hasH) (x16 := .bool r.hasQ) (x17 := .bool r.hasF) d0.out ?_).mono ?_; assumption; rintro e w' ⟨rfl, hcb⟩)
        | (go_at_call 14; refine (keep18 (w0 := w5) (a0 := ⟨B0, 0, none⟩) (a1 := ⟨B0, 1, none⟩) (a2 := ⟨B0, 2, none⟩) (a3 := ⟨B0, 3, none⟩) (a4 := ⟨B0, 4, none⟩) (a5 := ⟨B0, 5, none⟩) (a6 := ⟨B0, 6, none⟩) (a7 := ⟨B0, 7, none⟩) (a8 := ⟨B0, 8, none⟩) (a9 := ⟨B1, 0, none⟩) (a10 := ⟨B1, 1, none⟩) (a11 := ⟨B1, 2, none⟩) (a12 := ⟨B1, 3, none⟩) (a13 := ⟨B1, 4, none⟩) (a14 := ⟨B1, 5, none⟩) (a15 := ⟨B1, 6, none⟩) (a16 := ⟨B1, 7, none⟩) (a17 := ⟨B1, 8, none⟩) (x0 := .string (Lc.str b.scheme)) (x1 := .string (Lc.str b.host)) (x2 := .string (Lc.str b.path)) (x3 := .string (Lc.str b.query)) (x4 := .string (Lc.str b.frag)) (x5 := .bool b.hasS) (x6 := .bool b.hasH) (x7 := .bool b.hasQ) (x8 := .bool b.hasF) (x9 := .string (Lc.str r.scheme)) (x10 := .string (Lc.str r.host)) (x11 := .string (Lc.str r.path)) (x12 := .string (Lc.str r.query)) (x13 := .string (Lc.str r.frag)) (x14 := .bool r.hasS) (x15 := .bool r.hasH) (x16 := .bool r.hasQ) (x17 := .bool r.hasF) d1.out ?_).mono ?_; assumption; rintro e w' ⟨rfl, hcb⟩)
        | (go_at_call 16; refine (keep18 (w0 := w5) (a0 := ⟨B0, 0, none⟩) (a1 := ⟨B0, 1, none⟩) (a2 := ⟨B0, 2, none⟩) (a3 := ⟨B0, 3, none⟩) (a4 := ⟨B0, 4, none⟩) (a5 := ⟨B0, 5, none⟩) (a6 := ⟨B0, 6, none⟩) (a7 := ⟨B0, 7, none⟩) (a8 := ⟨B0, 8, none⟩) (a9 := ⟨B1, 0, none⟩) (a10 := ⟨B1, 1, none⟩) (a11 := ⟨B1, 2, none⟩) (a12 := ⟨B1, 3, none⟩) (a13 := ⟨B1, 4, none⟩) (a14 := ⟨B1, 5, none⟩) (a15 := ⟨B1, 6, none⟩) (a16 := ⟨B1, 7, none⟩) (a17 := ⟨B1, 8, none⟩) (x0 := .string (Lc.str b.scheme)) (x1 := .string (Lc.str b.host)) (x2 := .string (Lc.str b.path)) (x3 := .string (Lc.str b.query)) (x4 := .string (Lc.str b.frag)) (x5 := .bool b.hasS) (x6 := .bool b.hasH) (x7 := .bool b.hasQ) (x8 := .bool b.hasF) (x9 := .string (Lc.str r.scheme)) (x10 := .string (Lc.str r.host)) (x11 := .string (Lc.str r.path)) (x12 := .string (Lc.str r.query)) (x13 := .string (Lc.str r.frag)) (x14 := .bool r.hasS) (x15 := .bool r.hasH) (x16 := .bool r.hasQ) (x17 := .bool r.hasF) d3.out ?_).mono ?_; assumption; rintro e w' ⟨rfl, hcb⟩)
        | (go_at_call 17; refine (keep18 (w0 := w5) (a0 := ⟨B0, 0, none⟩) (a1 := ⟨B0, 1, none⟩) (a2 := ⟨B0, 2, none⟩) (a3 := ⟨B0, 3, none⟩) (a4 := ⟨B0, 4, none⟩) (a5 := ⟨B0, 5, none⟩) (a6 := ⟨B0, 6, none⟩) (a7 := ⟨B0, 7, none⟩) (a8 := ⟨B0, 8, none⟩) (a9 := ⟨B1, 0, none⟩) (a10 := ⟨B1, 1, none⟩) (a11 := ⟨B1, 2, none⟩) (a12 := ⟨B1, 3, none⟩) (a13 := ⟨B1, 4, none⟩) (a14 := ⟨B1, 5, none⟩) (a15 := ⟨B1, 6, none⟩) (a16 := ⟨B1, 7, none⟩) (a17 := ⟨B1, 8, none⟩) (x0 := .string (Lc.str b.scheme)) (x1 := .string (Lc.str b.host)) (x2 := .string (Lc.str b.path)) (x3 := .string (Lc.str b.query)) (x4 := .string (Lc.str b.frag)) (x5 := .bool b.hasS) (x6 := .bool b.hasH) (x7 := .bool b.hasQ) (x8 := .bool b.hasF) (x9 := .string (Lc.str r.scheme)) (x10 := .string (Lc.str r.host)) (x11 := .string (Lc.str r.path)) (x12 := .string (Lc.str r.query)) (x13 := .string (Lc.str r.frag)) (x14 := .bool r.hasS) (x15 := .bool r.hasH) (x16 := .bool r.hasQ) (x17 := .bool r.hasF) d4.out ?_).mono ?_; assumption; rintro e w' ⟨rfl, hcb⟩)
        | (go_at_call 18; refine (keep18 (w0 := w5) (a0 := ⟨B0, 0, none⟩) (a1 := ⟨B0, 1, none⟩) (a2 := ⟨B0, 2, none⟩) (a3 := ⟨B0, 3, none⟩) (a4 := ⟨B0, 4, none⟩) (a5 := ⟨B0, 5, none⟩) (a6 := ⟨B0, 6, none⟩) (a7 := ⟨B0, 7, none⟩) (a8 := ⟨B0, 8, none⟩) (a9 := ⟨B1, 0, none⟩) (a10 := ⟨B1, 1, none⟩) (a11 := ⟨B1, 2, none⟩) (a12 := ⟨B1, 3, none⟩) (a13 := ⟨B1, 4, none⟩) (a14 := ⟨B1, 5, none⟩) (a15 := ⟨B1, 6, none⟩) (a16 := ⟨B1, 7, none⟩) (a17 := ⟨B1, 8, none⟩) (x0 := .string (Lc.str b.scheme)) (x1 := .string (Lc.str b.host)) (x2 := .string (Lc.str b.path)) (x3 := .string (Lc.str b.query)) (x4 := .string (Lc.str b.frag)) (x5 := .bool b.hasS) (x6 := .bool b.hasH) (x7 := .bool b.hasQ) (x8 := .bool b.hasF) (x9 := .string (Lc.str r.scheme)) (x10 := .string (Lc.str r.host)) (x11 := .string (Lc.str r.path)) (x12 := .string (Lc.str r.query)) (x13 := .string (Lc.str r.frag)) (x14 := .bool r.hasS) (x15 := .bool r.hasH) (x16 := .bool r.hasQ) (x17 := .bool r.hasF) d5.out ?_).mono ?_; assumption; rintro e w' ⟨rfl, hcb⟩)
        | (go_at_call 19; refine (keep18 (w0 := w5) (a0 := ⟨B0, 0, none⟩) (a1 := ⟨B0, 1, none⟩) (a2 := ⟨B0, 2, none⟩) (a3 := ⟨B0, 3, none⟩) (a4 := ⟨B0, 4, none⟩) (a5 := ⟨B0, 5, none⟩) (a6 := ⟨B0, 6, none⟩) (a7 := ⟨B0, 7, none⟩) (a8 := ⟨B0, 8, none⟩) (a9 := ⟨B1, 0, none⟩) (a10 := ⟨B1, 1, none⟩) (a11 := ⟨B1, 2, none⟩) (a12 := ⟨B1, 3, none⟩) (a13 := ⟨B1, 4, none⟩) (a14 := ⟨B1, 5, none⟩) (a15 := ⟨B1, 6, none⟩) (a16 := ⟨B1, 7, none⟩) (a17 := ⟨B1, 8, none⟩) (x0 := .string (Lc.str b.scheme)) (x1 := .string (Lc.str b.host)) (x2 := .string (Lc.str b.path)) (x3 := .string (Lc.str b.query)) (x4 := .string (Lc.str b.frag)) (x5 := .bool b.hasS) (x6 := .bool b.hasH) (x7 := .bool b.hasQ) (x8 := .bool b.hasF) (x9 := .string (Lc.str r.scheme)) (x10 := .string (Lc.str r.host)) (x11 := .string (Lc.str r.path)) (x12 := .string (Lc.str r.query)) (x13 := .string (Lc.str r.frag)) (x14 := .bool r.hasS) (x15 := .bool r.hasH) (x16 := .bool r.hasQ) (x17 := .bool r.hasF) d6.out ?_).mono ?_; assumption; rintro e w' ⟨rfl, hcb⟩))
  all_goals
    obtain ⟨-, -, -, -, -, -, -, -, -, -, -, -, -, -, -, -, -, -, b6⟩ := hcb
    go_wp2_with fail
    go_ret
    exact ⟨rfl, g5.out.trans (b6.mono g5.out.size)⟩
end Go.Proofs.Ytmfmgbjkbadndaa
