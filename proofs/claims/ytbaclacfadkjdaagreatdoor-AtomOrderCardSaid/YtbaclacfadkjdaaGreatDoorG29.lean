/-
  What the law's own maker of a plain entry comes to: Plain.
  What the packages' variables hold that the library's functions read: see GlyphEnv.
  Owned kids stay under an append to another row.
  What the law's own choice of a text comes to: pick.
  From a reading of the arguments to what the walks ask: bytes in memory; a builder that hands on the listed variables and the world's shape.
-/
import Derived.Test.YtbaclacfadkjdaaGreatDoorG28
import Derived.Deep.RegionHeld3
import Derived.Test.YtbaclacfadkjdaaGreatDoorG05
import Derived.Test.YtbaclacfadkjdaaGreatDoorG11
import Derived.Test.YtbaclacfadkjdaaGreatDoorG01
import Derived.ProofKit
import Derived.OpenShut
import Derived.ShutString
import Derived.ChangeOld
import Derived.LaidMore
import Derived.Lay
import Derived.Handed
import Derived.SizedLaws
import Derived.Deep.Slices
import Derived.Lib.SmallJoins
import Derived.Lib.LaidTab
import Derived.Stop.LaidErr
import Derived.Stop.Joined
import Derived.Shelf.Vars
namespace Go.Proofs.YtbaclacfadkjdaaGreatDoor
open Go.RowKit
def auN : Gv.Node := .mk 0 ⟨#[104, 116, 116, 112, 58, 47, 47, 119, 119, 119, 46, 119, 51, 46, 111, 114, 103, 47, 50, 48, 48, 53, 47, 65, 116, 111, 109]⟩ ⟨#[97, 117, 116, 104, 111, 114]⟩ [] [elN ⟨#[110, 97, 109, 101]⟩ ⟨#[65]⟩] ⟨#[]⟩
def plN (title : ByteArray) : Gv.Node := .mk 0 ⟨#[104, 116, 116, 112, 58, 47, 47, 119, 119, 119, 46, 119, 51, 46, 111, 114, 103, 47, 50, 48, 48, 53, 47, 65, 116, 111, 109]⟩ ⟨#[101, 110, 116, 114, 121]⟩ [] [auN, elN ⟨#[116, 105, 116, 108, 101]⟩ title] ⟨#[]⟩
set_option maxRecDepth 100000 in
set_option maxHeartbeats 6400000 in
theorem plain_any (title : ByteArray) (w : World) :
    Calls Tryz.prog 15 #[.string title] w fun e w' => ∃ g, e = .returned (.agg #[.int .i64 0, .string ⟨#[104, 116, 116, 112, 58, 47, 47, 119, 119, 119, 46, 119, 51, 46, 111, 114, 103, 47, 50, 48, 48, 53, 47, 65, 116, 111, 109]⟩, .string ⟨#[101, 110, 116, 114, 121]⟩, .slice none 0 0, .slice (some ⟨g, 0, none⟩) 2 2, .string ⟨#[]⟩]) ∧ OwnsKids (fun b => w.heap.size < b) w.heap.size (.slice (some ⟨g, 0, none⟩) 2 2) [auN, elN ⟨#[116, 105, 116, 108, 101]⟩ title] w' ∧ Below w.heap.size w w' := by
  have Z := (Cells.new w 25 #[.int .i64 0, .string ⟨#[]⟩, .string ⟨#[]⟩, .slice none 0 0, .slice none 0 0, .string ⟨#[]⟩])
  have bZ := (Below.refl w.heap.size w).alloc (Nat.le_refl _) (.cells #[.int .i64 0, .string ⟨#[]⟩, .string ⟨#[]⟩, .slice none 0 0, .slice none 0 0, .string ⟨#[]⟩] 25)
  go_enter Tryz.func15, Tryz.ntmps15
  replace Z := Lib.hid Z
  replace bZ := Lib.hid bZ
  go_upto_region 1 with fail
  generalize w.alloc (.cells #[.int .i64 0, .string ⟨#[]⟩, .string ⟨#[]⟩, .slice none 0 0, .slice none 0 0, .string ⟨#[]⟩] 25) = w1 at *
  go_wp2_with fail
  (with_reducible refine (el_none ⟨#[101, 110, 116, 114, 121]⟩ _).mono ?_); rintro e w2 ⟨rfl, b2⟩
  have bE := (Below.refl w2.heap.size w2).alloc (Nat.le_refl _) (.cells #[.int .i64 0, .string ⟨#[104, 116, 116, 112, 58, 47, 47, 119, 119, 119, 46, 119, 51, 46, 111, 114, 103, 47, 50, 48, 48, 53, 47, 65, 116, 111, 109]⟩, .string ⟨#[101, 110, 116, 114, 121]⟩, .slice none 0 0, .slice none 0 0, .string ⟨#[]⟩] 25)
  have E3 := Lib.hid (Cells.new w2 25 #[.int .i64 0, .string ⟨#[104, 116, 116, 112, 58, 47, 47, 119, 119, 119, 46, 119, 51, 46, 111, 114, 103, 47, 50, 48, 48, 53, 47, 65, 116, 111, 109]⟩, .string ⟨#[101, 110, 116, 114, 121]⟩, .slice none 0 0, .slice none 0 0, .string ⟨#[]⟩])
  have Z3 := Lib.hid ((Z.out.on b2).on bE)
  have B3 := Lib.hid ((bZ.out.trans (b2.mono bZ.out.size)).trans (bE.mono (by have := bZ.out.size; have := b2.size; omega)))
  have lz := Lib.hid (show w.heap.size < w2.heap.size from (Z.out.on b2).lt)
  clear Z bZ b2 bE
  go_upto_region 2 with fail
  generalize w2.alloc (.cells #[.int .i64 0, .string ⟨#[104, 116, 116, 112, 58, 47, 47, 119, 119, 119, 46, 119, 51, 46, 111, 114, 103, 47, 50, 48, 48, 53, 47, 65, 116, 111, 109]⟩, .string ⟨#[101, 110, 116, 114, 121]⟩, .slice none 0 0, .slice none 0 0, .string ⟨#[]⟩] 25) = w3 at *
  go_wp2_with fail
  (with_reducible refine (el_none ⟨#[97, 117, 116, 104, 111, 114]⟩ _).mono ?_); rintro e w4 ⟨rfl, b4⟩
  have bA := (Below.refl w4.heap.size w4).alloc (Nat.le_refl _) (.cells #[.int .i64 0, .string ⟨#[104, 116, 116, 112, 58, 47, 47, 119, 119, 119, 46, 119, 51, 46, 111, 114, 103, 47, 50, 48, 48, 53, 47, 65, 116, 111, 109]⟩, .string ⟨#[97, 117, 116, 104, 111, 114]⟩, .slice none 0 0, .slice none 0 0, .string ⟨#[]⟩] 25)
  have A5 := Lib.hid (Cells.new w4 25 #[.int .i64 0, .string ⟨#[104, 116, 116, 112, 58, 47, 47, 119, 119, 119, 46, 119, 51, 46, 111, 114, 103, 47, 50, 48, 48, 53, 47, 65, 116, 111, 109]⟩, .string ⟨#[97, 117, 116, 104, 111, 114]⟩, .slice none 0 0, .slice none 0 0, .string ⟨#[]⟩])
  have E5 := Lib.hid ((E3.out.on b4).on bA)
  have Z5 := Lib.hid ((Z3.out.on b4).on bA)
  have B5 := Lib.hid ((B3.out.trans (b4.mono B3.out.size)).trans (bA.mono (by have := B3.out.size; have := b4.size; omega)))
  have le := Lib.hid (show w2.heap.size < w4.heap.size from (E3.out.on b4).lt)
  clear Z3 E3 B3 b4 bA
  go_upto_region 3 with fail
  generalize w4.alloc (.cells #[.int .i64 0, .string ⟨#[104, 116, 116, 112, 58, 47, 47, 119, 119, 119, 46, 119, 51, 46, 111, 114, 103, 47, 50, 48, 48, 53, 47, 65, 116, 111, 109]⟩, .string ⟨#[97, 117, 116, 104, 111, 114]⟩, .slice none 0 0, .slice none 0 0, .string ⟨#[]⟩] 25) = w5 at *
  go_wp2_with fail
  (with_reducible refine (el_any ⟨#[110, 97, 109, 101]⟩ ⟨#[65]⟩ _).mono ?_); rintro e w6 ⟨ko, kn, kc, rfl, hN6, -, b6⟩
  have l5 := Lib.hid (show w4.heap.size < w5.heap.size from A5.out.lt)
  have s6 := Lib.hid b6.size
  have hne := Lib.hid (show ¬ w6.heap.size = w4.heap.size by have := l5.out; have := b6.size; omega)
  have x4 := ((A5.out.on b6).alloc (.cells #[.int .i64 0, .string ⟨#[104, 116, 116, 112, 58, 47, 47, 119, 119, 119, 46, 119, 51, 46, 111, 114, 103, 47, 50, 48, 48, 53, 47, 65, 116, 111, 109]⟩, .string ⟨#[110, 97, 109, 101]⟩, .slice none 0 0, .slice ko kn kc, .string ⟨#[]⟩] 25)).cell (i := 4) rfl
  have g4 := ((A5.out.on b6).alloc (.cells #[.int .i64 0, .string ⟨#[104, 116, 116, 112, 58, 47, 47, 119, 119, 119, 46, 119, 51, 46, 111, 114, 103, 47, 50, 48, 48, 53, 47, 65, 116, 111, 109]⟩, .string ⟨#[110, 97, 109, 101]⟩, .slice none 0 0, .slice ko kn kc, .string ⟨#[]⟩] 25)).free 4
  have A7 := Lib.hid (((A5.out.on b6).alloc (.cells #[.int .i64 0, .string ⟨#[104, 116, 116, 112, 58, 47, 47, 119, 119, 119, 46, 119, 51, 46, 111, 114, 103, 47, 50, 48, 48, 53, 47, 65, 116, 111, 109]⟩, .string ⟨#[110, 97, 109, 101]⟩, .slice none 0 0, .slice ko kn kc, .string ⟨#[]⟩] 25)).set 4 (.slice (some ⟨w6.heap.size, 0, none⟩) 1 1))
  have K7 := Lib.hid ((Cells.new w6 25 #[.int .i64 0, .string ⟨#[104, 116, 116, 112, 58, 47, 47, 119, 119, 119, 46, 119, 51, 46, 111, 114, 103, 47, 50, 48, 48, 53, 47, 65, 116, 111, 109]⟩, .string ⟨#[110, 97, 109, 101]⟩, .slice none 0 0, .slice ko kn kc, .string ⟨#[]⟩]).other (c := w4.heap.size) 4 (.slice (some ⟨w6.heap.size, 0, none⟩) 1 1) hne.out)
  have N7 := Lib.hid ((hN6.on ((Below.refl w6.heap.size w6).alloc (Nat.le_refl _) (.cells #[.int .i64 0, .string ⟨#[104, 116, 116, 112, 58, 47, 47, 119, 119, 119, 46, 119, 51, 46, 111, 114, 103, 47, 50, 48, 48, 53, 47, 65, 116, 111, 109]⟩, .string ⟨#[110, 97, 109, 101]⟩, .slice none 0 0, .slice ko kn kc, .string ⟨#[]⟩] 25))).stay (stay_set (c := w4.heap.size) (i := 4) (v := (.slice (some ⟨w6.heap.size, 0, none⟩) 1 1)) (by have := l5.out; omega)))
  have E7 := Lib.hid (((E5.out.on b6).alloc (.cells #[.int .i64 0, .string ⟨#[104, 116, 116, 112, 58, 47, 47, 119, 119, 119, 46, 119, 51, 46, 111, 114, 103, 47, 50, 48, 48, 53, 47, 65, 116, 111, 109]⟩, .string ⟨#[110, 97, 109, 101]⟩, .slice none 0 0, .slice ko kn kc, .string ⟨#[]⟩] 25)).other (c := w4.heap.size) 4 (.slice (some ⟨w6.heap.size, 0, none⟩) 1 1) (by have := le.out; omega))
  have Z7 := Lib.hid (((Z5.out.on b6).alloc (.cells #[.int .i64 0, .string ⟨#[104, 116, 116, 112, 58, 47, 47, 119, 119, 119, 46, 119, 51, 46, 111, 114, 103, 47, 50, 48, 48, 53, 47, 65, 116, 111, 109]⟩, .string ⟨#[110, 97, 109, 101]⟩, .slice none 0 0, .slice ko kn kc, .string ⟨#[]⟩] 25)).other (c := w4.heap.size) 4 (.slice (some ⟨w6.heap.size, 0, none⟩) 1 1) (by have := le.out; have := lz.out; omega))
  have B7 := Lib.hid (((B5.out.trans (b6.mono B5.out.size)).alloc (by have := B5.out.size; have := s6.out; omega) (.cells #[.int .i64 0, .string ⟨#[104, 116, 116, 112, 58, 47, 47, 119, 119, 119, 46, 119, 51, 46, 111, 114, 103, 47, 50, 48, 48, 53, 47, 65, 116, 111, 109]⟩, .string ⟨#[110, 97, 109, 101]⟩, .slice none 0 0, .slice ko kn kc, .string ⟨#[]⟩] 25)).setCell (p := ⟨w4.heap.size, 4, none⟩) (by show w.heap.size ≤ w4.heap.size; have := lz.out; have := le.out; omega) (.slice (some ⟨w6.heap.size, 0, none⟩) 1 1))
  clear A5 E5 Z5 B5 hN6 b6
  go_upto_region 4 with fail
  clear x4 g4
  generalize (w6.alloc (.cells #[.int .i64 0, .string ⟨#[104, 116, 116, 112, 58, 47, 47, 119, 119, 119, 46, 119, 51, 46, 111, 114, 103, 47, 50, 48, 48, 53, 47, 65, 116, 111, 109]⟩, .string ⟨#[110, 97, 109, 101]⟩, .slice none 0 0, .slice ko kn kc, .string ⟨#[]⟩] 25)).setCell ⟨w4.heap.size, 4, none⟩ (.slice (some ⟨w6.heap.size, 0, none⟩) 1 1) = w7 at *
  have AN := Lib.hid (show NodeAt (fun b => w4.heap.size < b) w7 [.int .i64 0, .string ⟨#[104, 116, 116, 112, 58, 47, 47, 119, 119, 119, 46, 119, 51, 46, 111, 114, 103, 47, 50, 48, 48, 53, 47, 65, 116, 111, 109]⟩, .string ⟨#[97, 117, 116, 104, 111, 114]⟩, .slice none 0 0, .slice (some ⟨w6.heap.size, 0, none⟩) 1 1, .string ⟨#[]⟩] auN from nd_mk (atts_nil _ _) (rows_one K7.out (by have := l5.out; have := s6.out; omega) (N7.out.mono (fun b hb _ => by have := l5.out; omega))) (by unfold maxLen; simp) (by unfold maxLen; simp))
  have s1 : w7.drew.cell? ⟨w4.heap.size, 0, none⟩ = some (.int .i64 0) ∧ w7.drew.cell? ⟨w4.heap.size, 1, none⟩ = some (.string ⟨#[104, 116, 116, 112, 58, 47, 47, 119, 119, 119, 46, 119, 51, 46, 111, 114, 103, 47, 50, 48, 48, 53, 47, 65, 116, 111, 109]⟩) ∧ w7.drew.cell? ⟨w4.heap.size, 2, none⟩ = some (.string ⟨#[97, 117, 116, 104, 111, 114]⟩) ∧ w7.drew.cell? ⟨w4.heap.size, 3, none⟩ = some (.slice none 0 0) ∧ w7.drew.cell? ⟨w4.heap.size, 4, none⟩ = some (.slice (some ⟨w6.heap.size, 0, none⟩) 1 1) ∧ w7.drew.cell? ⟨w4.heap.size, 5, none⟩ = some (.string ⟨#[]⟩) := node_open (show Cells w7.drew _ _ (nodeArr 0 ⟨#[104, 116, 116, 112, 58, 47, 47, 119, 119, 119, 46, 119, 51, 46, 111, 114, 103, 47, 50, 48, 48, 53, 47, 65, 116, 111, 109]⟩ ⟨#[97, 117, 116, 104, 111, 114]⟩ (.slice none 0 0) (.slice (some ⟨w6.heap.size, 0, none⟩) 1 1) ⟨#[]⟩) from A7.out.drew)
  have cE := Lib.hid ((el_any ⟨#[116, 105, 116, 108, 101]⟩ title w7.drew).mono (R' := fun e w' => ∃ k2 n2 c2, e = .returned (.agg #[.int .i64 0, .string ⟨#[104, 116, 116, 112, 58, 47, 47, 119, 119, 119, 46, 119, 51, 46, 111, 114, 103, 47, 50, 48, 48, 53, 47, 65, 116, 111, 109]⟩, .string ⟨#[116, 105, 116, 108, 101]⟩, .slice none 0 0, .slice k2 n2 c2, .string ⟨#[]⟩]) ∧ (w'.cell? ⟨w4.heap.size, 0, none⟩ = some (.int .i64 0) ∧ w'.cell? ⟨w4.heap.size, 1, none⟩ = some (.string ⟨#[104, 116, 116, 112, 58, 47, 47, 119, 119, 119, 46, 119, 51, 46, 111, 114, 103, 47, 50, 48, 48, 53, 47, 65, 116, 111, 109]⟩) ∧ w'.cell? ⟨w4.heap.size, 2, none⟩ = some (.string ⟨#[97, 117, 116, 104, 111, 114]⟩) ∧ w'.cell? ⟨w4.heap.size, 3, none⟩ = some (.slice none 0 0) ∧ w'.cell? ⟨w4.heap.size, 4, none⟩ = some (.slice (some ⟨w6.heap.size, 0, none⟩) 1 1) ∧ w'.cell? ⟨w4.heap.size, 5, none⟩ = some (.string ⟨#[]⟩)) ∧ Hid (NodeAt (fun b => w7.heap.size ≤ b) w' [.int .i64 0, .string ⟨#[104, 116, 116, 112, 58, 47, 47, 119, 119, 119, 46, 119, 51, 46, 111, 114, 103, 47, 50, 48, 48, 53, 47, 65, 116, 111, 109]⟩, .string ⟨#[116, 105, 116, 108, 101]⟩, .slice none 0 0, .slice k2 n2 c2, .string ⟨#[]⟩] (elN ⟨#[116, 105, 116, 108, 101]⟩ title)) ∧ Hid (Below w7.heap.size w7 w')) (fun e w' ⟨k2, n2, c2, he, hN, _, hb⟩ => ⟨k2, n2, c2, he, node_open (show Cells w' _ _ (nodeArr 0 ⟨#[104, 116, 116, 112, 58, 47, 47, 119, 119, 119, 46, 119, 51, 46, 111, 114, 103, 47, 50, 48, 48, 53, 47, 65, 116, 111, 109]⟩ ⟨#[97, 117, 116, 104, 111, 114]⟩ (.slice none 0 0) (.slice (some ⟨w6.heap.size, 0, none⟩) 1 1) ⟨#[]⟩) from A7.out.drew.on hb), Lib.hid hN, Lib.hid ((Below.refl _ _).drew.trans hb)⟩))
  have hne2 : ¬ w4.heap.size = w2.heap.size := by have := le.out; omega
  go_region_held3 (fun w' => w'.cell? ⟨w4.heap.size, 0, none⟩ = some (.int .i64 0) ∧ w'.cell? ⟨w4.heap.size, 1, none⟩ = some (.string ⟨#[104, 116, 116, 112, 58, 47, 47, 119, 119, 119, 46, 119, 51, 46, 111, 114, 103, 47, 50, 48, 48, 53, 47, 65, 116, 111, 109]⟩) ∧ w'.cell? ⟨w4.heap.size, 2, none⟩ = some (.string ⟨#[97, 117, 116, 104, 111, 114]⟩) ∧ w'.cell? ⟨w4.heap.size, 3, none⟩ = some (.slice none 0 0) ∧ w'.cell? ⟨w4.heap.size, 4, none⟩ = some (.slice (some ⟨w6.heap.size, 0, none⟩) 1 1) ∧ w'.cell? ⟨w4.heap.size, 5, none⟩ = some (.string ⟨#[]⟩))
    (first | exact s1 | assumption | exact six_alloc (by assumption) _ | exact six_store (by assumption) hne2)
    (first
      | (go_at_call 16; refine (cE.out).mono ?_; rintro e w8 ⟨k2, n2, c2, rfl, hcb, N8, b8⟩
         have e4 := ((E7.out.on b8.out).alloc (.cells #[.int .i64 0, .string ⟨#[104, 116, 116, 112, 58, 47, 47, 119, 119, 119, 46, 119, 51, 46, 111, 114, 103, 47, 50, 48, 48, 53, 47, 65, 116, 111, 109]⟩, .string ⟨#[97, 117, 116, 104, 111, 114]⟩, .slice none 0 0, .slice (some ⟨w6.heap.size, 0, none⟩) 1 1, .string ⟨#[]⟩, .int .i64 0, .string ⟨#[104, 116, 116, 112, 58, 47, 47, 119, 119, 119, 46, 119, 51, 46, 111, 114, 103, 47, 50, 48, 48, 53, 47, 65, 116, 111, 109]⟩, .string ⟨#[116, 105, 116, 108, 101]⟩, .slice none 0 0, .slice k2 n2 c2, .string ⟨#[]⟩] 25)).cell (i := 4) rfl
         have h4 := ((E7.out.on b8.out).alloc (.cells #[.int .i64 0, .string ⟨#[104, 116, 116, 112, 58, 47, 47, 119, 119, 119, 46, 119, 51, 46, 111, 114, 103, 47, 50, 48, 48, 53, 47, 65, 116, 111, 109]⟩, .string ⟨#[97, 117, 116, 104, 111, 114]⟩, .slice none 0 0, .slice (some ⟨w6.heap.size, 0, none⟩) 1 1, .string ⟨#[]⟩, .int .i64 0, .string ⟨#[104, 116, 116, 112, 58, 47, 47, 119, 119, 119, 46, 119, 51, 46, 111, 114, 103, 47, 50, 48, 48, 53, 47, 65, 116, 111, 109]⟩, .string ⟨#[116, 105, 116, 108, 101]⟩, .slice none 0 0, .slice k2 n2 c2, .string ⟨#[]⟩] 25)).free 4))
  have l8 := b8.out.size
  have l7 := Lib.hid (show w2.heap.size < w7.heap.size from E7.out.lt)
  have hz2 := lz.out
  have E9 := Lib.hid (((E7.out.on b8.out).alloc (.cells #[.int .i64 0, .string ⟨#[104, 116, 116, 112, 58, 47, 47, 119, 119, 119, 46, 119, 51, 46, 111, 114, 103, 47, 50, 48, 48, 53, 47, 65, 116, 111, 109]⟩, .string ⟨#[97, 117, 116, 104, 111, 114]⟩, .slice none 0 0, .slice (some ⟨w6.heap.size, 0, none⟩) 1 1, .string ⟨#[]⟩, .int .i64 0, .string ⟨#[104, 116, 116, 112, 58, 47, 47, 119, 119, 119, 46, 119, 51, 46, 111, 114, 103, 47, 50, 48, 48, 53, 47, 65, 116, 111, 109]⟩, .string ⟨#[116, 105, 116, 108, 101]⟩, .slice none 0 0, .slice k2 n2 c2, .string ⟨#[]⟩] 25)).set 4 (.slice (some ⟨w8.heap.size, 0, none⟩) 2 2))
  have Z9 := Lib.hid (((Z7.out.on b8.out).alloc (.cells #[.int .i64 0, .string ⟨#[104, 116, 116, 112, 58, 47, 47, 119, 119, 119, 46, 119, 51, 46, 111, 114, 103, 47, 50, 48, 48, 53, 47, 65, 116, 111, 109]⟩, .string ⟨#[97, 117, 116, 104, 111, 114]⟩, .slice none 0 0, .slice (some ⟨w6.heap.size, 0, none⟩) 1 1, .string ⟨#[]⟩, .int .i64 0, .string ⟨#[104, 116, 116, 112, 58, 47, 47, 119, 119, 119, 46, 119, 51, 46, 111, 114, 103, 47, 50, 48, 48, 53, 47, 65, 116, 111, 109]⟩, .string ⟨#[116, 105, 116, 108, 101]⟩, .slice none 0 0, .slice k2 n2 c2, .string ⟨#[]⟩] 25)).other (c := w2.heap.size) 4 (.slice (some ⟨w8.heap.size, 0, none⟩) 2 2) (by omega))
  have K9 := Lib.hid ((Cells.new w8 25 #[.int .i64 0, .string ⟨#[104, 116, 116, 112, 58, 47, 47, 119, 119, 119, 46, 119, 51, 46, 111, 114, 103, 47, 50, 48, 48, 53, 47, 65, 116, 111, 109]⟩, .string ⟨#[97, 117, 116, 104, 111, 114]⟩, .slice none 0 0, .slice (some ⟨w6.heap.size, 0, none⟩) 1 1, .string ⟨#[]⟩, .int .i64 0, .string ⟨#[104, 116, 116, 112, 58, 47, 47, 119, 119, 119, 46, 119, 51, 46, 111, 114, 103, 47, 50, 48, 48, 53, 47, 65, 116, 111, 109]⟩, .string ⟨#[116, 105, 116, 108, 101]⟩, .slice none 0 0, .slice k2 n2 c2, .string ⟨#[]⟩]).other (c := w2.heap.size) 4 (.slice (some ⟨w8.heap.size, 0, none⟩) 2 2) (by have := l7.out; omega))
  have AN9 := Lib.hid ((((AN.out.mono (S' := fun b => w4.heap.size < b ∧ b < w7.heap.size) (fun b hb hl => ⟨hb, hl⟩)).on b8.out).on ((Below.refl w8.heap.size w8).alloc (Nat.le_refl _) (.cells #[.int .i64 0, .string ⟨#[104, 116, 116, 112, 58, 47, 47, 119, 119, 119, 46, 119, 51, 46, 111, 114, 103, 47, 50, 48, 48, 53, 47, 65, 116, 111, 109]⟩, .string ⟨#[97, 117, 116, 104, 111, 114]⟩, .slice none 0 0, .slice (some ⟨w6.heap.size, 0, none⟩) 1 1, .string ⟨#[]⟩, .int .i64 0, .string ⟨#[104, 116, 116, 112, 58, 47, 47, 119, 119, 119, 46, 119, 51, 46, 111, 114, 103, 47, 50, 48, 48, 53, 47, 65, 116, 111, 109]⟩, .string ⟨#[116, 105, 116, 108, 101]⟩, .slice none 0 0, .slice k2 n2 c2, .string ⟨#[]⟩] 25))).stay (stay_set (c := w2.heap.size) (i := 4) (v := (.slice (some ⟨w8.heap.size, 0, none⟩) 2 2)) (by have := le.out; omega)))
  have N9 := Lib.hid (((N8.out.mono (S' := fun b => w7.heap.size ≤ b ∧ b < w8.heap.size) (fun b hb hl => ⟨hb, hl⟩)).on ((Below.refl w8.heap.size w8).alloc (Nat.le_refl _) (.cells #[.int .i64 0, .string ⟨#[104, 116, 116, 112, 58, 47, 47, 119, 119, 119, 46, 119, 51, 46, 111, 114, 103, 47, 50, 48, 48, 53, 47, 65, 116, 111, 109]⟩, .string ⟨#[97, 117, 116, 104, 111, 114]⟩, .slice none 0 0, .slice (some ⟨w6.heap.size, 0, none⟩) 1 1, .string ⟨#[]⟩, .int .i64 0, .string ⟨#[104, 116, 116, 112, 58, 47, 47, 119, 119, 119, 46, 119, 51, 46, 111, 114, 103, 47, 50, 48, 48, 53, 47, 65, 116, 111, 109]⟩, .string ⟨#[116, 105, 116, 108, 101]⟩, .slice none 0 0, .slice k2 n2 c2, .string ⟨#[]⟩] 25))).stay (stay_set (c := w2.heap.size) (i := 4) (v := (.slice (some ⟨w8.heap.size, 0, none⟩) 2 2)) (by have := l7.out; omega)))
  have B9 := Lib.hid (((B7.out.trans (b8.out.mono B7.out.size)).alloc (by have := B7.out.size; omega) (.cells #[.int .i64 0, .string ⟨#[104, 116, 116, 112, 58, 47, 47, 119, 119, 119, 46, 119, 51, 46, 111, 114, 103, 47, 50, 48, 48, 53, 47, 65, 116, 111, 109]⟩, .string ⟨#[97, 117, 116, 104, 111, 114]⟩, .slice none 0 0, .slice (some ⟨w6.heap.size, 0, none⟩) 1 1, .string ⟨#[]⟩, .int .i64 0, .string ⟨#[104, 116, 116, 112, 58, 47, 47, 119, 119, 119, 46, 119, 51, 46, 111, 114, 103, 47, 50, 48, 48, 53, 47, 65, 116, 111, 109]⟩, .string ⟨#[116, 105, 116, 108, 101]⟩, .slice none 0 0, .slice k2 n2 c2, .string ⟨#[]⟩] 25)).setCell (p := ⟨w2.heap.size, 4, none⟩) (by show w.heap.size ≤ w2.heap.size; omega) (.slice (some ⟨w8.heap.size, 0, none⟩) 2 2))
  have le0 := le.out
  have P9 := Lib.hid (owns_two (S := fun b => w.heap.size < b) (B := w.heap.size) (c := [.int .i64 0, .string ⟨#[104, 116, 116, 112, 58, 47, 47, 119, 119, 119, 46, 119, 51, 46, 111, 114, 103, 47, 50, 48, 48, 53, 47, 65, 116, 111, 109]⟩, .string ⟨#[97, 117, 116, 104, 111, 114]⟩, .slice none 0 0, .slice (some ⟨w6.heap.size, 0, none⟩) 1 1, .string ⟨#[]⟩]) (d := [.int .i64 0, .string ⟨#[104, 116, 116, 112, 58, 47, 47, 119, 119, 119, 46, 119, 51, 46, 111, 114, 103, 47, 50, 48, 48, 53, 47, 65, 116, 111, 109]⟩, .string ⟨#[116, 105, 116, 108, 101]⟩, .slice none 0 0, .slice k2 n2 c2, .string ⟨#[]⟩]) K9.out (by have := l7.out; omega) (AN9.out.mono (fun b hb _ => ⟨by omega, by intro e; injection e; omega⟩)) (N9.out.mono (fun b hb _ => ⟨by have := l7.out; omega, by intro e; injection e; omega⟩)))
  have hg8 := Lib.hid (show some w.heap.size ≠ (Value.slice (some ⟨w8.heap.size, 0, none⟩) 2 2).ownBlock by intro e; simp [Value.ownBlock] at e; have := l7.out; omega)
  clear E7 Z7 B7 AN N8 b8 K9 AN9 N9 e4 h4 hcb s1 cE
  go_upto_region 5 with fail
  generalize (w8.alloc (.cells #[.int .i64 0, .string ⟨#[104, 116, 116, 112, 58, 47, 47, 119, 119, 119, 46, 119, 51, 46, 111, 114, 103, 47, 50, 48, 48, 53, 47, 65, 116, 111, 109]⟩, .string ⟨#[97, 117, 116, 104, 111, 114]⟩, .slice none 0 0, .slice (some ⟨w6.heap.size, 0, none⟩) 1 1, .string ⟨#[]⟩, .int .i64 0, .string ⟨#[104, 116, 116, 112, 58, 47, 47, 119, 119, 119, 46, 119, 51, 46, 111, 114, 103, 47, 50, 48, 48, 53, 47, 65, 116, 111, 109]⟩, .string ⟨#[116, 105, 116, 108, 101]⟩, .slice none 0 0, .slice k2 n2 c2, .string ⟨#[]⟩] 25)).setCell ⟨w2.heap.size, 4, none⟩ (.slice (some ⟨w8.heap.size, 0, none⟩) 2 2) = w9 at *
  obtain ⟨x0, x1, x2, x3, x4, x5⟩ := node_open (show Cells w9 _ _ (nodeArr 0 ⟨#[104, 116, 116, 112, 58, 47, 47, 119, 119, 119, 46, 119, 51, 46, 111, 114, 103, 47, 50, 48, 48, 53, 47, 65, 116, 111, 109]⟩ ⟨#[101, 110, 116, 114, 121]⟩ (.slice none 0 0) (.slice (some ⟨w8.heap.size, 0, none⟩) 2 2) ⟨#[]⟩) from E9.out)
  obtain ⟨z0, z1, z2, z3, z4, z5⟩ := node_open (show Cells w9 _ _ (nodeArr 0 ⟨#[]⟩ ⟨#[]⟩ (.slice none 0 0) (.slice none 0 0) ⟨#[]⟩) from Z9.out)
  have f0 := Z9.out.free 0
  have f1 := Z9.out.free 1
  have f2 := Z9.out.free 2
  have f3 := Z9.out.free 3
  have f4 := Z9.out.free 4
  have f5 := Z9.out.free 5
  have hF := Lib.hid (six_cells Z9.out (.int .i64 0) (.string ⟨#[104, 116, 116, 112, 58, 47, 47, 119, 119, 119, 46, 119, 51, 46, 111, 114, 103, 47, 50, 48, 48, 53, 47, 65, 116, 111, 109]⟩) (.string ⟨#[101, 110, 116, 114, 121]⟩) (.slice none 0 0) (.slice (some ⟨w8.heap.size, 0, none⟩) 2 2) (.string ⟨#[]⟩))
  have hB := Lib.hid (six_below B9.out (Nat.le_refl _) (.int .i64 0) (.string ⟨#[104, 116, 116, 112, 58, 47, 47, 119, 119, 119, 46, 119, 51, 46, 111, 114, 103, 47, 50, 48, 48, 53, 47, 65, 116, 111, 109]⟩) (.string ⟨#[101, 110, 116, 114, 121]⟩) (.slice none 0 0) (.slice (some ⟨w8.heap.size, 0, none⟩) 2 2) (.string ⟨#[]⟩))
  have hP := Lib.hid ((((((P9.out.set (c := w.heap.size) (Nat.lt_irrefl _) hg8.out 0 (.int .i64 0)).set (c := w.heap.size) (Nat.lt_irrefl _) hg8.out 1 (.string ⟨#[104, 116, 116, 112, 58, 47, 47, 119, 119, 119, 46, 119, 51, 46, 111, 114, 103, 47, 50, 48, 48, 53, 47, 65, 116, 111, 109]⟩)).set (c := w.heap.size) (Nat.lt_irrefl _) hg8.out 2 (.string ⟨#[101, 110, 116, 114, 121]⟩)).set (c := w.heap.size) (Nat.lt_irrefl _) hg8.out 3 (.slice none 0 0)).set (c := w.heap.size) (Nat.lt_irrefl _) hg8.out 4 (.slice (some ⟨w8.heap.size, 0, none⟩) 2 2)).set (c := w.heap.size) (Nat.lt_irrefl _) hg8.out 5 (.string ⟨#[]⟩))
  clear E9 Z9 B9 P9
  go_wp2_with fail
  exact node_end (i := 2) (rb := w.heap.size) rfl rfl hF.out ⟨w8.heap.size, rfl, hP.out, hB.out⟩
theorem nd_owned {B : Nat} {v : Value} {kids : List Gv.Node} {w : World} {k : Int} {sp nm d : ByteArray} (h : OwnsKids (fun b => B < b) B v kids w) : Nd w #[.int .i64 k, .string sp, .string nm, .slice none 0 0, v, .string d] (.mk k sp nm [] kids d) := by
  obtain ⟨ao, cap, cs, rfl, hr, hn, hl, _⟩ := (h.mono (S' := fun _ => True) (fun _ _ _ => trivial)).rows (fun _ _ _ => trivial)
  exact ⟨fun _ => True, .mk cs ⟨by unfold maxLen; simp, hl⟩ (atts_nil _ _) hr hn⟩
end Go.Proofs.YtbaclacfadkjdaaGreatDoor
namespace Go.Proofs.YtbaclacfadkjdaaGreatDoor
open Go.RowKit
theorem OwnsKids.far {S : Nat → Prop} {B : Nat} {v : Value} {kids : List Gv.Node} {w w' : World} {row : Option Nat} (h : OwnsKids S B v kids w) (hg : w.grownBy w' row) (hS : ∀ g, row = some g → ¬ S g) (hne : v.ownBlock = none ∨ v.ownBlock ≠ row) : OwnsKids S B v kids w' := by
  obtain ⟨css, h1, h2, h3⟩ := h
  exact ⟨css, h1, World.ownsRow.kept h2 hg hne, fun j a b => (h3 j a b).stay (stay_grown hg (fun g e x => hS g e x.1))⟩
end Go.Proofs.YtbaclacfadkjdaaGreatDoor
namespace Go.Proofs.YtbaclacfadkjdaaGreatDoor
open Go.RowKit
set_option maxRecDepth 100000 in
set_option maxHeartbeats 6400000 in
theorem pick_any (m : Nat) (L : List ByteArray) (b len cap : Nat) (w : World) (hL : StrsAt b L w) (hn : L.length = len) (h0 : 0 < len) (h1 : len ≤ 1000) (hm : m < 256) :
    Calls Tryz.prog 49 #[.int .u8 (m : Int), .slice (some ⟨b, 0, none⟩) len cap] w fun e w' => (∃ s ∈ L, e = .returned (.string s)) ∧ w' = w := by
  obtain ⟨j, hj, hjm⟩ : ∃ j : Nat, j < L.length ∧ ((m : Int)).tmod (len : Int) = (j : Int) := ⟨m % len, by rw [hn]; exact Nat.mod_lt _ h0, by rw [Int.tmod_eq_emod_of_nonneg (by omega)]; rfl⟩
  have hc := hL j hj
  have hmem : L[j] ∈ L := List.getElem_mem hj
  generalize L[j] = s at *
  have hz : ((len : Int) == 0) = false := by simp; omega
  have e1 : IntKind.i64.wrap (m : Int) = (m : Int) := IntWalk.i64_in _ (by omega)
  have e2 : IntKind.i64.wrap (j : Int) = (j : Int) := IntWalk.i64_in _ (by omega)
  have hj0 : (0 : Int) ≤ (j : Int) := by omega
  have hj1 : (j : Int) < (len : Int) := by omega
  have hmem := Lib.hid hmem
  clear hL
  go_enter Tryz.func49, Tryz.ntmps49
  go_wp2_with fail
  go_ret
  exact ⟨⟨s, hmem.out, rfl⟩, rfl⟩
theorem strs_new (W : World) (L : List ByteArray) (t : TypeId) : StrsAt W.heap.size L (W.alloc (.cells (L.map Value.string).toArray t)) := fun j hj =>
  (Cells.new W t (L.map Value.string).toArray).cell (i := j) (v := .string L[j]) (by simp [hj])
end Go.Proofs.YtbaclacfadkjdaaGreatDoor
namespace Go.Proofs.YtbaclacfadkjdaaGreatDoor
open Go.ChangeShapes Go.WideShapes Go.ChangeAt Go.RowKit Go.Deep
theorem own : ownKnob Tryz.prog.godebug = none := by kernel_rfl
theorem laidOut : laidOutB Tryz.prog = true := by kernel_rfl
theorem handed_on {H : Type} {enc : TypeId × Value → H} {a : Assume} {C : Checked} {os : Os} {f : FuncId} {fn : Func} {s : ChangeSpec} {conds : List PathCond} {apart fresh handsOn again : Bool} {X : World → Array Value → Prop}
    (hX : ∀ (w w' : World) (args : Array Value), w.heap = w'.heap → X w args → X w' args)
    (ownK : ownKnob C.prog.godebug = none) (started : os.Started) (noInit : C.prog.inits.idxOf? f = none) (hfn : C.prog.funcs[f]? = some fn)
    (witness : ∃ (w : World) (tape : Tape) (i : Input), w.os = os ∧ (w.forCall tape i).Shaped C.prog ∧ i.vars = [] ∧ Input.okWide C.prog (w.forCall tape i) .any w.heap.size f i ∧
      ((s.pre enc C.prog fn conds apart (w.forCall tape i).memory i.args ∧ X (w.forCall tape i).memory i.args) ∧ sizedMet enc C.prog fn (OpenSpec.ofChange s) apart (w.forCall tape i).memory i.args) ∧ a.holds C.prog (lone (Frame.enter C.prog f i.args .normal) [] (w.forCall tape i)))
    (contract : ∀ (W : World) (base : Nat) (args : Array Value) (ds gs : List (DataW H)) (before : List MemPlace),
      (∀ (j : Nat) t v, fn.params[j]? = some t → args[j]? = some v → Value.okWide C.prog W .any base t v) →
      DataW.Whole enc C.prog fn.params.toList s.vars apart W args.toList ds gs before →
      (DataW.weightsEach C.prog (fn.params.toList ++ s.plain.varTypes C.prog) (ds ++ gs)).all (· ≤ reachBytes) = true → X W args → W.ShapedOpen C.prog →
      Calls C.prog f args W fun e W' => ∃ v, e = .returned v ∧ s.post enc C.prog fn apart fresh handsOn again W args v W') :
    ReturnsInHanded a C os f .any (fun w args => (s.pre enc C.prog fn conds apart w args ∧ X w args) ∧ sizedMet enc C.prog fn (OpenSpec.ofChange s) apart w args) (s.post enc C.prog fn apart fresh handsOn again) := by
  refine returnsInHanded_of_calls ownK started noInit witness ?_
  intro w tape i _ hsh _ hok hpre _
  obtain ⟨_, _, _, fn', hfn', _, _, _, _, hval⟩ := hok
  obtain rfl : fn' = fn := Option.some.inj (hfn'.symm.trans hfn)
  obtain ⟨⟨⟨ds, gs, before, hw, _⟩, hx⟩, hz⟩ := hpre
  refine (contract (w.forCall tape i) w.heap.size i.args ds gs before hval (DataW.Whole.of_heap (w' := w.forCall tape i) (by rfl) hw) (hz.weights hw) (hX _ _ _ (by rfl) hx) hsh).mono fun e W' ⟨v, he, hp⟩ => ?_
  subst he
  exact ChangeSpec.post_blind hp
end Go.Proofs.YtbaclacfadkjdaaGreatDoor
