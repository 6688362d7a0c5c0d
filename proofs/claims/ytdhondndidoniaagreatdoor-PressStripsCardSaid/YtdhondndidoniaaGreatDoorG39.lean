/-
  What the law's own maker of a plain entry comes to: Plain.
  What layer 16's own 'awake' comes to. (Printed by gen_preawake.py.)
-/
import Derived.Test.YtdhondndidoniaaGreatDoorG10
import Derived.Deep.RegionHeld3
import Derived.Test.YtdhondndidoniaaGreatDoorG38
namespace Go.Proofs.YtdhondndidoniaaGreatDoor
open Go.RowKit

def auN : Gv.Node := .mk 0 ⟨#[104, 116, 116, 112, 58, 47, 47, 119, 119, 119, 46, 119, 51, 46, 111, 114, 103, 47, 50, 48, 48, 53, 47, 65, 116, 111, 109]⟩ ⟨#[97, 117, 116, 104, 111, 114]⟩ [] [elN ⟨#[110, 97, 109, 101]⟩ ⟨#[65]⟩] ⟨#[]⟩
def plN (title : ByteArray) : Gv.Node := .mk 0 ⟨#[104, 116, 116, 112, 58, 47, 47, 119, 119, 119, 46, 119, 51, 46, 111, 114, 103, 47, 50, 48, 48, 53, 47, 65, 116, 111, 109]⟩ ⟨#[101, 110, 116, 114, 121]⟩ [] [auN, elN ⟨#[116, 105, 116, 108, 101]⟩ title] ⟨#[]⟩

set_option maxRecDepth 100000 in
set_option maxHeartbeats 6400000 in
theorem plain_any (title : ByteArray) (w : World) :
    Calls Tryz.prog 31 #[.string title] w fun e w' => ∃ g, e = .returned (.agg #[.int .i64 0, .string ⟨#[104, 116, 116, 112, 58, 47, 47, 119, 119, 119, 46, 119, 51, 46, 111, 114, 103, 47, 50, 48, 48, 53, 47, 65, 116, 111, 109]⟩, .string ⟨#[101, 110, 116, 114, 121]⟩, .slice none 0 0, .slice (some ⟨g, 0, none⟩) 2 2, .string ⟨#[]⟩]) ∧ OwnsKids (fun b => w.heap.size < b) w.heap.size (.slice (some ⟨g, 0, none⟩) 2 2) [auN, elN ⟨#[116, 105, 116, 108, 101]⟩ title] w' ∧ Below w.heap.size w w' := by
  have Z := (Cells.new w 27 #[.int .i64 0, .string ⟨#[]⟩, .string ⟨#[]⟩, .slice none 0 0, .slice none 0 0, .string ⟨#[]⟩])
  have bZ := (Below.refl w.heap.size w).alloc (Nat.le_refl _) (.cells #[.int .i64 0, .string ⟨#[]⟩, .string ⟨#[]⟩, .slice none 0 0, .slice none 0 0, .string ⟨#[]⟩] 27)
  go_enter Tryz.func31, Tryz.ntmps31
  replace Z := Lib.hid Z
  replace bZ := Lib.hid bZ
  go_upto_region 1 with fail
  generalize w.alloc (.cells #[.int .i64 0, .string ⟨#[]⟩, .string ⟨#[]⟩, .slice none 0 0, .slice none 0 0, .string ⟨#[]⟩] 27) = w1 at *
  go_wp2_with fail
  (with_reducible refine (el_none ⟨#[101, 110, 116, 114, 121]⟩ _).mono ?_); rintro e w2 ⟨rfl, b2⟩
  have bE := (Below.refl w2.heap.size w2).alloc (Nat.le_refl _) (.cells #[.int .i64 0, .string ⟨#[104, 116, 116, 112, 58, 47, 47, 119, 119, 119, 46, 119, 51, 46, 111, 114, 103, 47, 50, 48, 48, 53, 47, 65, 116, 111, 109]⟩, .string ⟨#[101, 110, 116, 114, 121]⟩, .slice none 0 0, .slice none 0 0, .string ⟨#[]⟩] 27)
  have E3 := Lib.hid (Cells.new w2 27 #[.int .i64 0, .string ⟨#[104, 116, 116, 112, 58, 47, 47, 119, 119, 119, 46, 119, 51, 46, 111, 114, 103, 47, 50, 48, 48, 53, 47, 65, 116, 111, 109]⟩, .string ⟨#[101, 110, 116, 114, 121]⟩, .slice none 0 0, .slice none 0 0, .string ⟨#[]⟩])
  have Z3 := Lib.hid ((Z.out.on b2).on bE)
  have B3 := Lib.hid ((bZ.out.trans (b2.mono bZ.out.size)).trans (bE.mono (by have := bZ.out.size; have := b2.size; omega)))
  have lz := Lib.hid (show w.heap.size < w2.heap.size from (Z.out.on b2).lt)
  clear Z bZ b2 bE
  go_upto_region 2 with fail
  generalize w2.alloc (.cells #[.int .i64 0, .string ⟨#[104, 116, 116, 112, 58, 47, 47, 119, 119, 119, 46, 119, 51, 46, 111, 114, 103, 47, 50, 48, 48, 53, 47, 65, 116, 111, 109]⟩, .string ⟨#[101, 110, 116, 114, 121]⟩, .slice none 0 0, .slice none 0 0, .string ⟨#[]⟩] 27) = w3 at *
  go_wp2_with fail
  (with_reducible refine (el_none ⟨#[97, 117, 116, 104, 111, 114]⟩ _).mono ?_); rintro e w4 ⟨rfl, b4⟩
  have bA := (Below.refl w4.heap.size w4).alloc (Nat.le_refl _) (.cells #[.int .i64 0, .string ⟨#[104, 116, 116, 112, 58, 47, 47, 119, 119, 119, 46, 119, 51, 46, 111, 114, 103, 47, 50, 48, 48, 53, 47, 65, 116, 111, 109]⟩, .string ⟨#[97, 117, 116, 104, 111, 114]⟩, .slice none 0 0, .slice none 0 0, .string ⟨#[]⟩] 27)
  have A5 := Lib.hid (Cells.new w4 27 #[.int .i64 0, .string ⟨#[104, 116, 116, 112, 58, 47, 47, 119, 119, 119, 46, 119, 51, 46, 111, 114, 103, 47, 50, 48, 48, 53, 47, 65, 116, 111, 109]⟩, .string ⟨#[97, 117, 116, 104, 111, 114]⟩, .slice none 0 0, .slice none 0 0, .string ⟨#[]⟩])
  have E5 := Lib.hid ((E3.out.on b4).on bA)
  have Z5 := Lib.hid ((Z3.out.on b4).on bA)
  have B5 := Lib.hid ((B3.out.trans (b4.mono B3.out.size)).trans (bA.mono (by have := B3.out.size; have := b4.size; omega)))
  have le := Lib.hid (show w2.heap.size < w4.heap.size from (E3.out.on b4).lt)
  clear Z3 E3 B3 b4 bA
  go_upto_region 3 with fail
  generalize w4.alloc (.cells #[.int .i64 0, .string ⟨#[104, 116, 116, 112, 58, 47, 47, 119, 119, 119, 46, 119, 51, 46, 111, 114, 103, 47, 50, 48, 48, 53, 47, 65, 116, 111, 109]⟩, .string ⟨#[97, 117, 116, 104, 111, 114]⟩, .slice none 0 0, .slice none 0 0, .string ⟨#[]⟩] 27) = w5 at *
  go_wp2_with fail
  (with_reducible refine (el_any ⟨#[110, 97, 109, 101]⟩ ⟨#[65]⟩ _).mono ?_); rintro e w6 ⟨ko, kn, kc, rfl, hN6, -, b6⟩
  have l5 := Lib.hid (show w4.heap.size < w5.heap.size from A5.out.lt)
  have s6 := Lib.hid b6.size
  have hne := Lib.hid (show ¬ w6.heap.size = w4.heap.size by have := l5.out; have := b6.size; omega)
  have x4 := ((A5.out.on b6).alloc (.cells #[.int .i64 0, .string ⟨#[104, 116, 116, 112, 58, 47, 47, 119, 119, 119, 46, 119, 51, 46, 111, 114, 103, 47, 50, 48, 48, 53, 47, 65, 116, 111, 109]⟩, .string ⟨#[110, 97, 109, 101]⟩, .slice none 0 0, .slice ko kn kc, .string ⟨#[]⟩] 27)).cell (i := 4) rfl
  have g4 := ((A5.out.on b6).alloc (.cells #[.int .i64 0, .string ⟨#[104, 116, 116, 112, 58, 47, 47, 119, 119, 119, 46, 119, 51, 46, 111, 114, 103, 47, 50, 48, 48, 53, 47, 65, 116, 111, 109]⟩, .string ⟨#[110, 97, 109, 101]⟩, .slice none 0 0, .slice ko kn kc, .string ⟨#[]⟩] 27)).free 4
  have A7 := Lib.hid (((A5.out.on b6).alloc (.cells #[.int .i64 0, .string ⟨#[104, 116, 116, 112, 58, 47, 47, 119, 119, 119, 46, 119, 51, 46, 111, 114, 103, 47, 50, 48, 48, 53, 47, 65, 116, 111, 109]⟩, .string ⟨#[110, 97, 109, 101]⟩, .slice none 0 0, .slice ko kn kc, .string ⟨#[]⟩] 27)).set 4 (.slice (some ⟨w6.heap.size, 0, none⟩) 1 1))
  have K7 := Lib.hid ((Cells.new w6 27 #[.int .i64 0, .string ⟨#[104, 116, 116, 112, 58, 47, 47, 119, 119, 119, 46, 119, 51, 46, 111, 114, 103, 47, 50, 48, 48, 53, 47, 65, 116, 111, 109]⟩, .string ⟨#[110, 97, 109, 101]⟩, .slice none 0 0, .slice ko kn kc, .string ⟨#[]⟩]).other (c := w4.heap.size) 4 (.slice (some ⟨w6.heap.size, 0, none⟩) 1 1) hne.out)
  have N7 := Lib.hid ((hN6.on ((Below.refl w6.heap.size w6).alloc (Nat.le_refl _) (.cells #[.int .i64 0, .string ⟨#[104, 116, 116, 112, 58, 47, 47, 119, 119, 119, 46, 119, 51, 46, 111, 114, 103, 47, 50, 48, 48, 53, 47, 65, 116, 111, 109]⟩, .string ⟨#[110, 97, 109, 101]⟩, .slice none 0 0, .slice ko kn kc, .string ⟨#[]⟩] 27))).stay (stay_set (c := w4.heap.size) (i := 4) (v := (.slice (some ⟨w6.heap.size, 0, none⟩) 1 1)) (by have := l5.out; omega)))
  have E7 := Lib.hid (((E5.out.on b6).alloc (.cells #[.int .i64 0, .string ⟨#[104, 116, 116, 112, 58, 47, 47, 119, 119, 119, 46, 119, 51, 46, 111, 114, 103, 47, 50, 48, 48, 53, 47, 65, 116, 111, 109]⟩, .string ⟨#[110, 97, 109, 101]⟩, .slice none 0 0, .slice ko kn kc, .string ⟨#[]⟩] 27)).other (c := w4.heap.size) 4 (.slice (some ⟨w6.heap.size, 0, none⟩) 1 1) (by have := le.out; omega))
  have Z7 := Lib.hid (((Z5.out.on b6).alloc (.cells #[.int .i64 0, .string ⟨#[104, 116, 116, 112, 58, 47, 47, 119, 119, 119, 46, 119, 51, 46, 111, 114, 103, 47, 50, 48, 48, 53, 47, 65, 116, 111, 109]⟩, .string ⟨#[110, 97, 109, 101]⟩, .slice none 0 0, .slice ko kn kc, .string ⟨#[]⟩] 27)).other (c := w4.heap.size) 4 (.slice (some ⟨w6.heap.size, 0, none⟩) 1 1) (by have := le.out; have := lz.out; omega))
  have B7 := Lib.hid (((B5.out.trans (b6.mono B5.out.size)).alloc (by have := B5.out.size; have := s6.out; omega) (.cells #[.int .i64 0, .string ⟨#[104, 116, 116, 112, 58, 47, 47, 119, 119, 119, 46, 119, 51, 46, 111, 114, 103, 47, 50, 48, 48, 53, 47, 65, 116, 111, 109]⟩, .string ⟨#[110, 97, 109, 101]⟩, .slice none 0 0, .slice ko kn kc, .string ⟨#[]⟩] 27)).setCell (p := ⟨w4.heap.size, 4, none⟩) (by show w.heap.size ≤ w4.heap.size; have := lz.out; have := le.out; omega) (.slice (some ⟨w6.heap.size, 0, none⟩) 1 1))
  clear A5 E5 Z5 B5 hN6 b6
  go_upto_region 4 with fail
  clear x4 g4
  generalize (w6.alloc (.cells #[.int .i64 0, .string ⟨#[104, 116, 116, 112, 58, 47, 47, 119, 119, 119, 46, 119, 51, 46, 111, 114, 103, 47, 50, 48, 48, 53, 47, 65, 116, 111, 109]⟩, .string ⟨#[110, 97, 109, 101]⟩, .slice none 0 0, .slice ko kn kc, .string ⟨#[]⟩] 27)).setCell ⟨w4.heap.size, 4, none⟩ (.slice (some ⟨w6.heap.size, 0, none⟩) 1 1) = w7 at *
  have AN := Lib.hid (show NodeAt (fun b => w4.heap.size < b) w7 [.int .i64 0, .string ⟨#[104, 116, 116, 112, 58, 47, 47, 119, 119, 119, 46, 119, 51, 46, 111, 114, 103, 47, 50, 48, 48, 53, 47, 65, 116, 111, 109]⟩, .string ⟨#[97, 117, 116, 104, 111, 114]⟩, .slice none 0 0, .slice (some ⟨w6.heap.size, 0, none⟩) 1 1, .string ⟨#[]⟩] auN from nd_mk (atts_nil _ _) (rows_one K7.out (by have := l5.out; have := s6.out; omega) (N7.out.mono (fun b hb _ => by have := l5.out; omega))) (by unfold maxLen; simp) (by unfold maxLen; simp))
  have s1 : w7.drew.cell? ⟨w4.heap.size, 0, none⟩ = some (.int .i64 0) ∧ w7.drew.cell? ⟨w4.heap.size, 1, none⟩ = some (.string ⟨#[104, 116, 116, 112, 58, 47, 47, 119, 119, 119, 46, 119, 51, 46, 111, 114, 103, 47, 50, 48, 48, 53, 47, 65, 116, 111, 109]⟩) ∧ w7.drew.cell? ⟨w4.heap.size, 2, none⟩ = some (.string ⟨#[97, 117, 116, 104, 111, 114]⟩) ∧ w7.drew.cell? ⟨w4.heap.size, 3, none⟩ = some (.slice none 0 0) ∧ w7.drew.cell? ⟨w4.heap.size, 4, none⟩ = some (.slice (some ⟨w6.heap.size, 0, none⟩) 1 1) ∧ w7.drew.cell? ⟨w4.heap.size, 5, none⟩ = some (.string ⟨#[]⟩) := node_open (show Cells w7.drew _ _ (nodeArr 0 ⟨#[104, 116, 116, 112, 58, 47, 47, 119, 119, 119, 46, 119, 51, 46, 111, 114, 103, 47, 50, 48, 48, 53, 47, 65, 116, 111, 109]⟩ ⟨#[97, 117, 116, 104, 111, 114]⟩ (.slice none 0 0) (.slice (some ⟨w6.heap.size, 0, none⟩) 1 1) ⟨#[]⟩) from A7.out.drew)
  have cE := Lib.hid ((el_any ⟨#[116, 105, 116, 108, 101]⟩ title w7.drew).mono (R' := fun e w' => ∃ k2 n2 c2, e = .returned (.agg #[.int .i64 0, .string ⟨#[104, 116, 116, 112, 58, 47, 47, 119, 119, 119, 46, 119, 51, 46, 111, 114, 103, 47, 50, 48, 48, 53, 47, 65, 116, 111, 109]⟩, .string ⟨#[116, 105, 116, 108, 101]⟩, .slice none 0 0, .slice k2 n2 c2, .string ⟨#[]⟩]) ∧ (w'.cell? ⟨w4.heap.size, 0, none⟩ = some (.int .i64 0) ∧ w'.cell? ⟨w4.heap.size, 1, none⟩ = some (.string ⟨#[104, 116, 116, 112, 58, 47, 47, 119, 119, 119, 46, 119, 51, 46, 111, 114, 103, 47, 50, 48, 48, 53, 47, 65, 116, 111, 109]⟩) ∧ w'.cell? ⟨w4.heap.size, 2, none⟩ = some (.string ⟨#[97, 117, 116, 104, 111, 114]⟩) ∧ w'.cell? ⟨w4.heap.size, 3, none⟩ = some (.slice none 0 0) ∧ w'.cell? ⟨w4.heap.size, 4, none⟩ = some (.slice (some ⟨w6.heap.size, 0, none⟩) 1 1) ∧ w'.cell? ⟨w4.heap.size, 5, none⟩ = some (.string ⟨#[]⟩)) ∧ Hid (NodeAt (fun b => w7.heap.size ≤ b) w' [.int .i64 0, .string ⟨#[104, 116, 116, 112, 58, 47, 47, 119, 119, 119, 46, 119, 51, 46, 111, 114, 103, 47, 50, 48, 48, 53, 47, 65, 116, 111, 109]⟩, .string ⟨#[116, 105, 116, 108, 101]⟩, .slice none 0 0, .slice k2 n2 c2, .string ⟨#[]⟩] (elN ⟨#[116, 105, 116, 108, 101]⟩ title)) ∧ Hid (Below w7.heap.size w7 w')) (fun e w' ⟨k2, n2, c2, he, hN, _, hb⟩ => ⟨k2, n2, c2, he, node_open (show Cells w' _ _ (nodeArr 0 ⟨#[104, 116, 116, 112, 58, 47, 47, 119, 119, 119, 46, 119, 51, 46, 111, 114, 103, 47, 50, 48, 48, 53, 47, 65, 116, 111, 109]⟩ ⟨#[97, 117, 116, 104, 111, 114]⟩ (.slice none 0 0) (.slice (some ⟨w6.heap.size, 0, none⟩) 1 1) ⟨#[]⟩) from A7.out.drew.on hb), Lib.hid hN, Lib.hid ((Below.refl _ _).drew.trans hb)⟩))
  have hne2 : ¬ w4.heap.size = w2.heap.size := by have := le.out; omega
  go_region_held3 (fun w' => w'.cell? ⟨w4.heap.size, 0, none⟩ = some (.int .i64 0) ∧ w'.cell? ⟨w4.heap.size, 1, none⟩ = some (.string ⟨#[104, 116, 116, 112, 58, 47, 47, 119, 119, 119, 46, 119, 51, 46, 111, 114, 103, 47, 50, 48, 48, 53, 47, 65, 116, 111, 109]⟩) ∧ w'.cell? ⟨w4.heap.size, 2, none⟩ = some (.string ⟨#[97, 117, 116, 104, 111, 114]⟩) ∧ w'.cell? ⟨w4.heap.size, 3, none⟩ = some (.slice none 0 0) ∧ w'.cell? ⟨w4.heap.size, 4, none⟩ = some (.slice (some ⟨w6.heap.size, 0, none⟩) 1 1) ∧ w'.cell? ⟨w4.heap.size, 5, none⟩ = some (.string ⟨#[]⟩))
    (first | exact s1 | assumption | exact six_alloc (by assumption) _ | exact six_store (by assumption) hne2)
    (first
      | (go_at_call 59; refine (cE.out).mono ?_; rintro e w8 ⟨k2, n2, c2, rfl, hcb, N8, b8⟩
         have e4 := ((E7.out.on b8.out).alloc (.cells #[.int .i64 0, .string ⟨#[104, 116, 116, 112, 58, 47, 47, 119, 119, 119, 46, 119, 51, 46, 111, 114, 103, 47, 50, 48, 48, 53, 47, 65, 116, 111, 109]⟩, .string ⟨#[97, 117, 116, 104, 111, 114]⟩, .slice none 0 0, .slice (some ⟨w6.heap.size, 0, none⟩) 1 1, .string ⟨#[]⟩, .int .i64 0, .string ⟨#[104, 116, 116, 112, 58, 47, 47, 119, 119, 119, 46, 119, 51, 46, 111, 114, 103, 47, 50, 48, 48, 53, 47, 65, 116, 111, 109]⟩, .string ⟨#[116, 105, 116, 108, 101]⟩, .slice none 0 0, .slice k2 n2 c2, .string ⟨#[]⟩] 27)).cell (i := 4) rfl
         have h4 := ((E7.out.on b8.out).alloc (.cells #[.int .i64 0, .string ⟨#[104, 116, 116, 112, 58, 47, 47, 119, 119, 119, 46, 119, 51, 46, 111, 114, 103, 47, 50, 48, 48, 53, 47, 65, 116, 111, 109]⟩, .string ⟨#[97, 117, 116, 104, 111, 114]⟩, .slice none 0 0, .slice (some ⟨w6.heap.size, 0, none⟩) 1 1, .string ⟨#[]⟩, .int .i64 0, .string ⟨#[104, 116, 116, 112, 58, 47, 47, 119, 119, 119, 46, 119, 51, 46, 111, 114, 103, 47, 50, 48, 48, 53, 47, 65, 116, 111, 109]⟩, .string ⟨#[116, 105, 116, 108, 101]⟩, .slice none 0 0, .slice k2 n2 c2, .string ⟨#[]⟩] 27)).free 4))
  have l8 := b8.out.size
  have l7 := Lib.hid (show w2.heap.size < w7.heap.size from E7.out.lt)
  have hz2 := lz.out
  have E9 := Lib.hid (((E7.out.on b8.out).alloc (.cells #[.int .i64 0, .string ⟨#[104, 116, 116, 112, 58, 47, 47, 119, 119, 119, 46, 119, 51, 46, 111, 114, 103, 47, 50, 48, 48, 53, 47, 65, 116, 111, 109]⟩, .string ⟨#[97, 117, 116, 104, 111, 114]⟩, .slice none 0 0, .slice (some ⟨w6.heap.size, 0, none⟩) 1 1, .string ⟨#[]⟩, .int .i64 0, .string ⟨#[104, 116, 116, 112, 58, 47, 47, 119, 119, 119, 46, 119, 51, 46, 111, 114, 103, 47, 50, 48, 48, 53, 47, 65, 116, 111, 109]⟩, .string ⟨#[116, 105, 116, 108, 101]⟩, .slice none 0 0, .slice k2 n2 c2, .string ⟨#[]⟩] 27)).set 4 (.slice (some ⟨w8.heap.size, 0, none⟩) 2 2))
  have Z9 := Lib.hid (((Z7.out.on b8.out).alloc (.cells #[.int .i64 0, .string ⟨#[104, 116, 116, 112, 58, 47, 47, 119, 119, 119, 46, 119, 51, 46, 111, 114, 103, 47, 50, 48, 48, 53, 47, 65, 116, 111, 109]⟩, .string ⟨#[97, 117, 116, 104, 111, 114]⟩, .slice none 0 0, .slice (some ⟨w6.heap.size, 0, none⟩) 1 1, .string ⟨#[]⟩, .int .i64 0, .string ⟨#[104, 116, 116, 112, 58, 47, 47, 119, 119, 119, 46, 119, 51, 46, 111, 114, 103, 47, 50, 48, 48, 53, 47, 65, 116, 111, 109]⟩, .string ⟨#[116, 105, 116, 108, 101]⟩, .slice none 0 0, .slice k2 n2 c2, .string ⟨#[]⟩] 27)).other (c := w2.heap.size) 4 (.slice (some ⟨w8.heap.size, 0, none⟩) 2 2) (by omega))
  have K9 := Lib.hid ((Cells.new w8 27 #[.int .i64 0, .string ⟨#[104, 116, 116, 112, 58, 47, 47, 119, 119, 119, 46, 119, 51, 46, 111, 114, 103, 47, 50, 48, 48, 53, 47, 65, 116, 111, 109]⟩, .string ⟨#[97, 117, 116, 104, 111, 114]⟩, .slice none 0 0, .slice (some ⟨w6.heap.size, 0, none⟩) 1 1, .string ⟨#[]⟩, .int .i64 0, .string ⟨#[104, 116, 116, 112, 58, 47, 47, 119, 119, 119, 46, 119, 51, 46, 111, 114, 103, 47, 50, 48, 48, 53, 47, 65, 116, 111, 109]⟩, .string ⟨#[116, 105, 116, 108, 101]⟩, .slice none 0 0, .slice k2 n2 c2, .string ⟨#[]⟩]).other (c := w2.heap.size) 4 (.slice (some ⟨w8.heap.size, 0, none⟩) 2 2) (by have := l7.out; omega))
  have AN9 := Lib.hid ((((AN.out.mono (S' := fun b => w4.heap.size < b ∧ b < w7.heap.size) (fun b hb hl => ⟨hb, hl⟩)).on b8.out).on ((Below.refl w8.heap.size w8).alloc (Nat.le_refl _) (.cells #[.int .i64 0, .string ⟨#[104, 116, 116, 112, 58, 47, 47, 119, 119, 119, 46, 119, 51, 46, 111, 114, 103, 47, 50, 48, 48, 53, 47, 65, 116, 111, 109]⟩, .string ⟨#[97, 117, 116, 104, 111, 114]⟩, .slice none 0 0, .slice (some ⟨w6.heap.size, 0, none⟩) 1 1, .string ⟨#[]⟩, .int .i64 0, .string ⟨#[104, 116, 116, 112, 58, 47, 47, 119, 119, 119, 46, 119, 51, 46, 111, 114, 103, 47, 50, 48, 48, 53, 47, 65, 116, 111, 109]⟩, .string ⟨#[116, 105, 116, 108, 101]⟩, .slice none 0 0, .slice k2 n2 c2, .string ⟨#[]⟩] 27))).stay (stay_set (c := w2.heap.size) (i := 4) (v := (.slice (some ⟨w8.heap.size, 0, none⟩) 2 2)) (by have := le.out; omega)))
  have N9 := Lib.hid (((N8.out.mono (S' := fun b => w7.heap.size ≤ b ∧ b < w8.heap.size) (fun b hb hl => ⟨hb, hl⟩)).on ((Below.refl w8.heap.size w8).alloc (Nat.le_refl _) (.cells #[.int .i64 0, .string ⟨#[104, 116, 116, 112, 58, 47, 47, 119, 119, 119, 46, 119, 51, 46, 111, 114, 103, 47, 50, 48, 48, 53, 47, 65, 116, 111, 109]⟩, .string ⟨#[97, 117, 116, 104, 111, 114]⟩, .slice none 0 0, .slice (some ⟨w6.heap.size, 0, none⟩) 1 1, .string ⟨#[]⟩, .int .i64 0, .string ⟨#[104, 116, 116, 112, 58, 47, 47, 119, 119, 119, 46, 119, 51, 46, 111, 114, 103, 47, 50, 48, 48, 53, 47, 65, 116, 111, 109]⟩, .string ⟨#[116, 105, 116, 108, 101]⟩, .slice none 0 0, .slice k2 n2 c2, .string ⟨#[]⟩] 27))).stay (stay_set (c := w2.heap.size) (i := 4) (v := (.slice (some ⟨w8.heap.size, 0, none⟩) 2 2)) (by have := l7.out; omega)))
  have B9 := Lib.hid (((B7.out.trans (b8.out.mono B7.out.size)).alloc (by have := B7.out.size; omega) (.cells #[.int .i64 0, .string ⟨#[104, 116, 116, 112, 58, 47, 47, 119, 119, 119, 46, 119, 51, 46, 111, 114, 103, 47, 50, 48, 48, 53, 47, 65, 116, 111, 109]⟩, .string ⟨#[97, 117, 116, 104, 111, 114]⟩, .slice none 0 0, .slice (some ⟨w6.heap.size, 0, none⟩) 1 1, .string ⟨#[]⟩, .int .i64 0, .string ⟨#[104, 116, 116, 112, 58, 47, 47, 119, 119, 119, 46, 119, 51, 46, 111, 114, 103, 47, 50, 48, 48, 53, 47, 65, 116, 111, 109]⟩, .string ⟨#[116, 105, 116, 108, 101]⟩, .slice none 0 0, .slice k2 n2 c2, .string ⟨#[]⟩] 27)).setCell (p := ⟨w2.heap.size, 4, none⟩) (by show w.heap.size ≤ w2.heap.size; omega) (.slice (some ⟨w8.heap.size, 0, none⟩) 2 2))
  have le0 := le.out
  have P9 := Lib.hid (owns_two (S := fun b => w.heap.size < b) (B := w.heap.size) (c := [.int .i64 0, .string ⟨#[104, 116, 116, 112, 58, 47, 47, 119, 119, 119, 46, 119, 51, 46, 111, 114, 103, 47, 50, 48, 48, 53, 47, 65, 116, 111, 109]⟩, .string ⟨#[97, 117, 116, 104, 111, 114]⟩, .slice none 0 0, .slice (some ⟨w6.heap.size, 0, none⟩) 1 1, .string ⟨#[]⟩]) (d := [.int .i64 0, .string ⟨#[104, 116, 116, 112, 58, 47, 47, 119, 119, 119, 46, 119, 51, 46, 111, 114, 103, 47, 50, 48, 48, 53, 47, 65, 116, 111, 109]⟩, .string ⟨#[116, 105, 116, 108, 101]⟩, .slice none 0 0, .slice k2 n2 c2, .string ⟨#[]⟩]) K9.out (by have := l7.out; omega) (AN9.out.mono (fun b hb _ => ⟨by omega, by intro e; injection e; omega⟩)) (N9.out.mono (fun b hb _ => ⟨by have := l7.out; omega, by intro e; injection e; omega⟩)))
  have hg8 := Lib.hid (show some w.heap.size ≠ (Value.slice (some ⟨w8.heap.size, 0, none⟩) 2 2).ownBlock by intro e; simp [Value.ownBlock] at e; have := l7.out; omega)
  clear E7 Z7 B7 AN N8 b8 K9 AN9 N9 e4 h4 hcb s1 cE
  go_upto_region 5 with fail
  generalize (w8.alloc (.cells #[.int .i64 0, .string ⟨#[104, 116, 116, 112, 58, 47, 47, 119, 119, 119, 46, 119, 51, 46, 111, 114, 103, 47, 50, 48, 48, 53, 47, 65, 116, 111, 109]⟩, .string ⟨#[97, 117, 116, 104, 111, 114]⟩, .slice none 0 0, .slice (some ⟨w6.heap.size, 0, none⟩) 1 1, .string ⟨#[]⟩, .int .i64 0, .string ⟨#[104, 116, 116, 112, 58, 47, 47, 119, 119, 119, 46, 119, 51, 46, 111, 114, 103, 47, 50, 48, 48, 53, 47, 65, 116, 111, 109]⟩, .string ⟨#[116, 105, 116, 108, 101]⟩, .slice none 0 0, .slice k2 n2 c2, .string ⟨#[]⟩] 27)).setCell ⟨w2.heap.size, 4, none⟩ (.slice (some ⟨w8.heap.size, 0, none⟩) 2 2) = w9 at *
  obtain ⟨x0, x1, x2, x3, x4, x5⟩ := node_open (show Cells w9 _ _ (nodeArr 0 ⟨#[104, 116, 116, 112, 58, 47, 47, 119, 119, 119, 46, 119, 51, 46, 111, 114, 103, 47, 50, 48, 48, 53, 47, 65, 116, 111, 109]⟩ ⟨#[101, 110, 116, 114, 121]⟩ (.slice none 0 0) (.slice (some ⟨w8.heap.size, 0, none⟩) 2 2) ⟨#[]⟩) from E9.out)
  obtain ⟨z0, z1, z2, z3, z4, z5⟩ := node_open (show Cells w9 _ _ (nodeArr 0 ⟨#[]⟩ ⟨#[]⟩ (.slice none 0 0) (.slice none 0 0) ⟨#[]⟩) from Z9.out)
  have f0 := Z9.out.free 0
  have f1 := Z9.out.free 1
  have f2 := Z9.out.free 2
  have f3 := Z9.out.free 3
  have f4 := Z9.out.free 4
  have f5 := Z9.out.free 5
  have hF := Lib.hid (six_cells Z9.out (.int .i64 0) (.string ⟨#[104, 116, 116, 112, 58, 47, 47, 119, 119, 119, 46, 119, 51, 46, 111, 114, 103, 47, 50, 48, 48, 53, 47, 65, 116, 111, 109]⟩) (.string ⟨#[101, 110, 116, 114, 121]⟩) (.slice none 0 0) (.slice (some ⟨w8.heap.size, 0, none⟩) 2 2) (.string ⟨#[]⟩))
  have hB := Lib.hid (six_below B9.out (Nat.le_refl _) (.int .i64 0) (.string ⟨#[104, 116, 116, 112, 58, 47, 47, 119, 119, 119, 46, 119, 51, 46, 111, 114, 103, 47, 50, 48, 48, 53, 47, 65, 116, 111, 109]⟩) (.string ⟨#[101, 110, 116, 114, 121]⟩) (.slice none 0 0) (.slice (some ⟨w8.heap.size, 0, none⟩) 2 2) (.string ⟨#[]⟩))
  have hP := Lib.hid ((((((P9.out.set (c := w.heap.size) (Nat.lt_irrefl _) hg8.out 0 (.int .i64 0)).set (c := w.heap.size) (Nat.lt_irrefl _) hg8.out 1 (.string ⟨#[104, 116, 116, 112, 58, 47, 47, 119, 119, 119, 46, 119, 51, 46, 111, 114, 103, 47, 50, 48, 48, 53, 47, 65, 116, 111, 109]⟩)).set (c := w.heap.size) (Nat.lt_irrefl _) hg8.out 2 (.string ⟨#[101, 110, 116, 114, 121]⟩)).set (c := w.heap.size) (Nat.lt_irrefl _) hg8.out 3 (.slice none 0 0)).set (c := w.heap.size) (Nat.lt_irrefl _) hg8.out 4 (.slice (some ⟨w8.heap.size, 0, none⟩) 2 2)).set (c := w.heap.size) (Nat.lt_irrefl _) hg8.out 5 (.string ⟨#[]⟩))
  clear E9 Z9 B9 P9
  go_wp2_with fail
  exact node_end (i := 2) (rb := w.heap.size) rfl rfl hF.out ⟨w8.heap.size, rfl, hP.out, hB.out⟩

/-- An entry whose kids the call owns. -/
theorem nd_owned {B : Nat} {v : Value} {kids : List Gv.Node} {w : World} {k : Int} {sp nm d : ByteArray} (h : OwnsKids (fun b => B < b) B v kids w) : Nd w #[.int .i64 k, .string sp, .string nm, .slice none 0 0, v, .string d] (.mk k sp nm [] kids d) := by
  obtain ⟨ao, cap, cs, rfl, hr, hn, hl, _⟩ := (h.mono (S' := fun _ => True) (fun _ _ _ => trivial)).rows (fun _ _ _ => trivial)
  exact ⟨fun _ => True, .mk cs ⟨by unfold maxLen; simp, hl⟩ (atts_nil _ _) hr hn⟩
end Go.Proofs.YtdhondndidoniaaGreatDoor
namespace Go.Proofs.YtdhondndidoniaaGreatDoor
open Go.RowKit
set_option linter.unusedVariables false
set_option linter.unusedSimpArgs false

attribute [local go_sem] Instr.field asAgg

theorem pa_e : Pr.pressE (plN ⟨#[120]⟩) ⟨#[117, 114, 110, 58, 97]⟩ ⟨#[47, 101]⟩ 0 = 0 := by decide +kernel
theorem pa_z : Pr.pressE Pr.zeroN ⟨#[117, 114, 110, 58, 97]⟩ ⟨#[47, 101]⟩ 0 = 150 := by decide +kernel
theorem pa_len : (Am.kidsOf (Pr.pressN (plN ⟨#[120]⟩) ⟨#[117, 114, 110, 58, 97]⟩ ⟨#[47, 101]⟩ 0)).length = 6 := by decide +kernel
theorem pa_2 : (Am.kidsOf (Pr.pressN (plN ⟨#[120]⟩) ⟨#[117, 114, 110, 58, 97]⟩ ⟨#[47, 101]⟩ 0))[2]?.map Am.nameOf = some ⟨#[105, 100]⟩ := by decide +kernel
theorem pa_5 : (Am.kidsOf (Pr.pressN (plN ⟨#[120]⟩) ⟨#[117, 114, 110, 58, 97]⟩ ⟨#[47, 101]⟩ 0))[5]?.map Am.nameOf = some ⟨#[108, 105, 110, 107]⟩ := by decide +kernel
theorem pa_wt : Gv.wt (Pr.pressN (plN ⟨#[120]⟩) ⟨#[117, 114, 110, 58, 97]⟩ ⟨#[47, 101]⟩ 0) ≤ 100000 := by decide +kernel
theorem pa_strip : (Am.kidsOf (Pr.strip (Pr.pressN (plN ⟨#[120]⟩) ⟨#[117, 114, 110, 58, 97]⟩ ⟨#[47, 101]⟩ 0))).length = 3 := by decide +kernel
theorem pa_plain : Gv.wt (plN ⟨#[120]⟩) ≤ 100000 := by decide +kernel
theorem pa_zero : Gv.wt Pr.zeroN ≤ 100000 := by decide +kernel
theorem at_name {l : List Gv.Node} {j : Nat} {k : Int} {s nm d x : ByteArray} {a : List Gv.Att} {kd : List Gv.Node} (h : j < l.length) (he : l[j] = .mk k s nm a kd d) (hm : l[j]?.map Am.nameOf = some x) : nm = x := by
  rw [List.getElem?_eq_getElem h, he] at hm
  simpa [Am.nameOf] using hm

set_option maxRecDepth 100000 in
set_option maxHeartbeats 12800000 in
theorem preAwake_any (w : World) (hE : Env w) : Calls Tryz.prog 10 #[] w fun e w' => e = .returned (.bool true) ∧ Below w.heap.size w w' := by
  replace hE := Lib.hid hE
  go_enter Tryz.func10, Tryz.ntmps10
  go_wp2_with fail
  (with_reducible refine (plain_any ⟨#[120]⟩ _).mono ?_); rintro e w1 ⟨g1, rfl, K1, b1⟩
  have B1 := Lib.hid b1
  have c1 := Lib.hid (ppPress_any (plN ⟨#[120]⟩) ⟨#[117, 114, 110, 58, 97]⟩ ⟨#[47, 101]⟩ 0 w1 (nd_owned (k := 0) (sp := ⟨#[104, 116, 116, 112, 58, 47, 47, 119, 119, 119, 46, 119, 51, 46, 111, 114, 103, 47, 50, 48, 48, 53, 47, 65, 116, 111, 109]⟩) (nm := ⟨#[101, 110, 116, 114, 121]⟩) (d := ⟨#[]⟩) K1) pa_plain (by decide) (by decide) (hE.out.on b1))
  rw [pa_e] at c1
  have hl := pa_len
  have h2 := pa_2
  have h5 := pa_5
  have hw := pa_wt
  have hs := pa_strip
  generalize (Pr.pressN (plN ⟨#[120]⟩) ⟨#[117, 114, 110, 58, 97]⟩ ⟨#[47, 101]⟩ 0) = M at *
  clear K1 b1
  go_wp2_with fail
  (refine c1.out.mono ?_); rintro e w2 ⟨A, rfl, hN, b2⟩
  obtain ⟨S, k, sp, nm, d, as', kids, ao, bo, ca, cb, hM, rfl, ha, hk, hla, hlk⟩ := hN.form
  have hkid : Am.kidsOf M = kids := by rw [hM]; rfl
  rw [hkid] at hl h2 h5
  obtain ⟨b, off, k2, s2, n2, d2, a2, kd2, po2, qo2, pc2, qc2, rfl, e2, y0, y1, y2, y3, y4, y5, -⟩ := hk.kid (j := 2) (by omega)
  obtain ⟨b', off', k5, s5, n5, d5, a5, kd5, po5, qo5, pc5, qc5, eb, e5, u0, u1, u2, u3, u4, u5, -⟩ := hk.kid (j := 5) (by omega)
  obtain rfl := at_name (by omega) e2 h2
  obtain rfl := at_name (by omega) e5 h5
  injection eb with eb
  injection eb with eb1 eb2
  subst eb1; subst eb2
  rw [hl] at hN
  try rw [hl]
  have b3 := (Below.refl w2.heap.size w2).alloc (Nat.le_refl _) (.cells #[.int .i64 k, .string sp, .string nm, .slice ao as'.length ca, .slice (some ⟨b, off, none⟩) 6 cb, .string d] 27)
  have Q3 := Lib.hid (Cells.new w2 27 #[.int .i64 k, .string sp, .string nm, .slice ao as'.length ca, .slice (some ⟨b, off, none⟩) 6 cb, .string d])
  have N3 := Lib.hid (hN.on b3)
  have B3 := Lib.hid ((B1.out.trans (b2.mono B1.out.size)).trans (b3.mono (by have := B1.out.size; have := b2.size; omega)))
  have on3 := fun {a : Addr} {x : Value} (hx : w2.cell? a = some x) => (b3.cell (World.block_lt_of_cell? w2 _ hx)).trans hx
  have y2 := on3 y2
  have u2 := on3 u2
  replace hl := Lib.hid hl
  clear y0 y1 y3 y4 y5 u0 u1 u3 u4 u5 on3 b3 b2 c1 ha hk hla hlk hN hM h2 h5 e2 e5
  go_upto_region 2 with fail
  generalize w2.alloc (.cells #[.int .i64 k, .string sp, .string nm, .slice ao as'.length ca, .slice (some ⟨b, off, none⟩) 6 cb, .string d] 27) = w3 at *
  have c2 := Lib.hid (ppPress_any Pr.zeroN (A := #[.int .i64 0, .string ⟨#[]⟩, .string ⟨#[]⟩, .slice none 0 0, .slice none 0 0, .string ⟨#[]⟩]) ⟨#[117, 114, 110, 58, 97]⟩ ⟨#[47, 101]⟩ 0 w3 ⟨fun _ => True, node_plain _ _ 0 ⟨#[]⟩ ⟨#[]⟩ ⟨#[]⟩⟩ pa_zero (by decide) (by decide) (hE.out.on B3.out))
  rw [pa_z] at c2
  go_wp2_with fail
  (refine c2.out.mono ?_); rintro e w4 ⟨A2, rfl, hZ, b4⟩
  obtain ⟨S2, kz, spz, nmz, dz, asz, kidz, aoz, boz, caz, cbz, -, rfl, -, -, -, -⟩ := hZ.form
  have b5 := (Below.refl w4.heap.size w4).alloc (Nat.le_refl _) (.cells #[.int .i64 kz, .string spz, .string nmz, .slice aoz asz.length caz, .slice boz kidz.length cbz, .string dz] 27)
  have on5 := fun {a : Addr} {x : Value} (hx : w3.cell? a = some x) => (b5.cell (by have := (World.block_lt_of_cell? w3 _ hx); have := b4.size; omega)).trans ((b4.cell (World.block_lt_of_cell? w3 _ hx)).trans hx)
  have Q5 := Lib.hid ((Q3.out.on b4).on b5)
  have N5 := Lib.hid ((N3.out.on b4).on b5)
  have B5 := Lib.hid ((B3.out.trans (b4.mono B3.out.size)).trans (b5.mono (by have := B3.out.size; have := b4.size; omega)))
  have y2 := on5 y2
  have u2 := on5 u2
  clear on5 hZ b4 b5 c2 Q3 N3 B3
  go_upto_region 3 with fail
  generalize w4.alloc (.cells #[.int .i64 kz, .string spz, .string nmz, .slice aoz asz.length caz, .slice boz kidz.length cbz, .string dz] 27) = w5 at *
  obtain ⟨x0, x1, x2, x3, x4, x5⟩ := node_open (show Cells w5 _ _ (nodeArr k sp nm (.slice ao as'.length ca) (.slice (some ⟨b, off, none⟩) 6 cb) d) from Q5.out)
  have c3 := ppStrip_any M w5 N5.out hw
  replace c3 := Lib.hid c3
  rw [show off + 2 * 6 + 2 = off + 14 from rfl] at y2
  rw [show off + 5 * 6 + 2 = off + 32 from rfl] at u2
  go_wp2_with fail
  (refine c3.out.mono ?_); rintro e w6 ⟨A3, rfl, hN3, b6⟩
  obtain ⟨S3, k3, sp3, nm3, d3, as3, kid3, ao3, bo3, ca3, cb3, hM3, rfl, -, -, -, -⟩ := hN3.form
  have hk3 : kid3.length = 3 := by
    rw [hM3] at hs
    exact hs
  rw [hk3]
  have B6 := B5.out.trans (b6.mono B5.out.size)
  clear x0 x1 x2 x3 x4 x5 y2 u2 c3 b6 hN3
  go_wp2_with fail
  go_ret
  exact ⟨rfl, B6⟩
end Go.Proofs.YtdhondndidoniaaGreatDoor
