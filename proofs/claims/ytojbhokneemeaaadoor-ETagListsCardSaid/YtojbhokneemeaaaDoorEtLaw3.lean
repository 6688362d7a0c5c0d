/-
  The statements' walks: ETagMays, ETagSmall.
-/
import Derived.Test.YtojbhokneemeaaaDoorEtLaw
import Derived.Test.YtojbhokneemeaaaDoorPieces
namespace Go.Proofs.YtojbhokneemeaaaDoor
open Go.RowKit

theorem keepT {f : FuncId} {args : Array Value} {v : Value} {W w0 : World} {b : Nat} {t : Tag} (hC : ∀ W, Below w0.heap.size w0 W → Calls Tryd.prog f args W fun e w' => e = .returned v ∧ Below W.heap.size W w')
    (h : W.cell? ⟨b, 0, none⟩ = some (.bool t.weak) ∧ W.cell? ⟨b, 1, none⟩ = some (.string t.value) ∧ Below w0.heap.size w0 W) :
    Calls Tryd.prog f args W fun e w' => e = .returned v ∧ (w'.cell? ⟨b, 0, none⟩ = some (.bool t.weak) ∧ w'.cell? ⟨b, 1, none⟩ = some (.string t.value) ∧ Below w0.heap.size w0 w') := by
  obtain ⟨h0, h1, e⟩ := h
  refine (hC W e).mono fun _ _ ⟨he, hb⟩ => ⟨he, ?_⟩
  have on := fun {a : Addr} {x : Value} (hx : W.cell? a = some x) => (hb.cell (World.block_lt_of_cell? W _ hx)).trans hx
  exact ⟨on h0, on h1, e.trans (hb.mono e.size)⟩

set_option maxRecDepth 100000 in
set_option maxHeartbeats 12800000 in
theorem mays_any {ao : Option Addr} {cap n : Nat} (l : List Tag) (star : Bool) (t : Tag) (mt no : ByteArray) (x : Int) (w : World) (hl : TagsIn w ao l) (hn : l.length = n) (hz : n ≤ maxLen) (_ : mt.size ≤ maxLen) (_ : no.size ≤ maxLen) :
    Calls Tryd.prog 4 #[.slice ao n cap, .bool star, .agg #[.bool t.weak, .string t.value], .string mt, .string no, .int .u8 x] w fun e w' => e = .returned (.bool true) ∧ Below w.heap.size w w' := by
  have bA := (Below.refl w.heap.size w).alloc (Nat.le_refl _) (.cells #[.bool t.weak, .string t.value] 23)
  have k0 := TagBox.new w t
  have hl2 := hl.below bA
  have hz2 : n ≤ 9223372036854775807 := hz
  clear hl
  replace hn := Lib.hid hn
  replace hz := Lib.hid hz
  go_enter Tryd.func4, Tryd.ntmps4
  go_upto_region 1 with fail
  generalize w.alloc (.cells #[.bool t.weak, .string t.value] 23) = W at *
  replace bA := Lib.hid bA
  have c0 := k0.c0
  have c1 := k0.c1
  replace k0 := Lib.hid k0
  replace hl2 := Lib.hid hl2
  by_cases hl : 50 < n ∨ 1000 < mt.size ∨ 1000 < no.size
  · have hl' : 50 < n ∨ (¬ 50 < n ∧ 1000 < mt.size) ∨ (¬ 50 < n ∧ ¬ 1000 < mt.size ∧ 1000 < no.size) := by omega
    clear hl
    rcases hl' with hl | ⟨hl, hlm⟩ | ⟨hl, hlm, hln⟩
    all_goals
      go_wp2_with fail
      (with_reducible refine (awake_any _).mono ?_); rintro e w1 ⟨rfl, b1⟩
      have x1 := Lib.hid (bA.out.trans (b1.mono bA.out.size))
      go_wp2_with fail
      go_ret
      exact ⟨rfl, x1.out⟩
  · obtain ⟨h1, h2, h3⟩ : ¬ 50 < n ∧ ¬ 1000 < mt.size ∧ ¬ 1000 < no.size := by omega
    clear hl
    go_upto_region 3 with fail
    go_cut [13, 14, 15] (fun a b c wx => ∃ p q r : Bool, a = .bool p ∧ b = .bool q ∧ c = .bool r ∧ W = wx)
    case first =>
      go_wp2_with fail
      go_meet
      exact ⟨_, _, _, rfl, rfl, rfl, rfl⟩
    case rest =>
    obtain ⟨p, q, r, rfl, rfl, rfl, rfl⟩ := hcut
    have cH := Lib.hid (fun V (h : Below W.heap.size W V) => eHas_any (cap := cap) l star t p r V (hl2.out.below h) hn.out hz.out)
    have cJ := Lib.hid (fun V (h : Below W.heap.size W V) => refHas_any (cap := cap) l star t p r V (hl2.out.below h) hn.out hz.out)
    have cM := Lib.hid (fun V (_ : Below W.heap.size W V) => eMay_any mt no t p q V (by omega) (by omega))
    have cN := Lib.hid (fun V (_ : Below W.heap.size W V) => refMay_any mt no t p q V (by omega) (by omega))
    have cA := Lib.hid (fun V (_ : Below W.heap.size W V) => awake_any V)
    generalize Et.has l star t p r = H at *
    generalize Et.mayQ mt.data.toList no.data.toList t p q = Q at *
    have g1 : (H == H) = true := beq_self_eq_true _
    have g2 : (Q == Q) = true := beq_self_eq_true _
    go_upto_region 4 with fail
    go_region_held3 (fun w' => w'.cell? ⟨w.heap.size, 0, none⟩ = some (.bool t.weak) ∧ w'.cell? ⟨w.heap.size, 1, none⟩ = some (.string t.value) ∧ Below W.heap.size W w') (first | exact ⟨c0, c1, (Below.refl _ _).drew⟩ | assumption)
      (first
        | (go_at_call 8; refine (keepT (w0 := W) (b := w.heap.size) (t := t) cA.out ?_).mono ?_; assumption; rintro e w' ⟨rfl, hcb⟩)
        | (go_at_call 14; refine (keepT (w0 := W) (b := w.heap.size) (t := t) cH.out ?_).mono ?_; assumption; rintro e w' ⟨rfl, hcb⟩)
        | (go_at_call 15; refine (keepT (w0 := W) (b := w.heap.size) (t := t) cJ.out ?_).mono ?_; assumption; rintro e w' ⟨rfl, hcb⟩)
        | (go_at_call 16; refine (keepT (w0 := W) (b := w.heap.size) (t := t) cM.out ?_).mono ?_; assumption; rintro e w' ⟨rfl, hcb⟩)
        | (go_at_call 17; refine (keepT (w0 := W) (b := w.heap.size) (t := t) cN.out ?_).mono ?_; assumption; rintro e w' ⟨rfl, hcb⟩))
    all_goals
      obtain ⟨-, -, b6⟩ := hcb
      go_wp2_with fail
      go_ret
      exact ⟨rfl, bA.out.trans (b6.mono bA.out.size)⟩

set_option maxRecDepth 100000 in
set_option maxHeartbeats 25600000 in
theorem small_any {eo fo : Option Addr} {ce cf m1 m2 : Nat} (L M : List UInt8) (t : Tag) (there get : Bool) (w : World) (hL : BytesAt eo L w) (hm1 : L.length = m1) (hz1 : m1 ≤ maxLen) (hM : BytesAt fo M w) (hm2 : M.length = m2) (hz2 : m2 ≤ maxLen) :
    Calls Tryd.prog 7 #[.slice eo m1 ce, .slice fo m2 cf, .agg #[.bool t.weak, .string t.value], .bool there, .bool get] w fun e w' => e = .returned (.bool true) ∧ Below w.heap.size w w' := by
  replace hm1 := Lib.hid hm1
  replace hm2 := Lib.hid hm2
  have b1 := (Below.refl w.heap.size w).alloc (Nat.le_refl _) (.cells #[.bool t.weak, .string t.value] 23)
  have xA := b1.alloc (by simp) (.cells #[.string ⟨#[34, 97, 34]⟩, .string ⟨#[34, 98, 34]⟩, .string ⟨#[87, 47]⟩, .string ⟨#[44]⟩, .string ⟨#[32]⟩, .string ⟨#[42]⟩, .string ⟨#[34, 34]⟩, .string ⟨#[120]⟩, .string ⟨#[34, 49, 45, 49, 34]⟩, .string ⟨#[44, 32]⟩] 9)
  have k0 : TagBox _ w.heap.size t := (Cells.new w 23 #[.bool t.weak, .string t.value]).alloc (.cells #[.string ⟨#[34, 97, 34]⟩, .string ⟨#[34, 98, 34]⟩, .string ⟨#[87, 47]⟩, .string ⟨#[44]⟩, .string ⟨#[32]⟩, .string ⟨#[42]⟩, .string ⟨#[34, 34]⟩, .string ⟨#[120]⟩, .string ⟨#[34, 49, 45, 49, 34]⟩, .string ⟨#[44, 32]⟩] 9)
  have hS : StrsAt (w.heap.size + 1) [⟨#[34, 97, 34]⟩, ⟨#[34, 98, 34]⟩, ⟨#[87, 47]⟩, ⟨#[44]⟩, ⟨#[32]⟩, ⟨#[42]⟩, ⟨#[34, 34]⟩, ⟨#[120]⟩, ⟨#[34, 49, 45, 49, 34]⟩, ⟨#[44, 32]⟩] ((w.alloc (.cells #[.bool t.weak, .string t.value] 23)).alloc (.cells #[.string ⟨#[34, 97, 34]⟩, .string ⟨#[34, 98, 34]⟩, .string ⟨#[87, 47]⟩, .string ⟨#[44]⟩, .string ⟨#[32]⟩, .string ⟨#[42]⟩, .string ⟨#[34, 34]⟩, .string ⟨#[120]⟩, .string ⟨#[34, 49, 45, 49, 34]⟩, .string ⟨#[44, 32]⟩] 9)) := by
    have := strsAt_cells (L := [⟨#[34, 97, 34]⟩, ⟨#[34, 98, 34]⟩, ⟨#[87, 47]⟩, ⟨#[44]⟩, ⟨#[32]⟩, ⟨#[42]⟩, ⟨#[34, 34]⟩, ⟨#[120]⟩, ⟨#[34, 49, 45, 49, 34]⟩, ⟨#[44, 32]⟩]) (heap_alloc_new (w.alloc (.cells #[.bool t.weak, .string t.value] 23)) (.cells #[.string ⟨#[34, 97, 34]⟩, .string ⟨#[34, 98, 34]⟩, .string ⟨#[87, 47]⟩, .string ⟨#[44]⟩, .string ⟨#[32]⟩, .string ⟨#[42]⟩, .string ⟨#[34, 34]⟩, .string ⟨#[120]⟩, .string ⟨#[34, 49, 45, 49, 34]⟩, .string ⟨#[44, 32]⟩] 9))
    rwa [World.size_alloc] at this
  have hS1 : ∀ p ∈ ([⟨#[34, 97, 34]⟩, ⟨#[34, 98, 34]⟩, ⟨#[87, 47]⟩, ⟨#[44]⟩, ⟨#[32]⟩, ⟨#[42]⟩, ⟨#[34, 34]⟩, ⟨#[120]⟩, ⟨#[34, 49, 45, 49, 34]⟩, ⟨#[44, 32]⟩] : List ByteArray), p.size ≤ 10 := by decide
  have hlen : ([⟨#[34, 97, 34]⟩, ⟨#[34, 98, 34]⟩, ⟨#[87, 47]⟩, ⟨#[44]⟩, ⟨#[32]⟩, ⟨#[42]⟩, ⟨#[34, 34]⟩, ⟨#[120]⟩, ⟨#[34, 49, 45, 49, 34]⟩, ⟨#[44, 32]⟩] : List ByteArray).length = 10 := rfl
  have hLA := Lib.hid (hL.below xA)
  have hMA := Lib.hid (hM.below xA)
  generalize ([⟨#[34, 97, 34]⟩, ⟨#[34, 98, 34]⟩, ⟨#[87, 47]⟩, ⟨#[44]⟩, ⟨#[32]⟩, ⟨#[42]⟩, ⟨#[34, 34]⟩, ⟨#[120]⟩, ⟨#[34, 49, 45, 49, 34]⟩, ⟨#[44, 32]⟩] : List ByteArray) = PS at hS hS1 hlen
  replace hlen := Lib.hid hlen
  replace hS1 := Lib.hid hS1
  replace hS := Lib.hid hS
  replace xA := Lib.hid xA
  clear hL hM b1
  replace k0 := Lib.hid k0
  go_enter Tryd.func7, Tryd.ntmps7
  go_upto_region 2 with fail
  generalize ((w.alloc (.cells #[.bool t.weak, .string t.value] 23)).alloc (.cells #[.string ⟨#[34, 97, 34]⟩, .string ⟨#[34, 98, 34]⟩, .string ⟨#[87, 47]⟩, .string ⟨#[44]⟩, .string ⟨#[32]⟩, .string ⟨#[42]⟩, .string ⟨#[34, 34]⟩, .string ⟨#[120]⟩, .string ⟨#[34, 49, 45, 49, 34]⟩, .string ⟨#[44, 32]⟩] 9)) = W at *
  go_wp2_with fail
  (with_reducible refine (pieces_any L PS _ hLA.out hm1.out hS.out hlen.out (by decide) (by decide) hz1 hS1.out).mono ?_); rintro e wp ⟨⟨s, rfl, hs⟩, bp⟩
  replace hMA := Lib.hid (hMA.out.below bp)
  have hS2 : Hid (StrsAt (w.heap.size + 1) PS wp) := Lib.hid (fun j hj => (bp.cell (World.block_lt_of_cell? _ _ (hS.out j hj))).trans (hS.out j hj))
  replace xA := Lib.hid (xA.out.trans (bp.mono xA.out.size))
  replace k0 := Lib.hid (k0.out.on bp)
  clear bp hS hLA
  go_wp2_with fail
  (with_reducible refine (pieces_any M PS _ hMA.out hm2.out hS2.out hlen.out (by decide) (by decide) hz2 hS1.out).mono ?_); rintro e wq ⟨⟨u, rfl, hu⟩, bq⟩
  replace xA := Lib.hid (xA.out.trans (bq.mono xA.out.size))
  replace k0 := Lib.hid (k0.out.on bq)
  clear bq hS2 hMA
  have c0 := k0.out.c0
  have c1 := k0.out.c1
  go_upto_region 3 with fail
  go_cut [34] (fun c wx => ∃ b : Bool, c = .bool b ∧ wq = wx)
  case first =>
    by_cases h1 : t.value.data.toList = [97]
    · have e1 := str_is h1
      have e2 : t.value.toList = [97] := by rw [ByteArray.toList_eq, h1]
      replace h1 := Lib.hid h1
      go_wp2_with fail
      go_meet
      exact ⟨_, rfl, rfl⟩
    · have e1 := str_ne h1
      have e2 : ¬ t.value.toList = [97] := by rw [ByteArray.toList_eq]; exact h1
      replace h1 := Lib.hid h1
      go_wp2_with fail
      go_meet
      exact ⟨_, rfl, rfl⟩
  case rest =>
  obtain ⟨cb, rfl, rfl⟩ := hcut
  have f1 := Cells.free k0.out 1
  go_upto_if 34 with fail
  go_cut [35] (fun _ wx => ∃ T : Tag, Hid (TagBox wx w.heap.size T) ∧ Hid (Below w.heap.size w wx))
  case first =>
    cases cb
    · go_wp2_with fail
      go_meet
      exact ⟨t, k0, xA⟩
    · have k1 : Hid (TagBox (wq.setCell ⟨w.heap.size, 1, none⟩ (.string ⟨#[49, 45, 49]⟩)) w.heap.size ⟨t.weak, ⟨#[49, 45, 49]⟩⟩) := Lib.hid (Cells.set k0.out 1 (.string ⟨#[49, 45, 49]⟩))
      have x1 := Lib.hid (xA.out.setCell (p := ⟨w.heap.size, 1, none⟩) (Nat.le_refl _) (.string ⟨#[49, 45, 49]⟩))
      go_wp2_with fail
      go_meet
      exact ⟨_, k1, x1⟩
  case rest =>
  obtain ⟨T, kT, xT⟩ := hcut
  clear k0 xA c0 c1 f1
  have cL := Lib.hid (fun W => eList_any s W (by omega))
  have cR := Lib.hid (fun W => refList_any s W (by omega))
  have hz := li_size s
  generalize liT s = TL at *
  generalize liS s = S at *
  generalize liE s = E at *
  go_wp2_with fail
  (with_reducible refine (cL.out _).mono ?_); rintro e w3 ⟨v, rfl, ho, b3⟩
  obtain ⟨ao, cap, rfl, hT⟩ := tags_of_owns ho
  replace xT := Lib.hid (xT.out.trans (b3.mono xT.out.size))
  replace kT := Lib.hid (kT.out.on b3)
  replace hT := Lib.hid hT
  clear ho b3 cL
  go_wp2_with fail
  (with_reducible refine (cR.out _).mono ?_); rintro e w4 ⟨v, rfl, ho, b4⟩
  obtain ⟨ao2, cap2, rfl, hU⟩ := tags_of_owns ho
  replace xT := Lib.hid (xT.out.trans (b4.mono xT.out.size))
  replace kT := Lib.hid (kT.out.on b4)
  replace hT := Lib.hid (hT.out.below b4)
  replace hU := Lib.hid hU
  clear ho b4 cR
  have c0 := kT.out.c0
  have c1 := kT.out.c1
  have cQ := Lib.hid (fun V (h : Below w4.heap.size w4 V) => by
    have := sameTags_any (ca := cap) (cb := cap2) TL TL V (hT.out.below h) (hU.out.below h) (by omega) rfl rfl
    rw [decide_eq_true rfl] at this
    exact this)
  have cM := Lib.hid (fun V (_ : Below w4.heap.size w4 V) => eMay_any s u T there get V (by omega) (by omega))
  have cN := Lib.hid (fun V (_ : Below w4.heap.size w4 V) => refMay_any s u T there get V (by omega) (by omega))
  have cA := Lib.hid (fun V (_ : Below w4.heap.size w4 V) => awake_any V)
  generalize Et.mayQ s.data.toList u.data.toList T there get = Q at *
  have g1 : (S == S) = true := beq_self_eq_true _
  have g2 : (Q == Q) = true := beq_self_eq_true _
  have g3 : (E == E) = true := beq_self_eq_true _
  clear kT hT hU
  go_upto_region 7 with fail
  go_region_held3 (fun w' => w'.cell? ⟨w.heap.size, 0, none⟩ = some (.bool T.weak) ∧ w'.cell? ⟨w.heap.size, 1, none⟩ = some (.string T.value) ∧ Below w4.heap.size w4 w') (first | exact ⟨c0, c1, (Below.refl _ _).drew⟩ | assumption)
    (first
      | (go_at_call 8; refine (keepT (w0 := w4) (b := w.heap.size) (t := T) cA.out ?_).mono ?_; assumption; rintro e w' ⟨rfl, hcb⟩)
      | (go_at_call 13; refine (keepT (w0 := w4) (b := w.heap.size) (t := T) cQ.out ?_).mono ?_; assumption; rintro e w' ⟨rfl, hcb⟩)
      | (go_at_call 16; refine (keepT (w0 := w4) (b := w.heap.size) (t := T) cM.out ?_).mono ?_; assumption; rintro e w' ⟨rfl, hcb⟩)
      | (go_at_call 17; refine (keepT (w0 := w4) (b := w.heap.size) (t := T) cN.out ?_).mono ?_; assumption; rintro e w' ⟨rfl, hcb⟩))
  all_goals
    obtain ⟨-, -, b6⟩ := hcb
    go_wp2_with fail
    go_ret
    exact ⟨rfl, xT.out.trans (b6.mono xT.out.size)⟩
end Go.Proofs.YtojbhokneemeaaaDoor
