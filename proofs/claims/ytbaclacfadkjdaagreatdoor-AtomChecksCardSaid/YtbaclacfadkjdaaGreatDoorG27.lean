/-
  What the document's own Check of entries comes to: the walk.
-/
import Derived.Test.YtbaclacfadkjdaaGreatDoorG26
namespace Go.Proofs.YtbaclacfadkjdaaGreatDoor
open Go.RowKit
theorem StrsAt.on {b : Nat} {L : List ByteArray} {w w' : World} (h : StrsAt b L w) (hb : Below w.heap.size w w') : StrsAt b L w' := fun j hj =>
  (hb.cell (World.block_lt_of_cell? w _ (h j hj))).trans (h j hj)
structure CkIs (n : Gv.Node) (stored : Bool) (E : Int) (en : Bool) (f : Nat → Bool) (la lt li lu : Nat) (L : List Gv.Node) : Prop where
  no0 : en = false → E = 150
  no1 : ∀ i, i < 11 → f i = false → E = 150
  no2 : la = 0 → E = 150
  no3 : lt = 0 → E = 150
  no4 : stored = true → li = 0 → E = 150
  no5 : stored = true → lu = 0 → E = 150
  no6 : (¬ L.Pairwise fun a b => Am.alike Am.onD a b = false) → E = 150
  yes : en = true → (List.range 11).all f = true → la ≠ 0 → lt ≠ 0 → (stored = true → li ≠ 0 ∧ lu ≠ 0) → (L.Pairwise fun a b => Am.alike Am.onD a b = false) → E = 0
theorem ck_is (n : Gv.Node) (stored : Bool) : CkIs n stored (ckE n stored) (Am.isEl n Am.atomS (Am.lit "entry")) (Am.okIn (Am.kidsOf n)) (Am.all n (Am.lit "author")).length (Am.all n (Am.lit "title")).length (Am.all n (Am.lit "id")).length (Am.all n (Am.lit "updated")).length (Am.all n (Am.lit "link")) where
  no0 h := ck_no (by rw [Am.check_is, h]; rfl)
  no1 i hi h := ck_no (by rw [Am.check_is, range_bad hi h]; simp)
  no2 h := ck_no (by rw [Am.check_is, h]; simp)
  no3 h := ck_no (by rw [Am.check_is, h]; simp)
  no4 h1 h := ck_no (by rw [Am.check_is, h, h1]; simp)
  no5 h1 h := ck_no (by rw [Am.check_is, h, h1]; simp)
  no6 h := ck_no (by rw [Am.check_is, decide_eq_false h]; simp)
  yes h0 h1 h2 h3 h4 h5 := ck_yes (by
    rw [Am.check_is, h0, h1, decide_eq_true h2, decide_eq_true h3, decide_eq_true h5]
    cases stored with
    | false => rfl
    | true => rw [decide_eq_true (h4 rfl).1, decide_eq_true (h4 rfl).2]; rfl)
theorem em_ret {a b : Int} (h : a = b) : Ending.returned (.int .i64 a) = .returned (.int .i64 b) := by rw [h]
set_option maxRecDepth 100000 in
set_option maxHeartbeats 12800000 in
theorem nd_check (n : Gv.Node) {A : Array Value} (stored : Bool) (w : World) (h : Nd w A n) (hz : Gv.wt n ≤ 100000) :
    Calls Tryz.prog 11 #[.agg A, .bool stored] w fun e w' => e = .returned (.int .i64 (ckE n stored)) ∧ Below w.heap.size w w' := by
  have hck := ck_is n stored
  have hokf := Lib.hid (fun i (h : i < 11) => Am.okIn_at (n := n) i h)
  have kE := Lib.hid (fun W A (hW : Nd W A n) => nd_is n ⟨#[104, 116, 116, 112, 58, 47, 47, 119, 119, 119, 46, 119, 51, 46, 111, 114, 103, 47, 50, 48, 48, 53, 47, 65, 116, 111, 109]⟩ ⟨#[101, 110, 116, 114, 121]⟩ W hW)
  rw [am_atom, show (⟨#[101, 110, 116, 114, 121]⟩ : ByteArray).data.toList = Am.lit "entry" from am_lit_entry.symm] at kE
  have kN := Lib.hid (fun (i : Nat) (hi : i < 11) W A (hW : Nd W A n) => nd_all n (Am.names[i]) W hW (by omega))
  have kEach := Lib.hid (fun (i : Nat) (hi : i < 11) W A (hW : Nd W A n) => nd_each n i hi W hW hz)
  have hlen : Hid (∀ name : List UInt8, (Am.all n name).length ≤ 100000) := Lib.hid (fun name => Nat.le_trans (List.length_filter_le (fun k => Am.isEl k Am.atomS name) (Am.kidsOf n)) (Nat.le_trans (Am.kids_wt n) hz))
  have kA := Lib.hid (fun W A (hW : Nd W A n) => nd_all n ⟨#[97, 117, 116, 104, 111, 114]⟩ W hW (by omega))
  rw [show (⟨#[97, 117, 116, 104, 111, 114]⟩ : ByteArray).data.toList = Am.lit "author" from am_lit_author.symm] at kA
  have kT := Lib.hid (fun W A (hW : Nd W A n) => nd_all n ⟨#[116, 105, 116, 108, 101]⟩ W hW (by omega))
  rw [show (⟨#[116, 105, 116, 108, 101]⟩ : ByteArray).data.toList = Am.lit "title" from am_lit_title.symm] at kT
  have kI := Lib.hid (fun W A (hW : Nd W A n) => nd_all n ⟨#[105, 100]⟩ W hW (by omega))
  rw [show (⟨#[105, 100]⟩ : ByteArray).data.toList = Am.lit "id" from am_lit_id.symm] at kI
  have kU := Lib.hid (fun W A (hW : Nd W A n) => nd_all n ⟨#[117, 112, 100, 97, 116, 101, 100]⟩ W hW (by omega))
  rw [show (⟨#[117, 112, 100, 97, 116, 101, 100]⟩ : ByteArray).data.toList = Am.lit "updated" from am_lit_updated.symm] at kU
  have kK := Lib.hid (fun W A (hW : Nd W A n) => nd_all n ⟨#[108, 105, 110, 107]⟩ W hW (by omega))
  rw [show (⟨#[108, 105, 110, 107]⟩ : ByteArray).data.toList = Am.lit "link" from am_lit_link.symm] at kK
  have hm := Lib.hid (Am.all_wt (n := n) (name := Am.lit "link") hz)
  have hlk : (Am.all n (Am.lit "link")).length ≤ 100000 := hlen.out _
  generalize ckE n stored = E at *
  generalize Am.isEl n Am.atomS (Am.lit "entry") = en at *
  generalize Am.okIn (Am.kidsOf n) = f at *
  generalize (Am.all n (Am.lit "author")).length = la at *
  generalize (Am.all n (Am.lit "title")).length = lt at *
  generalize (Am.all n (Am.lit "id")).length = li at *
  generalize (Am.all n (Am.lit "updated")).length = lu at *
  generalize Am.all n (Am.lit "link") = L at *
  generalize hL : L.length = n1 at *
  replace hL := Lib.hid hL
  replace hck := Lib.hid hck
  obtain ⟨S, k, sp, nm', d, as', kids, ao, bo, ca, cb, hn, rfl, ha, hK, h1, h2⟩ := h.form
  have bA := (Below.refl w.heap.size w).alloc (Nat.le_refl _) (.cells #[.int .i64 k, .string sp, .string nm', .slice ao as'.length ca, .slice bo kids.length cb, .string d] 25)
  have hN := Lib.hid (h.on bA)
  have C0 := Lib.hid (Cells.new w 25 #[.int .i64 k, .string sp, .string nm', .slice ao as'.length ca, .slice bo kids.length cb, .string d])
  replace bA := Lib.hid bA
  clear h ha hK h1 h2 hn
  go_enter Tryz.func11, Tryz.ntmps11
  go_upto_region 1 with fail
  generalize w.alloc (.cells #[.int .i64 k, .string sp, .string nm', .slice ao as'.length ca, .slice bo kids.length cb, .string d] 25) = wA at *
  have bN := (Below.refl wA.heap.size wA).alloc (Nat.le_refl _) (.cells #[.string ⟨#[97, 117, 116, 104, 111, 114]⟩, .string ⟨#[99, 111, 110, 116, 114, 105, 98, 117, 116, 111, 114]⟩, .string ⟨#[117, 112, 100, 97, 116, 101, 100]⟩, .string ⟨#[112, 117, 98, 108, 105, 115, 104, 101, 100]⟩, .string ⟨#[116, 105, 116, 108, 101]⟩, .string ⟨#[115, 117, 109, 109, 97, 114, 121]⟩, .string ⟨#[114, 105, 103, 104, 116, 115]⟩, .string ⟨#[105, 100]⟩, .string ⟨#[108, 105, 110, 107]⟩, .string ⟨#[99, 97, 116, 101, 103, 111, 114, 121]⟩, .string ⟨#[99, 111, 110, 116, 101, 110, 116]⟩] 9)
  have C := Lib.hid (C0.out.on bN)
  have N := Lib.hid (hN.out.on bN)
  have B := Lib.hid (bA.out.trans (bN.mono bA.out.size))
  have SN : Hid (StrsAt wA.heap.size Am.names (wA.alloc (.cells #[.string ⟨#[97, 117, 116, 104, 111, 114]⟩, .string ⟨#[99, 111, 110, 116, 114, 105, 98, 117, 116, 111, 114]⟩, .string ⟨#[117, 112, 100, 97, 116, 101, 100]⟩, .string ⟨#[112, 117, 98, 108, 105, 115, 104, 101, 100]⟩, .string ⟨#[116, 105, 116, 108, 101]⟩, .string ⟨#[115, 117, 109, 109, 97, 114, 121]⟩, .string ⟨#[114, 105, 103, 104, 116, 115]⟩, .string ⟨#[105, 100]⟩, .string ⟨#[108, 105, 110, 107]⟩, .string ⟨#[99, 97, 116, 101, 103, 111, 114, 121]⟩, .string ⟨#[99, 111, 110, 116, 101, 110, 116]⟩] 9))) := Lib.hid (strsAt_cells (show _ = some (.cells (Am.names.map Value.string).toArray 9 (0, 0)) from heap_alloc_new wA _))
  have hnb : Hid (w.heap.size < wA.heap.size) := Lib.hid C0.out.lt
  clear C0 hN bA bN
  go_upto_region 2 with fail
  generalize wA.alloc (.cells #[.string ⟨#[97, 117, 116, 104, 111, 114]⟩, .string ⟨#[99, 111, 110, 116, 114, 105, 98, 117, 116, 111, 114]⟩, .string ⟨#[117, 112, 100, 97, 116, 101, 100]⟩, .string ⟨#[112, 117, 98, 108, 105, 115, 104, 101, 100]⟩, .string ⟨#[116, 105, 116, 108, 101]⟩, .string ⟨#[115, 117, 109, 109, 97, 114, 121]⟩, .string ⟨#[114, 105, 103, 104, 116, 115]⟩, .string ⟨#[105, 100]⟩, .string ⟨#[108, 105, 110, 107]⟩, .string ⟨#[99, 97, 116, 101, 103, 111, 114, 121]⟩, .string ⟨#[99, 111, 110, 116, 101, 110, 116]⟩] 9) = wB at *
  obtain ⟨x0, x1, x2, x3, x4, x5⟩ := node_open (show Cells _ _ _ (nodeArr k sp nm' (.slice ao as'.length ca) (.slice bo kids.length cb) d) from C.out)
  have cc := Lib.hid (kE.out _ _ N.out)
  go_wp2_with fail
  (with_reducible refine (cc.out).mono ?_); rintro e w1 ⟨rfl, b⟩
  replace C := Lib.hid (C.out.on b)
  replace N := Lib.hid (N.out.on b)
  replace SN := Lib.hid (SN.out.on b)
  replace B := Lib.hid (B.out.trans (b.mono B.out.size))
  clear x0 x1 x2 x3 x4 x5 cc b
  cases en with
  | false =>
    have hr : Hid (E = 150) := Lib.hid (hck.out.no0 rfl)
    go_wp2_with fail
    go_ret
    exact ⟨em_ret hr.out.symm, B.out⟩
  | true =>
  have s11 : (Am.names.length : Int) = 11 := rfl
  go_wp2_with fail
  go_loopw [6, 7, 8] (fun i _ _ wr => ∃ j : Nat, j ≤ 11 ∧ i = .int .i64 (j : Int) ∧ Hid ((List.range j).all f = true) ∧ Hid (Cells wr w.heap.size 25 #[.int .i64 k, .string sp, .string nm', .slice ao as'.length ca, .slice bo kids.length cb, .string d]) ∧ Hid (Nd wr #[.int .i64 k, .string sp, .string nm', .slice ao as'.length ca, .slice bo kids.length cb, .string d] n) ∧ Hid (StrsAt wA.heap.size Am.names wr) ∧ Hid (Below w.heap.size w wr)) (fun i _ _ _ => 11 - (intOf i).toNat)
  case atStart => exact ⟨0, Nat.zero_le _, rfl, Lib.hid rfl, C, N, SN, B⟩
  case round =>
    clear C N SN B
    obtain ⟨j, hj, rfl, hall, C, N, SN, B⟩ := hrel
    by_cases hlt : j < 11
    case neg =>
      obtain rfl : j = 11 := by omega
      clear kN kEach hokf hlen SN kE
      obtain ⟨bad, hbad⟩ : ∃ bad, bad = (decide (la = 0) || decide (lt = 0) || (stored && (decide (li = 0) || decide (lu = 0)))) := ⟨_, rfl⟩
      replace hbad := Lib.hid hbad
      go_upto_region 11 with fail
      go_cut [93] (fun c wx => c = .bool bad ∧ Hid (Cells wx w.heap.size 25 #[.int .i64 k, .string sp, .string nm', .slice ao as'.length ca, .slice bo kids.length cb, .string d]) ∧ Hid (Nd wx #[.int .i64 k, .string sp, .string nm', .slice ao as'.length ca, .slice bo kids.length cb, .string d] n) ∧ Hid (Below w.heap.size w wx))
      case first =>
        obtain ⟨x0, x1, x2, x3, x4, x5⟩ := node_open (show Cells _ _ _ (nodeArr k sp nm' (.slice ao as'.length ca) (.slice bo kids.length cb) d) from C.out)
        have cc := Lib.hid (kA.out _ _ N.out)
        go_wp2_with fail
        (with_reducible refine (cc.out).mono ?_); rintro e v3 ⟨lo, lc, rfl, -, b⟩
        replace C := Lib.hid (C.out.on b)
        replace N := Lib.hid (N.out.on b)
        replace B := Lib.hid (B.out.trans (b.mono B.out.size))
        clear x0 x1 x2 x3 x4 x5 cc b
        by_cases hla : la = 0
        case pos =>
          have gla : ((la : Int) == 0) = true := by rw [beq_iff_eq]; omega
          have gla2 : (la : Int) = 0 := by omega
          have hr : Hid (bad = true) := Lib.hid (by rw [hbad.out]; simp [hla])
          go_wp2_with fail
          go_meet
          exact ⟨by rw [hr.out], C, N, B⟩
        have gla : ((la : Int) == 0) = false := beq_false_of_ne (by omega)
        have gla2 : ¬ (la : Int) = 0 := by omega
        obtain ⟨x0, x1, x2, x3, x4, x5⟩ := node_open (show Cells _ _ _ (nodeArr k sp nm' (.slice ao as'.length ca) (.slice bo kids.length cb) d) from C.out)
        have cc := Lib.hid (kT.out _ _ N.out)
        go_wp2_with fail
        (with_reducible refine (cc.out).mono ?_); rintro e v3 ⟨lo, lc, rfl, -, b⟩
        replace C := Lib.hid (C.out.on b)
        replace N := Lib.hid (N.out.on b)
        replace B := Lib.hid (B.out.trans (b.mono B.out.size))
        clear x0 x1 x2 x3 x4 x5 cc b
        by_cases hlt2 : lt = 0
        case pos =>
          have glt : ((lt : Int) == 0) = true := by rw [beq_iff_eq]; omega
          have glt2 : (lt : Int) = 0 := by omega
          have hr : Hid (bad = true) := Lib.hid (by rw [hbad.out]; simp [hlt2])
          go_wp2_with fail
          go_meet
          exact ⟨by rw [hr.out], C, N, B⟩
        have glt : ((lt : Int) == 0) = false := beq_false_of_ne (by omega)
        have glt2 : ¬ (lt : Int) = 0 := by omega
        cases stored with
        | false =>
          have hr : Hid (bad = false) := Lib.hid (by rw [hbad.out]; simp [hla, hlt2])
          go_wp2_with fail
          go_meet
          exact ⟨by rw [hr.out], C, N, B⟩
        | true =>
          obtain ⟨x0, x1, x2, x3, x4, x5⟩ := node_open (show Cells _ _ _ (nodeArr k sp nm' (.slice ao as'.length ca) (.slice bo kids.length cb) d) from C.out)
          have cc := Lib.hid (kI.out _ _ N.out)
          go_wp2_with fail
          (with_reducible refine (cc.out).mono ?_); rintro e v3 ⟨lo, lc, rfl, -, b⟩
          replace C := Lib.hid (C.out.on b)
          replace N := Lib.hid (N.out.on b)
          replace B := Lib.hid (B.out.trans (b.mono B.out.size))
          clear x0 x1 x2 x3 x4 x5 cc b
          by_cases hli : li = 0
          case pos =>
            have gli : ((li : Int) == 0) = true := by rw [beq_iff_eq]; omega
            have gli2 : (li : Int) = 0 := by omega
            have hr : Hid (bad = true) := Lib.hid (by rw [hbad.out]; simp [hli])
            go_wp2_with fail
            go_meet
            exact ⟨by rw [hr.out], C, N, B⟩
          have gli : ((li : Int) == 0) = false := beq_false_of_ne (by omega)
          have gli2 : ¬ (li : Int) = 0 := by omega
          obtain ⟨x0, x1, x2, x3, x4, x5⟩ := node_open (show Cells _ _ _ (nodeArr k sp nm' (.slice ao as'.length ca) (.slice bo kids.length cb) d) from C.out)
          have cc := Lib.hid (kU.out _ _ N.out)
          go_wp2_with fail
          (with_reducible refine (cc.out).mono ?_); rintro e v3 ⟨lo, lc, rfl, -, b⟩
          replace C := Lib.hid (C.out.on b)
          replace N := Lib.hid (N.out.on b)
          replace B := Lib.hid (B.out.trans (b.mono B.out.size))
          clear x0 x1 x2 x3 x4 x5 cc b
          by_cases hlu : lu = 0
          case pos =>
            have glu : ((lu : Int) == 0) = true := by rw [beq_iff_eq]; omega
            have glu2 : (lu : Int) = 0 := by omega
            have hr : Hid (bad = true) := Lib.hid (by rw [hbad.out]; simp [hlu])
            go_wp2_with fail
            go_meet
            exact ⟨by rw [hr.out], C, N, B⟩
          have glu : ((lu : Int) == 0) = false := beq_false_of_ne (by omega)
          have glu2 : ¬ (lu : Int) = 0 := by omega
          have hr : Hid (bad = false) := Lib.hid (by rw [hbad.out]; simp [hla, hlt2, hli, hlu])
          go_wp2_with fail
          go_meet
          exact ⟨by rw [hr.out], C, N, B⟩
      case rest =>
      clear C N B kA kT kI kU
      obtain ⟨rfl, C, N, B⟩ := hcut
      cases hb0 : bad
      case true =>
        have hr : Hid (E = 150) := Lib.hid (by
          have h0 := hbad.out
          rw [hb0] at h0
          simp only [Bool.true_eq, Bool.or_eq_true, Bool.and_eq_true, decide_eq_true_eq] at h0
          rcases h0 with (h0 | h0) | ⟨h1, h0 | h0⟩
          · exact hck.out.no2 h0
          · exact hck.out.no3 h0
          · exact hck.out.no4 h1 h0
          · exact hck.out.no5 h1 h0)
        replace hb0 := Lib.hid hb0
        go_wp2_with fail
        go_ret
        exact ⟨em_ret hr.out.symm, B.out⟩
      have hyes : Hid ((L.Pairwise fun a b => Am.alike Am.onD a b = false) → E = 0) := Lib.hid (fun hp => by
        have h0 := hbad.out
        rw [hb0] at h0
        simp only [Bool.false_eq, Bool.or_eq_false_iff, Bool.and_eq_false_iff, decide_eq_false_iff_not] at h0
        refine hck.out.yes rfl hall.out h0.1.1 h0.1.2 (fun hs => ?_) hp
        rcases h0.2 with h1 | h1
        · rw [hs] at h1; cases h1
        · exact h1)
      replace hb0 := Lib.hid hb0
      clear hbad hall
      obtain ⟨x0, x1, x2, x3, x4, x5⟩ := node_open (show Cells _ _ _ (nodeArr k sp nm' (.slice ao as'.length ca) (.slice bo kids.length cb) d) from C.out)
      have cc := Lib.hid (kK.out _ _ N.out)
      go_wp2_with fail
      (with_reducible refine (cc.out).mono ?_); rintro e v4 ⟨lo, lc, rfl, K, b⟩
      replace B := Lib.hid (B.out.trans (b.mono B.out.size))
      clear x0 x1 x2 x3 x4 x5 cc b C N kK
      replace K := Lib.hid K
      go_wp2_with fail
      go_loopw [10, 11] (fun i _ wr => ∃ i0 : Nat, i0 ≤ n1 ∧ i = .int .i64 (i0 : Int) ∧ Hid (Am.Far L i0) ∧ Hid (KidsAt (fun _ => True) wr (.slice lo n1 lc) L) ∧ Hid (Below w.heap.size w wr)) (fun i _ _ => n1 - (intOf i).toNat)
      case atStart => exact ⟨0, Nat.zero_le _, rfl, Lib.hid (fun a b _ _ h => by omega), K, B⟩
      case round =>
        clear K B
        obtain ⟨i0, hi0, rfl, hfar, K, B⟩ := hrel
        by_cases hin : i0 < n1
        case neg =>
          have hr : Hid (E = 0) := Lib.hid (hyes.out (Am.far_all (show Am.Far L L.length from (show i0 = L.length from (by rw [hL.out]; omega)) ▸ hfar.out)))
          go_wp2_with fail
          go_ret
          exact ⟨em_ret hr.out.symm, B.out⟩
        have hil : i0 < L.length := by rw [hL.out]; exact hin
        have hini : (i0 : Int) < (n1 : Int) := by omega
        go_wp2_with fail
        go_loopw [11] (fun q wr => ∃ q0 : Nat, q0 ≤ i0 ∧ q = .int .i64 (q0 : Int) ∧ Hid (∀ a (ha : a < q0) (hl : a < L.length), Am.alike Am.onD L[i0] L[a] = false) ∧ Hid (KidsAt (fun _ => True) wr (.slice lo n1 lc) L) ∧ Hid (Below w.heap.size w wr)) (fun q _ => i0 - (intOf q).toNat)
        case atStart => exact ⟨0, Nat.zero_le _, rfl, Lib.hid (fun a ha => by omega), K, B⟩
        case round =>
          clear K B
          obtain ⟨q0, hq0, rfl, hno, K, B⟩ := hrel
          by_cases hqi : q0 < i0
          case neg =>
            have hfar2 : Hid (Am.Far L (i0 + 1)) := Lib.hid (fun a b hb hab hbi => by
              by_cases e : b = i0
              · subst e
                exact hno.out a (by omega) (by omega)
              · exact hfar.out a b hb hab (by omega))
            go_wp2_with fail
            go_roundw
            case rel => exact ⟨i0 + 1, by omega, by go_num, hfar2, K, B⟩
            case measure => simp [intOf]; omega
          have hql : q0 < L.length := by omega
          have hqii : (q0 : Int) < (i0 : Int) := by omega
          have hqni : (q0 : Int) < (n1 : Int) := by omega
          obtain ⟨pb, po, k1, sp1, nm1, d1, x3, x4, rfl, a0, a1, a2, a3, a4, a5, hE1, ⟨ro1, rn1, rc1, rfl⟩, ⟨so1, sn1, sc1, rfl⟩, -, -⟩ := KidsAt.nd K.out hil
          obtain ⟨k2, sp2, nm2, d2, x3, x4, b0, b1, b2, b3, b4, b5, hE2, ⟨ro2, rn2, rc2, rfl⟩, ⟨so2, sn2, sc2, rfl⟩⟩ := KidsAt.nd1 K.out hql
          have on := fun {a : Addr} {v : Value} {w' : World} (hx : wr.cell? a = some v) (hb : Below wr.heap.size wr w') => (hb.cell (World.block_lt_of_cell? wr _ hx)).trans hx
          have hS : ∀ w', Below wr.heap.size wr w' → (w'.cell? ⟨pb, po + i0 * 6, none⟩ = some (.int .i64 k1) ∧ w'.cell? ⟨pb, po + i0 * 6 + 1, none⟩ = some (.string sp1) ∧ w'.cell? ⟨pb, po + i0 * 6 + 2, none⟩ = some (.string nm1) ∧ w'.cell? ⟨pb, po + i0 * 6 + 3, none⟩ = some (.slice ro1 rn1 rc1) ∧ w'.cell? ⟨pb, po + i0 * 6 + 4, none⟩ = some (.slice so1 sn1 sc1) ∧ w'.cell? ⟨pb, po + i0 * 6 + 5, none⟩ = some (.string d1)) ∧ (w'.cell? ⟨pb, po + q0 * 6, none⟩ = some (.int .i64 k2) ∧ w'.cell? ⟨pb, po + q0 * 6 + 1, none⟩ = some (.string sp2) ∧ w'.cell? ⟨pb, po + q0 * 6 + 2, none⟩ = some (.string nm2) ∧ w'.cell? ⟨pb, po + q0 * 6 + 3, none⟩ = some (.slice ro2 rn2 rc2) ∧ w'.cell? ⟨pb, po + q0 * 6 + 4, none⟩ = some (.slice so2 sn2 sc2) ∧ w'.cell? ⟨pb, po + q0 * 6 + 5, none⟩ = some (.string d2)) ∧ Below wr.heap.size wr w' := fun w' hb => ⟨⟨on a0 hb, on a1 hb, on a2 hb, on a3 hb, on a4 hb, on a5 hb⟩, ⟨on b0 hb, on b1 hb, on b2 hb, on b3 hb, on b4 hb, on b5 hb⟩, hb⟩
          have hbadL := Lib.hid (fun e => hck.out.no6 (Am.far_not hil hqi e))
          have cA := (fun W (hb : Below wr.heap.size wr W) => (nd_alike L[i0] L[q0] W (hE1.on hb) (hE2.on hb) (hm.out _ (List.getElem_mem hil)) (hm.out _ (List.getElem_mem hql))).mono (R' := fun e w' => e = .returned (.bool (Am.alike Am.onD L[i0] L[q0])) ∧ ((w'.cell? ⟨pb, po + i0 * 6, none⟩ = some (.int .i64 k1) ∧ w'.cell? ⟨pb, po + i0 * 6 + 1, none⟩ = some (.string sp1) ∧ w'.cell? ⟨pb, po + i0 * 6 + 2, none⟩ = some (.string nm1) ∧ w'.cell? ⟨pb, po + i0 * 6 + 3, none⟩ = some (.slice ro1 rn1 rc1) ∧ w'.cell? ⟨pb, po + i0 * 6 + 4, none⟩ = some (.slice so1 sn1 sc1) ∧ w'.cell? ⟨pb, po + i0 * 6 + 5, none⟩ = some (.string d1)) ∧ (w'.cell? ⟨pb, po + q0 * 6, none⟩ = some (.int .i64 k2) ∧ w'.cell? ⟨pb, po + q0 * 6 + 1, none⟩ = some (.string sp2) ∧ w'.cell? ⟨pb, po + q0 * 6 + 2, none⟩ = some (.string nm2) ∧ w'.cell? ⟨pb, po + q0 * 6 + 3, none⟩ = some (.slice ro2 rn2 rc2) ∧ w'.cell? ⟨pb, po + q0 * 6 + 4, none⟩ = some (.slice so2 sn2 sc2) ∧ w'.cell? ⟨pb, po + q0 * 6 + 5, none⟩ = some (.string d2)) ∧ Below wr.heap.size wr w')) (fun e w' h => ⟨h.1, hS w' (hb.trans (h.2.mono hb.size))⟩))
          have s1 := hS wr.drew (Below.refl _ _).drew
          have hno2 := Lib.hid (fun (e : Am.alike Am.onD L[i0] L[q0] = false) => (show ∀ a (ha : a < q0 + 1) (hl : a < L.length), Am.alike Am.onD L[i0] L[a] = false from fun a ha hl => by
            by_cases e2 : a = q0
            · subst e2; exact e
            · exact hno.out a (by omega) hl))
          generalize Am.alike Am.onD L[i0] L[q0] = al at *
          replace cA := Lib.hid cA
          clear on hS a0 a1 a2 a3 a4 a5 b0 b1 b2 b3 b4 b5 hE1 hE2 hno
          go_upto_region 20 with fail
          go_region_held3 (fun w' => (w'.cell? ⟨pb, po + i0 * 6, none⟩ = some (.int .i64 k1) ∧ w'.cell? ⟨pb, po + i0 * 6 + 1, none⟩ = some (.string sp1) ∧ w'.cell? ⟨pb, po + i0 * 6 + 2, none⟩ = some (.string nm1) ∧ w'.cell? ⟨pb, po + i0 * 6 + 3, none⟩ = some (.slice ro1 rn1 rc1) ∧ w'.cell? ⟨pb, po + i0 * 6 + 4, none⟩ = some (.slice so1 sn1 sc1) ∧ w'.cell? ⟨pb, po + i0 * 6 + 5, none⟩ = some (.string d1)) ∧ (w'.cell? ⟨pb, po + q0 * 6, none⟩ = some (.int .i64 k2) ∧ w'.cell? ⟨pb, po + q0 * 6 + 1, none⟩ = some (.string sp2) ∧ w'.cell? ⟨pb, po + q0 * 6 + 2, none⟩ = some (.string nm2) ∧ w'.cell? ⟨pb, po + q0 * 6 + 3, none⟩ = some (.slice ro2 rn2 rc2) ∧ w'.cell? ⟨pb, po + q0 * 6 + 4, none⟩ = some (.slice so2 sn2 sc2) ∧ w'.cell? ⟨pb, po + q0 * 6 + 5, none⟩ = some (.string d2)) ∧ Below wr.heap.size wr w')
            (first | exact s1 | assumption)
            (first
              | (go_at_call 24; refine (cA.out _ (Below.refl _ _).drew).mono ?_; rintro e v5 ⟨rfl, hcb⟩))
          have b := hcb.2.2
          replace K := Lib.hid (K.out.on b)
          replace B := Lib.hid (B.out.trans (b.mono B.out.size))
          clear b hcb s1 cA
          cases al with
          | true =>
            have hr : Hid (E = 150) := Lib.hid (hbadL.out rfl)
            go_wp2_with fail
            go_ret
            exact ⟨em_ret hr.out.symm, B.out⟩
          | false =>
            have hno3 := Lib.hid (hno2.out rfl)
            clear hno2 hbadL
            go_wp2_with fail
            go_roundw
            case rel => exact ⟨q0 + 1, by omega, by go_num, hno3, K, B⟩
            case measure => simp [intOf]; omega
    have hji : (j : Int) < 11 := by omega
    have hs := SN.out j hlt
    have kn := kN.out j hlt
    have ke := kEach.out j hlt
    have hok := hokf.out j hlt
    have hmu := Am.multi_at j hlt
    have hln := hlen.out (Am.names[j]).data.toList
    generalize hnmj : Am.names[j] = nm at *
    replace hnmj := Lib.hid hnmj
    generalize Am.all n nm.data.toList = M at *
    generalize M.all (Am.rules2[j]'hlt) = ea at *
    generalize Am.multi[j]'hlt = mu at *
    generalize M.length = m at *
    have c7 := Lib.hid (fun W (hb : Below wr.heap.size wr W) => (kn W _ (N.out.on hb)).mono (R' := fun e w' => ∃ lo lc, e = .returned (.slice lo m lc) ∧ ((w'.cell? ⟨w.heap.size, 0, none⟩ = some (.int .i64 k) ∧ w'.cell? ⟨w.heap.size, 1, none⟩ = some (.string sp) ∧ w'.cell? ⟨w.heap.size, 2, none⟩ = some (.string nm') ∧ w'.cell? ⟨w.heap.size, 3, none⟩ = some (.slice ao as'.length ca) ∧ w'.cell? ⟨w.heap.size, 4, none⟩ = some (.slice bo kids.length cb) ∧ w'.cell? ⟨w.heap.size, 5, none⟩ = some (.string d)) ∧ w'.cell? ⟨wA.heap.size, j, none⟩ = some (.string nm) ∧ Below wr.heap.size wr w')) (fun e w' ⟨lo, lc, he, hk, hb'⟩ => ⟨lo, lc, he, node_open (show Cells w' _ _ (nodeArr k sp nm' (.slice ao as'.length ca) (.slice bo kids.length cb) d) from C.out.on (hb.trans (hb'.mono hb.size))), ((hb.trans (hb'.mono hb.size)).cell (World.block_lt_of_cell? wr _ hs)).trans hs, hb.trans (hb'.mono hb.size)⟩))
    have s1 := node_open (show Cells wr.drew _ _ (nodeArr k sp nm' (.slice ao as'.length ca) (.slice bo kids.length cb) d) from C.out.drew)
    clear kn
    go_upto_region 7 with fail
    go_region_held3 (fun w' => (w'.cell? ⟨w.heap.size, 0, none⟩ = some (.int .i64 k) ∧ w'.cell? ⟨w.heap.size, 1, none⟩ = some (.string sp) ∧ w'.cell? ⟨w.heap.size, 2, none⟩ = some (.string nm') ∧ w'.cell? ⟨w.heap.size, 3, none⟩ = some (.slice ao as'.length ca) ∧ w'.cell? ⟨w.heap.size, 4, none⟩ = some (.slice bo kids.length cb) ∧ w'.cell? ⟨w.heap.size, 5, none⟩ = some (.string d)) ∧ w'.cell? ⟨wA.heap.size, j, none⟩ = some (.string nm) ∧ Below wr.heap.size wr w')
      (first | exact ⟨s1, hs, (Below.refl _ _).drew⟩ | assumption)
      (first
        | (go_at_call 22; refine (c7.out _ ?_).mono ?_; exact (Below.refl _ _).drew; rintro e v1 ⟨lo, lc, rfl, hcb⟩))
    have b := hcb.2.2
    clear s1 c7 hcb hs
    replace C := Lib.hid (C.out.on b)
    replace N := Lib.hid (N.out.on b)
    replace SN := Lib.hid (SN.out.on b)
    replace B := Lib.hid (B.out.trans (b.mono B.out.size))
    clear b
    have hs := SN.out j hlt
    rw [hnmj.out] at hs
    rw [← ByteArray.toList_eq] at hmu
    go_upto_region 8 with fail
    go_cut [8] (fun c wx => c = .bool (!mu) ∧ Hid (Cells wx w.heap.size 25 #[.int .i64 k, .string sp, .string nm', .slice ao as'.length ca, .slice bo kids.length cb, .string d]) ∧ Hid (Nd wx #[.int .i64 k, .string sp, .string nm', .slice ao as'.length ca, .slice bo kids.length cb, .string d] n) ∧ Hid (StrsAt wA.heap.size Am.names wx) ∧ Hid (Below w.heap.size w wx))
    case first =>
      clear ke
      replace hmu := Lib.hid hmu
      cases q0 : (nm.toList == [97, 117, 116, 104, 111, 114])
      case true =>
        have p0 : (nm.toList != [97, 117, 116, 104, 111, 114]) = false := by rw [bne, q0]; rfl
        have hr : Hid (mu = true) := Lib.hid (by rw [hmu.out, q0]; rfl)
        go_wp2_with fail
        go_meet
        exact ⟨by rw [hr.out]; rfl, C, N, SN, B⟩
      have p0 : (nm.toList != [97, 117, 116, 104, 111, 114]) = true := by rw [bne, q0]; rfl
      cases q1 : (nm.toList == [99, 111, 110, 116, 114, 105, 98, 117, 116, 111, 114])
      case true =>
        have p1 : (nm.toList != [99, 111, 110, 116, 114, 105, 98, 117, 116, 111, 114]) = false := by rw [bne, q1]; rfl
        have hr : Hid (mu = true) := Lib.hid (by rw [hmu.out, q0, q1]; rfl)
        go_wp2_with fail
        go_meet
        exact ⟨by rw [hr.out]; rfl, C, N, SN, B⟩
      have p1 : (nm.toList != [99, 111, 110, 116, 114, 105, 98, 117, 116, 111, 114]) = true := by rw [bne, q1]; rfl
      cases q2 : (nm.toList == [108, 105, 110, 107])
      case true =>
        have p2 : (nm.toList != [108, 105, 110, 107]) = false := by rw [bne, q2]; rfl
        have hr : Hid (mu = true) := Lib.hid (by rw [hmu.out, q0, q1, q2]; rfl)
        go_wp2_with fail
        go_meet
        exact ⟨by rw [hr.out]; rfl, C, N, SN, B⟩
      have p2 : (nm.toList != [108, 105, 110, 107]) = true := by rw [bne, q2]; rfl
      cases q3 : (nm.toList == [99, 97, 116, 101, 103, 111, 114, 121])
      case true =>
        have p3 : (nm.toList != [99, 97, 116, 101, 103, 111, 114, 121]) = false := by rw [bne, q3]; rfl
        have hr : Hid (mu = true) := Lib.hid (by rw [hmu.out, q0, q1, q2, q3]; rfl)
        go_wp2_with fail
        go_meet
        exact ⟨by rw [hr.out]; rfl, C, N, SN, B⟩
      have p3 : (nm.toList != [99, 97, 116, 101, 103, 111, 114, 121]) = true := by rw [bne, q3]; rfl
      have hr : Hid (mu = false) := Lib.hid (by rw [hmu.out, q0, q1, q2, q3]; rfl)
      go_wp2_with fail
      go_meet
      exact ⟨by rw [hr.out]; rfl, C, N, SN, B⟩
    case rest =>
    clear C N SN B hs hmu
    obtain ⟨rfl, C, N, SN, B⟩ := hcut
    have hs := SN.out j hlt
    rw [hnmj.out] at hs
    have hfit := (fun W (hb : Below wc.heap.size wc W) => ke W _ (N.out.on hb))
    clear ke
    go_upto_region 9 with fail
    have s1 := node_open (show Cells wc.drew _ _ (nodeArr k sp nm' (.slice ao as'.length ca) (.slice bo kids.length cb) d) from C.out.drew)
    have c9 := Lib.hid (fun W (hb : Below wc.heap.size wc W) => (hfit W hb).mono (R' := fun e w' => e = .returned (.bool ea) ∧ ((w'.cell? ⟨w.heap.size, 0, none⟩ = some (.int .i64 k) ∧ w'.cell? ⟨w.heap.size, 1, none⟩ = some (.string sp) ∧ w'.cell? ⟨w.heap.size, 2, none⟩ = some (.string nm') ∧ w'.cell? ⟨w.heap.size, 3, none⟩ = some (.slice ao as'.length ca) ∧ w'.cell? ⟨w.heap.size, 4, none⟩ = some (.slice bo kids.length cb) ∧ w'.cell? ⟨w.heap.size, 5, none⟩ = some (.string d)) ∧ w'.cell? ⟨wA.heap.size, j, none⟩ = some (.string nm) ∧ Below wc.heap.size wc w')) (fun e w' h => ⟨h.1, node_open (show Cells w' _ _ (nodeArr k sp nm' (.slice ao as'.length ca) (.slice bo kids.length cb) d) from C.out.on (hb.trans (h.2.mono hb.size))), ((hb.trans (h.2.mono hb.size)).cell (World.block_lt_of_cell? wc _ hs)).trans hs, hb.trans (h.2.mono hb.size)⟩))
    clear hfit
    cases ea with
    | false =>
      have hr : Hid (E = 150) := Lib.hid (hck.out.no1 j hlt (by rw [hok]; rfl))
      clear hall hok
      refine wp_region_held_drew (S := fun w' => (w'.cell? ⟨w.heap.size, 0, none⟩ = some (.int .i64 k) ∧ w'.cell? ⟨w.heap.size, 1, none⟩ = some (.string sp) ∧ w'.cell? ⟨w.heap.size, 2, none⟩ = some (.string nm') ∧ w'.cell? ⟨w.heap.size, 3, none⟩ = some (.slice ao as'.length ca) ∧ w'.cell? ⟨w.heap.size, 4, none⟩ = some (.slice bo kids.length cb) ∧ w'.cell? ⟨w.heap.size, 5, none⟩ = some (.string d)) ∧ w'.cell? ⟨wA.heap.size, j, none⟩ = some (.string nm) ∧ Below wc.heap.size wc w') (by kernel_rfl) ⟨s1, hs, (Below.refl _ _).drew⟩ (fun hHeld => ?_)
      refine wpAnyH_take (i := 0) (v := .agg #[.int .i64 k, .string sp, .string nm', .slice ao as'.length ca, .slice bo kids.length cb, .string d]) rfl (by kernel_rfl) (by kernel_rfl) (by kernel_rfl) (fun _ _ _ h => h) (Or.inl ⟨by rfl, ?_⟩) (by assumption) ?_
      · intro w' hSw; (try dsimp only at hSw); go_simp
      try simp only [Act.put, List.getElem_toArray, List.getElem_cons_zero, List.setIfInBounds_toArray, List.set_cons_zero, List.set_cons_succ]
      refine wpAnyH_take (i := 1) (v := .slice (some ⟨wA.heap.size, 0, none⟩) 11 11) rfl (by kernel_rfl) (by kernel_rfl) (by kernel_rfl) (fun _ _ _ h => h) (Or.inl ⟨by rfl, ?_⟩) (by assumption) ?_
      · intro w' hSw; (try dsimp only at hSw); go_simp
      try simp only [Act.put, List.getElem_toArray, List.getElem_cons_succ, List.getElem_cons_zero, List.setIfInBounds_toArray, List.set_cons_zero, List.set_cons_succ]
      refine wpAnyH_take (i := 2) (v := .int .i64 (j : Int)) rfl (by kernel_rfl) (by kernel_rfl) (by kernel_rfl) (fun _ _ _ h => h) (Or.inl ⟨by rfl, ?_⟩) (by assumption) ?_
      · intro w' hSw; (try dsimp only at hSw); go_simp
      try simp only [Act.put, List.getElem_toArray, List.getElem_cons_succ, List.getElem_cons_zero, List.setIfInBounds_toArray, List.set_cons_zero, List.set_cons_succ]
      refine wpAnyH_take (i := 3) (v := .pointer (some ⟨wA.heap.size, j, none⟩)) rfl (by kernel_rfl) (by kernel_rfl) (by kernel_rfl) (fun _ _ _ h => h) (Or.inl ⟨by rfl, ?_⟩) (by assumption) ?_
      · intro w' hSw; (try dsimp only at hSw); go_simp
      try simp only [Act.put, List.getElem_toArray, List.getElem_cons_succ, List.getElem_cons_zero, List.setIfInBounds_toArray, List.set_cons_zero, List.set_cons_succ]
      refine wpAnyH_take (i := 4) (v := .string nm) rfl (by kernel_rfl) (by kernel_rfl) (by kernel_rfl) (fun _ _ _ h => h) (Or.inl ⟨by rfl, ?_⟩) (by assumption) ?_
      · intro w' hSw; (try dsimp only at hSw); go_simp
      try simp only [Act.put, List.getElem_toArray, List.getElem_cons_succ, List.getElem_cons_zero, List.setIfInBounds_toArray, List.set_cons_zero, List.set_cons_succ]
      refine wpAnyH_ready (rs := [5]) (by kernel_rfl) (by simp) (AllReadyH.cons rfl (fun K hK => ?_) AllReadyH.nil)
      go_simp
      refine (c9.out _ (Below.refl _ _).drew).mono ?_
      rintro e v2 ⟨rfl, hcb⟩
      refine hK.out _ _ hcb (fun hHeld2 => ?_)
      clear hK K hHeld
      try simp only [Act.put, List.getElem_toArray, List.getElem_cons_succ, List.getElem_cons_zero, List.setIfInBounds_toArray, List.set_cons_zero, List.set_cons_succ]
      refine wpAnyH_take (i := 6) (v := .bool true) rfl (by kernel_rfl) (by kernel_rfl) (by kernel_rfl) (fun _ _ _ h => h) (Or.inl ⟨by rfl, ?_⟩) (by assumption) ?_
      · intro w' hSw; (try dsimp only at hSw); go_simp
      try simp only [Act.put, List.getElem_toArray, List.getElem_cons_succ, List.getElem_cons_zero, List.setIfInBounds_toArray, List.set_cons_zero, List.set_cons_succ]
      refine wpAnyH_take (i := 7) (v := .bool true) rfl (by kernel_rfl) (by kernel_rfl) (by kernel_rfl) (fun _ _ _ h => h) (Or.inl ⟨by rfl, ?_⟩) (by assumption) ?_
      · intro w' hSw; (try dsimp only at hSw); go_simp
      try simp only [Act.put, List.getElem_toArray, List.getElem_cons_succ, List.getElem_cons_zero, List.setIfInBounds_toArray, List.set_cons_zero, List.set_cons_succ]
      refine wpAnyH_take (i := 8) (v := undef) rfl (by kernel_rfl) (by kernel_rfl) (by kernel_rfl) (fun _ _ _ h => h) (Or.inr ⟨by rfl, rfl⟩) (by assumption) ?_
      try simp only [Act.put, List.getElem_toArray, List.getElem_cons_succ, List.getElem_cons_zero, List.setIfInBounds_toArray, List.set_cons_zero, List.set_cons_succ]
      refine wpAnyH_take (i := 9) (v := undef) rfl (by kernel_rfl) (by kernel_rfl) (by kernel_rfl) (fun _ _ _ h => h) (Or.inr ⟨by rfl, rfl⟩) (by assumption) ?_
      try simp only [Act.put, List.getElem_toArray, List.getElem_cons_succ, List.getElem_cons_zero, List.setIfInBounds_toArray, List.set_cons_zero, List.set_cons_succ]
      refine wpAnyH_take (i := 10) (v := undef) rfl (by kernel_rfl) (by kernel_rfl) (by kernel_rfl) (fun _ _ _ h => h) (Or.inr ⟨by rfl, rfl⟩) (by assumption) ?_
      try simp only [Act.put, List.getElem_toArray, List.getElem_cons_succ, List.getElem_cons_zero, List.setIfInBounds_toArray, List.set_cons_zero, List.set_cons_succ]
      refine wpAnyH_take (i := 11) (v := undef) rfl (by kernel_rfl) (by kernel_rfl) (by kernel_rfl) (fun _ _ _ h => h) (Or.inr ⟨by rfl, rfl⟩) (by assumption) ?_
      try simp only [Act.put, List.getElem_toArray, List.getElem_cons_succ, List.getElem_cons_zero, List.setIfInBounds_toArray, List.set_cons_zero, List.set_cons_succ]
      refine wpAnyH_take (i := 12) (v := undef) rfl (by kernel_rfl) (by kernel_rfl) (by kernel_rfl) (fun _ _ _ h => h) (Or.inr ⟨by rfl, rfl⟩) (by assumption) ?_
      try simp only [Act.put, List.getElem_toArray, List.getElem_cons_succ, List.getElem_cons_zero, List.setIfInBounds_toArray, List.set_cons_zero, List.set_cons_succ]
      refine wpAnyH_take (i := 13) (v := .bool true) rfl (by kernel_rfl) (by kernel_rfl) (by kernel_rfl) (fun _ _ _ h => h) (Or.inl ⟨by rfl, ?_⟩) (by assumption) ?_
      · intro w' hSw; (try dsimp only at hSw); go_simp
      try simp only [Act.put, List.getElem_toArray, List.getElem_cons_succ, List.getElem_cons_zero, List.setIfInBounds_toArray, List.set_cons_zero, List.set_cons_succ]
      refine wpAnyH_done (by kernel_rfl) ?_ _
      have b := hcb.2.2
      replace C := Lib.hid (C.out.on b)
      replace N := Lib.hid (N.out.on b)
      replace SN := Lib.hid (SN.out.on b)
      replace B := Lib.hid (B.out.trans (b.mono B.out.size))
      clear b hcb c9 s1 hs hHeld2
      go_wp2_with fail
      go_ret
      exact ⟨em_ret hr.out.symm, B.out⟩
    | true =>
      rw [Bool.true_and] at hok
      cases mu with
      | true =>
        have hall2 : Hid ((List.range (j + 1)).all f = true) := Lib.hid (range_more hall.out (by rw [hok]; rfl))
        clear hall hok
        refine wp_region_held_drew (S := fun w' => (w'.cell? ⟨w.heap.size, 0, none⟩ = some (.int .i64 k) ∧ w'.cell? ⟨w.heap.size, 1, none⟩ = some (.string sp) ∧ w'.cell? ⟨w.heap.size, 2, none⟩ = some (.string nm') ∧ w'.cell? ⟨w.heap.size, 3, none⟩ = some (.slice ao as'.length ca) ∧ w'.cell? ⟨w.heap.size, 4, none⟩ = some (.slice bo kids.length cb) ∧ w'.cell? ⟨w.heap.size, 5, none⟩ = some (.string d)) ∧ w'.cell? ⟨wA.heap.size, j, none⟩ = some (.string nm) ∧ Below wc.heap.size wc w') (by kernel_rfl) ⟨s1, hs, (Below.refl _ _).drew⟩ (fun hHeld => ?_)
        refine wpAnyH_take (i := 0) (v := .agg #[.int .i64 k, .string sp, .string nm', .slice ao as'.length ca, .slice bo kids.length cb, .string d]) rfl (by kernel_rfl) (by kernel_rfl) (by kernel_rfl) (fun _ _ _ h => h) (Or.inl ⟨by rfl, ?_⟩) (by assumption) ?_
        · intro w' hSw; (try dsimp only at hSw); go_simp
        try simp only [Act.put, List.getElem_toArray, List.getElem_cons_zero, List.setIfInBounds_toArray, List.set_cons_zero, List.set_cons_succ]
        refine wpAnyH_take (i := 1) (v := .slice (some ⟨wA.heap.size, 0, none⟩) 11 11) rfl (by kernel_rfl) (by kernel_rfl) (by kernel_rfl) (fun _ _ _ h => h) (Or.inl ⟨by rfl, ?_⟩) (by assumption) ?_
        · intro w' hSw; (try dsimp only at hSw); go_simp
        try simp only [Act.put, List.getElem_toArray, List.getElem_cons_succ, List.getElem_cons_zero, List.setIfInBounds_toArray, List.set_cons_zero, List.set_cons_succ]
        refine wpAnyH_take (i := 2) (v := .int .i64 (j : Int)) rfl (by kernel_rfl) (by kernel_rfl) (by kernel_rfl) (fun _ _ _ h => h) (Or.inl ⟨by rfl, ?_⟩) (by assumption) ?_
        · intro w' hSw; (try dsimp only at hSw); go_simp
        try simp only [Act.put, List.getElem_toArray, List.getElem_cons_succ, List.getElem_cons_zero, List.setIfInBounds_toArray, List.set_cons_zero, List.set_cons_succ]
        refine wpAnyH_take (i := 3) (v := .pointer (some ⟨wA.heap.size, j, none⟩)) rfl (by kernel_rfl) (by kernel_rfl) (by kernel_rfl) (fun _ _ _ h => h) (Or.inl ⟨by rfl, ?_⟩) (by assumption) ?_
        · intro w' hSw; (try dsimp only at hSw); go_simp
        try simp only [Act.put, List.getElem_toArray, List.getElem_cons_succ, List.getElem_cons_zero, List.setIfInBounds_toArray, List.set_cons_zero, List.set_cons_succ]
        refine wpAnyH_take (i := 4) (v := .string nm) rfl (by kernel_rfl) (by kernel_rfl) (by kernel_rfl) (fun _ _ _ h => h) (Or.inl ⟨by rfl, ?_⟩) (by assumption) ?_
        · intro w' hSw; (try dsimp only at hSw); go_simp
        try simp only [Act.put, List.getElem_toArray, List.getElem_cons_succ, List.getElem_cons_zero, List.setIfInBounds_toArray, List.set_cons_zero, List.set_cons_succ]
        refine wpAnyH_ready (rs := [5]) (by kernel_rfl) (by simp) (AllReadyH.cons rfl (fun K hK => ?_) AllReadyH.nil)
        go_simp
        refine (c9.out _ (Below.refl _ _).drew).mono ?_
        rintro e v2 ⟨rfl, hcb⟩
        refine hK.out _ _ hcb (fun hHeld2 => ?_)
        clear hK K hHeld
        try simp only [Act.put, List.getElem_toArray, List.getElem_cons_succ, List.getElem_cons_zero, List.setIfInBounds_toArray, List.set_cons_zero, List.set_cons_succ]
        refine wpAnyH_take (i := 6) (v := .bool false) rfl (by kernel_rfl) (by kernel_rfl) (by kernel_rfl) (fun _ _ _ h => h) (Or.inl ⟨by rfl, ?_⟩) (by assumption) ?_
        · intro w' hSw; (try dsimp only at hSw); go_simp
        try simp only [Act.put, List.getElem_toArray, List.getElem_cons_succ, List.getElem_cons_zero, List.setIfInBounds_toArray, List.set_cons_zero, List.set_cons_succ]
        refine wpAnyH_take (i := 7) (v := .bool false) rfl (by kernel_rfl) (by kernel_rfl) (by kernel_rfl) (fun _ _ _ h => h) (Or.inl ⟨by rfl, ?_⟩) (by assumption) ?_
        · intro w' hSw; (try dsimp only at hSw); go_simp
        try simp only [Act.put, List.getElem_toArray, List.getElem_cons_succ, List.getElem_cons_zero, List.setIfInBounds_toArray, List.set_cons_zero, List.set_cons_succ]
        refine wpAnyH_take (i := 8) (v := .bool false) rfl (by kernel_rfl) (by kernel_rfl) (by kernel_rfl) (fun _ _ _ h => h) (Or.inl ⟨by rfl, ?_⟩) (by assumption) ?_
        · intro w' hSw; (try dsimp only at hSw); go_simp
        try simp only [Act.put, List.getElem_toArray, List.getElem_cons_succ, List.getElem_cons_zero, List.setIfInBounds_toArray, List.set_cons_zero, List.set_cons_succ]
        refine wpAnyH_take (i := 9) (v := .bool false) rfl (by kernel_rfl) (by kernel_rfl) (by kernel_rfl) (fun _ _ _ h => h) (Or.inl ⟨by rfl, ?_⟩) (by assumption) ?_
        · intro w' hSw; (try dsimp only at hSw); go_simp
        try simp only [Act.put, List.getElem_toArray, List.getElem_cons_succ, List.getElem_cons_zero, List.setIfInBounds_toArray, List.set_cons_zero, List.set_cons_succ]
        refine wpAnyH_take (i := 10) (v := undef) rfl (by kernel_rfl) (by kernel_rfl) (by kernel_rfl) (fun _ _ _ h => h) (Or.inr ⟨by rfl, rfl⟩) (by assumption) ?_
        try simp only [Act.put, List.getElem_toArray, List.getElem_cons_succ, List.getElem_cons_zero, List.setIfInBounds_toArray, List.set_cons_zero, List.set_cons_succ]
        refine wpAnyH_take (i := 11) (v := undef) rfl (by kernel_rfl) (by kernel_rfl) (by kernel_rfl) (fun _ _ _ h => h) (Or.inr ⟨by rfl, rfl⟩) (by assumption) ?_
        try simp only [Act.put, List.getElem_toArray, List.getElem_cons_succ, List.getElem_cons_zero, List.setIfInBounds_toArray, List.set_cons_zero, List.set_cons_succ]
        refine wpAnyH_take (i := 12) (v := .bool false) rfl (by kernel_rfl) (by kernel_rfl) (by kernel_rfl) (fun _ _ _ h => h) (Or.inl ⟨by rfl, ?_⟩) (by assumption) ?_
        · intro w' hSw; (try dsimp only at hSw); go_simp
        try simp only [Act.put, List.getElem_toArray, List.getElem_cons_succ, List.getElem_cons_zero, List.setIfInBounds_toArray, List.set_cons_zero, List.set_cons_succ]
        refine wpAnyH_take (i := 13) (v := .bool false) rfl (by kernel_rfl) (by kernel_rfl) (by kernel_rfl) (fun _ _ _ h => h) (Or.inl ⟨by rfl, ?_⟩) (by assumption) ?_
        · intro w' hSw; (try dsimp only at hSw); go_simp
        try simp only [Act.put, List.getElem_toArray, List.getElem_cons_succ, List.getElem_cons_zero, List.setIfInBounds_toArray, List.set_cons_zero, List.set_cons_succ]
        refine wpAnyH_done (by kernel_rfl) ?_ _
        have b := hcb.2.2
        replace C := Lib.hid (C.out.on b)
        replace N := Lib.hid (N.out.on b)
        replace SN := Lib.hid (SN.out.on b)
        replace B := Lib.hid (B.out.trans (b.mono B.out.size))
        clear b hcb c9 s1 hs hHeld2
        go_wp2_with fail
        go_roundw
        case rel => exact ⟨j + 1, by omega, by go_num, hall2, C, N, SN, B⟩
        case measure => simp [intOf]; omega
      | false =>
        rw [Bool.false_or] at hok
        by_cases hm1 : m ≤ 1
        · have hall2 : Hid ((List.range (j + 1)).all f = true) := Lib.hid (range_more hall.out (by rw [hok]; exact decide_eq_true hm1))
          have g1 : ¬ (1 : Int) < (m : Int) := by omega
          clear hall hok
          first
            | go_region_held3 (fun w' => (w'.cell? ⟨w.heap.size, 0, none⟩ = some (.int .i64 k) ∧ w'.cell? ⟨w.heap.size, 1, none⟩ = some (.string sp) ∧ w'.cell? ⟨w.heap.size, 2, none⟩ = some (.string nm') ∧ w'.cell? ⟨w.heap.size, 3, none⟩ = some (.slice ao as'.length ca) ∧ w'.cell? ⟨w.heap.size, 4, none⟩ = some (.slice bo kids.length cb) ∧ w'.cell? ⟨w.heap.size, 5, none⟩ = some (.string d)) ∧ w'.cell? ⟨wA.heap.size, j, none⟩ = some (.string nm) ∧ Below wc.heap.size wc w')
              (first | exact ⟨s1, hs, (Below.refl _ _).drew⟩ | assumption)
              (first
                | (go_at_call 23; refine (c9.out _ ?_).mono ?_; exact (Below.refl _ _).drew; rintro e v2 ⟨rfl, hcb⟩))
            | fail "the region"
          all_goals
            have b := hcb.2.2
            replace C := Lib.hid (C.out.on b)
            replace N := Lib.hid (N.out.on b)
            replace SN := Lib.hid (SN.out.on b)
            replace B := Lib.hid (B.out.trans (b.mono B.out.size))
            clear b hcb c9 s1 hs
            go_wp2_with fail
            go_roundw
            case rel => exact ⟨j + 1, by omega, by go_num, hall2, C, N, SN, B⟩
            case measure => simp [intOf]; omega
        · have hr : Hid (E = 150) := Lib.hid (hck.out.no1 j hlt (by rw [hok]; exact decide_eq_false hm1))
          have g1 : (1 : Int) < (m : Int) := by omega
          clear hall hok
          first
            | go_region_held3 (fun w' => (w'.cell? ⟨w.heap.size, 0, none⟩ = some (.int .i64 k) ∧ w'.cell? ⟨w.heap.size, 1, none⟩ = some (.string sp) ∧ w'.cell? ⟨w.heap.size, 2, none⟩ = some (.string nm') ∧ w'.cell? ⟨w.heap.size, 3, none⟩ = some (.slice ao as'.length ca) ∧ w'.cell? ⟨w.heap.size, 4, none⟩ = some (.slice bo kids.length cb) ∧ w'.cell? ⟨w.heap.size, 5, none⟩ = some (.string d)) ∧ w'.cell? ⟨wA.heap.size, j, none⟩ = some (.string nm) ∧ Below wc.heap.size wc w')
              (first | exact ⟨s1, hs, (Below.refl _ _).drew⟩ | assumption)
              (first
                | (go_at_call 23; refine (c9.out _ ?_).mono ?_; exact (Below.refl _ _).drew; rintro e v2 ⟨rfl, hcb⟩))
            | fail "the region"
          all_goals
            have b := hcb.2.2
            replace C := Lib.hid (C.out.on b)
            replace N := Lib.hid (N.out.on b)
            replace SN := Lib.hid (SN.out.on b)
            replace B := Lib.hid (B.out.trans (b.mono B.out.size))
            clear b hcb c9 s1 hs
            go_wp2_with fail
            go_ret
            exact ⟨em_ret hr.out.symm, B.out⟩
end Go.Proofs.YtbaclacfadkjdaaGreatDoor
