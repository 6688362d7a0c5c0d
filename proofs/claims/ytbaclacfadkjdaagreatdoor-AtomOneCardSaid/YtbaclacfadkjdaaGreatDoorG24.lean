/-
  What the document's own word of persons comes to.
-/
import Derived.Test.YtbaclacfadkjdaaGreatDoorG23
import Derived.Deep.RegionHeld3
namespace Go.Proofs.YtbaclacfadkjdaaGreatDoor
open Go.RowKit
theorem am_lit_name : Am.lit "name" = [110, 97, 109, 101] := by decide +kernel
theorem am_lit_uri : Am.lit "uri" = [117, 114, 105] := by decide +kernel
theorem am_lit_email : Am.lit "email" = [101, 109, 97, 105, 108] := by decide +kernel
def Am.pName (l : List Gv.Node) : Bool := match l with
  | [x] => Am.plain x && decide (Am.trim (Am.text x) ≠ [])
  | _ => false
def Am.pUri (l : List Gv.Node) : Bool := match l with
  | [] => true
  | [x] => Am.plain x && Am.onD.iri (Am.trim (Am.text x)) false
  | _ => false
def Am.mailOk (x : Gv.Node) : Bool := Am.plain x && decide ((Am.trim (Am.text x)).count 64 = 1) && decide ((Am.trim (Am.text x)).head? ≠ some 64) && decide ((Am.trim (Am.text x)).getLast? ≠ some 64)
def Am.pMail (l : List Gv.Node) : Bool := match l with
  | [] => true
  | [x] => Am.mailOk x
  | _ => false
theorem Am.person_is (n : Gv.Node) : Am.person Am.onD n = (Am.pName (Am.all n (Am.lit "name")) && Am.pUri (Am.all n (Am.lit "uri")) && Am.pMail (Am.all n (Am.lit "email"))) := rfl
theorem Am.pName_no {l : List Gv.Node} (h : ¬ l.length = 1) : Am.pName l = false := by
  match l, h with
  | [], _ => rfl
  | [x], h => exact absurd rfl h
  | _ :: _ :: _, _ => rfl
theorem Am.pUri_no {l : List Gv.Node} (h : 1 < l.length) : Am.pUri l = false := by
  match l, h with
  | [], h => simp at h
  | [x], h => simp at h
  | _ :: _ :: _, _ => rfl
theorem Am.pMail_no {l : List Gv.Node} (h : 1 < l.length) : Am.pMail l = false := by
  match l, h with
  | [], h => simp at h
  | [x], h => simp at h
  | _ :: _ :: _, _ => rfl
theorem one_of {l : List Gv.Node} (h : l.length = 1) : ∃ x, l = [x] := List.length_eq_one_iff.1 h
set_option maxRecDepth 100000 in
set_option maxHeartbeats 6400000 in
theorem nd_person (n : Gv.Node) {A : Array Value} (w : World) (h : Nd w A n) (hz : Gv.wt n ≤ 100000) :
    Calls Tryz.prog 37 #[.agg A] w fun e w' => e = .returned (.bool (Am.person Am.onD n)) ∧ Below w.heap.size w w' := by
  have hq := Am.person_is n
  rw [am_lit_name, am_lit_uri, am_lit_email] at hq
  generalize Am.person Am.onD n = Q at *
  replace hq := Lib.hid hq
  have k1 := (fun W (hW : Nd W A n) => nd_all n ⟨#[110, 97, 109, 101]⟩ W hW (by omega))
  rw [show (⟨#[110, 97, 109, 101]⟩ : ByteArray).data.toList = [110, 97, 109, 101] from rfl] at k1
  have k2 := (fun W (hW : Nd W A n) => nd_all n ⟨#[117, 114, 105]⟩ W hW (by omega))
  rw [show (⟨#[117, 114, 105]⟩ : ByteArray).data.toList = [117, 114, 105] from rfl] at k2
  have k3 := (fun W (hW : Nd W A n) => nd_all n ⟨#[101, 109, 97, 105, 108]⟩ W hW (by omega))
  rw [show (⟨#[101, 109, 97, 105, 108]⟩ : ByteArray).data.toList = [101, 109, 97, 105, 108] from rfl] at k3
  have m1 := Lib.hid (fun x (hx : x ∈ Am.all n [110, 97, 109, 101]) => Nat.le_trans (Am.mem_all hx) hz)
  generalize Am.all n [110, 97, 109, 101] = L1 at *
  have m2 := Lib.hid (fun x (hx : x ∈ Am.all n [117, 114, 105]) => Nat.le_trans (Am.mem_all hx) hz)
  generalize Am.all n [117, 114, 105] = L2 at *
  have m3 := Lib.hid (fun x (hx : x ∈ Am.all n [101, 109, 97, 105, 108]) => Nat.le_trans (Am.mem_all hx) hz)
  generalize Am.all n [101, 109, 97, 105, 108] = L3 at *
  generalize hL1 : L1.length = n1 at *
  replace hL1 := Lib.hid hL1
  generalize hL2 : L2.length = n2 at *
  replace hL2 := Lib.hid hL2
  generalize hL3 : L3.length = n3 at *
  replace hL3 := Lib.hid hL3
  obtain ⟨S, k, sp, nm, d, as', kids, ao, bo, ca, cb, hn, rfl, ha, hK, h1, h2⟩ := h.form
  have bA := (Below.refl w.heap.size w).alloc (Nat.le_refl _) (.cells #[.int .i64 k, .string sp, .string nm, .slice ao as'.length ca, .slice bo kids.length cb, .string d] 25)
  have hN := Lib.hid (h.on bA)
  have C0 := Lib.hid (Cells.new w 25 #[.int .i64 k, .string sp, .string nm, .slice ao as'.length ca, .slice bo kids.length cb, .string d])
  replace bA := Lib.hid bA
  clear h ha hK h1 h2 hn
  go_enter Tryz.func37, Tryz.ntmps37
  go_upto_region 1 with fail
  generalize w.alloc (.cells #[.int .i64 k, .string sp, .string nm, .slice ao as'.length ca, .slice bo kids.length cb, .string d] 25) = wA at *
  have s0 := node_open (show Cells wA _ _ (nodeArr k sp nm (.slice ao as'.length ca) (.slice bo kids.length cb) d) from C0.out)
  have s1 := node_open (show Cells wA.drew _ _ (nodeArr k sp nm (.slice ao as'.length ca) (.slice bo kids.length cb) d) from C0.out.drew)
  obtain ⟨x0, x1, x2, x3, x4, x5⟩ := s0
  have hS : ∀ w', Below wA.heap.size wA w' → (w'.cell? ⟨w.heap.size, 0, none⟩ = some (.int .i64 k) ∧ w'.cell? ⟨w.heap.size, 1, none⟩ = some (.string sp) ∧ w'.cell? ⟨w.heap.size, 2, none⟩ = some (.string nm) ∧ w'.cell? ⟨w.heap.size, 3, none⟩ = some (.slice ao as'.length ca) ∧ w'.cell? ⟨w.heap.size, 4, none⟩ = some (.slice bo kids.length cb) ∧ w'.cell? ⟨w.heap.size, 5, none⟩ = some (.string d)) ∧ Below wA.heap.size wA w' := fun w' hb =>
    ⟨node_open (show Cells w' _ _ (nodeArr k sp nm (.slice ao as'.length ca) (.slice bo kids.length cb) d) from C0.out.on hb), hb⟩
  have c1 := Lib.hid (fun W (hb : Below wA.heap.size wA W) => (k1 W (hN.out.on hb)).mono (R' := fun e w' => ∃ lo lc, e = .returned (.slice lo n1 lc) ∧ ((w'.cell? ⟨w.heap.size, 0, none⟩ = some (.int .i64 k) ∧ w'.cell? ⟨w.heap.size, 1, none⟩ = some (.string sp) ∧ w'.cell? ⟨w.heap.size, 2, none⟩ = some (.string nm) ∧ w'.cell? ⟨w.heap.size, 3, none⟩ = some (.slice ao as'.length ca) ∧ w'.cell? ⟨w.heap.size, 4, none⟩ = some (.slice bo kids.length cb) ∧ w'.cell? ⟨w.heap.size, 5, none⟩ = some (.string d)) ∧ Below wA.heap.size wA w') ∧ Hid (KidsAt (fun _ => True) w' (.slice lo n1 lc) L1) ∧ Hid (Below W.heap.size W w')) (fun e w' ⟨lo, lc, he, hk, hb'⟩ => ⟨lo, lc, he, hS w' (hb.trans (hb'.mono hb.size)), Lib.hid hk, Lib.hid hb'⟩))
  have c2 := Lib.hid (fun W (hb : Below wA.heap.size wA W) => (k2 W (hN.out.on hb)).mono (R' := fun e w' => ∃ lo lc, e = .returned (.slice lo n2 lc) ∧ ((w'.cell? ⟨w.heap.size, 0, none⟩ = some (.int .i64 k) ∧ w'.cell? ⟨w.heap.size, 1, none⟩ = some (.string sp) ∧ w'.cell? ⟨w.heap.size, 2, none⟩ = some (.string nm) ∧ w'.cell? ⟨w.heap.size, 3, none⟩ = some (.slice ao as'.length ca) ∧ w'.cell? ⟨w.heap.size, 4, none⟩ = some (.slice bo kids.length cb) ∧ w'.cell? ⟨w.heap.size, 5, none⟩ = some (.string d)) ∧ Below wA.heap.size wA w') ∧ Hid (KidsAt (fun _ => True) w' (.slice lo n2 lc) L2) ∧ Hid (Below W.heap.size W w')) (fun e w' ⟨lo, lc, he, hk, hb'⟩ => ⟨lo, lc, he, hS w' (hb.trans (hb'.mono hb.size)), Lib.hid hk, Lib.hid hb'⟩))
  have c3 := Lib.hid (fun W (hb : Below wA.heap.size wA W) => (k3 W (hN.out.on hb)).mono (R' := fun e w' => ∃ lo lc, e = .returned (.slice lo n3 lc) ∧ ((w'.cell? ⟨w.heap.size, 0, none⟩ = some (.int .i64 k) ∧ w'.cell? ⟨w.heap.size, 1, none⟩ = some (.string sp) ∧ w'.cell? ⟨w.heap.size, 2, none⟩ = some (.string nm) ∧ w'.cell? ⟨w.heap.size, 3, none⟩ = some (.slice ao as'.length ca) ∧ w'.cell? ⟨w.heap.size, 4, none⟩ = some (.slice bo kids.length cb) ∧ w'.cell? ⟨w.heap.size, 5, none⟩ = some (.string d)) ∧ Below wA.heap.size wA w') ∧ Hid (KidsAt (fun _ => True) w' (.slice lo n3 lc) L3) ∧ Hid (Below W.heap.size W w')) (fun e w' ⟨lo, lc, he, hk, hb'⟩ => ⟨lo, lc, he, hS w' (hb.trans (hb'.mono hb.size)), Lib.hid hk, Lib.hid hb'⟩))
  clear k1 k2 k3 hS x0 x1 x2 x3 x4 x5
  go_cut [3, 4, 5] (fun a b c wx => ∃ o1 c1 o2 c2 o3 c3, a = .slice o1 n1 c1 ∧ b = .slice o2 n2 c2 ∧ c = .slice o3 n3 c3 ∧ Hid (KidsAt (fun _ => True) wx (.slice o1 n1 c1) L1) ∧ Hid (KidsAt (fun _ => True) wx (.slice o2 n2 c2) L2) ∧ Hid (KidsAt (fun _ => True) wx (.slice o3 n3 c3) L3) ∧ Hid (Below wA.heap.size wA wx))
  case first =>
    go_region_held3 (fun w' => (w'.cell? ⟨w.heap.size, 0, none⟩ = some (.int .i64 k) ∧ w'.cell? ⟨w.heap.size, 1, none⟩ = some (.string sp) ∧ w'.cell? ⟨w.heap.size, 2, none⟩ = some (.string nm) ∧ w'.cell? ⟨w.heap.size, 3, none⟩ = some (.slice ao as'.length ca) ∧ w'.cell? ⟨w.heap.size, 4, none⟩ = some (.slice bo kids.length cb) ∧ w'.cell? ⟨w.heap.size, 5, none⟩ = some (.string d)) ∧ Below wA.heap.size wA w')
      (first | exact ⟨s1, (Below.refl _ _).drew⟩ | assumption)
      (first
        | (go_at_call_of 22 (Value.string ⟨#[110, 97, 109, 101]⟩); refine (c1.out _ ?_).mono ?_; (first | exact (Below.refl _ _).drew | exact hcb.2); rintro e v1 ⟨o1, q1, rfl, hcb, K1, b1⟩)
        | (go_at_call_of 22 (Value.string ⟨#[117, 114, 105]⟩); refine (c2.out _ ?_).mono ?_; (first | exact (Below.refl _ _).drew | exact hcb.2); rintro e v2 ⟨o2, q2, rfl, hcb, K2, b2⟩)
        | (go_at_call_of 22 (Value.string ⟨#[101, 109, 97, 105, 108]⟩); refine (c3.out _ ?_).mono ?_; (first | exact (Below.refl _ _).drew | exact hcb.2); rintro e v3 ⟨o3, q3, rfl, hcb, K3, b3⟩))
    all_goals
      go_wp2_with fail
      go_meet
      refine ⟨o1, q1, o2, q2, o3, q3, rfl, rfl, rfl, ?_, ?_, ?_, Lib.hid hcb.2⟩
      · first | exact K1 | exact Lib.hid (K1.out.on b2.out) | exact Lib.hid (K1.out.on b3.out) | exact Lib.hid (K1.out.on (b2.out.trans (b3.out.mono b2.out.size))) | exact Lib.hid (K1.out.on (b3.out.trans (b2.out.mono b3.out.size)))
      · first | exact K2 | exact Lib.hid (K2.out.on b1.out) | exact Lib.hid (K2.out.on b3.out) | exact Lib.hid (K2.out.on (b1.out.trans (b3.out.mono b1.out.size))) | exact Lib.hid (K2.out.on (b3.out.trans (b1.out.mono b3.out.size)))
      · first | exact K3 | exact Lib.hid (K3.out.on b1.out) | exact Lib.hid (K3.out.on b2.out) | exact Lib.hid (K3.out.on (b1.out.trans (b2.out.mono b1.out.size))) | exact Lib.hid (K3.out.on (b2.out.trans (b1.out.mono b2.out.size)))
  case rest =>
  obtain ⟨o1, q1, o2, q2, o3, q3, rfl, rfl, rfl, K1, K2, K3, bx⟩ := hcut
  have B := Lib.hid (bA.out.trans (bx.out.mono bA.out.size))
  clear c1 c2 c3 s1 bA bx C0 hN
  by_cases e1 : n1 = 1
  case neg =>
    have s1 : ((n1 : Int) != 1) = true := by rw [bne_iff_ne]; omega
    have s2 : ¬ (n1 : Int) = 1 := by omega
    have hr : Hid (Q = false) := Lib.hid (by rw [hq.out, Am.pName_no (by rw [hL1.out]; exact e1)]; rfl)
    go_wp2_with fail
    go_ret
    exact ⟨ret_bool hr.out.symm, B.out⟩
  subst e1
  obtain ⟨x, rfl⟩ := one_of hL1.out
  have hzx := m1.out x (by simp)
  have kP := Lib.hid (fun W A (hW : Nd W A x) => nd_plain x W hW)
  have kT := Lib.hid (fun W A (hW : Nd W A x) => nd_text x W hW (by omega))
  have zt := txS_size x
  have kR := Lib.hid (fun W => refTrim_any (txS x) W (by unfold maxLen; omega))
  have hqn : Am.pName [x] = (Am.plain x && decide ((trS (txS x)).data.toList ≠ [])) := by rw [trS_list, txS_list]; rfl
  rw [hqn] at hq
  clear hqn zt
  generalize trS (txS x) = y at *
  generalize txS x = tx at *
  generalize Am.plain x = pl at *
  obtain ⟨pb, po, k', sp', nm', d', x3, x4, rfl, d0, d1, d2, d3, d4, d5, hE, ⟨ro, rn, rc, rfl⟩, ⟨so, sn, sc, rfl⟩, -, -⟩ := KidsAt.nd K1.out (j := 0) (by simp)
  simp only [Nat.zero_mul, Nat.add_zero, List.getElem_cons_zero] at d0 d1 d2 d3 d4 d5 hE
  have cc := Lib.hid (kP.out _ _ hE)
  clear hE
  go_wp2_with fail
  (with_reducible refine (cc.out).mono ?_); rintro e w1 ⟨rfl, b⟩
  replace K1 := Lib.hid (K1.out.on b)
  replace K2 := Lib.hid (K2.out.on b)
  replace K3 := Lib.hid (K3.out.on b)
  replace B := Lib.hid (B.out.trans (b.mono B.out.size))
  clear b cc d0 d1 d2 d3 d4 d5
  cases pl with
  | false =>
    have hr : Hid (Q = false) := Lib.hid (by rw [hq.out]; rfl)
    go_wp2_with fail
    go_ret
    exact ⟨ret_bool hr.out.symm, B.out⟩
  | true =>
  rw [Bool.true_and] at hq
  obtain ⟨k', sp', nm', d', x3, x4, d0, d1, d2, d3, d4, d5, hE, ⟨ro, rn, rc, rfl⟩, ⟨so, sn, sc, rfl⟩⟩ := KidsAt.nd1 K1.out (j := 0) (by simp)
  simp only [Nat.zero_mul, Nat.add_zero, List.getElem_cons_zero] at d0 d1 d2 d3 d4 d5 hE
  have cc := Lib.hid (kT.out _ _ hE)
  clear hE
  go_wp2_with fail
  (with_reducible refine (cc.out).mono ?_); rintro e w2 ⟨rfl, b⟩
  replace K1 := Lib.hid (K1.out.on b)
  replace K2 := Lib.hid (K2.out.on b)
  replace K3 := Lib.hid (K3.out.on b)
  replace B := Lib.hid (B.out.trans (b.mono B.out.size))
  clear b cc d0 d1 d2 d3 d4 d5
  go_wp2_with fail
  (with_reducible refine (kR.out _).mono ?_); rintro e w3 ⟨rfl, rfl⟩
  clear kP kT kR
  by_cases y0 : y.size = 0
  case pos =>
    obtain rfl : y = ByteArray.empty := ByteArray.size_eq_zero_iff.1 y0
    have he3 : (ByteArray.empty.toList == []) = true := by rw [ByteArray.toList_eq]; rfl
    have he2 : ByteArray.empty.toList = [] := by rw [ByteArray.toList_eq]; rfl
    have hr : Hid (Q = false) := Lib.hid (by rw [hq.out]; rfl)
    go_wp2_with fail
    go_ret
    exact ⟨ret_bool hr.out.symm, B.out⟩
  have hp : 0 < y.size := by omega
  have hne3 : ¬ y.toList = [] := by
    rw [ByteArray.toList_eq]
    exact lst_ne hp
  have hne2 : (y.toList == []) = false := by
    rw [beq_eq_false_iff_ne]; exact hne3
  replace hq : Hid (Q = (Am.pUri L2 && Am.pMail L3)) := Lib.hid (by rw [hq.out, decide_eq_true (lst_ne hp), Bool.true_and])
  by_cases e2 : 1 < n2
  case pos =>
    have s1 : (1 : Int) < (n2 : Int) := by omega
    have hr : Hid (Q = false) := Lib.hid (by rw [hq.out, Am.pUri_no (by rw [hL2.out]; exact e2)]; rfl)
    go_wp2_with fail
    go_ret
    exact ⟨ret_bool hr.out.symm, B.out⟩
  have s2 : ¬ (1 : Int) < (n2 : Int) := by omega
  by_cases e3 : 1 < n3
  case pos =>
    have s1 : (1 : Int) < (n3 : Int) := by omega
    have hr : Hid (Q = false) := Lib.hid (by rw [hq.out, Am.pMail_no (by rw [hL3.out]; exact e3), Bool.and_false])
    go_wp2_with fail
    go_ret
    exact ⟨ret_bool hr.out.symm, B.out⟩
  have s3 : ¬ (1 : Int) < (n3 : Int) := by omega
  go_upto_region 4 with fail
  clear s2 s3 hne2 hne3 y0 hp hL1 m1 K1
  replace e2 : n2 ≤ 1 := by omega
  replace e3 : n3 ≤ 1 := by omega
  go_cut [61] (fun c wx => c = .bool (!Am.pUri L2) ∧ Hid (KidsAt (fun _ => True) wx (.slice o3 n3 q3) L3) ∧ Hid (Below w.heap.size w wx))
  case first =>
    by_cases u0 : n2 = 0
    case pos =>
      subst u0
      obtain rfl : L2 = [] := List.eq_nil_of_length_eq_zero hL2.out
      go_wp2_with fail
      go_meet
      exact ⟨rfl, K3, B⟩
    obtain rfl : n2 = 1 := by omega
    obtain ⟨x, rfl⟩ := one_of hL2.out
    have hzx := m2.out x (by simp)
    have kP := Lib.hid (fun W A (hW : Nd W A x) => nd_plain x W hW)
    have kT := Lib.hid (fun W A (hW : Nd W A x) => nd_text x W hW (by omega))
    have zt := txS_size x
    have zy := trS_size (txS x)
    have kR := Lib.hid (fun W => refTrim_any (txS x) W (by unfold maxLen; omega))
    have kI := Lib.hid (fun W => nd_iri (trS (txS x)) false W (by omega))
    have hqn : Hid (Am.pUri [x] = (Am.plain x && Am.onD.iri (trS (txS x)).data.toList false)) := Lib.hid (by rw [trS_list, txS_list]; rfl)
    clear zt zy u0
    generalize Am.pUri [x] = pu at *
    generalize Am.onD.iri (trS (txS x)).data.toList false = ii at *
    generalize trS (txS x) = y2 at *
    generalize txS x = tx2 at *
    generalize Am.plain x = pl at *
    obtain ⟨pb, po, k', sp', nm', d', x3, x4, rfl, d0, d1, d2, d3, d4, d5, hE, ⟨ro, rn, rc, rfl⟩, ⟨so, sn, sc, rfl⟩, -, -⟩ := KidsAt.nd K2.out (j := 0) (by simp)
    simp only [Nat.zero_mul, Nat.add_zero, List.getElem_cons_zero] at d0 d1 d2 d3 d4 d5 hE
    have cc := Lib.hid (kP.out _ _ hE)
    clear hE
    go_wp2_with fail
    (with_reducible refine (cc.out).mono ?_); rintro e w1 ⟨rfl, b⟩
    replace K2 := Lib.hid (K2.out.on b)
    replace K3 := Lib.hid (K3.out.on b)
    replace B := Lib.hid (B.out.trans (b.mono B.out.size))
    clear b cc d0 d1 d2 d3 d4 d5
    cases pl with
    | false =>
      have hr : Hid (pu = false) := Lib.hid (by rw [hqn.out]; rfl)
      go_wp2_with fail
      go_meet
      exact ⟨by rw [hr.out]; rfl, K3, B⟩
    | true =>
    rw [Bool.true_and] at hqn
    obtain ⟨k', sp', nm', d', x3, x4, d0, d1, d2, d3, d4, d5, hE, ⟨ro, rn, rc, rfl⟩, ⟨so, sn, sc, rfl⟩⟩ := KidsAt.nd1 K2.out (j := 0) (by simp)
    simp only [Nat.zero_mul, Nat.add_zero, List.getElem_cons_zero] at d0 d1 d2 d3 d4 d5 hE
    have cc := Lib.hid (kT.out _ _ hE)
    clear hE
    go_wp2_with fail
    (with_reducible refine (cc.out).mono ?_); rintro e w2 ⟨rfl, b⟩
    replace K2 := Lib.hid (K2.out.on b)
    replace K3 := Lib.hid (K3.out.on b)
    replace B := Lib.hid (B.out.trans (b.mono B.out.size))
    clear b cc d0 d1 d2 d3 d4 d5
    go_wp2_with fail
    (with_reducible refine (kR.out _).mono ?_); rintro e w3 ⟨rfl, rfl⟩
    go_wp2_with fail
    (with_reducible refine (kI.out _).mono ?_); rintro e w4 ⟨rfl, b⟩
    replace K3 := Lib.hid (K3.out.on b)
    replace B := Lib.hid (B.out.trans (b.mono B.out.size))
    clear b kP kT kR kI
    go_wp2_with fail
    go_meet
    exact ⟨by rw [hqn.out], K3, B⟩
  case rest =>
  clear K2 K3 B hL2 m2 e2
  obtain ⟨rfl, K3, B⟩ := hcut
  cases hpu : Am.pUri L2
  case false =>
    rw [hpu] at hq
    rw [show (!false) = true from rfl]
    have hr : Hid (Q = false) := Lib.hid (by rw [hq.out]; rfl)
    go_wp2_with fail
    go_ret
    exact ⟨ret_bool hr.out.symm, B.out⟩
  rw [hpu, Bool.true_and] at hq
  rw [show (!true) = false from rfl]
  clear hpu
  by_cases u0 : n3 = 0
  case pos =>
    subst u0
    obtain rfl : L3 = [] := List.eq_nil_of_length_eq_zero hL3.out
    have hr : Hid (Q = true) := Lib.hid hq.out
    go_wp2_with fail
    go_ret
    exact ⟨ret_bool hr.out.symm, B.out⟩
  obtain rfl : n3 = 1 := by omega
  obtain ⟨x, rfl⟩ := one_of hL3.out
  have hzx := m3.out x (by simp)
  have kP := Lib.hid (fun W A (hW : Nd W A x) => nd_plain x W hW)
  have kT := Lib.hid (fun W A (hW : Nd W A x) => nd_text x W hW (by omega))
  have zt := txS_size x
  have zy := trS_size (txS x)
  have kR := Lib.hid (fun W => refTrim_any (txS x) W (by unfold maxLen; omega))
  have hqm : Hid (Q = (Am.plain x && decide ((trS (txS x)).data.toList.count 64 = 1) && decide ((trS (txS x)).data.toList.head? ≠ some 64) && decide ((trS (txS x)).data.toList.getLast? ≠ some 64))) := Lib.hid (by rw [hq.out, trS_list, txS_list]; rfl)
  have hy : (trS (txS x)).size ≤ 100000 := by omega
  clear zt zy u0 hq
  generalize trS (txS x) = y3 at *
  generalize txS x = tx3 at *
  generalize Am.plain x = pl at *
  obtain ⟨pb, po, k', sp', nm', d', x3, x4, rfl, d0, d1, d2, d3, d4, d5, hE, ⟨ro, rn, rc, rfl⟩, ⟨so, sn, sc, rfl⟩, -, -⟩ := KidsAt.nd K3.out (j := 0) (by simp)
  simp only [Nat.zero_mul, Nat.add_zero, List.getElem_cons_zero] at d0 d1 d2 d3 d4 d5 hE
  have cc := Lib.hid (kT.out _ _ hE)
  clear hE
  go_wp2_with fail
  (with_reducible refine (cc.out).mono ?_); rintro e w5 ⟨rfl, b⟩
  replace K3 := Lib.hid (K3.out.on b)
  replace B := Lib.hid (B.out.trans (b.mono B.out.size))
  clear b cc d0 d1 d2 d3 d4 d5
  go_wp2_with fail
  (with_reducible refine (kR.out _).mono ?_); rintro e w6 ⟨rfl, rfl⟩
  clear kR kT
  have hlen := Lib.hid (list_len y3)
  go_wp2_with fail
  go_loop [7, 8] (fun c i => ∃ j m : Nat, j ≤ y3.size ∧ i = .int .i64 (j : Int) ∧ c = .int .i64 (m : Int) ∧ m ≤ j ∧ Hid (m = (y3.data.toList.take j).count 64)) (fun _ i => y3.size - (intOf i).toNat)
  case atStart => exact ⟨0, 0, Nat.zero_le _, rfl, rfl, Nat.le_refl _, Lib.hid (by simp)⟩
  case round =>
    obtain ⟨j, m, hj, rfl, rfl, hmj, hm⟩ := hrel
    by_cases hlt : j < y3.size
    · have hb := (y3[j]).toNat_lt
      have hst : (y3.data.toList.take (j + 1)).count 64 = (y3.data.toList.take j).count 64 + (if y3[j] = 64 then 1 else 0) := by
        have h1 : j < y3.data.toList.length := by rw [hlen.out]; exact hlt
        rw [List.take_succ_eq_append_getElem h1, List.count_append, List.count_singleton]
        have : y3.data.toList[j] = y3[j] := rfl
        rw [this]
        by_cases e : y3[j] = 64
        · rw [if_pos e, e]; rfl
        · rw [if_neg e, if_neg (by simpa using e)]
      rw [← hm.out] at hst
      by_cases e64 : y3[j] = 64
      · rw [if_pos e64] at hst
        have s1 : ((y3[j].toNat : Int) == 64) = true := by rw [e64]; rfl
        replace hst := Lib.hid hst
        replace e64 := Lib.hid e64
        go_wp2_with fail
        go_round
        case rel => exact ⟨j + 1, m + 1, by omega, by go_num, by go_num, by omega, Lib.hid hst.out.symm⟩
        case measure => simp [intOf]; omega
      · rw [if_neg e64, Nat.add_zero] at hst
        have s1 : ((y3[j].toNat : Int) == 64) = false := beq_false_of_ne (fun e => e64 (byte_is (by have : (64 : UInt8).toNat = 64 := rfl; omega)))
        replace hst := Lib.hid hst
        replace e64 := Lib.hid e64
        go_wp2_with fail
        go_round
        case rel => exact ⟨j + 1, m, by omega, by go_num, rfl, by omega, Lib.hid hst.out.symm⟩
        case measure => simp [intOf]; omega
    · have hmc : Hid (y3.data.toList.count 64 = m) := Lib.hid (by rw [hm.out, List.take_of_length_le (by rw [hlen.out]; omega)])
      clear hm hlen
      obtain ⟨k', sp', nm', d', x3, x4, d0, d1, d2, d3, d4, d5, hE, ⟨ro, rn, rc, rfl⟩, ⟨so, sn, sc, rfl⟩⟩ := KidsAt.nd1 K3.out (j := 0) (by simp)
      simp only [Nat.zero_mul, Nat.add_zero, List.getElem_cons_zero] at d0 d1 d2 d3 d4 d5 hE
      have cc := Lib.hid (kP.out _ _ hE)
      clear hE
      go_wp2_with fail
      (with_reducible refine (cc.out).mono ?_); rintro e w7 ⟨rfl, b⟩
      replace K3 := Lib.hid (K3.out.on b)
      replace B := Lib.hid (B.out.trans (b.mono B.out.size))
      clear b cc d0 d1 d2 d3 d4 d5
      cases pl with
      | false =>
        have hr : Hid (Q = false) := Lib.hid (by rw [hqm.out]; rfl)
        go_wp2_with fail
        go_ret
        exact ⟨ret_bool hr.out.symm, B.out⟩
      | true =>
      by_cases c1 : m = 1
      case neg =>
        have s1 : ((m : Int) == 1) = false := beq_false_of_ne (by omega)
        have hr : Hid (Q = false) := Lib.hid (by rw [hqm.out, hmc.out, decide_eq_false c1]; rfl)
        go_wp2_with fail
        go_ret
        exact ⟨ret_bool hr.out.symm, B.out⟩
      subst c1
      have hpos : 0 < y3.size := by
        rcases Nat.eq_zero_or_pos y3.size with e | e
        · have := hmc.out
          rw [ByteArray.size_eq_zero_iff.1 e] at this
          cases this
        · exact e
      have hh : y3.data.toList.head? = some y3[0] := by
        have := drop_cons y3 0 hpos
        rw [List.drop_zero] at this
        rw [this]; rfl
      obtain ⟨kk, hk⟩ : ∃ kk, y3.size = kk + 1 := ⟨y3.size - 1, by omega⟩
      have hkl : kk < y3.size := by omega
      have hll : y3.data.toList.getLast? = some y3[kk] := by rw [last_cons hk]; simp
      have hk1 : (y3.size : Int) - 1 = (kk : Int) := by omega
      replace hqm : Hid (Q = (decide (y3[0] ≠ 64) && decide (y3[kk] ≠ 64))) := Lib.hid (by rw [hqm.out, hmc.out, hh, hll]; simp)
      replace hk := Lib.hid hk
      have b0 := (y3[0]).toNat_lt
      have b1 := (y3[kk]).toNat_lt
      clear hh hll hmc
      by_cases c2 : y3[0] = 64
      case pos =>
        have s2 : ((y3[0].toNat : Int) != 64) = false := by rw [c2]; rfl
        have s2' : (y3[0].toNat : Int) = 64 := by rw [c2]; rfl
        have hr : Hid (Q = false) := Lib.hid (by rw [hqm.out, c2]; rfl)
        replace c2 := Lib.hid c2
        replace s2' := Lib.hid s2'
        go_wp2_with fail
        go_ret
        exact ⟨ret_bool hr.out.symm, B.out⟩
      have s2 : ((y3[0].toNat : Int) != 64) = true := by
        rw [bne_iff_ne]
        exact fun e => c2 (byte_is (by have : (64 : UInt8).toNat = 64 := rfl; omega))
      by_cases c3 : y3[kk] = 64
      case pos =>
        have s3 : ((y3[kk].toNat : Int) != 64) = false := by rw [c3]; rfl
        have hr : Hid (Q = false) := Lib.hid (by rw [hqm.out, c3]; simp)
        replace c3 := Lib.hid c3
        replace c2 := Lib.hid c2
        go_wp2_with fail
        go_ret
        exact ⟨ret_bool hr.out.symm, B.out⟩
      have s3 : ((y3[kk].toNat : Int) != 64) = true := by
        rw [bne_iff_ne]
        exact fun e => c3 (byte_is (by have : (64 : UInt8).toNat = 64 := rfl; omega))
      have hr : Hid (Q = true) := Lib.hid (by rw [hqm.out, decide_eq_true c2, decide_eq_true c3]; rfl)
      replace c3 := Lib.hid c3
      replace c2 := Lib.hid c2
      go_wp2_with fail
      go_ret
      exact ⟨ret_bool hr.out.symm, B.out⟩
end Go.Proofs.YtbaclacfadkjdaaGreatDoor
