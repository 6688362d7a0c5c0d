/-
  What the document's own words of parameters and of ranges come to: contracts of Param, Fits.
-/
import Derived.Test.YtpgdmoaegnehbaaGreatDoorRefMParse
import Derived.Deep.RegionHeld3
namespace Go.Proofs.YtpgdmoaegnehbaaGreatDoor
open Go.RowKit

/-- Param's answers. -/
def paA (ps : List Pair) (n : ByteArray) : ByteArray := (Md.param ps n).getD ⟨#[]⟩
def paB (ps : List Pair) (n : ByteArray) : Bool := (Md.param ps n).isSome
theorem param_cons (p : Pair) (t : List Pair) (n : ByteArray) : Md.param (p :: t) n = if p.name = n then some p.value else Md.param t n := by
  unfold Md.param
  rw [List.find?_cons]
  by_cases h : p.name = n
  · rw [if_pos h, decide_eq_true h]; rfl
  · rw [if_neg h, decide_eq_false h]
theorem pa_some {ps : List Pair} {n v : ByteArray} (h : Md.param ps n = some v) : paA ps n = v ∧ paB ps n = true := by unfold paA paB; rw [h]; exact ⟨rfl, rfl⟩
theorem pa_none {ps : List Pair} {n : ByteArray} (h : Md.param ps n = none) : paA ps n = ⟨#[]⟩ ∧ paB ps n = false := by unfold paA paB; rw [h]; exact ⟨rfl, rfl⟩
theorem same_str {a b : ByteArray} (h : a = b) : (a.toList == b.toList) = true := by subst h; exact beq_self_eq_true _
theorem not_str {a b : ByteArray} (h : ¬ a = b) : (a.toList == b.toList) = false := by
  rw [ByteArray.toList_eq, ByteArray.toList_eq]; exact beq_false_of_ne (fun e => h (bytes_eq e))
theorem ret_par {a b : ByteArray} {x y : Bool} (h1 : a = b) (h2 : x = y) : Ending.returned (.tuple #[.string a, .bool x]) = .returned (.tuple #[.string b, .bool y]) := by rw [h1, h2]

set_option maxHeartbeats 800000 in
theorem refParam_any {ao : Option Addr} {cap n : Nat} (x y : Value) (ps : List Pair) (nm : ByteArray) (w : World) (hp : PairsIn w ao ps) (hn : ps.length = n) (hl : n ≤ maxLen) :
    Calls Tryz.prog 36 #[.agg #[x, y, .slice ao n cap], .string nm] w fun e w' => e = .returned (.tuple #[.string (paA ps nm), .bool (paB ps nm)]) ∧ Below w.heap.size w w' := by
  unfold maxLen at hl
  have hn := Lib.hid hn
  have bA : Below w.heap.size w (w.alloc (.cells #[x, y, .slice ao n cap] 40)) := (Below.refl _ _).alloc (Nat.le_refl _) _
  have c2 := (Box3.new w x y (.slice ao n cap)).c2
  have hp2 := hp.below bA
  go_enter Tryz.func36, Tryz.ntmps36
  go_wp2_with fail
  go_loop [6] (fun i => ∃ k : Nat, k ≤ n ∧ i = .int .i64 (k : Int) ∧ Hid (Md.param ps nm = Md.param (ps.drop k) nm)) (fun i => n - (intOf i).toNat)
  case atStart => exact ⟨0, Nat.zero_le _, rfl, Lib.hid rfl⟩
  case round =>
    obtain ⟨k, hk, rfl, hD⟩ := hrel
    by_cases hlt : k < n
    · have hkl : k < ps.length := by rw [hn.out]; exact hlt
      obtain ⟨b, off, rfl, d0, d1⟩ := hp2 k hkl
      have hc := hD.out.trans (by rw [List.drop_eq_getElem_cons hkl, param_cons])
      generalize ps[k] = a at *
      obtain ⟨an, av⟩ := a
      dsimp only at *
      clear hp hp2 hD
      by_cases he : an = nm
      · rw [if_pos he] at hc
        obtain ⟨r1, r2⟩ := pa_some hc
        replace r1 := Lib.hid r1
        replace r2 := Lib.hid r2
        have hs := same_str he
        clear hc he
        go_wp2
        go_ret2
        exact ⟨ret_par r1.out.symm r2.out.symm, bA⟩
      · rw [if_neg he] at hc
        replace hc := Lib.hid hc
        have hs := not_str he
        clear he
        go_wp2
        go_round
        case rel => exact ⟨k + 1, by omega, by go_num, hc⟩
        case measure => simp [intOf]; omega
    · obtain ⟨r1, r2⟩ := pa_none (hD.out.trans (by rw [List.drop_of_length_le (by rw [hn.out]; omega)]; rfl))
      replace r1 := Lib.hid r1
      replace r2 := Lib.hid r2
      clear hD hp hp2
      go_wp2
      go_ret2
      exact ⟨ret_par r1.out.symm r2.out.symm, bA⟩

/-- the cells that Fits reads, and what stands below. -/
theorem keep6 {f : FuncId} {args : Array Value} {v : Value} {W w0 : World} {a0 a1 a2 a3 a4 a5 : Addr} {x0 x1 x2 x3 x4 x5 : Value} (hC : ∀ W, Below w0.heap.size w0 W → Calls Tryz.prog f args W fun e w' => e = .returned v ∧ Below W.heap.size W w')
    (h : W.cell? a0 = some x0 ∧ W.cell? a1 = some x1 ∧ W.cell? a2 = some x2 ∧ W.cell? a3 = some x3 ∧ W.cell? a4 = some x4 ∧ W.cell? a5 = some x5 ∧ Below w0.heap.size w0 W) :
    Calls Tryz.prog f args W fun e w' => e = .returned v ∧ (w'.cell? a0 = some x0 ∧ w'.cell? a1 = some x1 ∧ w'.cell? a2 = some x2 ∧ w'.cell? a3 = some x3 ∧ w'.cell? a4 = some x4 ∧ w'.cell? a5 = some x5 ∧ Below w0.heap.size w0 w') := by
  obtain ⟨h0, h1, h2, h3, h4, h5, e⟩ := h
  refine (hC W e).mono fun _ _ ⟨he, hb⟩ => ⟨he, ?_⟩
  have on := fun {a : Addr} {x : Value} (hx : W.cell? a = some x) => (hb.cell (World.block_lt_of_cell? W _ hx)).trans hx
  exact ⟨on h0, on h1, on h2, on h3, on h4, on h5, e.trans (hb.mono e.size)⟩

theorem fits_ty {r m : Md.Med} (h : ¬ r.ty = Md.star ∧ ¬ r.ty = m.ty) : Md.fits r m = false := by
  unfold Md.fits; rw [decide_eq_false h.1, decide_eq_false h.2]; rfl
theorem fits_sub {r m : Md.Med} (h : ¬ r.sub = Md.star ∧ ¬ r.sub = m.sub) : Md.fits r m = false := by
  unfold Md.fits; rw [decide_eq_false h.1, decide_eq_false h.2]; simp
theorem fits_rest {r m : Md.Med} (h : r.ty = Md.star ∨ r.ty = m.ty) (h2 : r.sub = Md.star ∨ r.sub = m.sub) : Md.fits r m = r.params.all (Md.fitsP m.params) := by
  unfold Md.fits
  rw [show (decide (r.ty = Md.star) || decide (r.ty = m.ty)) = true by rcases h with h | h <;> simp [h], show (decide (r.sub = Md.star) || decide (r.sub = m.sub)) = true by rcases h2 with h | h <;> simp [h]]
  simp
theorem all_bad {α : Type} (p : α → Bool) (l : List α) (k : Nat) (h : k < l.length) (hn : p l[k] = false) : l.all p = false := by
  rw [← Bool.not_eq_true, List.all_eq_true]
  intro x
  have := x l[k] (List.getElem_mem h)
  rw [hn] at this; cases this
theorem all_more {α : Type} (p : α → Bool) (l : List α) (k : Nat) (h : k < l.length) (ha : (l.take k).all p = true) (hn : p l[k] = true) : (l.take (k + 1)).all p = true := by
  rw [List.take_succ_eq_append_getElem h, List.all_append, ha, List.all_cons, hn]; rfl
theorem param_mem {ps : List Pair} {n v : ByteArray} (h : Md.param ps n = some v) : ∃ p, p ∈ ps ∧ p.value = v := by
  unfold Md.param at h
  cases hf : ps.find? (fun p => decide (p.name = n)) with
  | none => rw [hf] at h; cases h
  | some p => rw [hf] at h; exact ⟨p, List.mem_of_find?_eq_some hf, Option.some.inj h⟩
theorem loA_iff {a b : ByteArray} : loA a = loA b ↔ Md.lower a.data.toList = Md.lower b.data.toList := by
  constructor
  · intro h; rw [← loA_list, ← loA_list, h]
  · intro h; apply bytes_eq; rw [loA_list, loA_list, h]
theorem star_data {a : ByteArray} : a = Md.star ↔ a.data.toList = [42] := by
  constructor
  · rintro rfl; rfl
  · intro h; exact bytes_eq h

set_option maxRecDepth 100000 in
set_option maxHeartbeats 12800000 in
theorem refFits_any {ao bo : Option Addr} {ca cb n n2 : Nat} (rt rs mt ms : ByteArray) (ps qs : List Pair) (w : World) (hp : PairsIn w ao ps) (hn : ps.length = n) (hl : n ≤ maxLen) (hp2 : PairsIn w bo qs) (hn2 : qs.length = n2) (hl2 : n2 ≤ maxLen)
    (hz : ∀ p ∈ ps, p.value.size ≤ 70368744177664) (hz2 : ∀ p ∈ qs, p.value.size ≤ 70368744177664) :
    Calls Tryz.prog 38 #[.agg #[.string rt, .string rs, .slice ao n ca], .agg #[.string mt, .string ms, .slice bo n2 cb]] w fun e w' => e = .returned (.bool (Md.fits ⟨rt, rs, ps⟩ ⟨mt, ms, qs⟩)) ∧ Below w.heap.size w w' := by
  have hl' := hl
  unfold maxLen at hl'
  replace hn := Lib.hid hn
  replace hn2 := Lib.hid hn2
  replace hl2 := Lib.hid hl2
  replace hz := Lib.hid hz
  replace hz2 := Lib.hid hz2
  have b1 := (Below.refl w.heap.size w).alloc (Nat.le_refl _) (.cells #[.string rt, .string rs, .slice ao n ca] 40)
  have bA := b1.alloc (by simp) (.cells #[.string mt, .string ms, .slice bo n2 cb] 40)
  have p0 := Box3.new w (.string rt) (.string rs) (.slice ao n ca)
  have q1 := Box3.new (w.alloc (.cells #[.string rt, .string rs, .slice ao n ca] 40)) (.string mt) (.string ms) (.slice bo n2 cb)
  have p1 := p0.on ((Below.refl _ _).alloc (Nat.le_refl _) (.cells #[.string mt, .string ms, .slice bo n2 cb] 40))
  have hsz : (w.alloc (.cells #[.string rt, .string rs, .slice ao n ca] 40)).heap.size = w.heap.size + 1 := by simp
  rw [hsz] at q1
  have hpA := hp.below bA
  have hpB := hp2.below bA
  have c0 := p1.c0
  have c1 := p1.c1
  have c2 := p1.c2
  have d0 := q1.c0
  have d1 := q1.c1
  have d2 := q1.c2
  have fty := Lib.hid (@fits_ty ⟨rt, rs, ps⟩ ⟨mt, ms, qs⟩)
  have fsub := Lib.hid (@fits_sub ⟨rt, rs, ps⟩ ⟨mt, ms, qs⟩)
  have frest := Lib.hid (@fits_rest ⟨rt, rs, ps⟩ ⟨mt, ms, qs⟩)
  generalize Md.fits ⟨rt, rs, ps⟩ ⟨mt, ms, qs⟩ = R at *
  clear hsz p0 b1 hp hp2 hl p1 q1
  go_enter Tryz.func38, Tryz.ntmps38
  obtain ⟨wA, hA⟩ : ∃ wA, ((w.alloc (.cells #[.string rt, .string rs, .slice ao n ca] 40)).alloc (.cells #[.string mt, .string ms, .slice bo n2 cb] 40)) = wA := ⟨_, rfl⟩
  rw [hA] at bA hpA hpB c0 c1 c2 d0 d1 d2
  have hcase : (¬ rt = Md.star ∧ ¬ rt = mt) ∨ ((rt = Md.star ∨ (¬ rt = Md.star ∧ rt = mt)) ∧ (¬ rs = Md.star ∧ ¬ rs = ms)) ∨ ((rt = Md.star ∨ (¬ rt = Md.star ∧ rt = mt)) ∧ (rs = Md.star ∨ (¬ rs = Md.star ∧ rs = ms))) := by
    have two : ∀ {x y : ByteArray}, x = Md.star ∨ x = y → x = Md.star ∨ (¬ x = Md.star ∧ x = y) := fun {x y} h => by
      by_cases h0 : x = Md.star
      · exact .inl h0
      · exact .inr ⟨h0, h.resolve_left h0⟩
    by_cases h1 : rt = Md.star ∨ rt = mt
    · by_cases h2 : rs = Md.star ∨ rs = ms
      · exact .inr (.inr ⟨two h1, two h2⟩)
      · exact .inr (.inl ⟨two h1, fun e => h2 (.inl e), fun e => h2 (.inr e)⟩)
    · exact .inl ⟨fun e => h1 (.inl e), fun e => h1 (.inr e)⟩
  have yes42 : ∀ {a : ByteArray}, a = Md.star → (a.toList == [42]) = true := fun h => str_is (star_data.1 h)
  have no42 : ∀ {a : ByteArray}, ¬ a = Md.star → (a.toList == [42]) = false := fun h => str_ne (fun e => h (star_data.2 e))
  rcases hcase with ⟨h1, h2⟩ | ⟨h, h3, h4⟩ | ⟨h, h3⟩
  · have hr := Lib.hid (fty.out ⟨h1, h2⟩)
    have g1 := no42 h1
    have g2 := not_str h2
    clear h1 h2 yes42 no42
    go_wp2
    go_ret
    exact ⟨ret_bool hr.out.symm, bA⟩
  · have hr := Lib.hid (fsub.out ⟨h3, h4⟩)
    have g3 := no42 h3
    have g4 := not_str h4
    rcases h with h | ⟨h, h'⟩
    · have g1 := yes42 h
      clear h h3 h4 yes42 no42
      go_wp2
      go_ret
      exact ⟨ret_bool hr.out.symm, bA⟩
    · have g1 := no42 h
      have g2 := same_str h'
      clear h h' h3 h4 yes42 no42
      go_wp2
      go_ret
      exact ⟨ret_bool hr.out.symm, bA⟩
  · have hr := Lib.hid (frest.out (by rcases h with h | h; exact .inl h; exact .inr h.2) (by rcases h3 with h | h; exact .inl h; exact .inr h.2))
    have g : ((rt.toList == [42]) = true ∨ ((rt.toList == [42]) = false ∧ (rt.toList == mt.toList) = true)) ∧ ((rs.toList == [42]) = true ∨ ((rs.toList == [42]) = false ∧ (rs.toList == ms.toList) = true)) := by
      refine ⟨?_, ?_⟩
      · rcases h with h | ⟨h, h'⟩
        · exact .inl (yes42 h)
        · exact .inr ⟨no42 h, same_str h'⟩
      · rcases h3 with h | ⟨h, h'⟩
        · exact .inl (yes42 h)
        · exact .inr ⟨no42 h, same_str h'⟩
    clear h h3 yes42 no42 fty fsub frest
    obtain ⟨g1 | ⟨g1, g2⟩, g3 | ⟨g3, g4⟩⟩ := g
    all_goals
      go_wp2_with fail
      go_loopw [5, 6, 7] (fun i _ _ wr => ∃ k : Nat, k ≤ n ∧ i = .int .i64 (k : Int) ∧ Hid ((ps.take k).all (Md.fitsP qs) = true) ∧ Below wA.heap.size wA wr) (fun i _ _ _ => n - (intOf i).toNat)
      case atStart => exact ⟨0, Nat.zero_le _, rfl, Lib.hid (by simp), Below.refl _ _⟩
      case round =>
        obtain ⟨k, hk, rfl, hall, bw⟩ := hrel
        have on := fun {a : Addr} {x : Value} (hx : wA.cell? a = some x) => (bw.cell (World.block_lt_of_cell? wA _ hx)).trans hx
        have e2 := on c2
        have f0 := on d0
        have f1 := on d1
        have f2 := on d2
        clear on c0 c1 c2 d0 d1 d2 hA
        by_cases hlt : k < n
        · have hkl : k < ps.length := by rw [hn.out]; exact hlt
          obtain ⟨b, off, rfl, v0, v1⟩ := (hpA.below bw) k hkl
          have hbad := Lib.hid (fun h => hr.out.trans (all_bad (Md.fitsP qs) ps k hkl h))
          have hgood := Lib.hid (fun h => all_more (Md.fitsP qs) ps k hkl hall.out h)
          have hza := hz.out ps[k] (List.getElem_mem hkl)
          generalize ps[k] = a at *
          obtain ⟨an, av⟩ := a
          dsimp only at *
          have g5 : (k : Int) < (n : Int) := by omega
          by_cases hq : an.data.toList = [113]
          · have hok := Lib.hid (hgood.out (by unfold Md.fitsP; rw [decide_eq_true (bytes_eq hq)]; rfl))
            have s1 := str_is hq
            clear hq hgood hbad hz hz2
            go_wp2_with fail
            go_roundw
            case rel => exact ⟨k + 1, by omega, by go_num, hok, bw⟩
            case measure => simp [intOf]; omega
          · have s1 := str_ne hq
            have hfp : Md.fitsP qs ⟨an, av⟩ = (match Md.param qs an with | none => false | some v => decide (Md.lower v.data.toList = Md.lower av.data.toList)) := by
              have hd : decide (an = (⟨#[113]⟩ : ByteArray)) = false := decide_eq_false (fun e => hq (by rw [e]))
              show (decide (an = (⟨#[113]⟩ : ByteArray)) || _) = _
              rw [hd, Bool.false_or]
              rfl
            replace hfp := Lib.hid hfp
            clear hq
            go_wp2_with fail
            go_region_held3 (fun w' => w'.cell? ⟨w.heap.size, 2, none⟩ = some (.slice (some ⟨b, off, none⟩) n ca) ∧ w'.cell? ⟨b, off + k * 2, none⟩ = some (.string an) ∧ w'.cell? ⟨b, off + k * 2 + 1, none⟩ = some (.string av) ∧ w'.cell? ⟨w.heap.size + 1, 0, none⟩ = some (.string mt) ∧ w'.cell? ⟨w.heap.size + 1, 1, none⟩ = some (.string ms) ∧ w'.cell? ⟨w.heap.size + 1, 2, none⟩ = some (.slice bo n2 cb) ∧ Below wA.heap.size wA w') (first | exact ⟨e2, v0, v1, f0, f1, f2, bw.drew⟩ | assumption)
              (first
                | (go_at_call 36; refine (keep6 (w0 := wA) (a0 := ⟨w.heap.size, 2, none⟩) (a1 := ⟨b, off + k * 2, none⟩) (a2 := ⟨b, off + k * 2 + 1, none⟩) (a3 := ⟨w.heap.size + 1, 0, none⟩) (a4 := ⟨w.heap.size + 1, 1, none⟩) (a5 := ⟨w.heap.size + 1, 2, none⟩) (x0 := .slice (some ⟨b, off, none⟩) n ca) (x1 := .string an) (x2 := .string av) (x3 := .string mt) (x4 := .string ms) (x5 := .slice bo n2 cb) (fun W hb => refParam_any (.string mt) (.string ms) qs an W (hpB.below hb) hn2.out hl2.out) ?_).mono ?_; assumption; rintro e w' ⟨rfl, hcb⟩))
            clear e2 v0 v1 f0 f1 f2
            obtain ⟨e2, v0, v1, f0, f1, f2, bw2⟩ := hcb
            cases hpar : Md.param qs an with
            | none =>
              obtain ⟨y1, y2⟩ := pa_none hpar
              have hno := Lib.hid (hbad.out (by rw [hfp.out, hpar]))
              rw [y1, y2]
              clear y1 y2 hpar hfp hbad hgood hz hz2
              go_wp2_with fail
              go_quiet (fail)
              go_wp2_with fail
              go_ret
              exact ⟨ret_bool hno.out.symm, below_drewN (bA.trans (bw2.mono bA.size)) _⟩
            | some v =>
              obtain ⟨y1, y2⟩ := pa_some hpar
              have hvz := hz2.out _ (param_mem hpar).choose_spec.1
              rw [(param_mem hpar).choose_spec.2] at hvz
              rw [hpar] at hfp
              rw [y1, y2]
              clear y1 y2 hpar hz hz2
              have hlo : (loA v = loA av ∧ Hid (Md.fitsP qs ⟨an, av⟩ = true)) ∨ (¬ loA v = loA av ∧ Hid (Md.fitsP qs ⟨an, av⟩ = false)) := by
                by_cases hl : loA v = loA av
                · exact .inl ⟨hl, Lib.hid (by rw [hfp.out]; exact decide_eq_true (loA_iff.1 hl))⟩
                · exact .inr ⟨hl, Lib.hid (by rw [hfp.out]; exact decide_eq_false (fun e => hl (loA_iff.2 e)))⟩
              rcases hlo with ⟨hl, hf⟩ | ⟨hl, hf⟩
              · have hok := Lib.hid (hgood.out hf.out)
                have hs := same_str hl
                have hs2 : ((loA v).toList != (loA av).toList) = false := by rw [bne, hs]; rfl
                clear hl hf hgood hbad
                go_wp2_with fail
                go_region_held3 (fun w' => w'.cell? ⟨w.heap.size, 2, none⟩ = some (.slice (some ⟨b, off, none⟩) n ca) ∧ w'.cell? ⟨b, off + k * 2, none⟩ = some (.string an) ∧ w'.cell? ⟨b, off + k * 2 + 1, none⟩ = some (.string av) ∧ w'.cell? ⟨w.heap.size + 1, 0, none⟩ = some (.string mt) ∧ w'.cell? ⟨w.heap.size + 1, 1, none⟩ = some (.string ms) ∧ w'.cell? ⟨w.heap.size + 1, 2, none⟩ = some (.slice bo n2 cb) ∧ Below wA.heap.size wA w') (first | exact ⟨e2, v0, v1, f0, f1, f2, bw2.drew⟩ | assumption)
                  (first
                    | (go_at_call_of 53 (Value.string v); refine (keep6 (w0 := wA) (a0 := ⟨w.heap.size, 2, none⟩) (a1 := ⟨b, off + k * 2, none⟩) (a2 := ⟨b, off + k * 2 + 1, none⟩) (a3 := ⟨w.heap.size + 1, 0, none⟩) (a4 := ⟨w.heap.size + 1, 1, none⟩) (a5 := ⟨w.heap.size + 1, 2, none⟩) (x0 := .slice (some ⟨b, off, none⟩) n ca) (x1 := .string an) (x2 := .string av) (x3 := .string mt) (x4 := .string ms) (x5 := .slice bo n2 cb) (fun W hb => refLower_any v W hvz) ?_).mono ?_; assumption; rintro e w' ⟨rfl, hcb⟩)
                    | (go_at_call_of 53 (Value.string av); refine (keep6 (w0 := wA) (a0 := ⟨w.heap.size, 2, none⟩) (a1 := ⟨b, off + k * 2, none⟩) (a2 := ⟨b, off + k * 2 + 1, none⟩) (a3 := ⟨w.heap.size + 1, 0, none⟩) (a4 := ⟨w.heap.size + 1, 1, none⟩) (a5 := ⟨w.heap.size + 1, 2, none⟩) (x0 := .slice (some ⟨b, off, none⟩) n ca) (x1 := .string an) (x2 := .string av) (x3 := .string mt) (x4 := .string ms) (x5 := .slice bo n2 cb) (fun W hb => refLower_any av W hza) ?_).mono ?_; assumption; rintro e w' ⟨rfl, hcb⟩))
                all_goals
                  obtain ⟨-, -, -, -, -, -, bw3⟩ := hcb
                  clear e2 v0 v1 f0 f1 f2
                  go_wp2_with fail
                  go_roundw
                  case rel => exact ⟨k + 1, by omega, by go_num, hok, bw3⟩
                  case measure => simp [intOf]; omega
              · have hno := Lib.hid (hbad.out hf.out)
                have hs := not_str hl
                have hs2 : ((loA v).toList != (loA av).toList) = true := by rw [bne, hs]; rfl
                clear hl hf hgood hbad
                go_wp2_with fail
                go_region_held3 (fun w' => w'.cell? ⟨w.heap.size, 2, none⟩ = some (.slice (some ⟨b, off, none⟩) n ca) ∧ w'.cell? ⟨b, off + k * 2, none⟩ = some (.string an) ∧ w'.cell? ⟨b, off + k * 2 + 1, none⟩ = some (.string av) ∧ w'.cell? ⟨w.heap.size + 1, 0, none⟩ = some (.string mt) ∧ w'.cell? ⟨w.heap.size + 1, 1, none⟩ = some (.string ms) ∧ w'.cell? ⟨w.heap.size + 1, 2, none⟩ = some (.slice bo n2 cb) ∧ Below wA.heap.size wA w') (first | exact ⟨e2, v0, v1, f0, f1, f2, bw2.drew⟩ | assumption)
                  (first
                    | (go_at_call_of 53 (Value.string v); refine (keep6 (w0 := wA) (a0 := ⟨w.heap.size, 2, none⟩) (a1 := ⟨b, off + k * 2, none⟩) (a2 := ⟨b, off + k * 2 + 1, none⟩) (a3 := ⟨w.heap.size + 1, 0, none⟩) (a4 := ⟨w.heap.size + 1, 1, none⟩) (a5 := ⟨w.heap.size + 1, 2, none⟩) (x0 := .slice (some ⟨b, off, none⟩) n ca) (x1 := .string an) (x2 := .string av) (x3 := .string mt) (x4 := .string ms) (x5 := .slice bo n2 cb) (fun W hb => refLower_any v W hvz) ?_).mono ?_; assumption; rintro e w' ⟨rfl, hcb⟩)
                    | (go_at_call_of 53 (Value.string av); refine (keep6 (w0 := wA) (a0 := ⟨w.heap.size, 2, none⟩) (a1 := ⟨b, off + k * 2, none⟩) (a2 := ⟨b, off + k * 2 + 1, none⟩) (a3 := ⟨w.heap.size + 1, 0, none⟩) (a4 := ⟨w.heap.size + 1, 1, none⟩) (a5 := ⟨w.heap.size + 1, 2, none⟩) (x0 := .slice (some ⟨b, off, none⟩) n ca) (x1 := .string an) (x2 := .string av) (x3 := .string mt) (x4 := .string ms) (x5 := .slice bo n2 cb) (fun W hb => refLower_any av W hza) ?_).mono ?_; assumption; rintro e w' ⟨rfl, hcb⟩))
                all_goals
                  obtain ⟨-, -, -, -, -, -, bw3⟩ := hcb
                  clear e2 v0 v1 f0 f1 f2
                  go_wp2_with fail
                  go_ret
                  exact ⟨ret_bool hno.out.symm, bA.trans (bw3.mono bA.size)⟩
        · have hfull : ps.take k = ps := List.take_of_length_le (by rw [hn.out]; omega)
          have hall2 := hall.out
          rw [hfull] at hall2
          have hno := Lib.hid (hr.out.trans hall2)
          clear hfull hall2
          go_wp2_with fail
          go_ret
          exact ⟨ret_bool hno.out.symm, bA.trans (bw.mono bA.size)⟩
end Go.Proofs.YtpgdmoaegnehbaaGreatDoor
