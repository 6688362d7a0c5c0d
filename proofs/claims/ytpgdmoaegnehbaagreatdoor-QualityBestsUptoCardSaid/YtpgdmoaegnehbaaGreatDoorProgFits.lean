/-
  The program's own Param and Fits.
-/
import Derived.Test.YtpgdmoaegnehbaaGreatDoorProgSmall
import Derived.Test.YtpgdmoaegnehbaaGreatDoorMediaEnv
namespace Go.Proofs.YtpgdmoaegnehbaaGreatDoor
open Go.RowKit

set_option maxHeartbeats 1600000 in
set_option maxRecDepth 100000 in
theorem mParam_at {ao : Option Addr} {cap n : Nat} (x y : ByteArray) (ps : List Pair) (nm : ByteArray) (w : World) (hp : PairsIn w ao ps) (hn : ps.length = n) (hl : n ≤ 1000000) :
    Calls Tryz.prog 50 #[.agg #[.string x, .string y, .slice ao n cap], .string nm] w fun e w' => e = .returned (.tuple #[.string (paA ps nm), .bool (paB ps nm)]) ∧ Below w.heap.size w w' := by
  replace hn := Lib.hid hn
  have bA := Lib.hid ((Below.refl w.heap.size w).alloc (Nat.le_refl _) (.cells #[.string x, .string y, .slice ao n cap] 40))
  have c2 := (Box3.new w (.string x) (.string y) (.slice ao n cap)).c2
  have hp2 := Lib.hid (hp.below bA.out)
  clear hp
  have hsome := Lib.hid (fun v e => @pa_some ps nm v e)
  have hnone := Lib.hid (fun e => @pa_none ps nm e)
  generalize paA ps nm = A at *
  generalize paB ps nm = B at *
  go_enter Tryz.func50, Tryz.ntmps50
  go_upto_region 1 with fail
  generalize w.alloc (.cells #[.string x, .string y, .slice ao n cap] 40) = wA at *
  go_wp2_with fail
  clear c2
  go_loopw [7, 11] (fun _ i wr => ∃ k : Nat, k ≤ n ∧ i = .int .i64 (k : Int) ∧ Hid (Md.param ps nm = Md.param (ps.drop k) nm) ∧ Hid (Below wA.heap.size wA wr)) (fun _ i _ => n - (intOf i).toNat)
  case atStart => exact ⟨0, Nat.zero_le _, rfl, Lib.hid rfl, Lib.hid (Below.refl _ _)⟩
  case round =>
    obtain ⟨k, hk, rfl, hD, bw⟩ := hrel
    by_cases hlt : k < n
    · have hkl : k < ps.length := by rw [hn.out]; exact hlt
      obtain ⟨b, off, rfl, d0, d1⟩ := (hp2.out.below bw.out) k hkl
      have hc := hD.out.trans (by rw [List.drop_eq_getElem_cons hkl, param_cons])
      generalize ps[k] = a at *
      obtain ⟨an, av⟩ := a
      dsimp only at *
      have bP := Lib.hid (bw.out.alloc (by have := bw.out.size; omega) (.cells #[.string an, .string av] 50))
      have Q := Cells.new wr 50 #[.string an, .string av]
      have q0 := Q.cell (i := 0) rfl
      have q1 := Q.cell (i := 1) rfl
      clear Q hD bw
      by_cases he : an = nm
      · rw [if_pos he] at hc
        obtain ⟨r1, r2⟩ := hsome.out _ hc
        subst r1; subst r2
        have hs := same_str he
        clear hc he hsome hnone
        have bF := Lib.hid (bA.out.trans (bP.out.mono bA.out.size))
        go_wp2_with fail
        go_ret2
        exact ⟨rfl, bF.out⟩
      · rw [if_neg he] at hc
        replace hc := Lib.hid hc
        have hs := not_str he
        clear he
        go_wp2_with fail
        go_roundw
        case rel => exact ⟨k + 1, by omega, by go_num, hc, bP⟩
        case measure => simp [intOf]; omega
    · obtain ⟨r1, r2⟩ := hnone.out (hD.out.trans (by rw [List.drop_of_length_le (by rw [hn.out]; omega)]; rfl))
      subst r1; subst r2
      clear hD hsome hnone
      have bF := Lib.hid (bA.out.trans (bw.out.mono bA.out.size))
      go_wp2_with fail
      go_ret2
      exact ⟨rfl, bF.out⟩
theorem mParam_any {ao : Option Addr} {cap n : Nat} (x y : ByteArray) (ps : List Pair) (nm : ByteArray) (w : World) (hp : PairsIn w ao ps) (hn : ps.length = n) (hl : n ≤ 100000) (_ : Env w) :
    Calls Tryz.prog 50 #[.agg #[.string x, .string y, .slice ao n cap], .string nm] w fun e w' => e = .returned (.tuple #[.string (paA ps nm), .bool (paB ps nm)]) ∧ Below w.heap.size w w' :=
  mParam_at x y ps nm w hp hn (by omega)

theorem keep1 {f : FuncId} {args : Array Value} {v : Value} {W w0 : World} {a0 : Addr} {x0 : Value} (hC : ∀ W, Calls Tryz.prog f args W fun e w' => e = .returned v ∧ Below W.heap.size W w')
    (h : W.cell? a0 = some x0 ∧ Below w0.heap.size w0 W) :
    Calls Tryz.prog f args W fun e w' => e = .returned v ∧ (w'.cell? a0 = some x0 ∧ Below w0.heap.size w0 w') := by
  obtain ⟨h0, e⟩ := h
  refine (hC W).mono fun _ _ ⟨he, hb⟩ => ⟨he, ?_⟩
  exact ⟨(hb.cell (World.block_lt_of_cell? W _ h0)).trans h0, e.trans (hb.mono e.size)⟩

set_option maxRecDepth 100000 in
set_option maxHeartbeats 6400000 in
theorem hasEach_any {ao bo : Option Addr} {ca cb n n2 : Nat} (mt ms : ByteArray) (ps qs : List Pair) (w : World) (hp : PairsIn w ao ps) (hn : ps.length = n) (hl : n ≤ 1000000) (hp2 : PairsIn w bo qs) (hn2 : qs.length = n2) (hl2 : n2 ≤ 1000000)
    (hz : ∀ p ∈ ps, p.value.size ≤ 1000000) (hz2 : ∀ p ∈ qs, p.value.size ≤ 1000000) :
    Calls Tryz.prog 51 #[.agg #[.string mt, .string ms, .slice bo n2 cb], .slice ao n ca] w fun e w' => e = .returned (.bool (ps.all (Md.fitsP qs))) ∧ Below w.heap.size w w' := by
  replace hn := Lib.hid hn
  replace hn2 := Lib.hid hn2
  replace hl2 := Lib.hid hl2
  replace hz := Lib.hid hz
  replace hz2 := Lib.hid hz2
  have bA := Lib.hid ((Below.refl w.heap.size w).alloc (Nat.le_refl _) (.cells #[.string mt, .string ms, .slice bo n2 cb] 40))
  have K := Box3.new w (.string mt) (.string ms) (.slice bo n2 cb)
  replace hp := Lib.hid (hp.below bA.out)
  replace hp2 := Lib.hid (hp2.below bA.out)
  obtain ⟨R, hR⟩ : ∃ R, R = ps.all (Md.fitsP qs) := ⟨_, rfl⟩
  rw [← hR]
  replace hR := Lib.hid hR
  replace K := Lib.hid K
  go_enter Tryz.func51, Tryz.ntmps51
  go_upto_region 1 with fail
  generalize w.alloc (.cells #[.string mt, .string ms, .slice bo n2 cb] 40) = wA at *
  go_wp2_with fail
  go_loopw [6, 7, 8, 11] (fun _ _ _ i wr => ∃ k : Nat, k ≤ n ∧ i = .int .i64 (k : Int) ∧ Hid ((ps.take k).all (Md.fitsP qs) = true) ∧ Hid (Below wA.heap.size wA wr)) (fun _ _ _ i _ => n - (intOf i).toNat)
  case atStart => exact ⟨0, Nat.zero_le _, rfl, Lib.hid (by simp), Lib.hid (Below.refl _ _)⟩
  case round =>
    obtain ⟨k, hk, rfl, hall, bw⟩ := hrel
    by_cases hlt : k < n
    · have hkl : k < ps.length := by rw [hn.out]; exact hlt
      obtain ⟨b, off, rfl, d0, d1⟩ := (hp.out.below bw.out) k hkl
      have hbad := Lib.hid (fun h => hR.out.trans (all_bad (Md.fitsP qs) ps k hkl h))
      have hgood := Lib.hid (fun h => all_more (Md.fitsP qs) ps k hkl hall.out h)
      have hza := hz.out ps[k] (List.getElem_mem hkl)
      generalize ps[k] = a at *
      obtain ⟨an, av⟩ := a
      dsimp only at *
      have bP := Lib.hid (bw.out.alloc (by have := bw.out.size; omega) (.cells #[.string an, .string av] 50))
      have Q := Lib.hid (Cells.new wr 50 #[.string an, .string av])
      clear bw hall
      go_upto_region 4 with fail
      clear d0 d1
      generalize hW : wr.alloc (.cells #[.string an, .string av] 50) = w1 at *
      clear hW
      have q0 := Q.out.cell (i := 0) rfl
      have q1 := Q.out.cell (i := 1) rfl
      by_cases hq : an.data.toList = [113]
      · have hok := Lib.hid (hgood.out (by unfold Md.fitsP; rw [decide_eq_true (bytes_eq hq)]; rfl))
        have s1 := str_is hq
        clear hq hgood hbad
        go_wp2_with fail
        go_roundw
        case rel => exact ⟨k + 1, by omega, by go_num, hok, bP⟩
        case measure => simp [intOf]; omega
      · have s1 := str_ne hq
        have hfp : Md.fitsP qs ⟨an, av⟩ = (match Md.param qs an with | none => false | some v => decide (Md.lower v.data.toList = Md.lower av.data.toList)) := by
          have hd : decide (an = (⟨#[113]⟩ : ByteArray)) = false := decide_eq_false (fun e => hq (by rw [e]))
          show (decide (an = (⟨#[113]⟩ : ByteArray)) || _) = _
          rw [hd, Bool.false_or]
          rfl
        replace hfp := Lib.hid hfp
        clear hq
        have K1 := K.out.on bP.out
        have m0 := K1.c0
        have m1 := K1.c1
        have m2 := K1.c2
        have cpar := Lib.hid (mParam_at (cap := cb) mt ms qs an w1 (hp2.out.below bP.out) hn2.out hl2.out)
        clear K1
        go_wp2_with fail
        (with_reducible refine (cpar.out).mono ?_); rintro e w2 ⟨rfl, b2⟩
        have Q2 := Lib.hid (Q.out.on b2)
        have bw2 := Lib.hid (bP.out.trans (b2.mono bP.out.size))
        clear Q q0 q1 m0 m1 m2 b2 bP cpar
        have q1 := Q2.out.cell (i := 1) rfl
        cases hpar : Md.param qs an with
        | none =>
          obtain ⟨y1, y2⟩ := pa_none hpar
          have hno := hbad.out (by rw [hfp.out, hpar])
          subst hno
          rw [y1, y2]
          have bF := Lib.hid (bA.out.trans (bw2.out.mono bA.out.size))
          clear y1 y2 hpar hfp hbad hgood hz hz2
          go_wp2_with fail
          go_quiet (fail)
          go_wp2_with fail
          go_ret
          exact ⟨rfl, Cells.below_drewN bF.out _⟩
        | some v =>
          obtain ⟨y1, y2⟩ := pa_some hpar
          have hvz := hz2.out _ (param_mem hpar).choose_spec.1
          rw [(param_mem hpar).choose_spec.2] at hvz
          rw [hpar] at hfp
          rw [y1, y2]
          clear y1 y2 hpar
          have sm1 := Lib.hid (fun W => mSmall_any v W (by omega))
          have sm2 := Lib.hid (fun W => mSmall_any av W (by omega))
          have hlo : (loA v = loA av ∧ Hid (Md.fitsP qs ⟨an, av⟩ = true)) ∨ (¬ loA v = loA av ∧ Hid (Md.fitsP qs ⟨an, av⟩ = false)) := by
            by_cases hl : loA v = loA av
            · exact .inl ⟨hl, Lib.hid (by rw [hfp.out]; exact decide_eq_true (loA_iff.1 hl))⟩
            · exact .inr ⟨hl, Lib.hid (by rw [hfp.out]; exact decide_eq_false (fun e => hl (loA_iff.2 e)))⟩
          rcases hlo with ⟨hl, hf⟩ | ⟨hl, hf⟩
          · have hok := Lib.hid (hgood.out hf.out)
            have hs := same_str hl
            have hs2 : ((loA v).toList != (loA av).toList) = false := by rw [bne, hs]; rfl
            clear hl hf hgood hbad
            go_wp2_with fail
            go_region_held3 (fun w' => w'.cell? ⟨wr.heap.size, 1, none⟩ = some (.string av) ∧ Below wA.heap.size wA w') (first | exact ⟨q1, bw2.out.drew⟩ | assumption)
              (first
                | (go_at_call_of 68 (Value.string v); refine (keep1 (w0 := wA) (a0 := ⟨wr.heap.size, 1, none⟩) (x0 := .string av) sm1.out ?_).mono ?_; assumption; rintro e w' ⟨rfl, hcb⟩)
                | (go_at_call_of 68 (Value.string av); refine (keep1 (w0 := wA) (a0 := ⟨wr.heap.size, 1, none⟩) (x0 := .string av) sm2.out ?_).mono ?_; assumption; rintro e w' ⟨rfl, hcb⟩))
            all_goals
              obtain ⟨-, bw3⟩ := hcb
              replace bw3 := Lib.hid bw3
              clear q1
              go_wp2_with fail
              go_roundw
              case rel => exact ⟨k + 1, by omega, by go_num, hok, bw3⟩
              case measure => simp [intOf]; omega
          · have hno := hbad.out hf.out
            subst hno
            have hs := not_str hl
            have hs2 : ((loA v).toList != (loA av).toList) = true := by rw [bne, hs]; rfl
            clear hl hf hgood hbad
            go_wp2_with fail
            go_region_held3 (fun w' => w'.cell? ⟨wr.heap.size, 1, none⟩ = some (.string av) ∧ Below wA.heap.size wA w') (first | exact ⟨q1, bw2.out.drew⟩ | assumption)
              (first
                | (go_at_call_of 68 (Value.string v); refine (keep1 (w0 := wA) (a0 := ⟨wr.heap.size, 1, none⟩) (x0 := .string av) sm1.out ?_).mono ?_; assumption; rintro e w' ⟨rfl, hcb⟩)
                | (go_at_call_of 68 (Value.string av); refine (keep1 (w0 := wA) (a0 := ⟨wr.heap.size, 1, none⟩) (x0 := .string av) sm2.out ?_).mono ?_; assumption; rintro e w' ⟨rfl, hcb⟩))
            all_goals
              obtain ⟨-, bw3⟩ := hcb
              have bF := Lib.hid (bA.out.trans (bw3.mono bA.out.size))
              clear q1
              go_wp2_with fail
              go_ret
              exact ⟨rfl, bF.out⟩
    · have hfull : ps.take k = ps := List.take_of_length_le (by rw [hn.out]; omega)
      have hall2 := hall.out
      rw [hfull] at hall2
      have hno := hR.out.trans hall2
      subst hno
      have bF := Lib.hid (bA.out.trans (bw.out.mono bA.out.size))
      clear hfull hall2
      go_wp2_with fail
      go_ret
      exact ⟨rfl, bF.out⟩

set_option maxRecDepth 100000 in
set_option maxHeartbeats 6400000 in
theorem mFits_any {ao bo : Option Addr} {ca cb n n2 : Nat} (rt rs mt ms : ByteArray) (ps qs : List Pair) (w : World) (hp : PairsIn w ao ps) (hn : ps.length = n) (hl : n ≤ 100000) (hp2 : PairsIn w bo qs) (hn2 : qs.length = n2) (hl2 : n2 ≤ 100000)
    (hz : ∀ p ∈ ps, p.value.size ≤ 100000) (hz2 : ∀ p ∈ qs, p.value.size ≤ 100000) (_ : Env w) :
    Calls Tryz.prog 33 #[.agg #[.string rt, .string rs, .slice ao n ca], .agg #[.string mt, .string ms, .slice bo n2 cb]] w fun e w' => e = .returned (.bool (Md.fits ⟨rt, rs, ps⟩ ⟨mt, ms, qs⟩)) ∧ Below w.heap.size w w' := by
  have b1 := (Below.refl w.heap.size w).alloc (Nat.le_refl _) (.cells #[.string rt, .string rs, .slice ao n ca] 40)
  have bA := b1.alloc (by simp) (.cells #[.string mt, .string ms, .slice bo n2 cb] 40)
  have p0 := Box3.new w (.string rt) (.string rs) (.slice ao n ca)
  have q1 := Box3.new (w.alloc (.cells #[.string rt, .string rs, .slice ao n ca] 40)) (.string mt) (.string ms) (.slice bo n2 cb)
  have p1 := p0.on ((Below.refl _ _).alloc (Nat.le_refl _) (.cells #[.string mt, .string ms, .slice bo n2 cb] 40))
  have hsz : (w.alloc (.cells #[.string rt, .string rs, .slice ao n ca] 40)).heap.size = w.heap.size + 1 := by simp
  rw [hsz] at q1
  have hpA := hp.below bA
  have hpB := hp2.below bA
  have c0 := p1.c0
  have c1 := p1.c1
  have c2 := p1.c2
  have d0 := q1.c0
  have d1 := q1.c1
  have d2 := q1.c2
  have fty := Lib.hid (@fits_ty ⟨rt, rs, ps⟩ ⟨mt, ms, qs⟩)
  have fsub := Lib.hid (@fits_sub ⟨rt, rs, ps⟩ ⟨mt, ms, qs⟩)
  have frest := Lib.hid (@fits_rest ⟨rt, rs, ps⟩ ⟨mt, ms, qs⟩)
  generalize Md.fits ⟨rt, rs, ps⟩ ⟨mt, ms, qs⟩ = R at *
  clear hsz p0 b1 hp hp2 p1 q1
  replace bA := Lib.hid bA
  go_enter Tryz.func33, Tryz.ntmps33
  go_upto_region 1 with fail
  generalize (w.alloc (.cells #[.string rt, .string rs, .slice ao n ca] 40)).alloc (.cells #[.string mt, .string ms, .slice bo n2 cb] 40) = wA at *
  have ceach := hasEach_any (ca := ca) (cb := cb) mt ms ps qs wA hpA hn (by omega) hpB hn2 (by omega) (fun p h => by have := hz p h; omega) (fun p h => by have := hz2 p h; omega)
  replace ceach := Lib.hid ceach
  clear hpA hpB hn hn2 hz hz2 hl hl2
  have hcase : (¬ rt = Md.star ∧ ¬ rt = mt) ∨ ((rt = Md.star ∨ (¬ rt = Md.star ∧ rt = mt)) ∧ (¬ rs = Md.star ∧ ¬ rs = ms)) ∨ ((rt = Md.star ∨ (¬ rt = Md.star ∧ rt = mt)) ∧ (rs = Md.star ∨ (¬ rs = Md.star ∧ rs = ms))) := by
    have two : ∀ {x y : ByteArray}, x = Md.star ∨ x = y → x = Md.star ∨ (¬ x = Md.star ∧ x = y) := fun {x y} h => by
      by_cases h0 : x = Md.star
      · exact .inl h0
      · exact .inr ⟨h0, h.resolve_left h0⟩
    by_cases h1 : rt = Md.star ∨ rt = mt
    · by_cases h2 : rs = Md.star ∨ rs = ms
      · exact .inr (.inr ⟨two h1, two h2⟩)
      · exact .inr (.inl ⟨two h1, fun e => h2 (.inl e), fun e => h2 (.inr e)⟩)
    · exact .inl ⟨fun e => h1 (.inl e), fun e => h1 (.inr e)⟩
  have yes42 : ∀ {a : ByteArray}, a = Md.star → (a.toList == [42]) = true := fun h => str_is (star_data.1 h)
  have no42 : ∀ {a : ByteArray}, ¬ a = Md.star → (a.toList == [42]) = false := fun h => str_ne (fun e => h (star_data.2 e))
  rcases hcase with ⟨h1, h2⟩ | ⟨h, h3, h4⟩ | ⟨h, h3⟩
  · have hr := fty.out ⟨h1, h2⟩
    subst hr
    have g1 := no42 h1
    have g2 := not_str h2
    clear h1 h2 yes42 no42 fty fsub frest
    go_wp2_with fail
    go_ret
    exact ⟨rfl, bA.out⟩
  · have hr := fsub.out ⟨h3, h4⟩
    subst hr
    have g3 := no42 h3
    have g4 := not_str h4
    clear fty fsub frest
    rcases h with h | ⟨h, h'⟩
    · have g1 := yes42 h
      clear h h3 h4 yes42 no42
      go_wp2_with fail
      go_ret
      exact ⟨rfl, bA.out⟩
    · have g1 := no42 h
      have g2 := same_str h'
      clear h h' h3 h4 yes42 no42
      go_wp2_with fail
      go_ret
      exact ⟨rfl, bA.out⟩
  · have hr := frest.out (by rcases h with h | h; exact .inl h; exact .inr h.2) (by rcases h3 with h | h; exact .inl h; exact .inr h.2)
    replace hr := Lib.hid hr
    have g : ((rt.toList == [42]) = true ∨ ((rt.toList == [42]) = false ∧ (rt.toList == mt.toList) = true)) ∧ ((rs.toList == [42]) = true ∨ ((rs.toList == [42]) = false ∧ (rs.toList == ms.toList) = true)) := by
      refine ⟨?_, ?_⟩
      · rcases h with h | ⟨h, h'⟩
        · exact .inl (yes42 h)
        · exact .inr ⟨no42 h, same_str h'⟩
      · rcases h3 with h | ⟨h, h'⟩
        · exact .inl (yes42 h)
        · exact .inr ⟨no42 h, same_str h'⟩
    clear h h3 yes42 no42 fty fsub frest
    obtain ⟨g1 | ⟨g1, g2⟩, g3 | ⟨g3, g4⟩⟩ := g
    all_goals
      go_wp2_with fail
      (with_reducible refine (ceach.out).mono ?_); rintro e w2 ⟨rfl, b2⟩
      have bF := Lib.hid (bA.out.trans (b2.mono bA.out.size))
      go_wp2_with fail
      go_ret
      exact ⟨ret_bool hr.out.symm, bF.out⟩
end Go.Proofs.YtpgdmoaegnehbaaGreatDoor
