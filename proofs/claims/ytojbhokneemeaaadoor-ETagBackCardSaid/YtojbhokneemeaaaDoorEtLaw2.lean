/-
  The statements' walks: ETagMatches.
-/
import Derived.Test.YtojbhokneemeaaaDoorEtLaw
namespace Go.Proofs.YtojbhokneemeaaaDoor
open Go.RowKit

theorem tells_more (l : List Tag) (t : Tag) (x A : ByteArray) (h : x.data.toList = Et.tells l) (hA : A.data.toList = Et.tell t) : (x ++ A ++ ⟨#[44, 32]⟩ : ByteArray).data.toList = Et.tells (l ++ [t]) := by
  rw [Et.tells_snoc]
  simp only [ByteArray.data_append, Array.toList_append, h, hA]
theorem sel_more {l : List Tag} {t : Tag} (h : ∀ x ∈ l, Et.may x = true) (ht : Et.may t = true) : ∀ x ∈ l ++ [t], Et.may x = true := by
  intro x hx
  rw [List.mem_append, List.mem_singleton] at hx
  rcases hx with hx | rfl
  · exact h x hx
  · exact ht
theorem any_snoc {l : List Tag} {t : Tag} {p : Tag → Bool} {r q : Bool} (h : r = l.any p) (hq : q = (r || p t)) : q = (l ++ [t]).any p := by
  rw [hq, h, List.any_append, List.any_cons, List.any_nil, Bool.or_false]

set_option maxRecDepth 100000 in
set_option maxHeartbeats 12800000 in
theorem matches_any {ao : Option Addr} {cap n : Nat} (l : List Tag) (t : Tag) (there : Bool) (w : World) (hl : TagsIn w ao l) (hn : l.length = n) (hz : n ≤ maxLen) (hv : ∀ x ∈ l, x.value.size ≤ 140737488355328) :
    Calls Tryd.prog 6 #[.slice ao n cap, .agg #[.bool t.weak, .string t.value], .bool there] w fun e w' => e = .returned (.bool true) ∧ Below w.heap.size w w' := by
  unfold maxLen at hz
  have bA := (Below.refl w.heap.size w).alloc (Nat.le_refl _) (.cells #[.bool t.weak, .string t.value] 23)
  have k0 := TagBox.new w t
  have hl2 := hl.below bA
  clear hl
  replace hv := Lib.hid hv
  replace hn := Lib.hid hn
  go_enter Tryd.func6, Tryd.ntmps6
  go_upto_region 1 with fail
  generalize w.alloc (.cells #[.bool t.weak, .string t.value] 23) = W at *
  replace bA := Lib.hid bA
  replace k0 := Lib.hid k0
  replace hl2 := Lib.hid hl2
  go_wp2_with fail
  (with_reducible refine (awake_any _).mono ?_); rintro e w1 ⟨rfl, b1⟩
  have x1 := Lib.hid (bA.out.trans (b1.mono bA.out.size))
  replace k0 := Lib.hid (k0.out.on b1)
  replace hl2 := Lib.hid (hl2.out.below b1)
  clear b1 bA
  by_cases h20 : 20 < n
  · go_wp2_with fail
    go_ret
    exact ⟨rfl, x1.out⟩
  · go_wp2_with fail
    go_loopw [8, 9, 10, 11, 12, 13] (fun v8 v9 v10 v11 _ _ wr => ∃ (k : Nat) (sel : List Tag) (x : ByteArray) (r : Bool), k ≤ n ∧ v11 = .int .i64 (k : Int) ∧ v8 = .string x ∧ v9 = .bool r ∧ v10 = .int .i64 (sel.length : Int) ∧ x.size ≤ 102 * k ∧ sel.length ≤ k ∧ Hid (x.data.toList = Et.tells sel) ∧ Hid (∀ y ∈ sel, Et.may y = true) ∧ Hid (r = sel.any fun y => Et.alike y t false) ∧ Hid (Below w1.heap.size w1 wr)) (fun _ _ _ i _ _ _ => n - (intOf i).toNat)
    case atStart => exact ⟨0, [], ⟨#[]⟩, false, Nat.zero_le _, rfl, rfl, rfl, rfl, by decide, Nat.zero_le _, Lib.hid rfl, Lib.hid (by simp), Lib.hid rfl, Lib.hid (Below.refl _ _)⟩
    case round =>
      obtain ⟨k, sel, x, r, hk, rfl, rfl, rfl, rfl, hx, hs, hxt, hma, hr, bw⟩ := hrel
      have xw := Lib.hid (x1.out.trans (bw.out.mono x1.out.size))
      have kw := Lib.hid (k0.out.on bw.out)
      by_cases hlt : k < n
      case pos =>
        have hkl : k < l.length := by rw [hn.out]; exact hlt
        obtain ⟨b, off, rfl, c0, c1⟩ := (hl2.out.below bw.out) k hkl
        have cP := Lib.hid (ePrint_any l[k] wr (hv.out _ (List.getElem_mem hkl)))
        have ea : (plE l[k] = 0 ∧ Et.may l[k] = true ∧ (plA l[k]).data.toList = Et.tell l[k]) ∨ plE l[k] = 170 := by
          cases h : Et.may l[k] with
          | true => obtain ⟨r1, r2⟩ := pl_yes h; exact .inl ⟨r2, rfl, by rw [r1, mk_list]⟩
          | false => exact .inr (pl_no h).2
        generalize plA l[k] = A at *
        generalize plE l[k] = E at *
        generalize l[k] = y at *
        have g3 : (k : Int) < (n : Int) := by omega
        replace ea := Lib.hid ea
        go_wp2_with fail
        (with_reducible refine (cP.out).mono ?_); rintro e w2 ⟨rfl, b2⟩
        have bw2 := Lib.hid (bw.out.trans (b2.mono bw.out.size))
        have kw2 := Lib.hid (kw.out.on b2)
        have d0 := (b2.cell (World.block_lt_of_cell? _ _ c0)).trans c0
        have d1 := (b2.cell (World.block_lt_of_cell? _ _ c1)).trans c1
        clear b2 c0 c1 bw kw cP xw
        rcases ea.out with ⟨rfl, my, hA⟩ | rfl
        case inr =>
          clear d0 d1 kw2 ea
          go_wp2_with fail
          go_roundw
          case rel => exact ⟨k + 1, sel, x, r, by omega, by go_num, rfl, rfl, rfl, by omega, by omega, hxt, hma, hr, bw2⟩
          case measure => simp [intOf]; omega
        case inl =>
          by_cases hA1 : 100 < A.size
          · clear d0 d1 kw2 ea
            replace hA := Lib.hid hA
            go_wp2_with fail
            go_roundw
            case rel => exact ⟨k + 1, sel, x, r, by omega, by go_num, rfl, rfl, rfl, by omega, by omega, hxt, hma, hr, bw2⟩
            case measure => simp [intOf]; omega
          · have q1 : ¬ 9223372036854775807 < x.size + A.size := by omega
            have q2 : ¬ 9223372036854775807 < x.size + A.size + 2 := by omega
            have hxt2 := Lib.hid (tells_more sel y x A hxt.out hA)
            have hma2 := Lib.hid (sel_more hma.out my)
            have hz2 : (x ++ A ++ ⟨#[44, 32]⟩ : ByteArray).size ≤ 102 * (k + 1) := by
              simp only [ByteArray.size_append]
              have : (⟨#[44, 32]⟩ : ByteArray).size = 2 := rfl
              omega
            have hr2 := Lib.hid (fun q (hq : q = (r || Et.alike y t false)) => any_snoc (p := fun y => Et.alike y t false) hr.out hq)
            have hln : (sel ++ [y]).length = sel.length + 1 := by rw [List.length_append, List.length_singleton]
            have hak : Hid (Et.alike y t false = (decide (y.value = t.value) && (!y.weak && !t.weak))) := Lib.hid rfl
            have e0 := kw2.out.c0
            have e1 := kw2.out.c1
            replace my := Lib.hid my
            replace hA := Lib.hid hA
            clear kw2 ea hxt hma hr
            obtain ⟨yw, yv⟩ := y
            obtain ⟨tw, tv⟩ := t
            dsimp only at *
            have hdr := Lib.hid (fun j => bw2.out.trans ((drewN_below (B := w1.heap.size) w2 j)))
            cases r
            case true =>
              go_wp2_with fail
              go_quiet (fail)
              go_wp2_with fail
              go_roundw
              case rel => exact ⟨k + 1, sel ++ [_], _, true, by omega, by go_num, rfl, rfl, by rw [hln]; go_num, hz2, by omega, hxt2, hma2, Lib.hid (hr2.out true (by rw [hak.out]; simp)), Lib.hid (hdr.out _)⟩
              case measure => simp [intOf]; omega
            case false =>
              by_cases e1' : yv = tv
              case neg =>
                have f1 := str_differ e1'
                replace e1' := Lib.hid e1'
                go_wp2_with fail
                go_quiet (fail)
                go_wp2_with fail
                go_roundw
                case rel => exact ⟨k + 1, sel ++ [_], _, false, by omega, by go_num, rfl, rfl, by rw [hln]; go_num, hz2, by omega, hxt2, hma2, Lib.hid (hr2.out false (by rw [hak.out]; simp [e1'.out])), Lib.hid (hdr.out _)⟩
                case measure => simp [intOf]; omega
              case pos =>
                have f1 : (yv.toList == tv.toList) = true := by rw [e1']; exact beq_self_eq_true _
                replace e1' := Lib.hid e1'
                cases yw
                case true =>
                  go_wp2_with fail
                  go_quiet (fail)
                  go_wp2_with fail
                  go_roundw
                  case rel => exact ⟨k + 1, sel ++ [_], _, false, by omega, by go_num, rfl, rfl, by rw [hln]; go_num, hz2, by omega, hxt2, hma2, Lib.hid (hr2.out false (by rw [hak.out]; simp)), Lib.hid (hdr.out _)⟩
                  case measure => simp [intOf]; omega
                case false =>
                  cases tw
                  case true =>
                    go_wp2_with fail
                    go_quiet (fail)
                    go_wp2_with fail
                    go_roundw
                    case rel => exact ⟨k + 1, sel ++ [_], _, false, by omega, by go_num, rfl, rfl, by rw [hln]; go_num, hz2, by omega, hxt2, hma2, Lib.hid (hr2.out false (by rw [hak.out]; simp)), Lib.hid (hdr.out _)⟩
                    case measure => simp [intOf]; omega
                  case false =>
                    go_wp2_with fail
                    go_quiet (fail)
                    go_wp2_with fail
                    go_roundw
                    case rel => exact ⟨k + 1, sel ++ [_], _, true, by omega, by go_num, rfl, rfl, by rw [hln]; go_num, hz2, by omega, hxt2, hma2, Lib.hid (hr2.out true (by rw [hak.out]; simp [e1'.out])), Lib.hid (hdr.out _)⟩
                    case measure => simp [intOf]; omega
      case neg =>
        have cA := Lib.hid (fun W => eMay_any x ⟨#[]⟩ t there false W (by omega) (by decide))
        have cS := Lib.hid (fun W => eMay_any ⟨#[42]⟩ ⟨#[]⟩ t there false W (by decide) (by decide))
        have cF := Lib.hid (fun W => eMay_any ⟨#[]⟩ ⟨#[]⟩ t there true W (by decide) (by decide))
        have m1 : sel ≠ [] → Et.mayQ x.data.toList (⟨#[]⟩ : ByteArray).data.toList t there false = if r = true ∧ there = true then 0 else 412 := fun h => by
          rw [hxt.out, hr.out]
          exact Et.may_tells hma.out h t there false
        have m2 : Et.mayQ (⟨#[42]⟩ : ByteArray).data.toList (⟨#[]⟩ : ByteArray).data.toList t there false = if there = true then 0 else 412 := Et.may_star t there false
        have m3 : Et.mayQ (⟨#[]⟩ : ByteArray).data.toList (⟨#[]⟩ : ByteArray).data.toList t there true = 0 := Et.may_free t there true
        rw [m3] at cF
        have c0 := kw.out.c0
        have c1 := kw.out.c1
        generalize Et.mayQ x.data.toList (⟨#[]⟩ : ByteArray).data.toList t there false = M1 at *
        generalize Et.mayQ (⟨#[42]⟩ : ByteArray).data.toList (⟨#[]⟩ : ByteArray).data.toList t there false = M2 at *
        clear m3 hxt hma hr hl2 bw
        by_cases h0 : sel = []
        case' pos =>
          subst h0
          clear m1 cA
          cases r
          all_goals cases there
          all_goals
            obtain rfl := m2
            go_wp2_with fail
            (with_reducible refine (cS.out _).mono ?_); rintro e w4 ⟨rfl, b4⟩
            have d0 := (b4.cell (World.block_lt_of_cell? _ _ c0)).trans c0
            have d1 := (b4.cell (World.block_lt_of_cell? _ _ c1)).trans c1
            have x4 := Lib.hid (xw.out.trans (b4.mono xw.out.size))
            clear b4 c0 c1
            go_wp2_with fail
            (with_reducible refine (cF.out _).mono ?_); rintro e w5 ⟨rfl, b5⟩
            have x5 := Lib.hid (x4.out.trans (b5.mono x4.out.size))
            clear b5
            go_wp2_with fail
            go_ret
            exact ⟨rfl, x5.out⟩
        case' neg =>
          have hl0 : ¬ sel.length = 0 := fun e => h0 (List.eq_nil_of_length_eq_zero e)
          have hl2 : (((sel.length : Nat) : Int) == 0) = false := beq_false_of_ne (by omega)
          replace m1 := m1 h0
          clear h0
          cases r
          all_goals cases there
          all_goals
            obtain rfl := m2
            obtain rfl := m1
            go_wp2_with fail
            (with_reducible refine (cA.out _).mono ?_); rintro e w3 ⟨rfl, b3⟩
            have d0 := (b3.cell (World.block_lt_of_cell? _ _ c0)).trans c0
            have d1 := (b3.cell (World.block_lt_of_cell? _ _ c1)).trans c1
            have x3 := Lib.hid (xw.out.trans (b3.mono xw.out.size))
            clear b3 c0 c1
            go_wp2_with fail
            (with_reducible refine (cS.out _).mono ?_); rintro e w4 ⟨rfl, b4⟩
            have c0 := (b4.cell (World.block_lt_of_cell? _ _ d0)).trans d0
            have c1 := (b4.cell (World.block_lt_of_cell? _ _ d1)).trans d1
            have x4 := Lib.hid (x3.out.trans (b4.mono x3.out.size))
            clear b4 d0 d1
            go_wp2_with fail
            (with_reducible refine (cF.out _).mono ?_); rintro e w5 ⟨rfl, b5⟩
            have x5 := Lib.hid (x4.out.trans (b5.mono x4.out.size))
            clear b5
            go_wp2_with fail
            go_ret
            exact ⟨rfl, x5.out⟩
end Go.Proofs.YtojbhokneemeaaaDoor
