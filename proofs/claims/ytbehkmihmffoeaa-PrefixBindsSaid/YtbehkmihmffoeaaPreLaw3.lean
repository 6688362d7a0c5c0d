/-
  The statements' walks: PrefixBinds.
-/
import Derived.Test.YtbehkmihmffoeaaPreLaw2
namespace Go.Proofs.Ytbehkmihmffoeaa
open Go.RowKit

namespace P
theorem sub_end {B l : List Pair} {k i : Nat} (h : (B.drop k).Sublist (l.drop i)) (hi : ¬ i < l.length) (hk : k ≤ B.length) : k = B.length := by
  have e : l.drop i = [] := List.drop_of_length_le (by omega)
  rw [e, List.sublist_nil] at h
  have := congrArg List.length h
  rw [List.length_drop, List.length_nil] at this
  omega
theorem sub_same {B l : List Pair} {k i : Nat} (h : (B.drop k).Sublist (l.drop i)) (hk : k < B.length) (hi : i < l.length) : (B.drop (k + 1)).Sublist (l.drop (i + 1)) := by
  rw [List.drop_eq_getElem_cons hk, List.drop_eq_getElem_cons hi] at h
  exact sub_tail h
theorem sub_ne {a b : Pair} {t m : List Pair} (h : (b :: m).Sublist (a :: t)) (hne : ¬ a = b) : (b :: m).Sublist t := by
  cases h with
  | cons _ h => exact h
  | cons_cons _ h => exact absurd rfl hne
theorem sub_next {B l : List Pair} {k i : Nat} (h : (B.drop k).Sublist (l.drop i)) (hk : k < B.length) (hi : i < l.length) (hne : ¬ l[i] = B[k]) : (B.drop k).Sublist (l.drop (i + 1)) := by
  rw [List.drop_eq_getElem_cons hk] at h ⊢
  rw [List.drop_eq_getElem_cons hi] at h
  exact sub_ne h hne
theorem split_small {s p n : ByteArray} (h : split s = some (p, n)) : n.size ≤ s.size := by
  rcases (split_of h).2 with ⟨_, rfl⟩ | ⟨_, rfl⟩
  · exact Nat.le_refl _
  · rw [ByteArray.size_append]; omega
theorem declGo_small (M : Nat) : ∀ (l sc re sc' re' : List Pair), declGo sc re l = some (sc', re') → (∀ x ∈ sc, x.name.size ≤ M) → (∀ x ∈ l, x.name.size ≤ M) → ∀ x ∈ sc', x.name.size ≤ M
  | [], sc, re, sc', re', h, hg, _ => by cases h; exact hg
  | a :: t, sc, re, sc', re', h, hg, hl => by
    unfold declGo at h
    cases hs : split a.name with
    | none => rw [hs] at h; cases h
    | some x =>
      obtain ⟨p, n⟩ := x
      rw [hs] at h
      simp only at h
      split at h
      · exact declGo_small M t sc (re ++ [a]) sc' re' h hg (fun x hx => hl x (by simp [hx]))
      · split at h
        · refine declGo_small M t (sc ++ [⟨key p n, a.value⟩]) re sc' re' h (fun x hx => ?_) (fun x hx => hl x (by simp [hx]))
          rcases List.mem_append.1 hx with hx | hx
          · exact hg x hx
          · obtain rfl : x = _ := List.mem_singleton.1 hx
            show (key p n).size ≤ M
            unfold key
            split
            · exact Nat.zero_le _
            · exact Nat.le_trans (split_small hs) (hl a (by simp))
        · cases h
theorem de_small {l : List Pair} {M : Nat} (hl : ∀ x ∈ l, x.name.size ≤ M) : ∀ x ∈ deA l, x.name.size ≤ M := by
  unfold deA
  cases hd : declare l with
  | none => simp
  | some x => exact declGo_small M l [] [] x.1 x.2 hd (by simp) hl
/-- Is the i-th pair the last one of its name, up to the j-th? -/
def lastB (A : List Pair) (i j : Nat) (nm : ByteArray) : Bool := ((A.take j).drop (i + 1)).all fun x => decide (x.name ≠ nm)
theorem lastB_start (A : List Pair) (i : Nat) (nm : ByteArray) : lastB A i (i + 1) nm = true := by
  unfold lastB
  rw [List.drop_of_length_le (by rw [List.length_take]; omega)]; rfl
theorem lastB_step (A : List Pair) (i j : Nat) (nm : ByteArray) (h : i + 1 ≤ j) (hj : j < A.length) : lastB A i (j + 1) nm = (lastB A i j nm && decide (A[j].name ≠ nm)) := by
  unfold lastB
  rw [List.take_succ_eq_append_getElem hj, List.drop_append_of_le_length (by rw [List.length_take]; omega), List.all_append]
  simp
theorem lastB_all (A : List Pair) (i : Nat) (nm : ByteArray) (h : lastB A i A.length nm = true) : ∀ j (hj : j < A.length), i < j → A[j].name ≠ nm := by
  unfold lastB at h
  rw [List.take_length, List.all_eq_true] at h
  intro j hj hij
  have := h A[j] (List.mem_iff_getElem.2 ⟨j - (i + 1), by rw [List.length_drop]; omega, by rw [List.getElem_drop]; congr 1; omega⟩)
  simpa using this
theorem binds_ans {A : List Pair} (hg : ∀ x ∈ A, Good x) (i : Nat) (h : i < A.length) (hl : lastB A i A.length A[i].name = true) {loc nm : ByteArray} (hf : spE loc = 0)
    (hnm : nm = if A[i].name = ByteArray.empty then loc else A[i].name ++ ⟨#[58]⟩ ++ loc) (hh : spE nm = 0) : reB A nm false ≠ loc ∨ (reA A nm false = A[i].value ∧ reE A nm false = 0) := by
  have f : ∀ s, spE s = 0 → (split s).isSome = true := fun s e => by
    unfold spE at e
    cases hs : split s with
    | none => rw [hs] at e; cases e
    | some x => rfl
  rcases binds hg i h (lastB_all A i _ hl) (f _ hf) hnm (f _ hh) with hr | ⟨u, m, ⟨hr, hm⟩ | ⟨hr, hm⟩⟩
  · obtain ⟨r1, r2, r3⟩ := re_some hr
    exact .inr ⟨r1, r3⟩
  · obtain ⟨r1, r2, r3⟩ := re_some hr
    exact .inl (by rw [r2]; exact hm)
  · obtain ⟨r1, r2, r3⟩ := re_none hr
    exact .inl (by rw [r2]; exact Ne.symm hm)
theorem de_inv {l : List Pair} (h : deE l = 0) : (∀ x ∈ deA l, Good x) ∧ (deA l).length + (deB l).length = l.length ∧ (deB l).Sublist l := by
  unfold deE at h
  unfold deA deB
  cases hd : declare l with
  | none => rw [hd] at h; cases h
  | some x =>
    obtain ⟨h1, h2, m, h3, h4⟩ := declGo_inv l [] [] x.1 x.2 hd (by simp)
    refine ⟨h1, by simpa using h2, ?_⟩
    rw [List.nil_append] at h3
    show x.2.Sublist l
    rw [h3]; exact h4
theorem de_cases (l : List Pair) : deE l = 0 ∨ deE l = 80 ∧ deA l = [] ∧ deB l = [] := by
  unfold deE deA deB
  cases declare l with
  | none => exact .inr ⟨rfl, rfl, rfl⟩
  | some x => exact .inl rfl
end P

set_option maxRecDepth 100000 in
set_option maxHeartbeats 12800000 in
theorem pbinds_any {ao : Option Addr} {cap n : Nat} (l : List Pair) (s : ByteArray) (w : World) (hl : PairsIn w ao l) (hn : l.length = n) (hnm : n ≤ maxLen) (hz : ∀ a ∈ l, a.name.size ≤ maxLen) (hs : s.size ≤ maxLen) (hE : Env w) : Calls Try.prog 6 #[.slice ao n cap, .string s] w fun e w' => e = .returned (.bool true) ∧ Below w.heap.size w w' := by
  have hnm2 : n ≤ 9223372036854775807 := hnm
  have hsm : s.size ≤ 9223372036854775807 := hs
  replace hn := Lib.hid hn
  go_enter Try.func6, Try.ntmps6
  go_wp2_with fail
  (with_reducible refine (awake_any _ hE).mono ?_); rintro e w1 ⟨rfl, t1⟩
  by_cases hb : 50 < n
  · clear hl hz
    go_wp2
    go_ret
    exact ⟨rfl, t1⟩
  by_cases hb3 : 300 < s.size
  · clear hl hz
    go_wp2
    go_ret
    exact ⟨rfl, t1⟩
  have hsz : s.size ≤ 1000000 := by omega
  have l1 := hl.below t1
  clear hl
  go_wp2_with fail
  go_loop [6] (fun i => ∃ k : Nat, k ≤ n ∧ i = .int .i64 (k : Int) ∧ Hid (∀ j (hj : j < l.length), j < k → l[j].name.size ≤ 300)) (fun i => n - (intOf i).toNat)
  case atStart => exact ⟨0, Nat.zero_le _, rfl, Lib.hid (fun j _ h => by omega)⟩
  case round =>
    obtain ⟨k, hk, rfl, hall⟩ := hrel
    by_cases hlt : k < n
    · obtain ⟨b, off, rfl, c0, c1⟩ := l1 k (by rw [hn.out]; exact hlt)
      have hza := hz (l[k]'(by rw [hn.out]; exact hlt)) (List.getElem_mem _)
      have hza2 : (l[k]'(by rw [hn.out]; exact hlt)).name.size ≤ 9223372036854775807 := hza
      have hst : (l[k]'(by rw [hn.out]; exact hlt)).name.size ≤ 300 → Hid (∀ j (hj : j < l.length), j < k + 1 → l[j].name.size ≤ 300) := fun h => Lib.hid (fun j hj h2 => by
        by_cases hjk : j = k
        · subst hjk; exact h
        · exact hall.out j hj (by omega))
      generalize (l[k]'(by rw [hn.out]; exact hlt)).name = x at *
      generalize (l[k]'(by rw [hn.out]; exact hlt)).value = y at *
      clear l1 hz
      by_cases hx : 300 < x.size
      · clear hst hall
        go_wp2
        go_ret
        exact ⟨rfl, t1⟩
      · have hr := hst (by omega)
        clear hst hall
        go_wp2
        go_round
        case rel => exact ⟨k + 1, by omega, by go_num, hr⟩
        case measure => simp [intOf] <;> omega
    · have hsmall : ∀ a ∈ l, a.name.size ≤ 1000 := fun a ha => by
        obtain ⟨j, hj, rfl⟩ := List.mem_iff_getElem.1 ha
        have := hall.out j hj (by have := hn.out; omega)
        omega
      clear hall hz
      go_wp2_with fail
      (with_reducible refine (pDeclare_any l _ l1 hn.out (by omega) hsmall (hE.on t1)).mono ?_); rintro e w2 ⟨a1, c1, a2, c2, rfl, p1, p2, b2⟩
      have t2 := t1.trans (b2.mono t1.size)
      have l2 := l1.below b2
      clear l1
      rcases P.de_cases l with hde | ⟨hde, hA, hB⟩
      · obtain ⟨hg, hsum, hsub⟩ := P.de_inv hde
        have hAz := P.de_small hsmall
        rw [hde]
        clear hde hsmall
        have hsum2 := hsum
        rw [hn.out] at hsum2
        generalize P.deA l = A at *
        generalize P.deB l = B at *
        generalize hAn : A.length = an at *
        generalize hBn : B.length = bn at *
        replace hAn := Lib.hid hAn
        replace hBn := Lib.hid hBn
        replace hsub := Lib.hid hsub
        replace hg := Lib.hid hg
        replace hAz := Lib.hid hAz
        clear hsum
        go_wp2_with fail
        go_loopw [10, 11] (fun kv iv wr => ∃ k i : Nat, k ≤ bn ∧ i ≤ n ∧ kv = .int .i64 (k : Int) ∧ iv = .int .i64 (i : Int) ∧ Hid ((B.drop k).Sublist (l.drop i)) ∧ Below w2.heap.size w2 wr) (fun _ iv _ => n - (intOf iv).toNat)
        case atStart => exact ⟨0, 0, Nat.zero_le _, Nat.zero_le _, rfl, rfl, Lib.hid (by simpa using hsub.out), Below.refl _ _⟩
        case round =>
          obtain ⟨k, i, hk, hi, rfl, rfl, hS, bw⟩ := hrel
          by_cases hin : i < n
          · by_cases hkb : k < bn
            · obtain ⟨b, off, rfl, c0, c1⟩ := (l2.below bw) i (by rw [hn.out]; exact hin)
              obtain ⟨b', off', rfl, d0, d1⟩ := (p2.below bw) k (by rw [hBn.out]; exact hkb)
              have hil : i < l.length := by rw [hn.out]; exact hin
              have hkl : k < B.length := by rw [hBn.out]; exact hkb
              have hsame := Lib.hid (P.sub_same hS.out hkl hil)
              have hnext := Lib.hid (P.sub_next hS.out hkl hil)
              have g1 : (i : Int) < (n : Int) := by omega
              have g2 : (k : Int) < (bn : Int) := by omega
              generalize l[i] = x at *
              generalize B[k] = y at *
              obtain ⟨xn, xv⟩ := x
              obtain ⟨yn, yv⟩ := y
              dsimp only at *
              clear l2 p1 p2 hS
              by_cases e1 : xn = yn
              · subst e1
                by_cases e2 : xv = yv
                · subst e2
                  have hr := hsame
                  clear hsame hnext
                  go_wp2_with fail
                  go_quiet (fail)
                  go_wp2_with fail
                  go_roundw
                  case rel => exact ⟨k + 1, i + 1, by omega, by omega, by go_num, by go_num, hr, bw.trans (drewN_below _ _)⟩
                  case measure => simp [intOf] <;> omega
                · have hr := Lib.hid (hnext.out (by simp [e2]))
                  have f2 := str_differ e2
                  clear hsame hnext e2
                  go_wp2_with fail
                  go_quiet (fail)
                  go_wp2_with fail
                  go_roundw
                  case rel => exact ⟨k, i + 1, by omega, by omega, by go_num, by go_num, hr, bw.trans (drewN_below _ _)⟩
                  case measure => simp [intOf] <;> omega
              · have hr := Lib.hid (hnext.out (by simp [e1]))
                have f1 := str_differ e1
                clear hsame hnext e1
                go_wp2_with fail
                go_quiet (fail)
                go_wp2_with fail
                go_roundw
                case rel => exact ⟨k, i + 1, by omega, by omega, by go_num, by go_num, hr, bw.trans (drewN_below _ _)⟩
                case measure => simp [intOf] <;> omega
            · have hke : k = bn := by omega
              subst hke
              clear hS hsub
              have t3 := t2.trans (bw.mono t2.size)
              go_wp2_with fail
              (with_reducible refine (pSplit_any s _ hsz (hE.on t3)).mono ?_); rintro e w4 ⟨rfl, b4⟩
              have bw4 := bw.trans (b4.mono bw.size)
              clear bw b4 t3
              generalize hfs : P.spE s = f
              replace hfs := Lib.hid hfs
              generalize P.spA s = sa
              generalize P.spB s = sb
              go_wp2_with fail
              go_loopw [15, 16, 17, 18, 19, 20, 21, 22, 23, 24] (fun iv _ _ _ _ _ _ _ _ _ wr => ∃ i : Nat, i ≤ an ∧ iv = .int .i64 (i : Int) ∧ Below w2.heap.size w2 wr) (fun iv _ _ _ _ _ _ _ _ _ _ => an - (intOf iv).toNat)
              case atStart => exact ⟨0, Nat.zero_le _, rfl, bw4⟩
              case round =>
                clear bw4
                obtain ⟨i, hi, rfl, bw⟩ := hrel
                by_cases hia : i < an
                · by_cases hf0 : f = 0
                  · subst hf0
                    have hil : i < A.length := by rw [hAn.out]; exact hia
                    obtain ⟨b, off, rfl, c0, c1⟩ := p1 i hil
                    have hxz := hAz.out A[i] (List.getElem_mem hil)
                    have hbind := fun nm hL hnm => P.binds_ans (loc := s) (nm := nm) hg.out i hil hL hfs.out hnm
                    generalize hx : A[i].name = x at *
                    generalize hv : A[i].value = v at *
                    rw [hAn.out] at hbind
                    replace hbind := Lib.hid hbind
                    clear hx hv
                    go_wp2_with fail
                    go_loopw [16, 17] (fun lv jv wr => ∃ j : Nat, i + 1 ≤ j ∧ j ≤ an ∧ jv = .int .i64 (j : Int) ∧ lv = .bool (P.lastB A i j x) ∧ Below w2.heap.size w2 wr) (fun _ jv _ => an - (intOf jv).toNat)
                    case atStart => exact ⟨i + 1, Nat.le_refl _, by omega, by go_num, by rw [P.lastB_start], bw⟩
                    case round =>
                      clear bw
                      obtain ⟨j, hj1, hj2, rfl, rfl, bw⟩ := hrel
                      have d0 := (bw.cell (World.block_lt_of_cell? w2 _ c0)).trans c0
                      have d1 := (bw.cell (World.block_lt_of_cell? w2 _ c1)).trans c1
                      by_cases hja : j < an
                      · have hjl : j < A.length := by rw [hAn.out]; exact hja
                        obtain ⟨b', off', e', f0, f1⟩ := (p1.below bw) j hjl
                        cases e'
                        have hst := P.lastB_step A i j x hj1 hjl
                        generalize A[j].name = y at *
                        generalize A[j].value = yv at *
                        generalize P.lastB A i j x = L at *
                        have g1 : (j : Int) < (an : Int) := by omega
                        have g2 : (i : Int) < (an : Int) := by omega
                        clear p1 p2 l2 c0 c1
                        cases L
                        · have hst : Hid (P.lastB A i (j + 1) x = false) := Lib.hid (by rw [hst]; rfl)
                          go_wp2_with fail
                          go_quiet (fail)
                          go_wp2_with fail
                          go_roundw
                          case rel => exact ⟨j + 1, by omega, by omega, by go_num, by rw [hst.out], bw.trans (drewN_below _ _)⟩
                          case measure => simp [intOf] <;> omega
                        · by_cases hyx : y = x
                          · have hst : Hid (P.lastB A i (j + 1) x = false) := Lib.hid (by rw [hst]; simp [hyx])
                            subst hyx
                            go_wp2_with fail
                            go_quiet (fail)
                            go_wp2_with fail
                            go_roundw
                            case rel => exact ⟨j + 1, by omega, by omega, by go_num, by rw [hst.out], bw.trans (drewN_below _ _)⟩
                            case measure => simp [intOf] <;> omega
                          · have hst : Hid (P.lastB A i (j + 1) x = true) := Lib.hid (by rw [hst]; simp [hyx])
                            have q1 := str_differ hyx
                            clear hyx
                            go_wp2_with fail
                            go_quiet (fail)
                            go_wp2_with fail
                            go_roundw
                            case rel => exact ⟨j + 1, by omega, by omega, by go_num, by rw [hst.out], bw.trans (drewN_below _ _)⟩
                            case measure => simp [intOf] <;> omega
                      · have hje : j = an := by omega
                        subst hje
                        have hbind2 := Lib.hid (fun nm (hL : P.lastB A i j x = true) => hbind.out nm hL)
                        generalize P.lastB A i j x = L at *
                        have c1k := c1
                        clear hbind c0 c1 l2 p2
                        have t5 := t2.trans (bw.mono t2.size)
                        by_cases hxe : x = ByteArray.empty
                        · have n1 : x.toList.isEmpty = true := by rw [hxe]; exact empty_is
                          have k1 := c1k
                          have hnm : Hid (s = if x = ByteArray.empty then s else x ++ ⟨#[58]⟩ ++ s) := Lib.hid (by rw [if_pos hxe])
                          clear hxe
                          have hnz := hsz
                          go_wp2_with fail
                          (with_reducible refine (pResolve_any A (s) false _ (p1.below bw) hAn.out (by omega) hnz (hE.on t5)).mono ?_); rintro e w6 ⟨rfl, b6⟩
                          have t6 := t5.trans (b6.mono t5.size)
                          go_wp2_with fail
                          (with_reducible refine (pSplit_any (s) _ hnz (hE.on t6)).mono ?_); rintro e w7 ⟨rfl, b7⟩
                          have hans := fun hL => hbind2.out (s) hL hnm.out
                          have bw7 := (bw.trans (b6.mono bw.size)).trans (b7.mono (bw.trans (b6.mono bw.size)).size)
                          have z1 := (bw7.cell (World.block_lt_of_cell? w2 _ k1)).trans k1
                          clear b6 b7 t6 hnm hbind2 p1 d0 d1 k1 hnz
                          generalize P.reA A (s) false = ua at *
                          generalize P.reB A (s) false = ub at *
                          generalize P.reE A (s) false = ue at *
                          generalize P.spA (s) = ha at *
                          generalize P.spB (s) = hb2 at *
                          generalize P.spE (s) = he at *
                          have g2 : (i : Int) < (j : Int) := by omega
                          cases L
                          · clear hans
                            go_wp2_with fail
                            go_roundw
                            case rel => exact ⟨i + 1, by omega, by go_num, bw7⟩
                            case measure => simp [intOf] <;> omega
                          · by_cases hh : he = 0
                            · subst hh
                              rcases hans rfl rfl with hne | ⟨rfl, rfl⟩
                              · have q1 := str_differ hne
                                clear hans hne
                                go_wp2_with fail
                                go_roundw
                                case rel => exact ⟨i + 1, by omega, by go_num, bw7⟩
                                case measure => simp [intOf] <;> omega
                              · clear hans
                                by_cases hus : ub = s
                                · subst hus
                                  go_wp2_with fail
                                  go_roundw
                                  case rel => exact ⟨i + 1, by omega, by go_num, bw7⟩
                                  case measure => simp [intOf] <;> omega
                                · have q1 := str_differ hus
                                  clear hus
                                  go_wp2_with fail
                                  go_roundw
                                  case rel => exact ⟨i + 1, by omega, by go_num, bw7⟩
                                  case measure => simp [intOf] <;> omega
                            · clear hans
                              go_wp2_with fail
                              go_roundw
                              case rel => exact ⟨i + 1, by omega, by go_num, bw7⟩
                              case measure => simp [intOf] <;> omega
                        · have n1 := empty_no hxe
                          have k1 := c1k
                          have hnm : Hid (x ++ ⟨#[58]⟩ ++ s = if x = ByteArray.empty then s else x ++ ⟨#[58]⟩ ++ s) := Lib.hid (by rw [if_neg hxe])
                          clear hxe
                          have hnz : (x ++ ⟨#[58]⟩ ++ s).size ≤ 1000000 := by
                            have h58 : (⟨#[58]⟩ : ByteArray).size = 1 := rfl
                            rw [ByteArray.size_append, ByteArray.size_append]; omega
                          go_wp2_with fail
                          (with_reducible refine (pResolve_any A (x ++ ⟨#[58]⟩ ++ s) false _ (p1.below bw) hAn.out (by omega) hnz (hE.on t5)).mono ?_); rintro e w6 ⟨rfl, b6⟩
                          have t6 := t5.trans (b6.mono t5.size)
                          go_wp2_with fail
                          (with_reducible refine (pSplit_any (x ++ ⟨#[58]⟩ ++ s) _ hnz (hE.on t6)).mono ?_); rintro e w7 ⟨rfl, b7⟩
                          have hans := fun hL => hbind2.out (x ++ ⟨#[58]⟩ ++ s) hL hnm.out
                          have bw7 := (bw.trans (b6.mono bw.size)).trans (b7.mono (bw.trans (b6.mono bw.size)).size)
                          have z1 := (bw7.cell (World.block_lt_of_cell? w2 _ k1)).trans k1
                          clear b6 b7 t6 hnm hbind2 p1 d0 d1 k1 hnz
                          generalize P.reA A (x ++ ⟨#[58]⟩ ++ s) false = ua at *
                          generalize P.reB A (x ++ ⟨#[58]⟩ ++ s) false = ub at *
                          generalize P.reE A (x ++ ⟨#[58]⟩ ++ s) false = ue at *
                          generalize P.spA (x ++ ⟨#[58]⟩ ++ s) = ha at *
                          generalize P.spB (x ++ ⟨#[58]⟩ ++ s) = hb2 at *
                          generalize P.spE (x ++ ⟨#[58]⟩ ++ s) = he at *
                          have g2 : (i : Int) < (j : Int) := by omega
                          cases L
                          · clear hans
                            go_wp2_with fail
                            go_roundw
                            case rel => exact ⟨i + 1, by omega, by go_num, bw7⟩
                            case measure => simp [intOf] <;> omega
                          · by_cases hh : he = 0
                            · subst hh
                              rcases hans rfl rfl with hne | ⟨rfl, rfl⟩
                              · have q1 := str_differ hne
                                clear hans hne
                                go_wp2_with fail
                                go_roundw
                                case rel => exact ⟨i + 1, by omega, by go_num, bw7⟩
                                case measure => simp [intOf] <;> omega
                              · clear hans
                                by_cases hus : ub = s
                                · subst hus
                                  go_wp2_with fail
                                  go_roundw
                                  case rel => exact ⟨i + 1, by omega, by go_num, bw7⟩
                                  case measure => simp [intOf] <;> omega
                                · have q1 := str_differ hus
                                  clear hus
                                  go_wp2_with fail
                                  go_roundw
                                  case rel => exact ⟨i + 1, by omega, by go_num, bw7⟩
                                  case measure => simp [intOf] <;> omega
                            · clear hans
                              go_wp2_with fail
                              go_roundw
                              case rel => exact ⟨i + 1, by omega, by go_num, bw7⟩
                              case measure => simp [intOf] <;> omega
                  · clear p1 p2 l2
                    go_wp2
                    go_ret
                    exact ⟨rfl, t2.trans (bw.mono t2.size)⟩
                · clear p1 p2 l2
                  go_wp2
                  go_ret
                  exact ⟨rfl, t2.trans (bw.mono t2.size)⟩
          · have hke : k = bn := by
              have := P.sub_end hS.out (by rw [hn.out]; exact hin) (by rw [hBn.out]; exact hk)
              rw [this, hBn.out]
            subst hke
            clear hS hsub
            have t3 := t2.trans (bw.mono t2.size)
            go_wp2_with fail
            (with_reducible refine (pSplit_any s _ hsz (hE.on t3)).mono ?_); rintro e w4 ⟨rfl, b4⟩
            have bw4 := bw.trans (b4.mono bw.size)
            clear bw b4 t3
            generalize hfs : P.spE s = f
            replace hfs := Lib.hid hfs
            generalize P.spA s = sa
            generalize P.spB s = sb
            go_wp2_with fail
            go_loopw [15, 16, 17, 18, 19, 20, 21, 22, 23, 24] (fun iv _ _ _ _ _ _ _ _ _ wr => ∃ i : Nat, i ≤ an ∧ iv = .int .i64 (i : Int) ∧ Below w2.heap.size w2 wr) (fun iv _ _ _ _ _ _ _ _ _ _ => an - (intOf iv).toNat)
            case atStart => exact ⟨0, Nat.zero_le _, rfl, bw4⟩
            case round =>
              clear bw4
              obtain ⟨i, hi, rfl, bw⟩ := hrel
              by_cases hia : i < an
              · by_cases hf0 : f = 0
                · subst hf0
                  have hil : i < A.length := by rw [hAn.out]; exact hia
                  obtain ⟨b, off, rfl, c0, c1⟩ := p1 i hil
                  have hxz := hAz.out A[i] (List.getElem_mem hil)
                  have hbind := fun nm hL hnm => P.binds_ans (loc := s) (nm := nm) hg.out i hil hL hfs.out hnm
                  generalize hx : A[i].name = x at *
                  generalize hv : A[i].value = v at *
                  rw [hAn.out] at hbind
                  replace hbind := Lib.hid hbind
                  clear hx hv
                  go_wp2_with fail
                  go_loopw [16, 17] (fun lv jv wr => ∃ j : Nat, i + 1 ≤ j ∧ j ≤ an ∧ jv = .int .i64 (j : Int) ∧ lv = .bool (P.lastB A i j x) ∧ Below w2.heap.size w2 wr) (fun _ jv _ => an - (intOf jv).toNat)
                  case atStart => exact ⟨i + 1, Nat.le_refl _, by omega, by go_num, by rw [P.lastB_start], bw⟩
                  case round =>
                    clear bw
                    obtain ⟨j, hj1, hj2, rfl, rfl, bw⟩ := hrel
                    have d0 := (bw.cell (World.block_lt_of_cell? w2 _ c0)).trans c0
                    have d1 := (bw.cell (World.block_lt_of_cell? w2 _ c1)).trans c1
                    by_cases hja : j < an
                    · have hjl : j < A.length := by rw [hAn.out]; exact hja
                      obtain ⟨b', off', e', f0, f1⟩ := (p1.below bw) j hjl
                      cases e'
                      have hst := P.lastB_step A i j x hj1 hjl
                      generalize A[j].name = y at *
                      generalize A[j].value = yv at *
                      generalize P.lastB A i j x = L at *
                      have g1 : (j : Int) < (an : Int) := by omega
                      have g2 : (i : Int) < (an : Int) := by omega
                      clear p1 p2 l2 c0 c1
                      cases L
                      · have hst : Hid (P.lastB A i (j + 1) x = false) := Lib.hid (by rw [hst]; rfl)
                        go_wp2_with fail
                        go_quiet (fail)
                        go_wp2_with fail
                        go_roundw
                        case rel => exact ⟨j + 1, by omega, by omega, by go_num, by rw [hst.out], bw.trans (drewN_below _ _)⟩
                        case measure => simp [intOf] <;> omega
                      · by_cases hyx : y = x
                        · have hst : Hid (P.lastB A i (j + 1) x = false) := Lib.hid (by rw [hst]; simp [hyx])
                          subst hyx
                          go_wp2_with fail
                          go_quiet (fail)
                          go_wp2_with fail
                          go_roundw
                          case rel => exact ⟨j + 1, by omega, by omega, by go_num, by rw [hst.out], bw.trans (drewN_below _ _)⟩
                          case measure => simp [intOf] <;> omega
                        · have hst : Hid (P.lastB A i (j + 1) x = true) := Lib.hid (by rw [hst]; simp [hyx])
                          have q1 := str_differ hyx
                          clear hyx
                          go_wp2_with fail
                          go_quiet (fail)
                          go_wp2_with fail
                          go_roundw
                          case rel => exact ⟨j + 1, by omega, by omega, by go_num, by rw [hst.out], bw.trans (drewN_below _ _)⟩
                          case measure => simp [intOf] <;> omega
                    · have hje : j = an := by omega
                      subst hje
                      have hbind2 := Lib.hid (fun nm (hL : P.lastB A i j x = true) => hbind.out nm hL)
                      generalize P.lastB A i j x = L at *
                      have c1k := c1
                      clear hbind c0 c1 l2 p2
                      have t5 := t2.trans (bw.mono t2.size)
                      by_cases hxe : x = ByteArray.empty
                      · have n1 : x.toList.isEmpty = true := by rw [hxe]; exact empty_is
                        have k1 := c1k
                        have hnm : Hid (s = if x = ByteArray.empty then s else x ++ ⟨#[58]⟩ ++ s) := Lib.hid (by rw [if_pos hxe])
                        clear hxe
                        have hnz := hsz
                        go_wp2_with fail
                        (with_reducible refine (pResolve_any A (s) false _ (p1.below bw) hAn.out (by omega) hnz (hE.on t5)).mono ?_); rintro e w6 ⟨rfl, b6⟩
                        have t6 := t5.trans (b6.mono t5.size)
                        go_wp2_with fail
                        (with_reducible refine (pSplit_any (s) _ hnz (hE.on t6)).mono ?_); rintro e w7 ⟨rfl, b7⟩
                        have hans := fun hL => hbind2.out (s) hL hnm.out
                        have bw7 := (bw.trans (b6.mono bw.size)).trans (b7.mono (bw.trans (b6.mono bw.size)).size)
                        have z1 := (bw7.cell (World.block_lt_of_cell? w2 _ k1)).trans k1
                        clear b6 b7 t6 hnm hbind2 p1 d0 d1 k1 hnz
                        generalize P.reA A (s) false = ua at *
                        generalize P.reB A (s) false = ub at *
                        generalize P.reE A (s) false = ue at *
                        generalize P.spA (s) = ha at *
                        generalize P.spB (s) = hb2 at *
                        generalize P.spE (s) = he at *
                        have g2 : (i : Int) < (j : Int) := by omega
                        cases L
                        · clear hans
                          go_wp2_with fail
                          go_roundw
                          case rel => exact ⟨i + 1, by omega, by go_num, bw7⟩
                          case measure => simp [intOf] <;> omega
                        · by_cases hh : he = 0
                          · subst hh
                            rcases hans rfl rfl with hne | ⟨rfl, rfl⟩
                            · have q1 := str_differ hne
                              clear hans hne
                              go_wp2_with fail
                              go_roundw
                              case rel => exact ⟨i + 1, by omega, by go_num, bw7⟩
                              case measure => simp [intOf] <;> omega
                            · clear hans
                              by_cases hus : ub = s
                              · subst hus
                                go_wp2_with fail
                                go_roundw
                                case rel => exact ⟨i + 1, by omega, by go_num, bw7⟩
                                case measure => simp [intOf] <;> omega
                              · have q1 := str_differ hus
                                clear hus
                                go_wp2_with fail
                                go_roundw
                                case rel => exact ⟨i + 1, by omega, by go_num, bw7⟩
                                case measure => simp [intOf] <;> omega
                          · clear hans
                            go_wp2_with fail
                            go_roundw
                            case rel => exact ⟨i + 1, by omega, by go_num, bw7⟩
                            case measure => simp [intOf] <;> omega
                      · have n1 := empty_no hxe
                        have k1 := c1k
                        have hnm : Hid (x ++ ⟨#[58]⟩ ++ s = if x = ByteArray.empty then s else x ++ ⟨#[58]⟩ ++ s) := Lib.hid (by rw [if_neg hxe])
                        clear hxe
                        have hnz : (x ++ ⟨#[58]⟩ ++ s).size ≤ 1000000 := by
                          have h58 : (⟨#[58]⟩ : ByteArray).size = 1 := rfl
                          rw [ByteArray.size_append, ByteArray.size_append]; omega
                        go_wp2_with fail
                        (with_reducible refine (pResolve_any A (x ++ ⟨#[58]⟩ ++ s) false _ (p1.below bw) hAn.out (by omega) hnz (hE.on t5)).mono ?_); rintro e w6 ⟨rfl, b6⟩
                        have t6 := t5.trans (b6.mono t5.size)
                        go_wp2_with fail
                        (with_reducible refine (pSplit_any (x ++ ⟨#[58]⟩ ++ s) _ hnz (hE.on t6)).mono ?_); rintro e w7 ⟨rfl, b7⟩
                        have hans := fun hL => hbind2.out (x ++ ⟨#[58]⟩ ++ s) hL hnm.out
                        have bw7 := (bw.trans (b6.mono bw.size)).trans (b7.mono (bw.trans (b6.mono bw.size)).size)
                        have z1 := (bw7.cell (World.block_lt_of_cell? w2 _ k1)).trans k1
                        clear b6 b7 t6 hnm hbind2 p1 d0 d1 k1 hnz
                        generalize P.reA A (x ++ ⟨#[58]⟩ ++ s) false = ua at *
                        generalize P.reB A (x ++ ⟨#[58]⟩ ++ s) false = ub at *
                        generalize P.reE A (x ++ ⟨#[58]⟩ ++ s) false = ue at *
                        generalize P.spA (x ++ ⟨#[58]⟩ ++ s) = ha at *
                        generalize P.spB (x ++ ⟨#[58]⟩ ++ s) = hb2 at *
                        generalize P.spE (x ++ ⟨#[58]⟩ ++ s) = he at *
                        have g2 : (i : Int) < (j : Int) := by omega
                        cases L
                        · clear hans
                          go_wp2_with fail
                          go_roundw
                          case rel => exact ⟨i + 1, by omega, by go_num, bw7⟩
                          case measure => simp [intOf] <;> omega
                        · by_cases hh : he = 0
                          · subst hh
                            rcases hans rfl rfl with hne | ⟨rfl, rfl⟩
                            · have q1 := str_differ hne
                              clear hans hne
                              go_wp2_with fail
                              go_roundw
                              case rel => exact ⟨i + 1, by omega, by go_num, bw7⟩
                              case measure => simp [intOf] <;> omega
                            · clear hans
                              by_cases hus : ub = s
                              · subst hus
                                go_wp2_with fail
                                go_roundw
                                case rel => exact ⟨i + 1, by omega, by go_num, bw7⟩
                                case measure => simp [intOf] <;> omega
                              · have q1 := str_differ hus
                                clear hus
                                go_wp2_with fail
                                go_roundw
                                case rel => exact ⟨i + 1, by omega, by go_num, bw7⟩
                                case measure => simp [intOf] <;> omega
                          · clear hans
                            go_wp2_with fail
                            go_roundw
                            case rel => exact ⟨i + 1, by omega, by go_num, bw7⟩
                            case measure => simp [intOf] <;> omega
                · clear p1 p2 l2
                  go_wp2
                  go_ret
                  exact ⟨rfl, t2.trans (bw.mono t2.size)⟩
              · clear p1 p2 l2
                go_wp2
                go_ret
                exact ⟨rfl, t2.trans (bw.mono t2.size)⟩
      · rw [hde, hA, hB]
        clear hde hA hB p1 p2 l2 hsmall
        go_wp2
        go_ret
        exact ⟨rfl, t2⟩
end Go.Proofs.Ytbehkmihmffoeaa
