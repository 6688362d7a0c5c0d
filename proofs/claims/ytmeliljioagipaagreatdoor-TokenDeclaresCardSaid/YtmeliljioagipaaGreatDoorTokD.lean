/-
  The statements' walks: awake, TokenTwo.
  The statements' walks: TokenTwo.
  The statements' walks: TokenTags.
  The statements' walks: TokenDeclares.
  From a reading of the arguments to what the walks ask: bytes in memory; a builder that hands on the listed variables and the world's shape.
  The environment's facts, out of the world's shape and of what the rows list.
-/
import Derived.Test.YtmeliljioagipaaGreatDoorTokC
import Derived.Test.YtmeliljioagipaaGreatDoorTexts
import Derived.ProofKit
import Derived.OpenShut
import Derived.ShutString
import Derived.ChangeOld
import Derived.LaidMore
import Derived.Lay
import Derived.Handed
import Derived.SizedLaws
import Derived.Deep.Slices
import Derived.Lib.SmallJoins
import Derived.Lib.LaidTab
import Derived.Stop.LaidErr
import Derived.Stop.Joined
import Derived.Shelf.Vars
namespace Go.Proofs.YtmeliljioagipaaGreatDoor
open Go.RowKit

namespace T
def awakeToks : List Tok := [⟨0, [97], [([98], [49])], false, []⟩, ⟨2, [], [], true, [120, 60]⟩, ⟨1, [97], [], false, []⟩]
theorem awake_tokens : tokens [60, 97, 32, 98, 61, 39, 49, 39, 62, 120, 38, 108, 116, 59, 60, 47, 97, 62] = .ok awakeToks := by rfl
theorem awake_doctype : tokens [60, 33, 68, 79, 67, 84, 89, 80, 69, 32, 97, 62] = .error 72 := by rfl
end T

theorem pairsIn_new {b : Nat} {l : List Pair} {w : World} {T : TypeId} {fr : Nat × Nat} (h : w.heap[b]? = some (.cells (l.flatMap pairCells).toArray T fr)) : PairsIn w (some ⟨b, 0, none⟩) l := by
  intro j hj
  have k0 := cells_of_pairs l j 0 hj (by decide)
  have k1 := cells_of_pairs l j 1 hj (by decide)
  refine ⟨b, 0, rfl, ?_, ?_⟩
  · simp only [World.cell?, h]
    simpa [pairCells] using k0
  · simp only [World.cell?, h]
    simpa [pairCells, Nat.add_assoc] using k1
theorem heap_alloc_new' (w : World) (o : Obj) {n : Nat} (h : n = w.heap.size) : (w.alloc o).heap[n]? = some o := by subst h; exact heap_alloc_new w o

set_option maxRecDepth 100000 in
set_option maxHeartbeats 3200000 in
theorem awake_any (w : World) (hE : Env w) : Calls Tryz.prog 6 #[] w fun e w' => e = .returned (.bool true) ∧ Below w.heap.size w w' := by
  have a1 := Lib.hid (T.told_ok T.awake_tokens)
  have a2 := Lib.hid (T.told_err T.awake_doctype)
  go_enter Tryz.func6, Tryz.ntmps6
  have t0 := Below.refl w.heap.size w
  go_wp2_with fail
  (with_reducible refine (tTokens_any _ _ (by decide) hE).mono ?_)
  rintro e w1 ⟨ao, cap, L, rfl, hL, hin, hcap, b1⟩
  rw [a1.out.2]
  have hsm := told_small hL (by decide)
  replace hL := Lib.hid (hL.trans a1.out.1)
  have t1 := t0.trans (b1.mono t0.size)
  go_wp2_with fail
  (with_reducible refine (tTokens_any _ _ (by decide) (hE.on t1)).mono ?_)
  rintro e w2 ⟨ao2, cap2, L2, rfl, hL2, hin2, hcap2, b2⟩
  rw [a2.out.2]
  have t2 := t1.trans (b2.mono t1.size)
  have hin' := hin.below b2
  clear hL2 hin2 hcap2 hcap hin b1 b2
  go_wp2_with fail
  have t3 := (t2.alloc t2.size (.cells #[.string { data := #[98] }, .string { data := #[49] }] 34))
  (with_reducible refine (same_any (n2 := 3) L [(⟨0, [97], [([98], [49])], false, []⟩, .slice (some ⟨w2.heap.size, 0, none⟩) 1 1), (⟨2, [], [], true, [120, 60]⟩, .slice none 0 0), (⟨1, [97], [], false, []⟩, .slice none 0 0)] _ ?_ ?_ (by omega) hsm.2 rfl rfl).mono ?_)
  · exact hin'.below (((Below.refl _ _).alloc (Nat.le_refl _) _).alloc (by simp) _)
  · refine toksIn_new (heap_alloc_new' _ _ (by simp)) ?_
    intro x hx
    simp only [List.mem_cons, List.not_mem_nil, or_false] at hx
    rcases hx with rfl | rfl | rfl
    · refine ⟨_, _, rfl, PairsIn.below (w := w2.alloc (.cells #[.string { data := #[98] }, .string { data := #[49] }] 34)) ?_ ((Below.refl _ _).alloc (Nat.le_refl _) _)⟩
      exact pairsIn_new (l := [mpair ([98], [49])]) (heap_alloc_new w2 _)
    · exact attrs_nil _
    · exact attrs_nil _
  rintro e w3 ⟨rfl, b3⟩
  rw [decide_eq_true (by rw [hL.out]; rfl)]
  have t4 := t3.alloc t3.size (.cells #[.int .i64 0, .string { data := #[97] }, .slice (some ⟨w2.heap.size, 0, none⟩) 1 1, .bool false, .string { data := #[] }, .int .i64 2, .string { data := #[] }, .slice none 0 0, .bool true, .string { data := #[120, 60] }, .int .i64 1, .string { data := #[97] }, .slice none 0 0, .bool false, .string { data := #[] }] 29)
  have t5 := t4.trans (b3.mono t4.size)
  go_wp2
  go_ret
  exact ⟨rfl, t5⟩
end Go.Proofs.YtmeliljioagipaaGreatDoor
namespace Go.Proofs.YtmeliljioagipaaGreatDoor
open Go.RowKit

theorem tokE_zero {l : List UInt8} (h : T.tokE l = 0) : T.tokens l = .ok (T.toks l) := by
  cases hl : T.tokens l with
  | ok a => rw [(T.told_ok hl).1]
  | error e =>
    have h2 := (T.told_err hl).2
    have := T.tokens_err hl
    omega
theorem tokE_nat (l : List UInt8) : ∃ n : Nat, T.tokE l = (n : Int) := by
  cases hl : T.tokens l with
  | ok a => exact ⟨0, (T.told_ok hl).2⟩
  | error e => exact ⟨e, (T.told_err hl).2⟩
theorem bytes_join (s t : ByteArray) : (s ++ t).data.toList = s.data.toList ++ t.data.toList := by simp
theorem head_of_map {L : List (T.Tok × Value)} {a : List T.Tok} (h : L.map Prod.fst = a) (k : Nat) (hk : k < L.length) : a[k]? = some L[k].1 := by
  rw [← h]; simp [hk]

set_option maxRecDepth 100000 in
set_option maxHeartbeats 6400000 in
theorem two_any (s t : ByteArray) (w : World) (hs : s.size ≤ maxLen) (ht : t.size ≤ maxLen) (hE : Env w) : Calls Tryz.prog 3 #[.string s, .string t] w fun e w' => e = .returned (.bool true) ∧ Below w.heap.size w w' := by
  unfold maxLen at hs ht
  go_enter Tryz.func3, Tryz.ntmps3
  go_wp2_with fail
  (with_reducible refine (awake_any _ hE).mono ?_)
  rintro e w1 ⟨rfl, t1⟩
  by_cases hs2 : s.size ≤ 2000
  · by_cases ht2 : t.size ≤ 2000
    · have f1 : decide (2000 < (s.size : Int)) = false := decide_eq_false (by omega)
      have f2 : decide (2000 < (t.size : Int)) = false := decide_eq_false (by omega)
      go_wp2_with fail
      (with_reducible refine (tTokens_any s _ (by omega) (hE.on t1)).mono ?_)
      rintro e w2 ⟨ao, cap, L, rfl, hL, hin, hcap, b2⟩
      have hsmL := told_small hL (by omega)
      have t2 := t1.trans (b2.mono t1.size)
      go_wp2_with fail
      (with_reducible refine (tTokens_any t _ (by omega) (hE.on t2)).mono ?_)
      rintro e w3 ⟨bo, cap2, M, rfl, hM, hin2, hcap2, b3⟩
      have hsmM := told_small hM (by omega)
      have t3 := t2.trans (b3.mono t2.size)
      replace hin := hin.below b3
      clear b2 b3
      by_cases he : T.tokE s.data.toList = 0
      · by_cases hf : T.tokE t.data.toList = 0
        · have hts := tokE_zero he
          have htt := tokE_zero hf
          rw [he, hf]
          rw [← hL] at hts
          rw [← hM] at htt
          by_cases hl0 : L.length = 0
          · rw [hl0]
            clear hts htt he hf hL hM hin hin2 hcap hcap2 hsmL hsmM hl0
            go_wp2
            all_goals go_ret
            all_goals exact ⟨rfl, t3⟩
          obtain ⟨n, hn⟩ : ∃ n, L.length = n + 1 := ⟨L.length - 1, by omega⟩
          have hnle : n ≤ 100000 := by omega
          have x1 : ((n : Int) + 1 == 0) = false := beq_eq_false_iff_ne.2 (by omega)
          by_cases hm0 : M.length = 0
          · rw [hm0, hn]
            clear hts htt he hf hL hM hin hin2 hcap hcap2 hsmL hsmM hm0 hl0 hn
            go_wp2
            all_goals go_ret
            all_goals exact ⟨rfl, t3⟩
          obtain ⟨m, hm⟩ : ∃ m, M.length = m + 1 := ⟨M.length - 1, by omega⟩
          have hmle : m ≤ 100000 := by omega
          have x2 : ((m : Int) + 1 == 0) = false := beq_eq_false_iff_ne.2 (by omega)
          obtain ⟨b, off, eao, c0, -, -, -, -, -⟩ := hin.cells (j := n) (by omega) (t := L[n].1) (v := L[n].2) rfl
          obtain ⟨b', off', ebo, d0, -, -, -, -, -⟩ := hin2.cells (j := 0) (by omega) (t := M[0].1) (v := M[0].2) rfl
          rw [Nat.zero_mul, Nat.add_zero] at d0
          generalize hkn : L[n].1.kind = kn at c0
          generalize hkm : M[0].1.kind = km at d0
          replace hin := Lib.hid hin
          replace hin2 := Lib.hid hin2
          replace hcap := Lib.hid hcap
          replace hcap2 := Lib.hid hcap2
          replace hL := Lib.hid hL
          replace hM := Lib.hid hM
          replace hts := Lib.hid hts
          replace htt := Lib.hid htt
          replace hn := Lib.hid hn
          replace hm := Lib.hid hm
          replace hkn := Lib.hid hkn
          replace hkm := Lib.hid hkm
          replace eao := Lib.hid eao
          replace ebo := Lib.hid ebo
          clear he hf hl0 hm0
          rw [hn.out, hm.out, eao.out, ebo.out]
          by_cases k1 : kn = 2
          · subst k1
            go_wp2
            all_goals go_ret
            all_goals exact ⟨rfl, t3⟩
          have y1 : ((kn : Int) == 2) = false := beq_eq_false_iff_ne.2 (by omega)
          by_cases k2 : km = 2
          · subst k2
            go_wp2
            all_goals go_ret
            all_goals exact ⟨rfl, t3⟩
          have y2 : ((km : Int) == 2) = false := beq_eq_false_iff_ne.2 (by omega)
          by_cases k3 : km = 5
          · subst k3
            go_wp2
            all_goals go_ret
            all_goals exact ⟨rfl, t3⟩
          have y3 : ((km : Int) == 5) = false := beq_eq_false_iff_ne.2 (by omega)
          replace k2 := Lib.hid k2
          replace k3 := Lib.hid k3
          clear k1
          have hin3 := hin.out
          rw [eao.out] at hin3
          have hLn : (rowCells ([] : List (T.Tok × Value))) = [] := rfl
          go_wp2_with (at_builtin; refine wpList_append_toks rfl _ _ rfl w3.heap.size (.slice none 0 0) [] L rfl (World.ownsRow_nil _ _ _ _) (some ⟨b, off, none⟩) cap (by rw [hn.out]; rfl) hin3 (fun e => by cases e) (by simp; omega) (Nat.le_refl _) L rfl ?_)
          intro v4 w4 hown4 b4
          replace hown4 : Hid (w4.ownsRow w3.heap.size 29 5 v4 L.length (rowCells L)) := Lib.hid (by first | exact hown4.out | (rw [hn.out]; exact hown4.out))
          have hin4 := hin2.out.below b4
          rw [ebo.out] at hin4
          go_wp2_with (at_builtin; refine wpList_append_toks rfl _ _ rfl w3.heap.size v4 L M rfl hown4.out (some ⟨b', off', none⟩) cap2 (by rw [hm.out]; rfl) hin4 (fun e => by cases e) (by omega) b4.size (L ++ M) rfl ?_)
          intro v5 w5 hown5 b5
          replace hown5 : Hid (w5.ownsRow w3.heap.size 29 5 v5 (L ++ M).length (rowCells (L ++ M))) := Lib.hid (by first | exact hown5.out | (rw [List.length_append, hn.out, hm.out]; exact hown5.out))
          have b45 := b4.trans b5
          obtain ⟨qo, qc, rfl, hinW⟩ := toks_of_row hown5.out (fun x hx => by
            simp only [List.mem_append] at hx
            rcases hx with hx | hx
            · exact (toks_attrs hin.out x hx).below b45
            · exact (toks_attrs hin2.out x hx).below b45)
          have t5 := t3.trans (b45.mono t3.size)
          have htwo := T.tokens_two hts.out htt.out (by intro e; have := congrArg List.length e; simp [hn.out] at this) (x := M[0].1) (y := (M.map Prod.fst).drop 1) (by
            have : 0 < M.length := by rw [hm.out]; omega
            cases M with
            | nil => simp at this
            | cons z M => rfl) (by rw [hkm.out]; exact k2.out) (by rw [hkm.out]; exact k3.out) (by rw [list_len, list_len]; omega)
          rw [← bytes_join] at htwo
          obtain ⟨h6, h7⟩ := T.told_ok htwo
          replace h6 := Lib.hid h6
          replace htwo := Lib.hid htwo
          replace h7 := Lib.hid h7
          have hzz : (s ++ t).size ≤ 4000 := by rw [ByteArray.size_append]; omega
          have hlw : (L ++ M).length = n + 1 + (m + 1) := by simp [hn.out, hm.out]
          replace hlw := Lib.hid hlw
          clear hown4 hown5 hin3 hin4 hLn b4 b5 b45
          go_wp2_with fail
          (with_reducible refine (tTokens_any (s ++ t) _ (by omega) (hE.on t5)).mono ?_)
          rintro e w6 ⟨co, cap3, K, rfl, hK, hinK, -, b6⟩
          have hsmK := told_small hK (by omega)
          have t6 := t5.trans (b6.mono t5.size)
          replace hK := Lib.hid (hK.trans h6.out)
          replace hinW := hinW.below b6
          rw [h7.out]
          generalize s ++ t = st at *
          go_wp2_with fail
          (with_reducible refine (same_any (n2 := n + 1 + (m + 1)) K (L ++ M) _ hinK hinW (by omega) hsmK.2 rfl hlw.out).mono ?_)
          rintro e w7 ⟨rfl, b7⟩
          rw [decide_eq_true (by rw [hK.out]; simp)]
          have t7 := t6.trans (b7.mono t6.size)
          go_wp2
          go_ret
          exact ⟨rfl, t7⟩
        · obtain ⟨et, het⟩ := tokE_nat t.data.toList
          rw [he, het]
          rw [het] at hf
          have g : ((et : Int) != 0) = true := by rw [bne, beq_eq_false_iff_ne.2 hf]; rfl
          clear hL hM hin hin2 hcap hcap2 hsmL hsmM he het hf
          go_wp2
          all_goals go_ret
          all_goals exact ⟨rfl, t3⟩
      · obtain ⟨es, hes⟩ := tokE_nat s.data.toList
        obtain ⟨et, het⟩ := tokE_nat t.data.toList
        rw [hes, het]
        rw [hes] at he
        have g : ((es : Int) != 0) = true := by rw [bne, beq_eq_false_iff_ne.2 he]; rfl
        clear hL hM hin hin2 hcap hcap2 hsmL hsmM he hes het
        go_wp2
        all_goals go_ret
        all_goals exact ⟨rfl, t3⟩
    · have f1 : decide (2000 < (s.size : Int)) = false := decide_eq_false (by omega)
      have f2 : decide (2000 < (t.size : Int)) = true := decide_eq_true (by omega)
      clear hs2 ht2
      go_wp2
      all_goals go_ret
      all_goals exact ⟨rfl, t1⟩
  · have f1 : decide (2000 < (s.size : Int)) = true := decide_eq_true (by omega)
    clear hs2
    go_wp2
    all_goals go_ret
    all_goals exact ⟨rfl, t1⟩
end Go.Proofs.YtmeliljioagipaaGreatDoor
namespace Go.Proofs.YtmeliljioagipaaGreatDoor
open Go.RowKit

/-- The comment and the instruction that are put behind. -/
def tagRow : List (T.Tok × Value) := [(⟨3, [], [], false, [32, 45, 32]⟩, .slice none 0 0), (⟨4, [112], [], false, [113, 32]⟩, .slice none 0 0)]

set_option maxRecDepth 100000 in
set_option maxHeartbeats 6400000 in
theorem tags_any (s : ByteArray) (w : World) (hs : s.size ≤ maxLen) (hE : Env w) : Calls Tryz.prog 4 #[.string s] w fun e w' => e = .returned (.bool true) ∧ Below w.heap.size w w' := by
  unfold maxLen at hs
  go_enter Tryz.func4, Tryz.ntmps4
  go_wp2_with fail
  (with_reducible refine (awake_any _ hE).mono ?_)
  rintro e w1 ⟨rfl, t1⟩
  by_cases hs2 : s.size ≤ 2000
  · have f1 : decide (2000 < (s.size : Int)) = false := decide_eq_false (by omega)
    have hz : (s ++ (⟨#[60, 33, 45, 45, 32, 45, 32, 45, 45, 62, 60, 63, 112, 32, 32, 113, 32, 63, 62]⟩ : ByteArray)).size = s.size + 19 := by rw [ByteArray.size_append]; rfl
    have hj : (s ++ (⟨#[60, 33, 45, 45, 32, 45, 32, 45, 45, 62, 60, 63, 112, 32, 32, 113, 32, 63, 62]⟩ : ByteArray)).data.toList = s.data.toList ++ T.tags := bytes_join _ _
    go_wp2_with fail
    (with_reducible refine (tTokens_any s _ (by omega) (hE.on t1)).mono ?_)
    rintro e w2 ⟨ao, cap, L, rfl, hL, hin, hcap, b2⟩
    have hsmL := told_small hL (by omega)
    have t2 := t1.trans (b2.mono t1.size)
    go_wp2_with fail
    (with_reducible refine (tTokens_any (s ++ ⟨#[60, 33, 45, 45, 32, 45, 32, 45, 45, 62, 60, 63, 112, 32, 32, 113, 32, 63, 62]⟩) _ (by omega) (hE.on t2)).mono ?_)
    rintro e w3 ⟨bo, cap2, K, rfl, hK, hinK, -, b3⟩
    have hsmK := told_small hK (by omega)
    have t3 := t2.trans (b3.mono t2.size)
    replace hin := hin.below b3
    rw [hj] at hK ⊢
    clear b2 b3 hj hz
    generalize s ++ (⟨#[60, 33, 45, 45, 32, 45, 32, 45, 45, 62, 60, 63, 112, 32, 32, 113, 32, 63, 62]⟩ : ByteArray) = st at *
    by_cases he : T.tokE s.data.toList = 0
    · have hts := tokE_zero he
      rw [← hL] at hts
      have htg := T.tokens_tags hts (by rw [list_len]; omega)
      obtain ⟨h6, h7⟩ := T.told_ok htg
      rw [he, h7]
      replace hK := Lib.hid (hK.trans h6)
      replace hL := Lib.hid hL
      replace hts := Lib.hid hts
      replace htg := Lib.hid htg
      replace h6 := Lib.hid h6
      replace h7 := Lib.hid h7
      replace hcap := Lib.hid hcap
      replace hin := Lib.hid hin
      clear he
      have hlen := hsmL.1
      go_wp2_with (at_builtin; refine wpList_append_toks rfl _ _ rfl w3.heap.size (.slice none 0 0) [] L rfl (World.ownsRow_nil _ _ _ _) ao cap rfl hin.out hcap.out (by simp; omega) (Nat.le_refl _) L rfl ?_)
      intro v4 w4 hown4 b4
      go_wp2_with (at_builtin; refine wpList_append_toks rfl _ _ rfl w3.heap.size v4 L tagRow rfl (World.ownsRow.alloc hown4.out _) (some ⟨w4.heap.size, 0, none⟩) 2 rfl (toksIn_new (heap_alloc_new w4 _) (by
          intro x hx
          simp only [tagRow, List.mem_cons, List.not_mem_nil, or_false] at hx
          rcases hx with rfl | rfl <;> exact attrs_nil _)) (fun e => by cases e) (by simp [tagRow]; omega) (Nat.le_trans b4.size (by simp)) (L ++ tagRow) rfl ?_)
      intro v5 w5 hown5 b5
      replace hown5 : Hid (w5.ownsRow w3.heap.size 29 5 v5 (L ++ tagRow).length (rowCells (L ++ tagRow))) := Lib.hid (by first | exact hown5.out | (rw [List.length_append]; exact hown5.out))
      have b45 := (b4.alloc b4.size _).trans b5
      obtain ⟨qo, qc, rfl, hinW⟩ := toks_of_row hown5.out (fun x hx => by
        simp only [List.mem_append] at hx
        rcases hx with hx | hx
        · exact (toks_attrs hin.out x hx).below b45
        · simp only [tagRow, List.mem_cons, List.not_mem_nil, or_false] at hx
          rcases hx with rfl | rfl <;> exact attrs_nil _)
      have t5 := t3.trans (b45.mono t3.size)
      replace hinK := hinK.below b45
      have hd := Lib.hid (show decide (K.map Prod.fst = (L ++ tagRow).map Prod.fst) = true from decide_eq_true (by rw [hK.out, List.map_append]; rfl))
      obtain ⟨q, hq⟩ : ∃ q, (L ++ tagRow).length = q := ⟨_, rfl⟩
      have hq2 : L.length + 2 = q := by rw [← hq, List.length_append]; rfl
      rw [hq]
      replace hq := Lib.hid hq
      have hK1 := hsmK.1
      clear hown4 hown5 b4 b5 b45 hcap
      go_wp2_with fail
      (with_reducible refine (same_any (n2 := q) K (L ++ tagRow) _ hinK hinW (by omega) hsmK.2 rfl hq.out).mono ?_)
      rintro e w6 ⟨rfl, b6⟩
      rw [hd.out]
      have t6 := t5.trans (b6.mono t5.size)
      go_wp2
      go_ret
      exact ⟨rfl, t6⟩
    · obtain ⟨es, hes⟩ := tokE_nat s.data.toList
      have hl0 : L.length = 0 := by
        have h2 : T.toks s.data.toList = [] := by
          cases hx : T.tokens s.data.toList with
          | ok a => exact absurd (T.told_ok hx).2 he
          | error e => exact (T.told_err hx).1
        rw [h2] at hL
        simpa using congrArg List.length hL
      rw [hes, hl0]
      rw [hes] at he
      have g : ((es : Int) != 0) = true := by rw [bne, beq_eq_false_iff_ne.2 he]; rfl
      clear hL hK hin hinK hcap hsmL hsmK he hes hl0
      go_wp2
      all_goals go_ret
      all_goals exact ⟨rfl, t3⟩
  · have f1 : decide (2000 < (s.size : Int)) = true := decide_eq_true (by omega)
    clear hs2
    go_wp2
    all_goals go_ret
    all_goals exact ⟨rfl, t1⟩
end Go.Proofs.YtmeliljioagipaaGreatDoor
namespace Go.Proofs.YtmeliljioagipaaGreatDoor
open Go.RowKit

/-- What is told of two texts' tokens, one behind the other. -/
def JoinTold (l : List UInt8) (w : World) (e : Ending) (w' : World) : Prop :=
  ∃ (ao : Option Addr) (cap : Nat) (L : List (T.Tok × Value)), e = .returned (.tuple #[.slice ao L.length cap, .int .i64 (T.tokE l)]) ∧ L.map Prod.fst = T.toks l ∧ ToksIn w' ao L ∧ L.length ≤ 100000 ∧ (∀ x ∈ L, x.1.attrs.length ≤ 1000000) ∧ Below w.heap.size w w'
theorem tokens_join (l : List UInt8) (a s : ByteArray) (w : World) (ha : a.data.toList = l) (hs : l.length + s.size ≤ 100000) (hE : Env w) : Calls Tryz.prog 7 #[.string (a ++ s)] w (JoinTold (l ++ s.data.toList) w) := by
  have hj : (a ++ s).data.toList = l ++ s.data.toList := by rw [bytes_join, ha]
  have hz : (a ++ s).size = l.length + s.size := by rw [← list_len, hj, List.length_append, list_len]
  refine (tTokens_any (a ++ s) w (by omega) hE).mono ?_
  rintro e w' ⟨ao, cap, L, rfl, hL, hin, -, b⟩
  have hsm := told_small hL (by omega)
  exact ⟨ao, cap, L, by rw [hj], by rw [hL, hj], hin, hsm.1, hsm.2, b⟩

def declRow : List (T.Tok × Value) := [(⟨5, [], [], false, []⟩, .slice none 0 0)]

set_option maxRecDepth 100000 in
set_option maxHeartbeats 6400000 in
/-- behind the tests: what is had of both texts. -/
theorem declares_any (s : ByteArray) (w : World) (hs : s.size ≤ maxLen) (hE : Env w) : Calls Tryz.prog 5 #[.string s] w fun e w' => e = .returned (.bool true) ∧ Below w.heap.size w w' := by
  unfold maxLen at hs
  go_enter Tryz.func5, Tryz.ntmps5
  go_wp2_with fail
  (with_reducible refine (awake_any _ hE).mono ?_)
  rintro e w1 ⟨rfl, t1⟩
  by_cases hs2 : s.size ≤ 2000
  · have f1 : decide (2000 < (s.size : Int)) = false := decide_eq_false (by omega)
    have hz2 : (s ++ (⟨#[60, 97, 47, 62, 60, 63, 120, 109, 108, 32, 118, 101, 114, 115, 105, 111, 110, 61, 39, 49, 46, 48, 39, 63, 62]⟩ : ByteArray)).size = s.size + 25 := by rw [ByteArray.size_append]; rfl
    have hj2 : (s ++ (⟨#[60, 97, 47, 62, 60, 63, 120, 109, 108, 32, 118, 101, 114, 115, 105, 111, 110, 61, 39, 49, 46, 48, 39, 63, 62]⟩ : ByteArray)).data.toList = s.data.toList ++ T.late := bytes_join _ _
    go_wp2_with fail
    (with_reducible refine (tTokens_any s _ (by omega) (hE.on t1)).mono ?_)
    rintro e w2 ⟨ao, cap, L, rfl, hL, hin, hcap, b2⟩
    have hsmL := told_small hL (by omega)
    have t2 := t1.trans (b2.mono t1.size)
    clear b2
    by_cases he : T.tokE s.data.toList = 0
    · have hts := tokE_zero he
      rw [← hL] at hts
      rw [he]
      clear he
      replace hcap := Lib.hid hcap
      replace hin := Lib.hid hin
      by_cases hk : ∀ x y, L.map Prod.fst = x :: y → x.kind ≠ 5
      · obtain ⟨g1, g2⟩ := T.tokens_declares hts hk (by rw [list_len]; omega)
        rw [← hj2] at g2
        obtain ⟨h6, h7⟩ := T.told_ok g1
        obtain ⟨h8, h9⟩ := T.told_err g2
        replace g1 := Lib.hid g1
        replace g2 := Lib.hid g2
        replace h6 := Lib.hid h6
        replace h7 := Lib.hid h7
        replace h8 := Lib.hid h8
        replace h9 := Lib.hid h9
        replace hL := Lib.hid hL
        replace hts := Lib.hid hts
        have key : ∀ n, L.length = n + 1 → ∃ b off kn, ao = some ⟨b, off, none⟩ ∧ w2.cell? ⟨b, off, none⟩ = some (.int .i64 ((kn : Nat) : Int)) ∧ kn ≠ 5 := fun n hn => by
          obtain ⟨b, off, e, c0, -⟩ := hin.out.cells (j := 0) (by omega) (t := L[0].1) (v := L[0].2) rfl
          rw [Nat.zero_mul, Nat.add_zero] at c0
          refine ⟨b, off, _, e, c0, hk L[0].1 ((L.map Prod.fst).drop 1) ?_⟩
          have : 0 < L.length := by omega
          cases L with
          | nil => simp at this
          | cons z M => rfl
        replace key := Lib.hid key
        replace hj2 := Lib.hid hj2
        clear hk
        have hlen := hsmL.1
        by_cases hl0 : L.length = 0
        · have hn : Hid (L.length = 0) := Lib.hid hl0
          rw [hl0]
          clear hl0 key
          go_wp2_with fail
          (with_reducible refine (tokens_join T.decl10 _ s _ ?_ ?_ (hE.on t2)).mono ?_)
          · rfl
          · show 38 + s.size ≤ 100000
            omega
          rintro e w3 ⟨bo, cap2, K, rfl, hK, hinK, hK1, hK2, b3⟩
          have t3 := t2.trans (b3.mono t2.size)
          replace hin := Lib.hid (hin.out.below b3)
          replace hK := Lib.hid (hK.trans h6.out)
          rw [h7.out]
          clear b3
          go_wp2_with fail
          (with_reducible refine (tTokens_any (s ++ ⟨#[60, 97, 47, 62, 60, 63, 120, 109, 108, 32, 118, 101, 114, 115, 105, 111, 110, 61, 39, 49, 46, 48, 39, 63, 62]⟩) _ (by omega) (hE.on t3)).mono ?_)
          rintro e w4 ⟨bo2, cap3, K2, rfl, hM2, hinM2, -, b4⟩
          have t4 := t3.trans (b4.mono t3.size)
          replace hin := hin.out.below b4
          replace hinK := hinK.below b4
          rw [h9.out]
          clear b4 hM2 hinM2
          go_wp2_with (at_builtin; refine wpList_append_toks rfl _ _ rfl w4.heap.size (.slice none 0 0) [] declRow rfl (World.ownsRow_nil _ _ _ _) (some ⟨w4.heap.size, 0, none⟩) 1 rfl (toksIn_new (heap_alloc_new w4 _) (by
              intro x hx
              simp only [declRow, List.mem_cons, List.not_mem_nil, or_false] at hx
              subst hx
              exact attrs_nil _)) (fun e => by cases e) (by simp [declRow]) (by simp) declRow rfl ?_)
          intro v5 w5 hown5 b5
          have b45 := ((Below.refl w4.heap.size w4).alloc (Nat.le_refl _) _).trans b5
          have hin5 := hin.below b45
          replace hin5 := Lib.hid hin5
          replace hown5 : Hid (w5.ownsRow w4.heap.size 29 5 v5 declRow.length (rowCells declRow)) := Lib.hid hown5.out
          go_wp2_with (at_builtin; refine wpList_append_toks rfl _ _ rfl w4.heap.size v5 declRow L rfl hown5.out ao cap (by rw [hn.out]; rfl) hin5.out hcap.out (by simp [declRow]; omega) b45.size (declRow ++ L) rfl ?_)
          intro v6 w6 hown6 b6
          replace hown6 : Hid (w6.ownsRow w4.heap.size 29 5 v6 (declRow ++ L).length (rowCells (declRow ++ L))) := Lib.hid (by first | exact hown6.out | (rw [List.length_append]; exact hown6.out) | (rw [List.length_append, hn.out]; exact hown6.out))
          have b46 := b45.trans b6
          obtain ⟨qo, qc, rfl, hinW⟩ := toks_of_row hown6.out (fun x hx => by
            simp only [List.mem_append] at hx
            rcases hx with hx | hx
            · simp only [declRow, List.mem_cons, List.not_mem_nil, or_false] at hx
              subst hx
              exact attrs_nil _
            · exact (toks_attrs hin x hx).below b46)
          have t6 := t4.trans (b46.mono t4.size)
          replace hinK := hinK.below b46
          have hd := Lib.hid (show decide (K.map Prod.fst = (declRow ++ L).map Prod.fst) = true from decide_eq_true (by rw [hK.out, List.map_append]; rfl))
          obtain ⟨q, hq⟩ : ∃ q, (declRow ++ L).length = q := ⟨_, rfl⟩
          rw [hq]
          replace hq := Lib.hid hq
          clear hown5 hown6 b5 b6 b45 b46 hcap hin hin5
          go_wp2_with fail
          (with_reducible refine (same_any (n2 := q) K (declRow ++ L) _ hinK hinW (by omega) hK2 rfl hq.out).mono ?_)
          rintro e w7 ⟨rfl, b7⟩
          rw [hd.out]
          have t7 := t6.trans (b7.mono t6.size)
          go_wp2
          go_ret
          exact ⟨rfl, t7⟩
        · obtain ⟨n, hn⟩ : ∃ n, L.length = n + 1 := ⟨L.length - 1, by omega⟩
          obtain ⟨b, off, kn, eao, c0, hkn⟩ := key.out n hn
          have x1 : (0 : Int) < (n : Int) + 1 := by omega
          have x2 : decide ((0 : Int) < (n : Int) + 1) = true := decide_eq_true (by omega)
          have y1 : ((kn : Int) == 5) = false := beq_eq_false_iff_ne.2 (by omega)
          have hnle : n ≤ 100000 := by omega
          rw [hn, eao]
          replace hn := Lib.hid hn
          replace eao := Lib.hid eao
          clear hl0 key hkn
          go_wp2_with fail
          (with_reducible refine (tokens_join T.decl10 _ s _ ?_ ?_ (hE.on t2)).mono ?_)
          · rfl
          · show 38 + s.size ≤ 100000
            omega
          rintro e w3 ⟨bo, cap2, K, rfl, hK, hinK, hK1, hK2, b3⟩
          have t3 := t2.trans (b3.mono t2.size)
          replace hin := Lib.hid (hin.out.below b3)
          replace hK := Lib.hid (hK.trans h6.out)
          rw [h7.out]
          clear b3
          go_wp2_with fail
          (with_reducible refine (tTokens_any (s ++ ⟨#[60, 97, 47, 62, 60, 63, 120, 109, 108, 32, 118, 101, 114, 115, 105, 111, 110, 61, 39, 49, 46, 48, 39, 63, 62]⟩) _ (by omega) (hE.on t3)).mono ?_)
          rintro e w4 ⟨bo2, cap3, K2, rfl, hM2, hinM2, -, b4⟩
          have t4 := t3.trans (b4.mono t3.size)
          replace hin := hin.out.below b4
          replace hinK := hinK.below b4
          rw [h9.out]
          clear b4 hM2 hinM2
          go_wp2_with (at_builtin; refine wpList_append_toks rfl _ _ rfl w4.heap.size (.slice none 0 0) [] declRow rfl (World.ownsRow_nil _ _ _ _) (some ⟨w4.heap.size, 0, none⟩) 1 rfl (toksIn_new (heap_alloc_new w4 _) (by
              intro x hx
              simp only [declRow, List.mem_cons, List.not_mem_nil, or_false] at hx
              subst hx
              exact attrs_nil _)) (fun e => by cases e) (by simp [declRow]) (by simp) declRow rfl ?_)
          intro v5 w5 hown5 b5
          have b45 := ((Below.refl w4.heap.size w4).alloc (Nat.le_refl _) _).trans b5
          have hin5 := hin.below b45
          replace hin5 := Lib.hid hin5
          have hin6 := hin5.out
          rw [eao.out] at hin6
          replace hin6 := Lib.hid hin6
          replace hown5 : Hid (w5.ownsRow w4.heap.size 29 5 v5 declRow.length (rowCells declRow)) := Lib.hid hown5.out
          go_wp2_with (at_builtin; refine wpList_append_toks rfl _ _ rfl w4.heap.size v5 declRow L rfl hown5.out (some ⟨b, off, none⟩) cap (by rw [hn.out]; rfl) hin6.out (fun e => by cases e) (by simp [declRow]; omega) b45.size (declRow ++ L) rfl ?_)
          intro v6 w6 hown6 b6
          replace hown6 : Hid (w6.ownsRow w4.heap.size 29 5 v6 (declRow ++ L).length (rowCells (declRow ++ L))) := Lib.hid (by first | exact hown6.out | (rw [List.length_append]; exact hown6.out) | (rw [List.length_append, hn.out]; exact hown6.out))
          have b46 := b45.trans b6
          obtain ⟨qo, qc, rfl, hinW⟩ := toks_of_row hown6.out (fun x hx => by
            simp only [List.mem_append] at hx
            rcases hx with hx | hx
            · simp only [declRow, List.mem_cons, List.not_mem_nil, or_false] at hx
              subst hx
              exact attrs_nil _
            · exact (toks_attrs hin x hx).below b46)
          have t6 := t4.trans (b46.mono t4.size)
          replace hinK := hinK.below b46
          have hd := Lib.hid (show decide (K.map Prod.fst = (declRow ++ L).map Prod.fst) = true from decide_eq_true (by rw [hK.out, List.map_append]; rfl))
          obtain ⟨q, hq⟩ : ∃ q, (declRow ++ L).length = q := ⟨_, rfl⟩
          rw [hq]
          replace hq := Lib.hid hq
          clear hown5 hown6 b5 b6 b45 b46 hcap hin hin5 hin6
          go_wp2_with fail
          (with_reducible refine (same_any (n2 := q) K (declRow ++ L) _ hinK hinW (by omega) hK2 rfl hq.out).mono ?_)
          rintro e w7 ⟨rfl, b7⟩
          rw [hd.out]
          have t7 := t6.trans (b7.mono t6.size)
          go_wp2
          go_ret
          exact ⟨rfl, t7⟩
      · have hk2 : ∃ b off n, ao = some ⟨b, off, none⟩ ∧ w2.cell? ⟨b, off, none⟩ = some (.int .i64 5) ∧ L.length = n + 1 := by
          cases L with
          | nil => exact absurd (fun x y e => by cases e) hk
          | cons z M =>
            obtain ⟨b, off, e, c0, -⟩ := hin.out.cells (j := 0) (by simp) (t := z.1) (v := z.2) rfl
            rw [Nat.zero_mul, Nat.add_zero] at c0
            have h5 : z.1.kind = 5 := by
              rcases Nat.decEq z.1.kind 5 with h | h
              · exact absurd (fun x y e => by cases e; exact h) hk
              · exact h
            rw [h5] at c0
            exact ⟨b, off, M.length, e, c0, rfl⟩
        obtain ⟨b, off, n, eao, c0, hn⟩ := hk2
        have x1 : (0 : Int) < (n : Int) + 1 := by omega
        have x2 : decide ((0 : Int) < (n : Int) + 1) = true := decide_eq_true (by omega)
        rw [hn, eao]
        clear hk hL hts hin hcap hsmL hj2 hz2 hn eao
        go_wp2
        all_goals go_ret
        all_goals exact ⟨rfl, t2⟩
    · obtain ⟨es, hes⟩ := tokE_nat s.data.toList
      rw [hes]
      rw [hes] at he
      have g : ((es : Int) != 0) = true := by rw [bne, beq_eq_false_iff_ne.2 he]; rfl
      clear hL hin hcap hsmL he hes hj2 hz2
      go_wp2
      all_goals go_ret
      all_goals exact ⟨rfl, t2⟩
  · have f1 : decide (2000 < (s.size : Int)) = true := decide_eq_true (by omega)
    clear hs2
    go_wp2
    all_goals go_ret
    all_goals exact ⟨rfl, t1⟩
end Go.Proofs.YtmeliljioagipaaGreatDoor
namespace Go.Proofs.YtmeliljioagipaaGreatDoor
open Go.ChangeShapes Go.WideShapes Go.ChangeAt Go.RowKit Go.Deep

theorem own : ownKnob Tryz.prog.godebug = none := by kernel_rfl
theorem laidOut : laidOutB Tryz.prog = true := by kernel_rfl

/-- The listed variables, and the world's shape, are handed on to the contract. -/
theorem handed_on {H : Type} {enc : TypeId × Value → H} {a : Assume} {C : Checked} {os : Os} {f : FuncId} {fn : Func} {s : ChangeSpec} {conds : List PathCond} {apart fresh handsOn again : Bool} {X : World → Array Value → Prop}
    (hX : ∀ (w w' : World) (args : Array Value), w.heap = w'.heap → X w args → X w' args)
    (ownK : ownKnob C.prog.godebug = none) (started : os.Started) (noInit : C.prog.inits.idxOf? f = none) (hfn : C.prog.funcs[f]? = some fn)
    (witness : ∃ (w : World) (tape : Tape) (i : Input), w.os = os ∧ (w.forCall tape i).Shaped C.prog ∧ i.vars = [] ∧ Input.okWide C.prog (w.forCall tape i) .any w.heap.size f i ∧
      ((s.pre enc C.prog fn conds apart (w.forCall tape i).memory i.args ∧ X (w.forCall tape i).memory i.args) ∧ sizedMet enc C.prog fn (OpenSpec.ofChange s) apart (w.forCall tape i).memory i.args) ∧ a.holds C.prog (lone (Frame.enter C.prog f i.args .normal) [] (w.forCall tape i)))
    (contract : ∀ (W : World) (base : Nat) (args : Array Value) (ds gs : List (DataW H)) (before : List MemPlace),
      (∀ (j : Nat) t v, fn.params[j]? = some t → args[j]? = some v → Value.okWide C.prog W .any base t v) →
      DataW.Whole enc C.prog fn.params.toList s.vars apart W args.toList ds gs before →
      (DataW.weightsEach C.prog (fn.params.toList ++ s.plain.varTypes C.prog) (ds ++ gs)).all (· ≤ reachBytes) = true → X W args → W.ShapedOpen C.prog →
      Calls C.prog f args W fun e W' => ∃ v, e = .returned v ∧ s.post enc C.prog fn apart fresh handsOn again W args v W') :
    ReturnsInHanded a C os f .any (fun w args => (s.pre enc C.prog fn conds apart w args ∧ X w args) ∧ sizedMet enc C.prog fn (OpenSpec.ofChange s) apart w args) (s.post enc C.prog fn apart fresh handsOn again) := by
  refine returnsInHanded_of_calls ownK started noInit witness ?_
  intro w tape i _ hsh _ hok hpre _
  obtain ⟨_, _, _, fn', hfn', _, _, _, _, hval⟩ := hok
  obtain rfl : fn' = fn := Option.some.inj (hfn'.symm.trans hfn)
  obtain ⟨⟨⟨ds, gs, before, hw, _⟩, hx⟩, hz⟩ := hpre
  refine (contract (w.forCall tape i) w.heap.size i.args ds gs before hval (DataW.Whole.of_heap (w' := w.forCall tape i) (by rfl) hw) (hz.weights hw) (hX _ _ _ (by rfl) hx) hsh).mono fun e W' ⟨v, he, hp⟩ => ?_
  subst he
  exact ChangeSpec.post_blind hp

theorem bytes_open {H : Type} {enc : TypeId × Value → H} {W : World} {spare : Nat → Bool} {held : Bool} {v : Value} {d : DataW H} {p : List MemPlace} (hv : ∃ a len cap, v = .slice a len cap) (h : DataW.Trod enc Tryz.prog W 0 spare held 75 v d p) :
    ∃ (ao : Option Addr) (cap : Nat) (L : List UInt8), v = .slice ao L.length cap ∧ BytesAt ao L W ∧ L.length ≤ maxLen := by
  obtain ⟨a, len, cap, rfl⟩ := hv
  obtain ⟨fuel, hf⟩ := h
  rcases open_slice Tryz.underlying75 hf with ⟨hcs, _⟩ | ⟨a', len', cap', m, n, D, Pl, hcs, _, hl, hm, hmm, _, hall⟩
  · simp [Value.cells] at hcs
    obtain ⟨rfl, rfl, rfl⟩ := hcs
    exact ⟨none, 0, [], rfl, fun j hj => by simp at hj, by unfold maxLen; simp⟩
  · simp [Value.cells] at hcs
    obtain ⟨rfl, rfl, rfl⟩ := hcs
    have hlm : len ≤ m := by rw [hmm]; split <;> omega
    have c1 : Tryz.prog.cellsOf 5 = 1 := by kernel_rfl
    have hrow : ∀ i, i < len → ∃ b : UInt8, W.cell? (a'.add i) = some (.int .u8 (b.toNat : Int)) := fun i hi => by
      obtain ⟨cs, hc, ht⟩ := hall i (by omega)
      rw [c1, Nat.mul_one] at hc
      obtain ⟨n2, e2, _, z2⟩ := DataW.trod_int Tryz.underlying5 ht
      subst e2
      obtain ⟨_, _, hat⟩ := World.cells?_some hc
      have h1 := hat 0 (by rw [c1] at *; simp)
      have hb : 0 ≤ n2 ∧ n2 ≤ 255 := by
        simp [Lit.wf, IntKind.min, IntKind.max, IntKind.signed, IntKind.bits] at z2
        omega
      refine ⟨UInt8.ofNat n2.toNat, ?_⟩
      rw [show ((UInt8.ofNat n2.toNat).toNat : Int) = n2 by simp; omega]
      simpa [Addr.add] using h1
    obtain ⟨R, hR⟩ := choose_lt hrow
    refine ⟨some a', cap, (List.range len).map R, by simp, fun j hj => ?_, by simp; omega⟩
    have hj' : j < len := by simpa using hj
    obtain ⟨b, off, sp⟩ := a'
    have h0 := hR j hj'
    have hsp : sp = none := by
      cases sp with
      | none => rfl
      | some q =>
        exfalso
        by_cases hj0 : j = 0
        · subst hj0
          simp only [Addr.add, if_true] at h0
          unfold World.cell? at h0
          split at h0 <;> simp at h0
        · have h00 := hR 0 (by omega)
          simp only [Addr.add, if_true] at h00
          unfold World.cell? at h00
          split at h00 <;> simp at h00
    subst hsp
    simp only [add_plain] at h0
    simp only [List.getElem_map, List.getElem_range]
    exact ⟨b, off, rfl, h0⟩
end Go.Proofs.YtmeliljioagipaaGreatDoor
namespace Go.Proofs.YtmeliljioagipaaGreatDoor
open Go.ChangeShapes Go.WideShapes Go.ChangeAt Go.RowKit Go.Deep Go.Stop

/-- What the rows list. -/
abbrev listed : List (String × DataW Unit) := Rows.tokenTwoRow.laid

theorem errorRow (u : TypeId) (h : Tryz.prog.typeName? 3 u = some "*errors.errorString") : u = 161 :=
  typeName_ptr_named (nm := "errors.errorString") (by kernel_rfl) (by kernel_rfl) (by decide) u h

theorem mostCell {w : World} (h : w.ShapedOpen Tryz.prog) : ∃ m, w.cell? ⟨3, 0, none⟩ = some (.int .i64 m) :=
  cell_of_shapedOpen_int (zero := #[.int .i64 0]) (t := 3) h (of_decide_eq_true (by kernel_rfl)) (by kernel_rfl) (by kernel_rfl) (by kernel_rfl) (by kernel_rfl) (by kernel_rfl)

theorem cell_of_var {W : World} {n : String} {g : Nat} {v : Value} (hg : Tryz.prog.globalNamed n = some g) (h : W.var? Tryz.prog n = some #[v]) : W.cell? ⟨g, 0, none⟩ = some v := by
  have h0 := World.var?_cell hg h 0
  simpa using h0

/-- The table of letters. -/
def foldTab : List Int := (List.range 128).map fun n => ((other n : Nat) : Int)
theorem foldTab_at {n : Nat} (h : n < 128) : (foldTab.map fun z => Value.int .u16 z).toArray[n]? = some (.int .u16 (other n : Nat)) := by
  unfold foldTab
  simp [h]

theorem envAt_of {W : World} (h : laidMetH Tryz.prog listed W) (hs : W.ShapedOpen Tryz.prog) : EnvAt W := by
  rw [MakeChecks.laidMetH_plain _ _ _ (by kernel_rfl)] at h
  have hr := h.tail.tail.tail.tail
  obtain ⟨a1, s1, hv1, -, -, -⟩ := laid_sentinel hr (show Tryz.prog.globalNamed "strconv.ErrRange" = some 8 by kernel_rfl) (show (Tryz.prog.globals[8]?).map (·.type) = some 80 by kernel_rfl) Tryz.underlying80 errorRow Tryz.underlying161 Tryz.underlying163 rfl rfl Tryz.underlying9 (by kernel_rfl) (by kernel_rfl)
  obtain ⟨a0, s0, hv0, -, -, -⟩ := laid_sentinel hr.tail (show Tryz.prog.globalNamed "strconv.ErrSyntax" = some 7 by kernel_rfl) (show (Tryz.prog.globals[7]?).map (·.type) = some 80 by kernel_rfl) Tryz.underlying80 errorRow Tryz.underlying161 Tryz.underlying163 rfl rfl Tryz.underlying9 (by kernel_rfl) (by kernel_rfl)
  have ht : Lib.TabIs Tryz.prog W "unicode.asciiFold" .u16 foldTab := Lib.tabIs_of_head (g := 0) (t := 91) (e := 90) (n := 128) (by kernel_rfl) (by kernel_rfl) Tryz.underlying91 Tryz.underlying90 (by kernel_rfl) (by kernel_rfl) hr.tail.tail
  obtain ⟨a2, s2, hv2, -, -, -⟩ := laid_sentinel hr.tail.tail.tail.tail (show Tryz.prog.globalNamed "broadsheet/escape.errNoReference" = some 6 by kernel_rfl) (show (Tryz.prog.globals[6]?).map (·.type) = some 80 by kernel_rfl) Tryz.underlying80 errorRow Tryz.underlying161 Tryz.underlying163 rfl rfl Tryz.underlying9 (by kernel_rfl) (by kernel_rfl)
  refine ⟨mostCell hs, ⟨_, cell_of_var (by kernel_rfl) hv2⟩, ⟨_, _, cell_of_var (by kernel_rfl) hv0⟩, ⟨_, _, cell_of_var (by kernel_rfl) hv1⟩, fun n hn => ?_⟩
  have := World.var?_cell (show Tryz.prog.globalNamed "unicode.asciiFold" = some 0 by kernel_rfl) ht n
  rw [foldTab_at hn] at this
  exact this
end Go.Proofs.YtmeliljioagipaaGreatDoor
