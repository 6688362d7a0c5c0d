/-
  The program's own Print of media types.
-/
import Derived.Test.YtbaodnmgggdcjaaDoorProgSmall
import Derived.Test.YtbaodnmgggdcjaaDoorMediaEnv
import Derived.Test.YtbaodnmgggdcjaaDoorRepl
import Derived.Test.YtbaodnmgggdcjaaDoorBuilderK
import Derived.Deep.DeepCutAuto
import Derived.Deep.RegionHeld3
namespace Go.Proofs.YtbaodnmgggdcjaaDoor
open Go.RowKit

namespace Md
theorem esc_two (l : List UInt8) : (l.flatMap fun b => if b = 92 then [92, 92] else [b]).flatMap (fun b => if b = 34 then [92, 34] else [b]) = esc l := by
  unfold esc
  induction l with
  | nil => rfl
  | cons b t ih =>
    rw [List.flatMap_cons, List.flatMap_append, ih, List.flatMap_cons]
    congr 1
    by_cases h : b = 92
    · subst h; rfl
    · rw [if_neg h]
      by_cases h2 : b = 34
      · subst h2; rfl
      · simp [h, h2]
end Md
theorem tk_all {v : ByteArray} : tkA v = v ↔ Md.tokR v.data.toList = [] := by
  have h := Md.tok_tokR v.data.toList
  constructor
  · intro e
    have e2 : Md.tok v.data.toList = v.data.toList := by rw [← tkA_list, e]
    rw [e2] at h
    simpa using h
  · intro e
    apply bytes_eq
    rw [tkA_list]
    rw [e, List.append_nil] at h
    exact h

theorem replaced {s : ByteArray} {c x y : UInt8} (hne : ([c] == [x, y]) = false) (hs : s.size ≤ 1000000) (w : World) (hm : ∃ m, w.cell? ⟨2, 0, none⟩ = some (.int .i64 m)) :
    Calls Tryd.prog 42 #[.string s, .string ⟨#[c]⟩, .string ⟨#[x, y]⟩] w fun e w' => e = .returned (.string ⟨(s.data.toList.flatMap fun b => if b = c then [x, y] else [b]).toArray⟩) ∧ Below w.heap.size w w' := by
  obtain ⟨m, hm⟩ := hm
  have hc := Lib.countB_le ⟨#[c]⟩ (Nat.le_refl _) s.size s (Nat.le_refl _)
  refine (Tryd.strings_ReplaceAll s ⟨#[c]⟩ ⟨#[x, y]⟩ m w (by omega) hm (Nat.le_refl _) (by
    show s.size + Lib.countB s ⟨#[c]⟩ * 2 ≤ _
    omega)).mono ?_
  rintro e w' ⟨rfl, b⟩
  refine ⟨?_, b⟩
  show Ending.returned (.string ⟨(Lib.replaceAll s.data.toList [c] [x, y]).toArray⟩) = _
  rw [Rp.one c [x, y] hne]

set_option maxRecDepth 100000 in
set_option maxHeartbeats 3200000 in
theorem valueText_any (v : ByteArray) (w : World) (hs : v.size ≤ 100000) (hE : Env w) :
    Calls Tryd.prog 31 #[.string v] w fun e w' => e = .returned (.string (qoA v)) ∧ Below w.heap.size w w' := by
  have A0 : At w.heap.size v (w.alloc (.cells #[.string v] 43)) := ⟨Cells.new _ _ _, hs⟩
  have B0 := (Below.refl w.heap.size w).alloc (Nat.le_refl _) (.cells #[.string v] 43)
  have hq1 : Hid (Md.isTok v.data.toList = true → qoA v = v) := Lib.hid (fun h => by apply bytes_eq; rw [qoA_list, Md.quote, if_pos h])
  have hq2 : Hid (¬ Md.isTok v.data.toList = true → ∀ r : ByteArray, r.data.toList = Md.esc v.data.toList → qoA v = ⟨#[34]⟩ ++ r ++ ⟨#[34]⟩) := Lib.hid (fun h r hr => by
    apply bytes_eq
    rw [qoA_list, Md.quote, if_neg h, ByteArray.data_append, ByteArray.data_append, Array.toList_append, Array.toList_append, hr]
    rfl)
  generalize qoA v = Q at *
  replace A0 := Lib.hid A0
  replace B0 := Lib.hid B0
  replace hE := Lib.hid hE
  obtain ⟨T, hT⟩ : ∃ T, T = tkA v := ⟨_, rfl⟩
  have htk := Lib.hid (fun W hA => token_any w.heap.size v W hA)
  rw [← hT] at htk
  have hall : Hid (Md.isTok v.data.toList = true ↔ 0 < v.size ∧ T = v) := Lib.hid (by
    rw [hT, tk_all, Md.isTok_iff]
    constructor
    · rintro ⟨h1, h2⟩
      refine ⟨?_, h2⟩
      rcases Nat.eq_zero_or_pos v.size with h0 | h0
      · exact absurd (by rw [nil_of_size h0]; rfl) h1
      · exact h0
    · rintro ⟨h1, h2⟩
      refine ⟨fun e => ?_, h2⟩
      have h := Md.tok_tokR v.data.toList
      rw [e, h2] at h
      exact not_nil h1 h.symm)
  have hsA : (⟨(v.data.toList.flatMap fun b => if b = 92 then [92, 92] else [b]).toArray⟩ : ByteArray).size ≤ 2 * v.size := by
    rw [← list_len, mk_list]
    have := Rp.one_length 92 92 92 v.data.toList
    rw [list_len] at this
    exact this
  have rep1 := Lib.hid (fun W hm => replaced (s := v) (c := 92) (x := 92) (y := 92) rfl (by omega) W hm)
  have rep2 := Lib.hid (fun W hm => replaced (s := ⟨(v.data.toList.flatMap fun b => if b = 92 then [92, 92] else [b]).toArray⟩) (c := 34) (x := 92) (y := 34) rfl (by omega) W hm)
  rw [show ((⟨(v.data.toList.flatMap fun b => if b = 92 then [92, 92] else [b]).toArray⟩ : ByteArray).data.toList.flatMap fun b => if b = 34 then [92, 34] else [b]) = Md.esc v.data.toList by rw [mk_list, Md.esc_two]] at rep2
  have hsB : (⟨(Md.esc v.data.toList).toArray⟩ : ByteArray).size ≤ 2 * v.size := by
    rw [← list_len, mk_list]
    have := esc_length v.data.toList
    rw [list_len] at this
    exact this
  have hrl : Hid ((⟨(Md.esc v.data.toList).toArray⟩ : ByteArray).data.toList = Md.esc v.data.toList) := Lib.hid (mk_list _)
  generalize (⟨(Md.esc v.data.toList).toArray⟩ : ByteArray) = r2 at *
  generalize (⟨(v.data.toList.flatMap fun b => if b = 92 then [92, 92] else [b]).toArray⟩ : ByteArray) = r1 at *
  replace hT := Lib.hid hT
  have one1 : (⟨#[34]⟩ : ByteArray).size = 1 := rfl
  have n1 : ¬ 9223372036854775807 < 1 + r2.size := by omega
  have n2 : ¬ 9223372036854775807 < 1 + r2.size + 1 := by omega
  go_enter Tryd.func31, Tryd.ntmps31
  go_upto_region 2 with fail
  generalize w.alloc (.cells #[.string v] 43) = w0 at *
  by_cases h0 : v.size = 0
  · have hfin := Lib.hid (hq2.out (fun e => by have := (hall.out.1 e).1; omega) r2 hrl.out)
    obtain rfl : v = ByteArray.empty := ByteArray.size_eq_zero_iff.1 h0
    have he3 : (ByteArray.empty.toList == []) = true := by rw [ByteArray.toList_eq]; rfl
    have he4 : (ByteArray.empty.toList != []) = false := by rw [ByteArray.toList_eq]; rfl
    have he2 : ByteArray.empty.toList = [] := by rw [ByteArray.toList_eq]; rfl
    go_wp2_with fail
    (with_reducible refine (rep1.out _ (hE.out.on B0.out).most).mono ?_); rintro e w1 ⟨rfl, b1⟩
    have B1 := Lib.hid (B0.out.trans (b1.mono B0.out.size))
    go_wp2_with fail
    (with_reducible refine (rep2.out _ (hE.out.on B1.out).most).mono ?_); rintro e w2 ⟨rfl, b2⟩
    have B2 := Lib.hid (B1.out.trans (b2.mono B1.out.size))
    go_wp2_with fail
    go_ret
    exact ⟨ret_str hfin.out.symm, B2.out⟩
  · have hp : 0 < v.size := by omega
    have hne3 : ¬ v.toList = [] := by
      rw [ByteArray.toList_eq]
      exact lst_ne hp
    have hne2 : (v.toList == []) = false := by
      rw [beq_eq_false_iff_ne]; exact hne3
    have hne4 : (v.toList != []) = true := by rw [bne, hne2]; rfl
    go_wp2_with fail
    (with_reducible refine (htk.out _ A0.out).mono ?_); rintro e w1 ⟨rfl, hA1, hg1⟩
    have B1 := Lib.hid (B0.out.grown hg1 B0.out.size (fun k e => by cases e; exact Nat.le_refl _))
    clear hA1 hg1
    by_cases hv : T = v
    · have hfin := Lib.hid (hq1.out (hall.out.2 ⟨hp, hv⟩))
      have hs := same_str hv
      clear hv
      go_wp2_with fail
      go_ret
      exact ⟨ret_str hfin.out.symm, B1.out⟩
    · have hfin := Lib.hid (hq2.out (fun e => hv (hall.out.1 e).2) r2 hrl.out)
      have hs := not_str hv
      clear hv
      go_wp2_with fail
      (with_reducible refine (rep1.out _ (hE.out.on B1.out).most).mono ?_); rintro e w2 ⟨rfl, b2⟩
      have B2 := Lib.hid (B1.out.trans (b2.mono B1.out.size))
      go_wp2_with fail
      (with_reducible refine (rep2.out _ (hE.out.on B2.out).most).mono ?_); rintro e w3 ⟨rfl, b3⟩
      have B3 := Lib.hid (B2.out.trans (b3.mono B2.out.size))
      go_wp2_with fail
      go_ret
      exact ⟨ret_str hfin.out.symm, B3.out⟩

theorem tellP_length (p : Pair) : (Md.tellP p).length ≤ 5 + p.name.size + 2 * p.value.size := by
  have := Md.quote_len p.value.data.toList
  rw [list_len] at this
  have e : (Md.tellP p).length = 2 + (p.name.data.toList.length + (1 + (Md.quote p.value.data.toList).length)) := by unfold Md.tellP; simp; omega
  rw [e, list_len]
  omega
theorem Cells.others {g b : Nat} {t : TypeId} {cs : Array Value} {w w' : World} (h : Cells w g t cs) (hb : g ≠ b) (hk : Lib.OthersKept 5 (some b) w w') (ht : t ≠ 5) : Cells w' g t cs :=
  hk g _ h (fun e => hb (Option.some.inj e)) fun c fz e => by injection e with _ e _; exact absurd e ht

set_option maxRecDepth 100000 in
set_option maxHeartbeats 6400000 in
theorem mPrint_any {ao : Option Addr} {cap n : Nat} (x y : ByteArray) (ps : List Pair) (w : World) (hp : PairsIn w ao ps) (hn : ps.length = n) (hl : n ≤ 100000) (hx : x.size ≤ 100000) (hy : y.size ≤ 100000) (hz : ∀ p ∈ ps, p.name.size ≤ 100000 ∧ p.value.size ≤ 100000) (hE : Env w) :
    Calls Tryd.prog 18 #[.agg #[.string x, .string y, .slice ao n cap]] w fun e w' => e = .returned (.string (mtA ⟨x, y, ps⟩)) ∧ Below w.heap.size w w' := by
  replace hn := Lib.hid hn
  replace hz := Lib.hid hz
  have bA := Lib.hid ((Below.refl w.heap.size w).alloc (Nat.le_refl _) (.cells #[.string x, .string y, .slice ao n cap] 25))
  have k0 := Box3.new w (.string x) (.string y) (.slice ao n cap)
  replace hE := Lib.hid hE
  replace hp := Lib.hid hp
  have one1 : (⟨#[47]⟩ : ByteArray).size = 1 := rfl
  have hres : Hid ((mtA ⟨x, y, ps⟩).data.toList = (x.data.toList ++ 47 :: y.data.toList) ++ ps.flatMap Md.tellP) := Lib.hid (by rw [mtA_list, Md.print]; simp)
  generalize mtA ⟨x, y, ps⟩ = R at *
  replace k0 := Lib.hid k0
  obtain ⟨H, hH⟩ : ∃ H : ByteArray, x ++ ⟨#[47]⟩ ++ y = H := ⟨_, rfl⟩
  have hHl : Hid (H.data.toList = x.data.toList ++ 47 :: y.data.toList) := Lib.hid (by rw [← hH]; simp)
  have hHz : H.size ≤ 200001 := by rw [← hH, ByteArray.size_append, ByteArray.size_append, one1]; omega
  go_enter Tryd.func18, Tryd.ntmps18
  go_upto_region 1 with fail
  generalize w.alloc (.cells #[.string x, .string y, .slice ao n cap] 25) = w0 at *
  have kb := builds_new w0
  have db := (Below.refl w0.heap.size w0).alloc (Nat.le_refl _) (.cells #[.pointer none, .slice none 0 0] 57)
  have k1 := Lib.hid (k0.out.on db)
  replace kb := Lib.hid kb
  replace db := Lib.hid db
  go_upto_region 2 with fail
  generalize w0.alloc (.cells #[.pointer none, .slice none 0 0] 57) = w1 at *
  have c0 := k1.out.c0
  have c1 := k1.out.c1
  have c2 := k1.out.c2
  have hws := Lib.hid (builder_writeString w0.heap.size w0.heap.size [] H w1 kb.out (by simp; omega) (by have := db.out.size; omega))
  go_wp2_with fail
  (with_reducible refine (hws.out).mono ?_); rintro e w2 ⟨rfl, h2, b2⟩
  have hlow : Hid (w.heap.size ≤ w0.heap.size) := Lib.hid bA.out.size
  have B2 := Lib.hid (bA.out.trans ((db.out.trans b2).mono hlow.out))
  have hB2 : Hid (Builds w0.heap.size w0.heap.size ((x.data.toList ++ 47 :: y.data.toList) ++ (ps.take 0).flatMap Md.tellP) w2) := Lib.hid (by rw [← hHl.out]; simpa using h2)
  have K2 := Lib.hid (show Box3 w2 w.heap.size (.string x) (.string y) (.slice ao n cap) from (b2.block _ k0.out.lt).trans k1.out)
  have hbs2 := Lib.hid (Nat.le_trans db.out.size b2.size)
  clear hws h2 b2 c0 c1 c2 k1 kb db hH
  have c2 := K2.out.c2
  have hlen0 : Hid (((x.data.toList ++ 47 :: y.data.toList) ++ (ps.take 0).flatMap Md.tellP).length ≤ 200001 + 300005 * 0) := Lib.hid (by rw [← hHl.out]; simp; omega)
  go_wp2_with fail
  clear c2
  go_loopw [5, 16] (fun _ i wr => ∃ k : Nat, k ≤ n ∧ i = .int .i64 (k : Int) ∧ Hid (Builds w0.heap.size w0.heap.size ((x.data.toList ++ 47 :: y.data.toList) ++ (ps.take k).flatMap Md.tellP) wr) ∧ Hid (((x.data.toList ++ 47 :: y.data.toList) ++ (ps.take k).flatMap Md.tellP).length ≤ 200001 + 300005 * k) ∧ Hid (Below w.heap.size w wr) ∧ Hid (w0.heap.size ≤ wr.heap.size)) (fun _ i _ => n - (intOf i).toNat)
  case atStart => exact ⟨0, Nat.zero_le _, rfl, hB2, hlen0, B2, hbs2⟩
  case round =>
    obtain ⟨k, hk, rfl, hB, hlen, bw, hs⟩ := hrel
    by_cases hlt : k < n
    · have hkl : k < ps.length := by rw [hn.out]; exact hlt
      obtain ⟨b, off, rfl, d0, d1⟩ := (hp.out.below bw.out) k hkl
      obtain ⟨z1, z2⟩ := hz.out ps[k] (List.getElem_mem hkl)
      have htl := tellP_length ps[k]
      have hmore : Hid ((x.data.toList ++ 47 :: y.data.toList) ++ (ps.take (k + 1)).flatMap Md.tellP = ((x.data.toList ++ 47 :: y.data.toList) ++ (ps.take k).flatMap Md.tellP) ++ Md.tellP ps[k]) := Lib.hid (by
        rw [List.take_succ_eq_append_getElem hkl, List.flatMap_append]; simp)
      have hlen2 : Hid (((x.data.toList ++ 47 :: y.data.toList) ++ (ps.take (k + 1)).flatMap Md.tellP).length ≤ 200001 + 300005 * (k + 1)) := Lib.hid (by
        rw [hmore.out, List.length_append]
        have := hlen.out
        omega)
      generalize (x.data.toList ++ 47 :: y.data.toList) ++ (ps.take k).flatMap Md.tellP = L0 at *
      generalize hL1 : (x.data.toList ++ 47 :: y.data.toList) ++ (ps.take (k + 1)).flatMap Md.tellP = L1 at *
      replace hL1 := Lib.hid hL1
      generalize ps[k] = a at *
      obtain ⟨an, av⟩ := a
      dsimp only at *
      have bP := (Below.refl wr.heap.size wr).alloc (Nat.le_refl _) (.cells #[.string an, .string av] 38)
      have Q := Lib.hid (Cells.new wr 38 #[.string an, .string av])
      have hB3 := Lib.hid (builds_below hB.out bP)
      have bw3 := Lib.hid (bw.out.trans (bP.mono bw.out.size))
      have hs3 := Lib.hid (Nat.le_trans hs.out bP.size)
      have hwb := Lib.hid (builds_lt hB.out)
      have hqz := qoA_size av
      have hql := Lib.hid (qoA_list av)
      have hquo := Lib.hid (fun W hW => valueText_any av W z2 hW)
      generalize qoA av = V at *
      clear hB bw bP hs
      go_upto_region 6 with fail
      clear d0 d1
      generalize wr.alloc (.cells #[.string an, .string av] 38) = w3 at *
      have s2 : (⟨#[59, 32]⟩ : ByteArray).size = 2 := rfl
      have s1 : (⟨#[61]⟩ : ByteArray).size = 1 := rfl
      have n1 : ¬ 9223372036854775807 < 2 + an.size := by omega
      have n2 : ¬ 9223372036854775807 < 2 + an.size + 1 := by omega
      have n3 : ¬ 9223372036854775807 < 2 + an.size + 1 + V.size := by omega
      have hX : Hid ((⟨#[59, 32]⟩ ++ an ++ ⟨#[61]⟩ ++ V).data.toList = Md.tellP ⟨an, av⟩) := Lib.hid (by
        simp only [ByteArray.data_append, Array.toList_append, hql.out, Md.tellP]
        simp)
      have hXz : Hid ((⟨#[59, 32]⟩ ++ an ++ ⟨#[61]⟩ ++ V).size ≤ 600000) := Lib.hid (by
        rw [ByteArray.size_append, ByteArray.size_append, ByteArray.size_append, s1, s2]; omega)
      have e0 := Q.out.cell (i := 0) rfl
      have e1 := Q.out.cell (i := 1) rfl
      have cV := Lib.hid ((hquo.out w3.drew (hE.out.on bw3.out.drew)).mono (fun e w' (h : e = .returned (.string V) ∧ Below w3.heap.size w3.drew w') => (⟨h.1, ⟨(Q.out.drew.on h.2).cell (i := 0) rfl, (Q.out.drew.on h.2).cell (i := 1) rfl⟩, (Below.refl w3.heap.size w3).drew.trans h.2⟩ : e = .returned (.string V) ∧ (w'.cell? ⟨wr.heap.size, 0, none⟩ = some (.string an) ∧ w'.cell? ⟨wr.heap.size, 1, none⟩ = some (.string av)) ∧ Below w3.heap.size w3 w')))
      have cW := Lib.hid (fun (W : World) (hW : Below w3.heap.size w3 W) => (builder_writeString_k w0.heap.size w0.heap.size L0 (⟨#[59, 32]⟩ ++ an ++ ⟨#[61]⟩ ++ V) W (builds_below hB3.out hW) (by have := hlen.out; have := hXz.out; omega) (by have := hs3.out; have := hW.size; omega)).mono (R' := fun e w' => e = .returned (.tuple #[.int .i64 ((⟨#[59, 32]⟩ ++ an ++ ⟨#[61]⟩ ++ V : ByteArray).size : Int), .nilIface]) ∧ (w'.cell? ⟨wr.heap.size, 0, none⟩ = some (.string an) ∧ w'.cell? ⟨wr.heap.size, 1, none⟩ = some (.string av)) ∧ Hid (Builds w0.heap.size w0.heap.size L1 w' ∧ Below w0.heap.size w3 w')) (fun e w' h =>
        have hc := (Q.out.on hW).others (by have := hwb.out; omega) h.2.2.2 (by decide)
        ⟨h.1, ⟨hc.cell (i := 0) rfl, hc.cell (i := 1) rfl⟩, Lib.hid ⟨by rw [hmore.out, ← hX.out]; exact h.2.1, (hW.mono hs3.out).trans h.2.2.1⟩⟩))
      clear hB3 Q hquo hX hXz hql hmore hlen
      go_region_held3 (fun w' => w'.cell? ⟨wr.heap.size, 0, none⟩ = some (.string an) ∧ w'.cell? ⟨wr.heap.size, 1, none⟩ = some (.string av)) (first | exact ⟨e0, e1⟩ | assumption)
        (first
          | (go_at_call 31; refine (cV.out).mono ?_; rintro e w' ⟨rfl, hcb, hb⟩)
          | (go_at_call 30; refine (cW.out _ hb).mono ?_; rintro e w' ⟨rfl, hcb, hl⟩))
      all_goals
        have hBf := Lib.hid hl.out.1
        have bF := Lib.hid (bw3.out.trans (hl.out.2.mono hlow.out))
        have hsF := Lib.hid (Nat.le_trans hs3.out hl.out.2.size)
        clear e0 e1 cV cW hcb hb hl
        go_wp2_with fail
        go_roundw
        case rel => exact ⟨k + 1, by omega, by go_num, by rw [hL1.out]; exact hBf, by rw [hL1.out]; exact hlen2, bF, hsF⟩
        case measure => simp [intOf]; omega
    · have hfin : Hid ((⟨((x.data.toList ++ 47 :: y.data.toList) ++ (ps.take k).flatMap Md.tellP).toArray⟩ : ByteArray) = R) := Lib.hid (by
        apply bytes_eq
        rw [hres.out, mk_list, List.take_of_length_le (by rw [hn.out]; omega)])
      have cs := Lib.hid (builder_string _ _ _ wr hB.out hs.out)
      go_wp2_with fail
      (with_reducible refine (cs.out).mono ?_); rintro e w4 ⟨rfl, _, b4⟩
      have bF := Lib.hid (bw.out.trans (b4.mono hlow.out))
      go_wp2_with fail
      go_ret
      exact ⟨ret_str (by rw [← hfin.out]; simp), bF.out⟩
end Go.Proofs.YtbaodnmgggdcjaaDoor
