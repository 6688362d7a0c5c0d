/-
  What reading the lines comes to: contracts of read and Parse.
-/
import Derived.Test.YtbfgniheagolgaaGreatDoorRead
namespace Go.Proofs.YtbfgniheagolgaaGreatDoor
open Go.RowKit

def rowCells (r : M.Row) : List Value := [.string r.name, .string r.file, .int .i64 r.size, .int .i64 r.sum]

/-- The call owns a row of these rows. -/
def OwnsRows (B : Nat) (v : Value) (l : List M.Row) (w : World) : Prop := w.ownsRow B 34 4 v l.length (l.flatMap rowCells)

theorem cells_of_rows : ∀ (l : List M.Row) (j i : Nat) (h : j < l.length), i < 4 → (l.flatMap rowCells)[j * 4 + i]? = (rowCells l[j])[i]?
  | [], j, i, h, _ => by simp at h
  | r :: l, 0, i, _, hi => by
    simp only [List.flatMap_cons, Nat.zero_mul, Nat.zero_add, List.getElem_cons_zero]
    rw [List.getElem?_append_left (by simpa [rowCells] using hi)]
  | r :: l, j + 1, i, h, hi => by
    simp only [List.flatMap_cons, List.getElem_cons_succ]
    rw [List.getElem?_append_right (by simp [rowCells]; omega)]
    have := cells_of_rows l j i (by simpa using h) hi
    rw [← this]
    congr 1
    simp [rowCells]; omega

theorem add_at (g n : Nat) : (⟨g, 0, none⟩ : Addr).add n = ⟨g, 0 + n, none⟩ := by
  unfold Addr.add; split <;> simp_all

theorem rows_of_owns {B : Nat} {v : Value} {l : List M.Row} {w : World} (h : OwnsRows B v l w) : ∃ ao cap, v = .slice ao l.length cap ∧ RowsAt w ao l := by
  unfold OwnsRows at h
  have hc := fun g hg => World.ownsRow.cells h (g := g) hg
  obtain ⟨hl, ⟨rfl, h0⟩ | ⟨g, cap, cur, rfl, hb, _⟩⟩ := h
  · have : l = [] := List.eq_nil_of_length_eq_zero h0
    subst this
    exact ⟨none, 0, rfl, fun j hj => by simp at hj⟩
  · refine ⟨_, cap, rfl, fun j hj => ⟨g, 0, rfl, ?_⟩⟩
    have k := fun (i : Nat) (hi : i < 4) u (hu : (rowCells l[j])[i]? = some u) => hc g rfl (j * 4 + i) u (by rw [cells_of_rows l j i hj hi]; exact hu)
    refine ⟨?_, ?_, ?_, ?_⟩
    · have := k 0 (by decide) _ rfl; rwa [add_at] at this
    · have := k 1 (by decide) _ rfl; rwa [add_at] at this
    · have := k 2 (by decide) _ rfl; rwa [add_at] at this
    · have := k 3 (by decide) _ rfl; rwa [add_at] at this

theorem infoRow : (Tryz.prog.info? 34).map (fun i => (i.zero, i.size, i.bytes)) = some (some (.agg #[.string ByteArray.empty, .string ByteArray.empty, .int .i64 0, .int .i64 0]), 4, 48) := by kernel_rfl

theorem cut_any (s : ByteArray) (m : Int) (w : World) (hs : s.size < 4294967281) (hm : w.cell? ⟨1, 0, none⟩ = some (.int .i64 m)) :
    Calls Tryz.prog 27 #[.string s, .string { data := #[10] }] w fun e w' => ∃ n, e = .returned (.tuple #[.string ⟨(Lib.cut s.data.toList [10]).1.toArray⟩, .string ⟨(Lib.cut s.data.toList [10]).2.1.toArray⟩, .bool (Lib.cut s.data.toList [10]).2.2]) ∧ w' = w.drewN n :=
  (Tryz.strings_Cut s { data := #[10] } m w hs hm).mono fun _ _ ⟨he, n, hw⟩ => ⟨n, he, hw⟩

theorem trim_any (l : List UInt8) (w : World) : Calls Tryz.prog 29 #[.string ⟨l.toArray⟩, .string { data := #[103, 101, 110, 101, 114, 97, 116, 105, 111, 110, 32] }] w fun e w' => e = .returned (.string ⟨(Lib.trimPrefix l (M.gen ++ [32])).toArray⟩) ∧ w = w' :=
  (Tryz.strings_TrimPrefix ⟨l.toArray⟩ { data := #[103, 101, 110, 101, 114, 97, 116, 105, 111, 110, 32] } w).mono fun _ _ ⟨he, hw⟩ => ⟨by rw [he]; rfl, hw.symm⟩

theorem number_list (l : List UInt8) (w : World) (hs : l.length ≤ 1000000) (hE : EnvAt w) :
    Calls Tryz.prog 28 #[.string ⟨l.toArray⟩] w fun e w' => e = .returned (.int .i64 (M.number l)) ∧ Below w.heap.size w w' :=
  (number_any ⟨l.toArray⟩ w (by have : (⟨l.toArray⟩ : ByteArray).size = l.length := by simp [ByteArray.size]
                                omega) hE).mono fun _ _ ⟨he, hw⟩ => ⟨by rw [he], hw⟩

theorem row_list (l : List UInt8) (w : World) (hs : l.length ≤ 1000000) (hE : Env w.heap.size w) :
    Calls Tryz.prog 30 #[.string ⟨l.toArray⟩] w fun e w' => ∃ (r : M.Row) (ok : Bool), e = .returned (.tuple #[.agg #[.string r.name, .string r.file, .int .i64 r.size, .int .i64 r.sum], .bool ok]) ∧ M.row l = (if ok then some r else none) ∧ Below w.heap.size w w' :=
  row_any ⟨l.toArray⟩ w (by have : (⟨l.toArray⟩ : ByteArray).size = l.length := by simp [ByteArray.size]
                            omega) hE

theorem cut_len (l : List UInt8) : (Lib.cut l [10]).1.length ≤ l.length ∧ (Lib.cut l [10]).2.1.length ≤ l.length := by
  unfold Lib.cut; split <;> simp <;> omega

theorem cut_list (l : List UInt8) (m : Int) (w : World) (hs : l.length ≤ 1000000) (hm : w.cell? ⟨1, 0, none⟩ = some (.int .i64 m)) :
    Calls Tryz.prog 27 #[.string ⟨l.toArray⟩, .string { data := #[10] }] w fun e w' => ∃ n, e = .returned (.tuple #[.string ⟨(Lib.cut l [10]).1.toArray⟩, .string ⟨(Lib.cut l [10]).2.1.toArray⟩, .bool (Lib.cut l [10]).2.2]) ∧ w' = w.drewN n :=
  cut_any ⟨l.toArray⟩ m w (by have : (⟨l.toArray⟩ : ByteArray).size = l.length := by simp [ByteArray.size]
                              omega) hm

def strLen (v : Value) : Nat := match v with
  | .string s => s.size
  | _ => 0

theorem cells_four (w : World) (a b c d : Value) (T : TypeId) : ∀ j u, ([a, b, c, d] : List Value)[j]? = some u → (w.alloc (.cells #[a, b, c, d] T)).cell? ((⟨w.heap.size, 0, none⟩ : Addr).add j) = some u := by
  intro j u hj
  have e := alloc_at (w := w) (.cells #[a, b, c, d] T) _ rfl
  obtain ⟨q0, q1, q2, q3⟩ := cells_at (rb := w.heap.size) e
  rw [add_at, Nat.zero_add]
  match j, hj with
  | 0, hj => simp at hj; subst hj; exact q0
  | 1, hj => simp at hj; subst hj; exact q1
  | 2, hj => simp at hj; subst hj; exact q2
  | 3, hj => simp at hj; subst hj; exact q3

theorem rows_alloc {B : Nat} {v : Value} {l : List M.Row} {w : World} (h : OwnsRows B v l w) (o : Obj) : OwnsRows B v l (w.alloc o) := World.ownsRow.alloc h o
theorem rows_below {B : Nat} {v : Value} {l : List M.Row} {w w' : World} (h : OwnsRows B v l w) (hb : Below w.heap.size w w') : OwnsRows B v l w' := World.ownsRow.kept h (grown_of_below hb none) (by
  obtain ⟨_, ⟨rfl, _⟩ | ⟨g, cap, cur, rfl, _⟩⟩ := h
  · exact .inl rfl
  · right; simp [Value.ownBlock])

set_option maxRecDepth 100000 in
set_option maxHeartbeats 1600000 in
theorem read_any (s : ByteArray) (w : World) (hs : s.size ≤ 1000000) (hE : Env w.heap.size w) :
    Calls Tryz.prog 20 #[.string s] w fun e w' => ∃ ao cap, e = .returned (.tuple #[.int .i64 (M.read s.data.toList).1, .slice ao (M.read s.data.toList).2.length cap]) ∧ RowsAt w' ao (M.read s.data.toList).2 ∧ Below w.heap.size w w' := by
  obtain ⟨i0, hi, hz0, hz1, hz2⟩ := info_parts infoRow
  obtain ⟨m, hm⟩ := hE.at.most
  go_enter Tryz.func20, Tryz.ntmps20
  go_wp2_with fail
  (with_reducible refine (cut_any s m _ (by omega) hm).mono ?_)
  rintro e w1 ⟨n1, rfl, rfl⟩
  have b1 : Below w.heap.size w (w.drewN n1) := below_drewN _ _
  have hsl : s.data.toList.length = s.size := by simp
  have hcl := cut_len s.data.toList
  have hrd : M.read s.data.toList = (M.number (Lib.trimPrefix (Lib.cut s.data.toList [10]).1 (M.gen ++ [32])), M.readRows (Lib.cut s.data.toList [10]).2.1) := rfl
  generalize (Lib.cut s.data.toList [10]).2.2 = fnd
  generalize hf : (Lib.cut s.data.toList [10]).1 = fs at hcl hrd ⊢
  generalize hr : (Lib.cut s.data.toList [10]).2.1 = rs at hcl hrd ⊢
  clear hf hr
  have hrd := Lib.hid hrd
  go_wp2_with fail
  (with_reducible refine (trim_any fs _).mono ?_)
  rintro e w2 ⟨rfl, rfl⟩
  have htl : (Lib.trimPrefix fs (M.gen ++ [32])).length ≤ fs.length := by unfold Lib.trimPrefix; split <;> simp
  go_wp2_with fail
  (with_reducible refine (number_list _ _ (by omega) (hE.on b1 (Nat.le_refl _)).at).mono ?_)
  rintro e w2 ⟨rfl, b2⟩
  have b02 : Below w.heap.size w w2 := b1.trans b2
  have hrd0 := hrd.out
  generalize M.number (Lib.trimPrefix fs (M.gen ++ [32])) = n at hrd0 ⊢
  have hrd1 := Lib.hid hrd0
  clear hrd0 hrd
  clear htl b2 b1
  go_wp2_with fail
  go_loopw [2, 3, 5] (fun nv v t wr => nv = .int .i64 n ∧ ∃ (acc : List M.Row) (tl : List UInt8), t = .string ⟨tl.toArray⟩ ∧ OwnsRows w.heap.size v acc wr ∧ acc ++ M.readRows tl = M.readRows rs ∧ acc.length + tl.length ≤ 1000000 ∧ Below w.heap.size w wr) (fun _ _ t _ => strLen t)
  case atStart => exact ⟨rfl, [], rs, rfl, World.ownsRow_nil _ _ _ _, rfl, by simp; omega, b02⟩
  case round =>
    obtain ⟨rfl, acc, tl, rfl, hown, heq, hlen, bw⟩ := hrel
    have hbs := bw.size
    obtain ⟨m2, hm2⟩ := (hE.on bw (Nat.le_refl _)).at.most
    have heq := Lib.hid heq
    have hcl2 := cut_len tl
    have hsome := fun r => M.readRows_some (s := tl) (r := r)
    have hnone := M.readRows_none (s := tl)
    have hshr := M.cut_shrinks tl
    go_wp2_with fail
    (with_reducible refine (cut_list tl m2 _ (by omega) hm2).mono ?_)
    rintro e w3 ⟨n3, rfl, rfl⟩
    generalize (Lib.cut tl [10]).2.2 = fnd2
    generalize (Lib.cut tl [10]).1 = line at hcl2 hsome hnone ⊢
    generalize (Lib.cut tl [10]).2.1 = behind at hcl2 hsome hshr ⊢
    have hsome := Lib.hid hsome
    have hnone := Lib.hid hnone
    have hshr := Lib.hid hshr
    have bw3 : Below w.heap.size w (wr.drewN n3) := bw.trans (below_drewN _ _)
    go_wp2_with fail
    (with_reducible refine (row_list line _ (by omega) (hE.on bw3 bw3.size)).mono ?_)
    rintro e w4 ⟨r, ok, rfl, hrow, b4⟩
    have bw4 : Below w.heap.size w w4 := bw3.trans (b4.mono hbs)
    have ho4 : OwnsRows w.heap.size u3 acc w4 := rows_below (w := wr.drewN n3) hown b4
    have hrow := Lib.hid hrow
    have hbs4 := bw4.size
    clear b4 hcl2
    cases ok
    · have hfin : acc = M.readRows rs := by rw [← heq.out, hnone.out (by rw [hrow.out]; rfl)]; simp
      obtain ⟨ao, cap, rfl, hRA⟩ := rows_of_owns (rows_alloc ho4 (.cells #[.string r.name, .string r.file, .int .i64 r.size, .int .i64 r.sum] 34))
      subst hfin
      clear hrow heq hsome hnone hshr
      go_wp2_with fail
      go_ret2
      exact ⟨ao, cap, by rw [hrd1.out]; rfl, by rw [hrd1.out]; exact hRA, bw4.alloc hbs4 _⟩
    · obtain ⟨hne, hstep⟩ := hsome.out r (by rw [hrow.out]; rfl)
      have hsh := hshr.out hne
      have heq2 := Lib.hid (show (acc ++ [r]) ++ M.readRows behind = M.readRows rs by rw [← heq.out, hstep]; simp)
      clear hrow heq hsome hnone hshr hstep hne
      have hlb := Lib.hid hlen
      go_wp2_with (at_builtin; refine wpList_append_own _ rfl _ _ 22 rfl w.heap.size 34 i0 _ 4 48 Tryz.underlying22 hi hz0 hz1 hz2 rfl (by decide) _ _ _ rfl (rows_alloc (rows_alloc ho4 _) _) ⟨w4.heap.size + 1, 0, none⟩ 1 1 (rowCells r) rfl rfl ?c1 ?c2 ?b1 ?b2 ?b3 ?_)
      case c1 =>
        intro j u hu
        have := cells_four (w4.alloc (.cells #[.string r.name, .string r.file, .int .i64 r.size, .int .i64 r.sum] 34)) _ _ _ _ 34 j u hu
        rwa [World.size_alloc] at this
      case c2 => intro u hu; simp [rowCells] at hu; rcases hu with rfl | rfl | rfl | rfl <;> rfl
      case b1 => unfold maxLen; omega
      case b2 => omega
      case b3 => simp; omega
      intro v5 w5 hown5 hg5 _
      have hga : w4.grownBy w5 u3.ownBlock := (World.grownBy_alloc w4 _ _).trans ((World.grownBy_alloc _ _ _).trans hg5)
      have b5 : Below w.heap.size w4 w5 := (Below.refl _ _).grown hga hbs4 (fun j e => (World.ownsRow.lt ho4 j e).1)
      have ho5 : OwnsRows w.heap.size v5 (acc ++ [r]) w5 := by
        unfold OwnsRows; simpa using hown5
      clear hown5
      go_wp2_with fail
      go_round
      case rel => exact ⟨rfl, acc ++ [r], behind, rfl, ho5, heq2.out, by have := hlb.out; simp; omega, bw4.trans b5⟩
      case measure => simpa [strLen, ByteArray.size] using hsh
end Go.Proofs.YtbfgniheagolgaaGreatDoor
