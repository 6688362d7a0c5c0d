/-
  What reading comes to: contracts of number, row, read, Parse.
-/
import Derived.Test.YtbfgniheagolgaaGreatDoorPrint
import Derived.StillTailTactics
import Derived.Deep.RegionWith
namespace Go.Proofs.YtbfgniheagolgaaGreatDoor
open Go.RowKit

theorem ends_so (e : Lib.NumEnd Int) : (∃ v, e = .ok v) ∨ e = .range ∨ e = Lib.NumEnd.ofOption none := by
  cases e <;> first | exact .inl ⟨_, rfl⟩ | exact .inr (.inl rfl) | exact .inr (.inr rfl)

set_option maxRecDepth 100000 in
theorem number_any (s : ByteArray) (w : World) (hs : s.size ≤ 281474976710656) (hE : EnvAt w) :
    Calls Tryz.prog 28 #[.string s] w fun e w' => e = .returned (.int .i64 (M.number s.data.toList)) ∧ Below w.heap.size w w' := by
  obtain ⟨tp1, p1, hv1⟩ := hE.syn
  obtain ⟨tp2, p2, hv2⟩ := hE.ran
  rcases ends_so (Lib.atoiAll s.data.toList) with ⟨v, h⟩ | h | h
  · have hm : Hid (M.number s.data.toList = v) := Lib.hid (by unfold M.number; rw [h])
    go_enter Tryz.func28, Tryz.ntmps28
    go_wp2_with fail
    (with_reducible refine (Tryz.strconv_Atoi_ok s (by omega) v h w).mono ?_)
    rintro e w1 ⟨rfl, hw⟩
    have hb : Below w.heap.size w w1 := by
      rcases hw with rfl | ⟨t, rfl⟩
      · exact Below.refl _ _
      · exact Lib.bytesWorld_below _ _ _
    clear hw h
    go_wp2
    go_ret
    exact ⟨ret_int hm.out.symm, hb⟩
  · have hm : Hid (M.number s.data.toList = -1) := Lib.hid (by unfold M.number; rw [h])
    go_enter Tryz.func28, Tryz.ntmps28
    go_wp2_with fail
    (with_reducible refine (Tryz.strconv_Atoi_range_var s hs h tp2 p2 w hv2).mono ?_)
    rintro e w1 ⟨N, rfl, _, _, hb⟩
    clear h
    go_wp2
    go_ret
    exact ⟨ret_int hm.out.symm, hb⟩
  · have hm : Hid (M.number s.data.toList = -1) := Lib.hid (by unfold M.number; rw [h]; rfl)
    go_enter Tryz.func28, Tryz.ntmps28
    go_wp2_with fail
    (with_reducible refine (Tryz.strconv_Atoi_syntax_var s hs h tp1 p1 w hv1).mono ?_)
    rintro e w1 ⟨N, rfl, _, _, hb⟩
    clear h
    go_wp2
    go_ret
    exact ⟨ret_int hm.out.symm, hb⟩

theorem words_of (s : ByteArray) (sep : ByteArray) (hsep : sep.data.toList = [32]) : (Lib.splitB sep 0 (min 5 (s.size + 1) - 1) s).map (·.data.toList) = Lib.splitN s.data.toList [32] 5 := by
  rw [Lib.splitB_data, hsep]
  unfold Lib.splitN
  rw [show s.data.toList.length = s.size by simp]

theorem row_none {s : List UInt8} {ws : List ByteArray} (h : ws.map (·.data.toList) = Lib.splitN s [32] 5) (hl : ws.length ≠ 4) : M.row s = none := by
  unfold M.row
  rw [← h]
  clear h
  rcases ws with _ | ⟨a, _ | ⟨b, _ | ⟨c, _ | ⟨d, _ | ⟨e, t⟩⟩⟩⟩⟩ <;> first | rfl | exact absurd rfl hl

theorem row_four {s : List UInt8} {a b c d : ByteArray} (h : [a, b, c, d].map (·.data.toList) = Lib.splitN s [32] 5) :
    M.row s = if M.num (M.number c.data.toList) && M.num (M.number d.data.toList) then some ⟨a, b, M.number c.data.toList, M.number d.data.toList⟩ else none := by
  unfold M.row
  rw [← h]
  simp

theorem four_of {ws : List ByteArray} (h : ws.length = 4) : ∃ a b c d, ws = [a, b, c, d] := by
  rcases ws with _ | ⟨a, _ | ⟨b, _ | ⟨c, _ | ⟨d, _ | ⟨e, t⟩⟩⟩⟩⟩ <;> simp_all

/-- The words of a line, as the library lays them. -/
def words (s : ByteArray) : List ByteArray := Lib.splitB { data := #[32] } 0 (min 5 (s.size + 1) - 1) s

theorem split_any (s : ByteArray) (m : Int) (w : World) (hs : s.size < 4294967281) (hm : w.cell? ⟨1, 0, none⟩ = some (.int .i64 m)) :
    Calls Tryz.prog 36 #[.string s, .string { data := #[32] }, .int .i64 5] w fun e w' => ∃ cap, e = .returned (.slice (some ⟨w.heap.size, 0, none⟩) (words s).length cap) ∧ w' = w.alloc (.cells (Lib.cellsOf (words s) cap) 9) :=
  (Tryz.strings_SplitN s { data := #[32] } 5 m w hs hm (by decide) (by decide) (by decide)).mono fun e w' h => ⟨_, h.1, h.2⟩

theorem words_are (s : ByteArray) : (words s).map (·.data.toList) = Lib.splitN s.data.toList [32] 5 := words_of s { data := #[32] } rfl

theorem row_end {R : Ending → World → Prop} {tmps : Array Value} {w : World} {rb : Nat} {a b : ByteArray} {x y : Int} {ok : Bool} (h2 : tmps[2]? = some (.pointer (some ⟨rb, 0, none⟩))) (h3 : tmps[3]? = some (.bool ok))
    (c0 : w.cell? ⟨rb, 0, none⟩ = some (.string a)) (c1 : w.cell? ⟨rb, 1, none⟩ = some (.string b)) (c2 : w.cell? ⟨rb, 2, none⟩ = some (.int .i64 x)) (c3 : w.cell? ⟨rb, 3, none⟩ = some (.int .i64 y))
    (hR : R (.returned (.tuple #[.agg #[.string a, .string b, .int .i64 x, .int .i64 y], .bool ok])) w) : bodyPost Tryz.prog Tryz.f30 R .ret { tmps := tmps, defers := [] } w := by
  refine ⟨rfl, _, ?_, hR⟩
  have l3 : 3 < tmps.size := (Array.getElem?_eq_some_iff.1 h3).1
  have g2 : tmps[2] = .pointer (some ⟨rb, 0, none⟩) := (Array.getElem?_eq_some_iff.1 h2).2
  have g3 : tmps[3] = .bool ok := (Array.getElem?_eq_some_iff.1 h3).2
  have l2 : 2 < tmps.size := by omega
  simp [results, Tryz.results30, go_sem, l2, l3, g2, g3, c0, c1, c2, c3]

theorem cells_at {w : World} {rb : Nat} {a b c d : Value} {T : TypeId} {fr : Nat × Nat} (h : w.heap[rb]? = some (.cells #[a, b, c, d] T fr)) :
    w.cell? ⟨rb, 0, none⟩ = some a ∧ w.cell? ⟨rb, 1, none⟩ = some b ∧ w.cell? ⟨rb, 2, none⟩ = some c ∧ w.cell? ⟨rb, 3, none⟩ = some d := by simp [World.cell?, h]

theorem cells_set {w : World} {N : Nat} {a b c d : ByteArray} {cap : Nat} {T : TypeId} (h : w.heap[N]? = some (.cells (Lib.cellsOf [a, b, c, d] cap) T (0, 0))) :
    w.cell? ⟨N, 0, none⟩ = some (.string a) ∧ w.cell? ⟨N, 1, none⟩ = some (.string b) ∧ w.cell? ⟨N, 2, none⟩ = some (.string c) ∧ w.cell? ⟨N, 3, none⟩ = some (.string d) := by
  simp [World.cell?, h, Lib.cellsOf]

theorem open_row {w : World} {rb : Nat} {cs : Array Value} {T : TypeId} (h : w.heap[rb]? = some (.cells cs T (0, 0))) (i : Nat) : w.frozen? ⟨rb, i, none⟩ = false := by
  simp [World.frozen?, h]

theorem split_sum : ∀ (k : Nat) (s : List UInt8), ((Lib.splitK [32] 0 k s).map List.length).sum ≤ s.length
  | 0, s => by simp [Lib.splitK]
  | k + 1, s => by
    rw [Lib.splitK]
    split
    · simp
    · have ih := split_sum k (s.drop ((Lib.index s [32]).toNat + [(32 : UInt8)].length))
      simp only [List.map_cons, List.sum_cons, List.length_take, List.length_drop, List.length_cons, List.length_nil] at ih ⊢
      omega

theorem words_short {s a b c d : ByteArray} (h : [a, b, c, d].map (·.data.toList) = Lib.splitN s.data.toList [32] 5) : a.size + b.size + c.size + d.size ≤ s.size := by
  have h1 := split_sum (min 5 (s.data.toList.length + 1) - 1) s.data.toList
  unfold Lib.splitN at h
  rw [← h] at h1
  have e : ∀ x : ByteArray, x.data.toList.length = x.size := fun x => by simp
  simp only [List.map_cons, List.map_nil, List.sum_cons, List.sum_nil, e] at h1
  omega
theorem below_drew (w : World) : Below w.heap.size w w.drew := ⟨rfl, rfl, rfl, Nat.le_refl _, fun _ _ => rfl⟩

/-- What stands while the words of a line are read. -/
structure Stays (w0 : World) (rb N : Nat) (cs : Array Value) (w : World) : Prop where
  row : ∃ c0 c1 c2 c3, w.heap[rb]? = some (.cells #[c0, c1, c2, c3] 34 (0, 0))
  set : w.heap[N]? = some (.cells cs 9 (0, 0))
  env : Env w0.heap.size w
  below : Below w0.heap.size w0 w
  ne : rb ≠ N
  own : w0.heap.size ≤ rb

theorem Stays.next {w0 w w' : World} {rb N : Nat} {cs : Array Value} (h : Stays w0 rb N cs w) (hb : Below w.heap.size w w') : Stays w0 rb N cs w' := by
  obtain ⟨⟨c0, c1, c2, c3, hr⟩, hset, henv, hbl, hne, hown⟩ := h
  have hs := hbl.size
  exact ⟨⟨c0, c1, c2, c3, (hb.block _ (Array.getElem?_eq_some_iff.1 hr).1).trans hr⟩, (hb.block _ (Array.getElem?_eq_some_iff.1 hset).1).trans hset, henv.on (hb.mono hs) (Nat.le_refl _), hbl.trans (hb.mono hs), hne, hown⟩

theorem Stays.store {w0 w : World} {rb N : Nat} {cs : Array Value} (h : Stays w0 rb N cs w) (i : Nat) (v : Value) : Stays w0 rb N cs (w.setCell ⟨rb, i, none⟩ v) := by
  obtain ⟨⟨c0, c1, c2, c3, hr⟩, hset, henv, hbl, hne, hown⟩ := h
  refine ⟨?_, ?_, henv.on ((Below.refl _ _).setCell hown v) (Nat.le_refl _), hbl.setCell hown v, hne, hown⟩
  · simp only [World.setCell, Array.getElem?_modify, hr]
    match i with
    | 0 => exact ⟨v, c1, c2, c3, by simp⟩
    | 1 => exact ⟨c0, v, c2, c3, by simp⟩
    | 2 => exact ⟨c0, c1, v, c3, by simp⟩
    | 3 => exact ⟨c0, c1, c2, v, by simp⟩
    | i + 4 => exact ⟨c0, c1, c2, c3, by simp⟩
  · rw [RowKit.Below.heap_setCell _ _ _ _ (show N ≠ rb from fun e => hne e.symm)]; exact hset

/-- What a cell holds. -/
def cellAt (w : World) (rb i : Nat) : Value := (w.cell? ⟨rb, i, none⟩).getD undef

theorem Stays.cell {w0 w : World} {rb N : Nat} {cs : Array Value} (h : Stays w0 rb N cs w) (i : Nat) (hi : i < 4) : w.cell? ⟨rb, i, none⟩ = some (cellAt w rb i) := by
  obtain ⟨c0, c1, c2, c3, hr⟩ := h.row
  obtain ⟨r0, r1, r2, r3⟩ := cells_at hr
  unfold cellAt
  match i, hi with
  | 0, _ => rw [r0]; rfl
  | 1, _ => rw [r1]; rfl
  | 2, _ => rw [r2]; rfl
  | 3, _ => rw [r3]; rfl
theorem Stays.free {w0 w : World} {rb N : Nat} {cs : Array Value} (h : Stays w0 rb N cs w) (i : Nat) : w.frozen? ⟨rb, i, none⟩ = false := by
  obtain ⟨c0, c1, c2, c3, hr⟩ := h.row
  exact open_row hr i

theorem Stays.stored {w0 w : World} {rb N : Nat} {cs : Array Value} (h : Stays w0 rb N cs w) (v0 v1 v2 v3 : Value) :
    ((((w.setCell ⟨rb, 0, none⟩ v0).setCell ⟨rb, 1, none⟩ v1).setCell ⟨rb, 2, none⟩ v2).setCell ⟨rb, 3, none⟩ v3).heap[rb]? = some (.cells #[v0, v1, v2, v3] 34 (0, 0)) := by
  obtain ⟨c0, c1, c2, c3, hr⟩ := h.row
  simp [World.setCell, Array.getElem?_modify, hr]

/-- The row that was read lies in its variable. -/
structure Laid (w0 : World) (rb : Nat) (v0 v1 v2 v3 : Value) (w : World) : Prop where
  row : w.heap[rb]? = some (.cells #[v0, v1, v2, v3] 34 (0, 0))
  below : Below w0.heap.size w0 w
  own : w0.heap.size ≤ rb

abbrev LaidOpen (w0 : World) (rb : Nat) (v0 v1 v2 v3 : Value) (w : World) : Prop :=
  w.cell? ⟨rb, 0, none⟩ = some v0 ∧ w.cell? ⟨rb, 1, none⟩ = some v1 ∧ w.cell? ⟨rb, 2, none⟩ = some v2 ∧ w.cell? ⟨rb, 3, none⟩ = some v3 ∧
  w.frozen? ⟨rb, 0, none⟩ = false ∧ w.frozen? ⟨rb, 1, none⟩ = false ∧ w.frozen? ⟨rb, 2, none⟩ = false ∧ w.frozen? ⟨rb, 3, none⟩ = false ∧ Laid w0 rb v0 v1 v2 v3 w

theorem Laid.held {w0 w : World} {rb : Nat} {v0 v1 v2 v3 : Value} (h : Laid w0 rb v0 v1 v2 v3 w) : LaidOpen w0 rb v0 v1 v2 v3 w := by
  obtain ⟨r0, r1, r2, r3⟩ := cells_at h.row
  exact ⟨r0, r1, r2, r3, open_row h.row 0, open_row h.row 1, open_row h.row 2, open_row h.row 3, h⟩
theorem LaidOpen.laid {w0 w : World} {rb : Nat} {v0 v1 v2 v3 : Value} (h : LaidOpen w0 rb v0 v1 v2 v3 w) : Laid w0 rb v0 v1 v2 v3 w := h.2.2.2.2.2.2.2.2
theorem Laid.drew {w0 w : World} {rb : Nat} {v0 v1 v2 v3 : Value} (h : Laid w0 rb v0 v1 v2 v3 w) : Laid w0 rb v0 v1 v2 v3 w.drew := ⟨h.row, h.below.drew, h.own⟩
theorem Laid.again {w0 w : World} {rb : Nat} {v0 v1 v2 v3 : Value} (h : Laid w0 rb v0 v1 v2 v3 w) :
    Laid w0 rb v0 v1 v2 v3 ((((w.setCell ⟨rb, 0, none⟩ v0).setCell ⟨rb, 1, none⟩ v1).setCell ⟨rb, 2, none⟩ v2).setCell ⟨rb, 3, none⟩ v3) :=
  ⟨by simp [World.setCell, Array.getElem?_modify, h.row], (((h.below.setCell h.own _).setCell h.own _).setCell h.own _).setCell h.own _, h.own⟩

theorem num_still (n : Int) (b : Bool) (w : World) (hn : M.num n = b) :
    Calls Tryz.prog 12 #[.int .i64 n] w fun e w'' => e = .returned (.bool b) ∧ w'' = w :=
  (isNumber_any n w).mono fun _ _ ⟨he, hw⟩ => ⟨by rw [he, hn], hw.symm⟩

theorem num_laid {w0 : World} {rb : Nat} {v0 v1 v2 v3 : Value} (n : Int) (b : Bool) (w : World) (hn : M.num n = b) (h : Laid w0 rb v0 v1 v2 v3 w) :
    Calls Tryz.prog 12 #[.int .i64 n] w fun e w' => e = .returned (.bool b) ∧ LaidOpen w0 rb v0 v1 v2 v3 w' :=
  (isNumber_any n w).mono fun _ _ ⟨he, hw⟩ => ⟨by rw [he, hn], by rw [← hw]; exact h.held⟩

/-- Stays, laid open. -/
abbrev Held (w0 : World) (rb N cap : Nat) (a b c d : ByteArray) (w : World) : Prop :=
    w.cell? ⟨N, 0, none⟩ = some (.string a) ∧ w.cell? ⟨N, 1, none⟩ = some (.string b) ∧ w.cell? ⟨N, 2, none⟩ = some (.string c) ∧ w.cell? ⟨N, 3, none⟩ = some (.string d) ∧
    Stays w0 rb N (Lib.cellsOf [a, b, c, d] cap) w

theorem Stays.held {w0 w : World} {rb N cap : Nat} {a b c d : ByteArray} (h : Stays w0 rb N (Lib.cellsOf [a, b, c, d] cap) w) : Held w0 rb N cap a b c d w := by
  obtain ⟨n0, n1, n2, n3⟩ := cells_set h.set
  exact ⟨n0, n1, n2, n3, h⟩

theorem Held.stays {w0 w : World} {rb N cap : Nat} {a b c d : ByteArray} (h : Held w0 rb N cap a b c d w) : Stays w0 rb N (Lib.cellsOf [a, b, c, d] cap) w := h.2.2.2.2

theorem number_held {w0 : World} {rb N cap : Nat} {a b c d : ByteArray} (s : ByteArray) (w : World) (hs : s.size ≤ 281474976710656) (h : Stays w0 rb N (Lib.cellsOf [a, b, c, d] cap) w) :
    Calls Tryz.prog 28 #[.string s] w fun e w' => e = .returned (.int .i64 (M.number s.data.toList)) ∧ Held w0 rb N cap a b c d w' :=
  (number_any s w hs h.env.at).mono fun _ _ ⟨he, hb⟩ => ⟨he, (h.next hb).held⟩

set_option maxRecDepth 100000 in
set_option maxHeartbeats 3200000 in
theorem row_any (s : ByteArray) (w : World) (hs : s.size < 4294967281) (hE : Env w.heap.size w) :
    Calls Tryz.prog 30 #[.string s] w fun e w' => ∃ (r : M.Row) (ok : Bool), e = .returned (.tuple #[.agg #[.string r.name, .string r.file, .int .i64 r.size, .int .i64 r.sum], .bool ok]) ∧ M.row s.data.toList = (if ok then some r else none) ∧ Below w.heap.size w w' := by
  go_enter Tryz.func30, Tryz.ntmps30
  go_wp2_with fail
  have b1 : Below w.heap.size w (w.alloc (.cells #[.string { data := #[] }, .string { data := #[] }, .int .i64 0, .int .i64 0] 34)) := (Below.refl _ _).alloc (Nat.le_refl _) _
  obtain ⟨m, hm⟩ := (hE.on b1 (Nat.le_refl _)).at.most
  (with_reducible refine (split_any s m _ hs hm).mono ?_)
  rintro e w2 ⟨cap, rfl, rfl⟩
  have hws := words_are s
  generalize words s = ws at hws
  by_cases h4 : ws.length = 4
  · obtain ⟨a, b, c, d, rfl⟩ := four_of h4
    have e0 : ((w.alloc (.cells #[.string { data := #[] }, .string { data := #[] }, .int .i64 0, .int .i64 0] 34)).alloc (.cells (Lib.cellsOf [a, b, c, d] cap) 9)).heap[w.heap.size]? = some (.cells #[.string { data := #[] }, .string { data := #[] }, .int .i64 0, .int .i64 0] 34 (0, 0)) := by
      rw [Below.heap_alloc _ _ _ (by simp)]; exact alloc_at _ _ rfl
    have e1 : ((w.alloc (.cells #[.string { data := #[] }, .string { data := #[] }, .int .i64 0, .int .i64 0] 34)).alloc (.cells (Lib.cellsOf [a, b, c, d] cap) 9)).heap[w.heap.size + 1]? = some (.cells (Lib.cellsOf [a, b, c, d] cap) 9 (0, 0)) := alloc_at _ _ (by simp)
    have b2 : Below w.heap.size w ((w.alloc (.cells #[.string { data := #[] }, .string { data := #[] }, .int .i64 0, .int .i64 0] 34)).alloc (.cells (Lib.cellsOf [a, b, c, d] cap) 9)) := b1.alloc (by simp) _
    go_wp2_with fail
    generalize hW : (w.alloc (.cells #[.string { data := #[] }, .string { data := #[] }, .int .i64 0, .int .i64 0] 34)).alloc (.cells (Lib.cellsOf [a, b, c, d] cap) 9) = W at e0 e1 b2 ⊢
    clear hW
    have hst : Stays w w.heap.size (w.heap.size + 1) (Lib.cellsOf [a, b, c, d] cap) W := ⟨⟨_, _, _, _, e0⟩, e1, hE.on b2 (Nat.le_refl _), b2, by omega, Nat.le_refl _⟩
    have hsz := words_short hws
    have hcs : c.size ≤ 281474976710656 := by omega
    have hds : d.size ≤ 281474976710656 := by omega
    obtain ⟨n0, n1, n2, n3, _⟩ := hst.held
    have hws := Lib.hid hws
    have z0 : ∀ V, Stays w w.heap.size (w.heap.size + 1) (Lib.cellsOf [a, b, c, d] cap) V → V.cell? ⟨w.heap.size, 0, none⟩ = some (cellAt V w.heap.size 0) := fun V h => h.cell 0 (by decide)
    have z1 : ∀ V, Stays w w.heap.size (w.heap.size + 1) (Lib.cellsOf [a, b, c, d] cap) V → V.cell? ⟨w.heap.size, 1, none⟩ = some (cellAt V w.heap.size 1) := fun V h => h.cell 1 (by decide)
    have z2 : ∀ V, Stays w w.heap.size (w.heap.size + 1) (Lib.cellsOf [a, b, c, d] cap) V → V.cell? ⟨w.heap.size, 2, none⟩ = some (cellAt V w.heap.size 2) := fun V h => h.cell 2 (by decide)
    have z3 : ∀ V, Stays w w.heap.size (w.heap.size + 1) (Lib.cellsOf [a, b, c, d] cap) V → V.cell? ⟨w.heap.size, 3, none⟩ = some (cellAt V w.heap.size 3) := fun V h => h.cell 3 (by decide)
    have zf : ∀ V i, Stays w w.heap.size (w.heap.size + 1) (Lib.cellsOf [a, b, c, d] cap) V → V.frozen? ⟨w.heap.size, i, none⟩ = false := fun V i h => h.free i
    clear hm b1 h4 e0 e1
    go_region_held3 (fun w' => w'.cell? ⟨w.heap.size + 1, 0, none⟩ = some (.string a) ∧ w'.cell? ⟨w.heap.size + 1, 1, none⟩ = some (.string b) ∧ w'.cell? ⟨w.heap.size + 1, 2, none⟩ = some (.string c) ∧ w'.cell? ⟨w.heap.size + 1, 3, none⟩ = some (.string d) ∧
        Stays w w.heap.size (w.heap.size + 1) (Lib.cellsOf [a, b, c, d] cap) w')
      (first | with_reducible exact (hst.next (below_drew _)).held | with_reducible exact Stays.held (Stays.store (Stays.store (Stays.store (Stays.store (Held.stays (by assumption)) _ _) _ _) _ _) _ _) | with_reducible assumption)
      (first | (go_at_call 28; refine (number_held (w0 := w) (rb := w.heap.size) (N := w.heap.size + 1) (cap := cap) (a := a) (b := b) (c := c) (d := d) _ _ ?_ ?_).mono ?_; (first | exact hcs | exact hds); (first | exact hst.next (below_drew _) | exact Held.stays (by assumption)); rintro e w' ⟨rfl, hcb⟩))
    rename_i hV
    have hl0 := (Held.stays hcb).stored (.string a) (.string b) (.int .i64 (M.number c.data.toList)) (.int .i64 (M.number d.data.toList))
    have hbl := hV.2.2.2.2.below
    generalize ((((w'.setCell ⟨w.heap.size, 0, none⟩ (.string a)).setCell ⟨w.heap.size, 1, none⟩ (.string b)).setCell ⟨w.heap.size, 2, none⟩ (.int .i64 (M.number c.data.toList))).setCell ⟨w.heap.size, 3, none⟩ (.int .i64 (M.number d.data.toList))) = V at hl0 hbl ⊢
    clear hV hcb hst z0 z1 z2 z3 zf n0 n1 n2 n3 hcs hds hsz b2
    have hrow := row_four hws.out
    generalize hx : M.number c.data.toList = x at hl0 hrow ⊢
    generalize hy : M.number d.data.toList = y at hl0 hrow ⊢
    clear hws hx hy
    have hlaid : Laid w w.heap.size (.string a) (.string b) (.int .i64 x) (.int .i64 y) V := ⟨hl0, hbl, Nat.le_refl _⟩
    obtain ⟨r0, r1, r2, r3, f0, f1, f2, f3, _⟩ := hlaid.held
    clear hl0 hbl
    cases hxn : M.num x
    · have hrow := Lib.hid (show M.row s.data.toList = none by rw [hrow, hxn]; rfl)
      go_wp2_with fail
      first
        | go_region_with (first | (go_at_call 12; refine (num_still x false _ hxn).mono ?_; rintro e w' ⟨rfl, rfl⟩))
        | fail "region"
      all_goals have hA := hlaid.again.drew
      all_goals obtain ⟨q0, q1, q2, q3, _⟩ := hA.held
      all_goals go_wp2_with fail
      all_goals exact row_end (rb := w.heap.size) rfl rfl q0 q1 q2 q3 ⟨⟨a, b, x, y⟩, false, rfl, hrow.out, hA.below⟩
    · cases hyn : M.num y
      · have hrow := Lib.hid (show M.row s.data.toList = none by rw [hrow, hxn, hyn]; rfl)
        go_wp2_with fail
        first
          | go_region_with (first | (go_at_call 12; with_reducible refine (num_still x true _ hxn).mono ?_; rintro e w' ⟨rfl, rfl⟩) | (go_at_call 12; with_reducible refine (num_still y false _ hyn).mono ?_; rintro e w' ⟨rfl, rfl⟩))
          | fail "region"
        all_goals have hA := hlaid.again.drew
        all_goals obtain ⟨q0, q1, q2, q3, _⟩ := hA.held
        all_goals go_wp2_with fail
        all_goals exact row_end (rb := w.heap.size) rfl rfl q0 q1 q2 q3 ⟨⟨a, b, x, y⟩, false, rfl, hrow.out, hA.below⟩
      · have hrow := Lib.hid (show M.row s.data.toList = some ⟨a, b, x, y⟩ by rw [hrow, hxn, hyn]; rfl)
        go_wp2_with fail
        first
          | go_region_with (first | (go_at_call 12; with_reducible refine (num_still x true _ hxn).mono ?_; rintro e w' ⟨rfl, rfl⟩) | (go_at_call 12; with_reducible refine (num_still y true _ hyn).mono ?_; rintro e w' ⟨rfl, rfl⟩))
          | fail "region"
        all_goals have hA := hlaid.again.drew
        all_goals obtain ⟨q0, q1, q2, q3, _⟩ := hA.held
        all_goals go_wp2_with fail
        all_goals exact row_end (rb := w.heap.size) rfl rfl q0 q1 q2 q3 ⟨⟨a, b, x, y⟩, true, rfl, hrow.out, hA.below⟩
  · have hr := Lib.hid (row_none hws h4)
    go_wp2_with fail
    have e0 : ((w.alloc (.cells #[.string { data := #[] }, .string { data := #[] }, .int .i64 0, .int .i64 0] 34)).alloc (.cells (Lib.cellsOf ws cap) 9)).heap[w.heap.size]? = some (.cells #[.string { data := #[] }, .string { data := #[] }, .int .i64 0, .int .i64 0] 34 (0, 0)) := by
      rw [Below.heap_alloc _ _ _ (by simp)]; exact alloc_at _ _ rfl
    obtain ⟨c0, c1, c2, c3⟩ := cells_at e0
    refine row_end (rb := w.heap.size) rfl rfl c0 c1 c2 c3 ?_
    exact ⟨⟨{ data := #[] }, { data := #[] }, 0, 0⟩, false, rfl, hr.out, b1.alloc (by simp) _⟩
end Go.Proofs.YtbfgniheagolgaaGreatDoor
