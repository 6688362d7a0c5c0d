/-
  What Print comes to.
-/
import Derived.Test.YtbfgniheagolgaaGreatDoorLrows
import Derived.Test.YtbfgniheagolgaaGreatDoorSum
namespace Go.Proofs.YtbfgniheagolgaaGreatDoor
open Go.RowKit

theorem rows_len : ∀ (l : List M.Row), (∀ r ∈ l, M.name r.name.data.toList = true ∧ M.name r.file.data.toList = true ∧ M.num r.size = true ∧ M.num r.sum = true) → (l.flatMap M.rowLine).length ≤ 120 * l.length
  | [], _ => by simp
  | r :: l, h => by
    have ih := rows_len l (fun x hx => h x (by simp [hx]))
    obtain ⟨hn, hf, hs, hu⟩ := h r (by simp)
    simp only [M.num, Bool.and_eq_true, decide_eq_true_eq] at hs hu
    simp only [M.name, Bool.and_eq_true, decide_eq_true_eq] at hn hf
    have h1 := Lib.itoa_length_le r.size (by omega) (by omega)
    have h2 := Lib.itoa_length_le r.sum (by omega) (by omega)
    simp only [List.flatMap_cons, List.length_append, M.rowLine, M.line_two, List.length_cons, List.length_nil]
    omega

theorem take_rows (l : List M.Row) (k : Nat) (h : k < l.length) (a : List UInt8) : a ++ (l.take k).flatMap M.rowLine ++ M.rowLine l[k] = a ++ (l.take (k + 1)).flatMap M.rowLine := by
  rw [List.take_succ_eq_append_getElem h, List.flatMap_append]; simp

theorem take_rows_len (l : List M.Row) (k : Nat) (h : ∀ r ∈ l, M.name r.name.data.toList = true ∧ M.name r.file.data.toList = true ∧ M.num r.size = true ∧ M.num r.sum = true) : ((l.take k).flatMap M.rowLine).length ≤ 120 * l.length := by
  have h1 := rows_len (l.take k) (fun r hr => h r (List.mem_of_mem_take hr))
  have h2 : (l.take k).length ≤ l.length := by rw [List.length_take]; omega
  omega

theorem good_rows {n : Int} {l : List M.Row} (h : M.good n l = true) : ∀ r ∈ l, M.name r.name.data.toList = true ∧ M.name r.file.data.toList = true ∧ M.num r.size = true ∧ M.num r.sum = true :=
  M.ok_of (by simp [M.good] at h; exact h.2)

theorem cell_ints (w : World) (xs : List Int) (T : TypeId) : ∀ j (h : j < xs.length), (w.alloc (.cells (xs.map (Value.int .i64)).toArray T)).cell? ⟨w.heap.size, j, none⟩ = some (.int .i64 xs[j]) := by
  intro j h
  have e := alloc_at (w := w) (.cells (xs.map (Value.int .i64)).toArray T) _ rfl
  unfold World.cell?
  rw [e]; simp [h]

theorem nums_one (w : World) (n : Int) : (∀ j (h : j < [n].length), (w.alloc (.cells #[.int .i64 n] 3)).cell? ⟨w.heap.size, j, none⟩ = some (.int .i64 [n][j])) ∧ ∃ cs fr, (w.alloc (.cells #[.int .i64 n] 3)).heap[w.heap.size]? = some (.cells cs 3 fr) :=
  ⟨cell_ints w [n] 3, _, _, alloc_at _ _ rfl⟩
theorem nums_two (w : World) (n m : Int) : (∀ j (h : j < [n, m].length), (w.alloc (.cells #[.int .i64 n, .int .i64 m] 3)).cell? ⟨w.heap.size, j, none⟩ = some (.int .i64 [n, m][j])) ∧ ∃ cs fr, (w.alloc (.cells #[.int .i64 n, .int .i64 m] 3)).heap[w.heap.size]? = some (.cells cs 3 fr) :=
  ⟨cell_ints w [n, m] 3, _, _, alloc_at _ _ rfl⟩

/-- A row of the call's own that is not empty, as text. -/
theorem text_of {B : Nat} {v : Value} {l : List UInt8} {w : World} (h : Owns B v l w) (hl : 0 < l.length) : ∃ g cap, v = .slice (some ⟨g, 0, none⟩) l.length cap ∧ ∀ j (hj : j < l.length), w.cell? ((⟨g, 0, none⟩ : Addr).add j) = some (.int .u8 (l[j].toNat : Int)) := by
  obtain ⟨g, cap, rfl, hb⟩ := row_form h hl
  exact ⟨g, cap, rfl, fun j hj => World.ownsRow.cells h (g := g) rfl j _ (by simp [Lib.byteCells, hj])⟩

theorem line_pos (s : List UInt8) (ns : List Int) : 0 < (M.line s ns).length := by simp [M.line]; omega
theorem owns_nil (B : Nat) (w : World) : Owns B (.slice none 0 0) [] w := World.ownsRow_nil _ _ _ _

theorem owns_alloc {B : Nat} {v : Value} {l : List UInt8} {w : World} (h : Owns B v l w) (o : Obj) : Owns B v l (w.alloc o) := World.ownsRow.alloc h o
theorem line_gen_len (n : Int) (h0 : 0 ≤ n) (h1 : n ≤ 1099511627776) : (M.line M.gen [n]).length ≤ 40 := by
  have := Lib.itoa_length_le n (by omega) (by omega)
  simp [M.line_one, M.gen]; omega
theorem owns_below {B : Nat} {v : Value} {l : List UInt8} {w w' : World} (h : Owns B v l w) (hb : Below w.heap.size w w') : Owns B v l w' := World.ownsRow.kept h (grown_of_below hb none) (by
  obtain ⟨_, ⟨rfl, _⟩ | ⟨g, cap, cur, rfl, _⟩⟩ := h
  · exact .inl rfl
  · right; simp [Value.ownBlock])
theorem gen_size : ({ data := #[103, 101, 110, 101, 114, 97, 116, 105, 111, 110] } : ByteArray).size = 10 := by decide
theorem sum_size : ({ data := #[115, 117, 109] } : ByteArray).size = 3 := by decide

/-- What Print answers. -/
def told (n : Int) (l : List M.Row) : Value := if M.good n l = true then .tuple #[.string ⟨(M.text n l).toArray⟩, .int .i64 0] else .tuple #[.string { data := #[] }, .int .i64 30]

set_option maxRecDepth 100000 in
set_option maxHeartbeats 3200000 in
theorem print_any {ao : Option Addr} {cap : Nat} (n : Int) (l : List M.Row) (w : World) (hR : RowsAt w ao l) (hF : Fit l) (hE : Env w.heap.size w) :
    Calls Tryz.prog 7 #[.int .i64 n, .slice ao l.length cap] w fun e w' => e = .returned (told n l) ∧ Below w.heap.size w w' := by
  have hlen := hF.1
  go_enter Tryz.func7, Tryz.ntmps7
  go_wp2_with fail
  (with_reducible refine (isNumber_any n _).mono ?_)
  rintro e w0 ⟨rfl, rfl⟩
  cases hn : M.num n
  · have hg := Lib.hid (show M.good n l = false by simp [M.good, hn])
    have hn := Lib.hid hn
    go_wp2_with fail
    go_ret2
    exact ⟨by unfold told; rw [hg.out]; rfl, Below.refl _ _⟩
  have hn0 := hn
  have hn := Lib.hid hn
  go_wp2_with fail
  (with_reducible refine (areRows_any l _ hR hF).mono ?_)
  rintro e w1 ⟨rfl, b1⟩
  cases ha : M.areRows l
  · have hg := Lib.hid (show M.good n l = false by simp [M.good, ha])
    have ha := Lib.hid ha
    go_wp2_with fail
    go_ret2
    exact ⟨by unfold told; rw [hg.out]; rfl, b1⟩
  have hg0 : M.good n l = true := by simp [M.good, hn0, ha]
  have hg := Lib.hid hg0
  have hnn := M.good_num hg0
  have hrows := good_rows hg0
  have hrl := rows_len l hrows
  have hrows := Lib.hid hrows
  clear hn0 hg0
  go_wp2_with fail
  have g1 := nums_one w1 n
  have hbs1 := b1.size
  (with_reducible refine (addLine_any (B := w.heap.size) (c := 1) (l := []) { data := #[103, 101, 110, 101, 114, 97, 116, 105, 111, 110] } [n] _ (owns_nil _ _) (by simp; omega) (hE.on (b1.alloc hbs1 _) (Nat.le_refl _)) rfl g1.1 g1.2 (by simp; omega) (by rw [gen_size, List.length_nil, List.length_singleton]; omega)).mono ?_)
  rintro e w2 ⟨v2, rfl, ho2, b2⟩
  have b02 : Below w.heap.size w w2 := (b1.alloc hbs1 _).trans b2
  clear g1 b2
  go_wp2_with fail
  go_loopw [6, 22] (fun v i wr => ∃ k : Nat, k ≤ l.length ∧ i = .int .i64 k ∧ Owns w.heap.size v (M.line M.gen [n] ++ (l.take k).flatMap M.rowLine) wr ∧ Below w.heap.size w wr) (fun _ i _ => l.length - (intOf i).toNat)
  case atStart => exact ⟨0, Nat.zero_le _, rfl, by simpa [M.gen] using ho2, b02⟩
  case round =>
    obtain ⟨k, hk, rfl, ho, bw⟩ := hrel
    have hbs := bw.size
    by_cases hlt : k < l.length
    · obtain ⟨b, off, rfl, c0, c1, c2, c3⟩ := (hR.below bw) k hlt
      have hst := Lib.hid (take_rows l k hlt (M.line M.gen [n]))
      obtain ⟨hN, hM, hS, hU⟩ := hrows.out l[k] (List.getElem_mem _)
      generalize hr : l[k] = r at c0 c1 c2 c3 hst hN hM hS hU
      clear hr
      simp only [M.num, Bool.and_eq_true, decide_eq_true_eq] at hS hU
      simp only [M.name, Bool.and_eq_true, decide_eq_true_eq] at hN hM
      have z1 : r.name.size ≤ 32 := hN.1.2
      have z2 : r.file.size ≤ 32 := hM.1.2
      have tk := take_rows_len l k hrows.out
      clear hN hM
      go_wp2_with fail
      have g1 := nums_two (wr.alloc (.cells #[.string r.name, .string r.file, .int .i64 r.size, .int .i64 r.sum] 34)) r.size r.sum
      rw [World.size_alloc] at g1
      have hs3 : (r.name ++ { data := #[32] } ++ r.file).size ≤ 65 := by
        rw [ByteArray.size_append, ByteArray.size_append]
        have : ({ data := #[32] } : ByteArray).size = 1 := by decide
        omega
      have hl3 : (r.name ++ { data := #[32] } ++ r.file).data.toList = r.name.data.toList ++ 32 :: r.file.data.toList := by simp
      have ll := line_gen_len n hnn.1 hnn.2
      (with_reducible refine (addLine_any (B := w.heap.size) (c := 2) (r.name ++ { data := #[32] } ++ r.file) [r.size, r.sum] _ (owns_alloc (owns_alloc ho _) _) (by simp; omega) (hE.on ((bw.alloc hbs _).alloc (by simp; omega) _) (Nat.le_refl _)) rfl g1.1 g1.2 (by simp; omega) (by simp only [List.length_append, List.length_cons, List.length_nil]; omega)).mono ?_)
      rintro e w3 ⟨v3, rfl, ho3, b3⟩
      have b03 : Below w.heap.size w w3 := ((bw.alloc hbs _).alloc (by simp; omega) _).trans b3
      rw [hl3] at ho3
      have ho3 : Owns w.heap.size v3 (M.line M.gen [n] ++ (l.take (k + 1)).flatMap M.rowLine) w3 := by rw [← hst.out]; exact ho3
      clear g1 b3 hl3 hs3
      go_wp2_with fail
      go_round
      case rel => exact ⟨k + 1, by omega, by go_num, ho3, b03⟩
      case measure => simp [intOf]; omega
    · have hkl : k = l.length := by omega
      rw [hkl, List.take_length] at ho
      have ho : Owns w.heap.size u6 (M.body n l) wr := ho
      have hpos : 0 < (M.body n l).length := by
        have := line_pos M.gen [n]
        unfold M.body; rw [List.length_append]; omega
      have ll := line_gen_len n hnn.1 hnn.2
      have hbl : (M.body n l).length ≤ 120000100 := by
        unfold M.body; rw [List.length_append]; omega
      obtain ⟨g, cap1, rfl, hcl⟩ := text_of ho hpos
      have hcv := run_convert_bytes_back (P := Tryz.prog) wr 36 9 5 ⟨g, 0, none⟩ cap1 (M.body n l) Tryz.underlying36 Tryz.underlying5 Tryz.underlying9 hcl
      clear hR hrl
      go_wp2_with fail
      have hds : (⟨(M.body n l).toArray⟩ : ByteArray).size = (M.body n l).length := by simp [ByteArray.size]
      (with_reducible refine (sum_any ⟨(M.body n l).toArray⟩ _ (by rw [hds]; unfold maxLen; omega)).mono ?_)
      rintro e w2 ⟨rfl, b2⟩
      have hab := M.adl_bd (M.body n l)
      have hk2 := owns_below ho b2
      have bw2 : Below w.heap.size w w2 := bw.trans (b2.mono hbs)
      have hbs2 := bw2.size
      go_wp2_with fail
      have g1 := nums_one w2 (M.adl (M.body n l))
      (with_reducible refine (addLine_any (B := w.heap.size) (c := 1) { data := #[115, 117, 109] } [M.adl (M.body n l)] _ (owns_alloc hk2 _) (by simp; omega) (hE.on (bw2.alloc hbs2 _) (Nat.le_refl _)) rfl g1.1 g1.2 (by simp; omega) (by rw [sum_size, List.length_singleton]; omega)).mono ?_)
      rintro e w3 ⟨v3, rfl, ho3, b3⟩
      have b03 : Below w.heap.size w w3 := (bw2.alloc hbs2 _).trans b3
      have ho3 : Owns w.heap.size v3 (M.text n l) w3 := ho3
      have hpos3 : 0 < (M.text n l).length := by
        unfold M.text; rw [List.length_append]; omega
      obtain ⟨g', cap2, rfl, hcl3⟩ := text_of ho3 hpos3
      have hcv3 := run_convert_bytes_back (P := Tryz.prog) w3 36 9 5 ⟨g', 0, none⟩ cap2 (M.text n l) Tryz.underlying36 Tryz.underlying5 Tryz.underlying9 hcl3
      clear g1 b3 hds hcv hcl
      go_wp2_with fail
      go_ret2
      exact ⟨by unfold told; rw [hg.out]; rfl, b03⟩
end Go.Proofs.YtbfgniheagolgaaGreatDoor
