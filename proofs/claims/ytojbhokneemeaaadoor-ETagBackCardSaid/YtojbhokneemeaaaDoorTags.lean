/-
  Tags in memory: an argument's, and rows that a call owns; what comparing two lists of them comes to.
-/
import Derived.Test.YtojbhokneemeaaaDoorEtag
import Derived.Test.YtojbhokneemeaaaDoorSamePairs
import Derived.Test.YtojbhokneemeaaaDoorCells
namespace Go.Proofs.YtojbhokneemeaaaDoor
open Go.RowKit

/-- TAGS LIE in memory, from the slice's address on. -/
def TagsIn (w : World) (ao : Option Addr) (l : List Tag) : Prop := ∀ j (h : j < l.length), ∃ b off, ao = some ⟨b, off, none⟩ ∧
  w.cell? ⟨b, off + j * 2, none⟩ = some (.bool l[j].weak) ∧ w.cell? ⟨b, off + j * 2 + 1, none⟩ = some (.string l[j].value)
theorem TagsIn.below {w w' : World} {ao : Option Addr} {l : List Tag} (h : TagsIn w ao l) (hb : Below w.heap.size w w') : TagsIn w' ao l := by
  intro j hj
  obtain ⟨b, off, e, c0, c1⟩ := h j hj
  have hlt : b < w.heap.size := World.block_lt_of_cell? w _ c0
  exact ⟨b, off, e, (hb.cell hlt).trans c0, (hb.cell hlt).trans c1⟩
theorem tagsIn_nil (w : World) (ao : Option Addr) : TagsIn w ao [] := fun j hj => by simp at hj

def tagCells (r : Tag) : List Value := [.bool r.weak, .string r.value]
/-- The call owns a row of these tags. -/
def OwnsTags (B : Nat) (v : Value) (l : List Tag) (w : World) : Prop := w.ownsRow B 23 2 v l.length (l.flatMap tagCells)
theorem cells_of_tags : ∀ (l : List Tag) (j i : Nat) (h : j < l.length), i < 2 → (l.flatMap tagCells)[j * 2 + i]? = (tagCells l[j])[i]?
  | [], j, i, h, _ => by simp at h
  | r :: l, 0, i, _, hi => by
    simp only [List.flatMap_cons, Nat.zero_mul, Nat.zero_add, List.getElem_cons_zero]
    rw [List.getElem?_append_left (by simpa [tagCells] using hi)]
  | r :: l, j + 1, i, h, hi => by
    simp only [List.flatMap_cons, List.getElem_cons_succ]
    rw [List.getElem?_append_right (by simp [tagCells]; omega)]
    have := cells_of_tags l j i (by simpa using h) hi
    rw [← this]
    congr 1
    simp [tagCells]; omega
theorem tags_of_owns {B : Nat} {v : Value} {l : List Tag} {w : World} (h : OwnsTags B v l w) : ∃ ao cap, v = .slice ao l.length cap ∧ TagsIn w ao l := by
  unfold OwnsTags at h
  have hc := fun g hg => World.ownsRow.cells h (g := g) hg
  obtain ⟨hl, ⟨rfl, h0⟩ | ⟨g, cap, cur, rfl, hb, _⟩⟩ := h
  · have : l = [] := List.eq_nil_of_length_eq_zero h0
    subst this
    exact ⟨none, 0, rfl, fun j hj => by simp at hj⟩
  · refine ⟨_, cap, rfl, fun j hj => ⟨g, 0, rfl, ?_⟩⟩
    have k := fun (i : Nat) (hi : i < 2) u (hu : (tagCells l[j])[i]? = some u) => hc g rfl (j * 2 + i) u (by rw [cells_of_tags l j i hj hi]; exact hu)
    refine ⟨?_, ?_⟩
    · have := k 0 (by decide) _ rfl; rwa [add_at] at this
    · have := k 1 (by decide) _ rfl; rwa [add_at] at this
theorem infoTag : (Tryd.prog.info? 23).map (fun i => (i.zero, i.size, i.bytes)) = some (some (.agg #[.bool false, .string ByteArray.empty]), 2, 24) := by kernel_rfl
theorem ownsTags_nil (B : Nat) (w : World) : OwnsTags B (.slice none 0 0) [] w := World.ownsRow_nil _ _ _ _
theorem ownsTags_alloc {B : Nat} {v : Value} {l : List Tag} {w : World} (h : OwnsTags B v l w) (o : Obj) : OwnsTags B v l (w.alloc o) := World.ownsRow.alloc h o
theorem ownsTags_below {B : Nat} {v : Value} {l : List Tag} {w w' : World} (h : OwnsTags B v l w) (hb : Below w.heap.size w w') : OwnsTags B v l w' := World.ownsRow.kept h (grown_of_below hb none) (by
  obtain ⟨_, ⟨rfl, _⟩ | ⟨g, cap, cur, rfl, _⟩⟩ := h
  · exact .inl rfl
  · right; simp [Value.ownBlock])
theorem ownsTags_mono {B B' : Nat} {v : Value} {l : List Tag} {w : World} (h : OwnsTags B' v l w) (hB : B ≤ B') : OwnsTags B v l w := by
  obtain ⟨a, h0 | ⟨g, cap, cur, rfl, hb, r⟩⟩ := h
  · exact ⟨a, .inl h0⟩
  · exact ⟨a, .inr ⟨g, cap, cur, rfl, Nat.le_trans hB hb, r⟩⟩

theorem tags_step (l m : List Tag) (k : Nat) (h : k < l.length) (hm : k < m.length) (h0 : l.take k = m.take k) (h1 : l[k] = m[k]) : l.take (k + 1) = m.take (k + 1) := by
  rw [List.take_succ_eq_append_getElem h, List.take_succ_eq_append_getElem hm, h0, h1]
theorem bool_differ {a b : Bool} (h : ¬ a = b) : (a == b) = false := beq_false_of_ne h

set_option maxRecDepth 100000 in
set_option maxHeartbeats 1600000 in
theorem sameTags_any {ao bo : Option Addr} {ca cb n1 n2 : Nat} (l m : List Tag) (w : World) (hl : TagsIn w ao l) (hm : TagsIn w bo m) (hln : l.length ≤ 1000000) (h1 : l.length = n1) (h2 : m.length = n2) :
    Calls Tryd.prog 13 #[.slice ao n1 ca, .slice bo n2 cb] w fun e w' => e = .returned (.bool (decide (l = m))) ∧ Below w.heap.size w w' := by
  subst h1; subst h2
  go_enter Tryd.func13, Tryd.ntmps13
  by_cases hlen : l.length = m.length
  · rw [← hlen]
    have hlh := Lib.hid hlen
    clear hlen
    go_wp2_with fail
    go_loopw [5] (fun i wr => ∃ k : Nat, k ≤ l.length ∧ i = .int .i64 k ∧ l.take k = m.take k ∧ Below w.heap.size w wr) (fun i _ => l.length - (intOf i).toNat)
    case atStart => exact ⟨0, Nat.zero_le _, rfl, rfl, Below.refl _ _⟩
    case round =>
      obtain ⟨k, hk, rfl, htk, bw⟩ := hrel
      by_cases hlt : k < l.length
      · obtain ⟨b, off, rfl, c0, c1⟩ := (hl.below bw) k hlt
        obtain ⟨b', off', rfl, d0, d1⟩ := (hm.below bw) k (by rw [← hlh.out]; exact hlt)
        have hkm : k < m.length := by rw [← hlh.out]; exact hlt
        have hst := Lib.hid (fun (h1 : l[k] = m[k]'hkm) => tags_step l m k hlt hkm htk h1)
        have hdf := Lib.hid (fun (h1 : ¬ l[k] = m[k]'hkm) (h2 : l = m) => h1 (by subst h2; rfl))
        have g3 : (k : Int) < (l.length : Int) := by omega
        generalize l[k] = x at c0 c1 hst hdf
        generalize m[k]'hkm = y at d0 d1 hst hdf
        obtain ⟨xn, xv⟩ := x
        obtain ⟨yn, yv⟩ := y
        clear hl hm
        by_cases e1 : xn = yn
        · subst e1
          have e1 : (xn == xn) = true := beq_self_eq_true _
          by_cases e2 : xv = yv
          · subst e2
            have hst2 := Lib.hid (hst.out rfl)
            clear hdf hst
            go_wp2_with fail
            go_quiet (fail)
            go_wp2_with fail
            go_round
            case rel => exact ⟨k + 1, by omega, by go_num, hst2.out, bw.trans (drewN_below _ _)⟩
            case measure => simp [intOf]; omega
          · have hno := Lib.hid (hdf.out (by simp [e2]))
            have f2 := str_differ e2
            clear hdf hst
            go_wp2_with fail
            go_quiet (fail)
            go_wp2_with fail
            go_ret
            exact ⟨ret_bool (decide_eq_false hno.out).symm, bw.trans (drewN_below _ _)⟩
        · have hno := Lib.hid (hdf.out (by simp [e1]))
          have f1 := bool_differ e1
          clear hdf hst
          go_wp2_with fail
          go_quiet (fail)
          go_wp2_with fail
          go_ret
          exact ⟨ret_bool (decide_eq_false hno.out).symm, bw.trans (drewN_below _ _)⟩
      · have hkl : k = l.length := by omega
        have he : Hid (l = m) := Lib.hid (by rw [hkl, List.take_length] at htk; rw [htk, hlh.out, List.take_length])
        go_wp2_with fail
        go_ret
        exact ⟨ret_bool (decide_eq_true he.out).symm, bw⟩
  · have hno : Hid (¬ l = m) := Lib.hid (fun e => hlen (by rw [e]))
    go_wp2
    go_ret
    exact ⟨ret_bool (decide_eq_false hno.out).symm, Below.refl _ _⟩
end Go.Proofs.YtojbhokneemeaaaDoor
