/-
  The program's Print of references: its closure that puts pieces, one behind the other.
-/
import Derived.Test.YtmfmgbjkbadndaaLocMem
import Derived.Test.YtmfmgbjkbadndaaBuilderK
import Derived.Deep.DeepCutAuto
namespace Go.Proofs.Ytmfmgbjkbadndaa
open Go.RowKit

/-- A few texts lie in a block. -/
def TextsAt (g : Nat) (ps : List ByteArray) (w : World) : Prop := ∃ fr, w.heap[g]? = some (.cells (ps.map Value.string).toArray 9 fr)
theorem TextsAt.cell {g : Nat} {ps : List ByteArray} {w : World} (h : TextsAt g ps w) {j : Nat} (hj : j < ps.length) : w.cell? ⟨g, j, none⟩ = some (.string ps[j]) := by
  obtain ⟨fr, h⟩ := h
  simp only [World.cell?, h]
  simp [hj]
theorem TextsAt.others {g b : Nat} {ps : List ByteArray} {w w' : World} (h : TextsAt g ps w) (hb : g ≠ b) (hk : Lib.OthersKept 5 (some b) w w') : TextsAt g ps w' := by
  obtain ⟨fr, h⟩ := h
  refine ⟨fr, hk g _ h (fun e => hb (Option.some.inj e)) fun c fz e => ?_⟩
  injection e with _ e _
  exact absurd e (by decide)
def joined (ps : List ByteArray) : List UInt8 := ps.flatMap fun p => p.data.toList
theorem joined_more {ps : List ByteArray} {k : Nat} (h : k < ps.length) : joined (ps.take (k + 1)) = joined (ps.take k) ++ ps[k].data.toList := by
  rw [joined, joined, List.take_succ_eq_append_getElem h, List.flatMap_append, List.flatMap_cons, List.flatMap_nil, List.append_nil]
theorem joined_le {ps : List ByteArray} (k : Nat) : (joined (ps.take k)).length ≤ (joined ps).length := by
  have h : joined ps = joined (ps.take k) ++ joined (ps.drop k) := by
    rw [joined, joined, joined, ← List.flatMap_append, List.take_append_drop]
  rw [h, List.length_append]
  omega

set_option maxRecDepth 100000 in
set_option maxHeartbeats 3200000 in
/-- The closure: if it is to be, the pieces are put, one behind the other. -/
theorem pPut_any (B b g : Nat) (l : List UInt8) (is : Bool) (ps : List ByteArray) (n cap : Nat) (w : World) (hB : Builds B b l w) (hg : TextsAt g ps w) (hn : n = ps.length) (hgb : g ≠ b) (hlen : l.length + (joined ps).length ≤ 140737488355328) (hps : ps.length ≤ 1000) (hBw : B ≤ w.heap.size) :
    Calls Try.prog 28 #[.bool is, .slice (some ⟨g, 0, none⟩) n cap, .pointer (some ⟨b, 0, none⟩)] w fun e w' => e = .returned (.tuple #[]) ∧ Builds B b (if is then l ++ joined ps else l) w' ∧ Below B w w' := by
  subst hn
  have hjn := Lib.hid (fun k (hk : k < ps.length) => joined_more hk)
  have hjl := Lib.hid (fun k => joined_le (ps := ps) k)
  go_enter Try.func28, Try.ntmps28
  cases is
  · go_wp2_with fail
    refine bodyPost_ret (results_none rfl _ _ _) rfl ?_
    exact ⟨rfl, hB, Below.refl _ _⟩
  · go_wp2_with fail
    go_loopw [11, 6] (fun i _ wr => ∃ k : Nat, k ≤ ps.length ∧ i = .int .i64 k ∧ Hid (Builds B b (l ++ joined (ps.take k)) wr) ∧ Hid (TextsAt g ps wr) ∧ Hid (Below B w wr)) (fun i _ _ => ps.length - (intOf i).toNat)
    case atStart => exact ⟨0, Nat.zero_le _, rfl, Lib.hid (by simpa [joined] using hB), Lib.hid hg, Lib.hid (Below.refl _ _)⟩
    case round =>
      obtain ⟨k, hk, rfl, hb, ht, bw⟩ := hrel
      by_cases hlt : k < ps.length
      · have hc := ht.out.cell hlt
        have hj := hjl.out (k + 1)
        rw [hjn.out k hlt, List.length_append, list_len] at hj
        have hws := Lib.hid (builder_writeString_k B b _ ps[k] wr hb.out (by rw [List.length_append]; omega) (by have := bw.out.size; omega))
        clear hj
        go_wp2_with fail
        (refine (hws.out).mono ?_); rintro e w1 ⟨rfl, h1, h2, h3⟩
        have h4 := Lib.hid (ht.out.others hgb h3)
        have h5 : Hid (Builds B b (l ++ joined (ps.take (k + 1))) w1) := Lib.hid (by rw [hjn.out k hlt, ← List.append_assoc]; exact h1)
        have h6 := Lib.hid (bw.out.trans h2)
        clear h1 h2 h3 hb ht bw hws
        go_wp2_with fail
        go_roundw
        case rel => exact ⟨k + 1, by omega, by go_num, h5, h4, h6⟩
        case measure => simp [intOf]; omega
      · have hfin : Hid (Builds B b (l ++ joined ps) wr) := Lib.hid (by have := hb.out; rwa [List.take_of_length_le (by omega)] at this)
        clear hb ht
        go_wp2_with fail
        go_end0
        exact ⟨rfl, hfin.out, bw.out⟩

theorem texts_two (w : World) (a b : ByteArray) : TextsAt w.heap.size [a, b] (w.alloc (.cells #[.string a, .string b] 9)) := ⟨_, heap_alloc_new w _⟩
theorem texts_one (w : World) (a : ByteArray) : TextsAt w.heap.size [a] (w.alloc (.cells #[.string a] 9)) := ⟨_, heap_alloc_new w _⟩
/-- How far the text is told; the reference is as it was. -/
structure PrintAt (w0 : World) (rb b : Nat) (u : Lc.U) (l : List UInt8) (w : World) : Prop where
  low : Below rb w0 w
  c : Cells w rb 24 (uArr u)
  bld : Builds b b l w
  lt : rb < b
theorem PrintAt.step {w0 : World} {rb b : Nat} {u : Lc.U} {l l' : List UInt8} {w w1 w2 : World} (h : PrintAt w0 rb b u l w) (h1 : Below w.heap.size w w1) (h2 : Below b w1 w2) (h3 : Builds b b l' w2) : PrintAt w0 rb b u l' w2 := by
  have hb := builds_lt h.bld
  have hr := h.lt
  have h4 := h.low.trans (h1.mono (B' := rb) (by omega))
  exact ⟨h4.trans (h2.mono (by omega)), (h2.block rb hr).trans (h.c.on h1), h3, hr⟩
theorem PrintAt.put {w0 : World} {rb b g : Nat} {u : Lc.U} {l : List UInt8} {w w1 : World} (h : PrintAt w0 rb b u l w) (h1 : Below w.heap.size w w1) (hg : g = w.heap.size) (is : Bool) (ps : List ByteArray) (n : Nat) (ht : TextsAt g ps w1) (hn : n = ps.length) (hlen : l.length + (joined ps).length ≤ 140737488355328) (hps : ps.length ≤ 1000) :
    Calls Try.prog 28 #[.bool is, .slice (some ⟨g, 0, none⟩) n n, .pointer (some ⟨b, 0, none⟩)] w1 fun e w' => e = .returned (.tuple #[]) ∧ PrintAt w0 rb b u (if is then l ++ joined ps else l) w' := by
  have hb := builds_lt h.bld
  refine (pPut_any b b g l is ps n n w1 (builds_below h.bld h1) ht hn (by omega) hlen hps (by have := h1.size; omega)).mono ?_
  rintro e w2 ⟨rfl, h2, h3⟩
  exact ⟨rfl, h.step h1 h3 h2⟩

theorem joined_two (a b : ByteArray) : joined [a, b] = a.data.toList ++ b.data.toList := by simp [joined]
theorem joined_one (a : ByteArray) : joined [a] = a.data.toList := by simp [joined]
theorem Lc.print_sizes {u : Lc.U} (h : Lc.Small u) : (Lc.pS u).length ≤ 100001 ∧ (Lc.pH u).length ≤ 200003 ∧ (Lc.pP u).length ≤ 300003 ∧ (Lc.pQ u).length ≤ 400004 := by
  obtain ⟨h0, h1, h2, h3, h4⟩ := h
  have a1 : (Lc.pS u).length ≤ 100001 := by unfold Lc.pS; split <;> (try simp only [List.length_append, List.length_cons, List.length_nil]) <;> omega
  have a2 : (Lc.pH u).length ≤ 200003 := by unfold Lc.pH; split <;> (try simp only [List.length_append, List.length_cons, List.length_nil]) <;> omega
  have a3 : (Lc.pP u).length ≤ 300003 := by unfold Lc.pP; simp; omega
  have a4 : (Lc.pQ u).length ≤ 400004 := by unfold Lc.pQ; split <;> (try simp only [List.length_append, List.length_cons, List.length_nil]) <;> omega
  exact ⟨a1, a2, a3, a4⟩
set_option maxRecDepth 100000 in
set_option maxHeartbeats 6400000 in
theorem pPrint_at (u : Lc.U) (w : World) (hu : Lc.Small u) : Calls Try.prog 14 #[.agg (uArr u)] w fun e w' => e = .returned (.string (Lc.str (Lc.print u))) ∧ Below w.heap.size w w' := by
  have k0 := Cells.new w 24 (uArr u)
  have d0 := (Below.refl w.heap.size w).alloc (Nat.le_refl _) (.cells (uArr u) 24)
  obtain ⟨s1, s2, s3, s4⟩ := Lc.print_sizes hu
  obtain ⟨u0, u1, u2, u3, u4⟩ := hu
  have r1 : Hid ((if u.hasS then [] ++ joined [Lc.str u.scheme, ⟨#[58]⟩] else []) = Lc.pS u) := Lib.hid (by rw [joined_two, Lc.str_list]; rfl)
  have r2 : Hid ((if u.hasH then Lc.pS u ++ joined [⟨#[47, 47]⟩, Lc.str u.host] else Lc.pS u) = Lc.pH u) := Lib.hid (by rw [joined_two, Lc.str_list, ← List.append_assoc]; rfl)
  have r3 : Hid (Lc.pH u ++ joined [Lc.str u.path] = Lc.pP u) := Lib.hid (by rw [joined_one, Lc.str_list]; rfl)
  have r4 : Hid ((if u.hasQ then Lc.pP u ++ joined [⟨#[63]⟩, Lc.str u.query] else Lc.pP u) = Lc.pQ u) := Lib.hid (by rw [joined_two, Lc.str_list, ← List.append_assoc]; rfl)
  have r5 : Hid ((if u.hasF then Lc.pQ u ++ joined [⟨#[35]⟩, Lc.str u.frag] else Lc.pQ u) = Lc.print u) := Lib.hid (by rw [joined_two, Lc.str_list, ← List.append_assoc]; rfl)
  have t1 : Hid (([] : List UInt8).length + (joined [Lc.str u.scheme, ⟨#[58]⟩]).length ≤ 140737488355328) := Lib.hid (by rw [joined_two, Lc.str_list]; simp; omega)
  have t2 : Hid ((Lc.pS u).length + (joined [⟨#[47, 47]⟩, Lc.str u.host]).length ≤ 140737488355328) := Lib.hid (by rw [joined_two, Lc.str_list]; simp; omega)
  have t3 : Hid ((Lc.pH u).length + (joined [Lc.str u.path]).length ≤ 140737488355328) := Lib.hid (by rw [joined_one, Lc.str_list]; omega)
  have t4 : Hid ((Lc.pP u).length + (joined [⟨#[63]⟩, Lc.str u.query]).length ≤ 140737488355328) := Lib.hid (by rw [joined_two, Lc.str_list]; simp; omega)
  have t5 : Hid ((Lc.pQ u).length + (joined [⟨#[35]⟩, Lc.str u.frag]).length ≤ 140737488355328) := Lib.hid (by rw [joined_two, Lc.str_list]; simp; omega)
  clear s1 s2 s3 s4 u0 u1 u2 u3 u4
  unfold uArr at k0 d0 ⊢
  go_enter Try.func14, Try.ntmps14
  replace k0 := Lib.hid k0
  replace d0 := Lib.hid d0
  go_upto_region 1 with fail
  generalize w.alloc (.cells #[.string (Lc.str u.scheme), .string (Lc.str u.host), .string (Lc.str u.path), .string (Lc.str u.query), .string (Lc.str u.frag), .bool u.hasS, .bool u.hasH, .bool u.hasQ, .bool u.hasF] 24) = w0 at *
  have kb := builds_new w0
  have db := (Below.refl w0.heap.size w0).alloc (Nat.le_refl _) (.cells #[.pointer none, .slice none 0 0] 43)
  go_upto_region 2 with fail
  generalize w0.alloc (.cells #[.pointer none, .slice none 0 0] 43) = w1 at *
  obtain ⟨b, hb⟩ : ∃ b, b = w0.heap.size := ⟨_, rfl⟩
  rw [← hb] at kb db ⊢
  have P0 : Hid (PrintAt w w.heap.size b u [] w1) := Lib.hid ⟨d0.out.trans (db.mono (by rw [hb]; exact d0.out.size)), k0.out.on (by rw [← hb]; exact db), kb, by rw [hb]; exact k0.out.lt⟩
  replace hb := Lib.hid hb
  clear kb db k0 d0
  obtain ⟨x0, x1, x2, x3, x4, x5, x6, x7, x8⟩ := uri_open P0.out.c
  clear x1 x2 x3 x4 x6 x7 x8
  have c1 := Lib.hid (P0.out.put ((Below.refl _ _).alloc (Nat.le_refl _) _) rfl u.hasS [Lc.str u.scheme, ⟨#[58]⟩] 2 (texts_two w1 (Lc.str u.scheme) ⟨#[58]⟩) rfl t1.out (by simp))
  rw [r1.out] at c1
  go_wp2_with fail
  (refine (c1.out).mono ?_); rintro e w2 ⟨rfl, P1⟩
  replace P1 := Lib.hid P1
  clear c1 P0 x0 x5
  obtain ⟨x0, x1, x2, x3, x4, x5, x6, x7, x8⟩ := uri_open P1.out.c
  clear x0 x2 x3 x4 x5 x7 x8
  have c2 := Lib.hid (P1.out.put ((Below.refl _ _).alloc (Nat.le_refl _) _) rfl u.hasH [⟨#[47, 47]⟩, Lc.str u.host] 2 (texts_two w2 ⟨#[47, 47]⟩ (Lc.str u.host)) rfl t2.out (by simp))
  rw [r2.out] at c2
  go_wp2_with fail
  (refine (c2.out).mono ?_); rintro e w3 ⟨rfl, P2⟩
  replace P2 := Lib.hid P2
  clear c2 P1 x1 x6
  obtain ⟨x0, x1, x2, x3, x4, x5, x6, x7, x8⟩ := uri_open P2.out.c
  clear x0 x1 x3 x4 x5 x6 x7 x8
  have c3 := Lib.hid (P2.out.put ((Below.refl _ _).alloc (Nat.le_refl _) _) rfl true [Lc.str u.path] 1 (texts_one w3 (Lc.str u.path)) rfl t3.out (by simp))
  rw [if_pos rfl, r3.out] at c3
  go_wp2_with fail
  (refine (c3.out).mono ?_); rintro e w4 ⟨rfl, P3⟩
  replace P3 := Lib.hid P3
  clear c3 P2 x2
  obtain ⟨x0, x1, x2, x3, x4, x5, x6, x7, x8⟩ := uri_open P3.out.c
  clear x0 x1 x2 x4 x5 x6 x8
  have c4 := Lib.hid (P3.out.put ((Below.refl _ _).alloc (Nat.le_refl _) _) rfl u.hasQ [⟨#[63]⟩, Lc.str u.query] 2 (texts_two w4 ⟨#[63]⟩ (Lc.str u.query)) rfl t4.out (by simp))
  rw [r4.out] at c4
  go_wp2_with fail
  (refine (c4.out).mono ?_); rintro e w5 ⟨rfl, P4⟩
  replace P4 := Lib.hid P4
  clear c4 P3 x3 x7
  obtain ⟨x0, x1, x2, x3, x4, x5, x6, x7, x8⟩ := uri_open P4.out.c
  clear x0 x1 x2 x3 x5 x6 x7
  have c5 := Lib.hid (P4.out.put ((Below.refl _ _).alloc (Nat.le_refl _) _) rfl u.hasF [⟨#[35]⟩, Lc.str u.frag] 2 (texts_two w5 ⟨#[35]⟩ (Lc.str u.frag)) rfl t5.out (by simp))
  rw [r5.out] at c5
  go_wp2_with fail
  (refine (c5.out).mono ?_); rintro e w6 ⟨rfl, P5⟩
  replace P5 := Lib.hid P5
  clear c5 P4 x4 x8
  have cs := Lib.hid (builder_string b b _ w6 P5.out.bld (by have := builds_lt P5.out.bld; omega))
  have cb := Lib.hid (P5.out.lt)
  go_wp2_with fail
  (refine (cs.out).mono ?_); rintro e w7 ⟨rfl, _, b7⟩
  have bz := P5.out.low.trans (b7.mono (by have := cb.out; omega))
  go_wp2_with fail
  go_ret
  exact ⟨rfl, bz⟩
end Go.Proofs.Ytmfmgbjkbadndaa
