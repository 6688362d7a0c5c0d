/-
  From a reading of a tree handed over to what the walks ask: a node in memory, its texts no longer than memory reaches.
  Rows of attributes that a call owns; pairs behind pairs.
  The law's own element owns its kids.
  A kid that grows in memory: its attributes and its kids are rows of its own, some of them laid ahead of its block.
  A region whose last operation waits for all others and stores: the store is put off, so that what is held needs not bear it.
-/
import Derived.Test.YtbaclacfadkjdaaGreatDoorG28
import Derived.Test.YtbaclacfadkjdaaGreatDoorG29
import Derived.Test.YtbaclacfadkjdaaGreatDoorG03
import Derived.Laws.AppendOwnNone
import Derived.Laws.OwnMore
import Derived.Maps.AppendAt
import Derived.Deep.Onto
import Derived.Deep.RegionHeld3
import Derived.StillTail
namespace Go.Proofs.YtbaclacfadkjdaaGreatDoor
open Go.ChangeShapes Go.WideShapes Go.ChangeAt Go.RowKit Go.Deep
theorem weights_in {H : Type} {P : Program} {e : TypeId} {d : DataW H} {k : Nat} (hk : k ∈ d.weights P e) : ∀ {l : List (DataW H)}, d ∈ l → k ∈ DataW.weightsAll P e l
  | [], h => by cases h
  | c :: l, h => by
    unfold DataW.weightsAll
    rw [List.mem_append]
    rcases List.mem_cons.1 h with rfl | h
    · exact .inl hk
    · exact .inr (weights_in hk h)
theorem row_at {W : World} {a : Addr} {k : Nat} {cs : List Value} (h : W.cells? 0 a k = some cs) : cs.length = k ∧ (∀ i u, cs[i]? = some u → W.cell? (a.add i) = some u) := by
  obtain ⟨_, hlen, hat⟩ := World.cells?_some h
  refine ⟨hlen, fun i u hu => ?_⟩
  have hi : i < k := by rw [← hlen]; exact (List.getElem?_eq_some_iff.1 hu).1
  rw [hat i hi, hu]
theorem plain_of {W : World} {a : Addr} {u : Value} (h : W.cell? a = some u) : ∃ b off, a = ⟨b, off, none⟩ := by
  obtain ⟨b, off, sp⟩ := a
  cases sp with
  | none => exact ⟨b, off, rfl⟩
  | some q =>
    unfold World.cell? at h
    split at h <;> simp at h
theorem add_zero' (a : Addr) : a.add 0 = a := by
  obtain ⟨b, off, sp⟩ := a
  simp [Addr.add]
theorem trod_struct6 {H : Type} {enc : TypeId × Value → H} {P : Program} {w : World} {base : Nat} {spare : Nat → Bool} {held : Bool} {t : TypeId} {f0 f1 f2 f3 f4 f5 : Field} {fuel : Nat} {cs : List Value} {x : DataW H × List MemPlace} (ht : P.underlying t = some (.struct #[f0, f1, f2, f3, f4, f5])) (h : DataW.trod enc P w base spare held fuel t cs = some x) :
    ∃ y0 y1 y2 y3 y4 y5 n, fuel = n + 1 ∧ x.1 = .agg [y0.1, y1.1, y2.1, y3.1, y4.1, y5.1] ∧ cs.length = P.cellsOf t ∧ DataW.trod enc P w base spare held n f0.type ((cs.drop f0.offset).take (P.cellsOf f0.type)) = some y0 ∧
      DataW.trod enc P w base spare held n f1.type ((cs.drop f1.offset).take (P.cellsOf f1.type)) = some y1 ∧ DataW.trod enc P w base spare held n f2.type ((cs.drop f2.offset).take (P.cellsOf f2.type)) = some y2 ∧
      DataW.trod enc P w base spare held n f3.type ((cs.drop f3.offset).take (P.cellsOf f3.type)) = some y3 ∧ DataW.trod enc P w base spare held n f4.type ((cs.drop f4.offset).take (P.cellsOf f4.type)) = some y4 ∧
      DataW.trod enc P w base spare held n f5.type ((cs.drop f5.offset).take (P.cellsOf f5.type)) = some y5 := by
  obtain ⟨xs, n, hn, rfl, hl, hlen, hf⟩ := DataW.trod_struct ht h
  match xs, hlen with
  | [y0, y1, y2, y3, y4, y5], _ => exact ⟨y0, y1, y2, y3, y4, y5, n, hn, by simp, hl, by simpa using hf 0 f0 rfl, by simpa using hf 1 f1 rfl, by simpa using hf 2 f2 rfl, by simpa using hf 3 f3 rfl, by simpa using hf 4 f4 rfl, by simpa using hf 5 f5 rfl⟩
set_option maxRecDepth 100000 in
theorem att_open {H : Type} {enc : TypeId × Value → H} {W : World} {spare : Nat → Bool} {held : Bool} {n : Nat} {cs : List Value} {x : DataW H × List MemPlace}
    (h : DataW.trod enc Tryz.prog W 0 spare held n 41 cs = some x) (hw : ∀ k ∈ x.1.weights Tryz.prog 41, k ≤ reachBytes) :
    ∃ r : Gv.Att, cs = attCells r ∧ r.space.size ≤ 140737488355328 ∧ r.name.size ≤ 140737488355328 ∧ r.value.size ≤ 140737488355328 := by
  obtain ⟨y0, y1, y2, m, hx, hlen, h0, h1, h2⟩ := Deep.trod_struct3 Tryz.underlying41 h
  have c3 : Tryz.prog.cellsOf 41 = 3 := by kernel_rfl
  have c9 : Tryz.prog.cellsOf 9 = 1 := by kernel_rfl
  rw [c3] at hlen
  match cs, hlen with
  | [x0, x1, x2], _ =>
    simp only [c9] at h0 h1 h2
    obtain ⟨s0, e0, f0, _⟩ := DataW.trod_string Tryz.underlying9 h0
    obtain ⟨s1, e1, f1, _⟩ := DataW.trod_string Tryz.underlying9 h1
    obtain ⟨s2, e2, f2, _⟩ := DataW.trod_string Tryz.underlying9 h2
    simp at e0 e1 e2
    subst e0; subst e1; subst e2
    rw [hx] at hw
    simp only [DataW.weights, Tryz.underlying41] at hw
    have hlt := reachBytes_lt
    have a0 := hw s0.data.toList.length (by rw [f0]; simp [DataW.weightsEach, DataW.weights])
    have a1 := hw s1.data.toList.length (by rw [f1]; simp [DataW.weightsEach, DataW.weights])
    have a2 := hw s2.data.toList.length (by rw [f2]; simp [DataW.weightsEach, DataW.weights])
    rw [list_len] at a0 a1 a2
    exact ⟨⟨s0, s1, s2⟩, rfl, show s0.size ≤ _ by omega, show s1.size ≤ _ by omega, show s2.size ≤ _ by omega⟩
set_option maxRecDepth 100000 in
theorem atts_open {H : Type} {enc : TypeId × Value → H} {W : World} {spare : Nat → Bool} {held : Bool} {v : Value} {n : Nat} {x : DataW H × List MemPlace} (h : DataW.trod enc Tryz.prog W 0 spare held n 22 [v] = some x)
    (hw : ∀ k ∈ x.1.weights Tryz.prog 22, k ≤ reachBytes) :
    ∃ l : List Gv.Att, AttsAt (fun _ => True) W v l ∧ l.length ≤ maxLen ∧ l.length ≤ 140737488355328 ∧ ∀ a ∈ l, a.space.size ≤ 140737488355328 ∧ a.name.size ≤ 140737488355328 ∧ a.value.size ≤ 140737488355328 := by
  rcases DataW.trod_slice Tryz.underlying22 h with ⟨hcs, _⟩ | ⟨a', len, cap, elems, rest, m, _, hcs, hx, _, hl, hm, hel, hall, _, _⟩
  · simp at hcs
    subst hcs
    exact ⟨[], ⟨none, 0, rfl, Nat.le_refl _, fun j hj => by simp at hj⟩, by unfold maxLen; simp, by simp, fun r hr => by cases hr⟩
  · simp at hcs
    subst hcs
    have c3 : Tryz.prog.cellsOf 41 = 3 := by kernel_rfl
    have c48 : Tryz.prog.bytesOf 41 = 48 := by kernel_rfl
    rw [hx] at hw
    simp only [DataW.weights, Tryz.underlying22] at hw
    have hlen := hw _ (List.mem_cons_self)
    rw [c48, List.length_map, List.length_map] at hlen
    have hlt := reachBytes_lt
    have hrow : ∀ i, i < len → ∃ r : Gv.Att, (∀ j u, (attCells r)[j]? = some u → W.cell? ((a'.add (i * 3)).add j) = some u) ∧ r.space.size ≤ 140737488355328 ∧ r.name.size ≤ 140737488355328 ∧ r.value.size ≤ 140737488355328 := fun i hi => by
      have hi' := hall i hi
      rw [List.getElem?_eq_getElem (by omega), Option.bind_eq_some_iff] at hi'
      obtain ⟨cs, hc, ht⟩ := hi'
      rw [c3] at hc
      obtain ⟨_, hat⟩ := row_at hc
      obtain ⟨r, e, z⟩ := att_open ht (fun k hk => hw k (by
        rw [List.mem_cons, List.mem_append]
        exact .inr (.inl (weights_in hk (List.mem_map.2 ⟨_, List.getElem_mem _, rfl⟩)))))
      exact ⟨r, fun j u hu => hat j u (by rw [e]; exact hu), z⟩
    have : Inhabited Gv.Att := ⟨⟨ByteArray.empty, ByteArray.empty, ByteArray.empty⟩⟩
    obtain ⟨R, hR⟩ := choose_lt hrow
    refine ⟨(List.range len).map R, ⟨some a', cap, by simp, by simpa using hl, fun j hj => ?_⟩, by simp; omega, by simp; omega, fun r hr => ?_⟩
    · have hj' : j < len := by simpa using hj
      have h0 := (hR 0 (by omega)).1 0 _ rfl
      rw [Nat.zero_mul, add_zero', add_zero'] at h0
      obtain ⟨b, off, rfl⟩ := plain_of h0
      refine ⟨b, off, rfl, trivial, fun i u hu => ?_⟩
      simp only [List.getElem_map, List.getElem_range] at hu
      have := (hR j hj').1 i u hu
      simpa only [WideShapes.add_plain] using this
    · obtain ⟨i, hi, rfl⟩ := List.mem_map.1 hr
      exact (hR i (List.mem_range.1 hi)).2
set_option maxRecDepth 100000 in
set_option maxHeartbeats 1600000 in
theorem node_trod {H : Type} {enc : TypeId × Value → H} {W : World} {spare : Nat → Bool} {held : Bool} : ∀ (n : Nat) (cs : List Value) (x : DataW H × List MemPlace), DataW.trod enc Tryz.prog W 0 spare held n 25 cs = some x → (∀ k ∈ x.1.weights Tryz.prog 25, k ≤ reachBytes) →
    ∃ nd : Gv.Node, NodeAt (fun _ => True) W cs nd ∧ Sized nd := by
  intro n
  induction n using Nat.strongRecOn with
  | _ n ih =>
    intro cs x h hw
    obtain ⟨y0, y1, y2, y3, y4, y5, m, rfl, hx, hlen, h0, h1, h2, h3, h4, h5⟩ := trod_struct6 Tryz.underlying25 h
    have c6 : Tryz.prog.cellsOf 25 = 6 := by kernel_rfl
    have c9 : Tryz.prog.cellsOf 9 = 1 := by kernel_rfl
    have ci : Tryz.prog.cellsOf 3 = 1 := by kernel_rfl
    have ca : Tryz.prog.cellsOf 22 = 1 := by kernel_rfl
    have cn : Tryz.prog.cellsOf 23 = 1 := by kernel_rfl
    rw [c6] at hlen
    match cs, hlen with
    | [x0, x1, x2, x3, x4, x5], _ =>
      simp only [c9, ci, ca, cn] at h0 h1 h2 h3 h4 h5
      obtain ⟨k0, e0, f0, _⟩ := DataW.trod_int Tryz.underlying3 h0
      obtain ⟨s1, e1, f1, _⟩ := DataW.trod_string Tryz.underlying9 h1
      obtain ⟨s2, e2, f2, _⟩ := DataW.trod_string Tryz.underlying9 h2
      obtain ⟨s5, e5, f5, _⟩ := DataW.trod_string Tryz.underlying9 h5
      simp at e0 e1 e2 e5
      subst e0; subst e1; subst e2; subst e5
      rw [hx] at hw
      simp only [DataW.weights, Tryz.underlying25] at hw
      have hlt := reachBytes_lt
      have a1 := hw s1.data.toList.length (by rw [f1]; simp [DataW.weightsEach, DataW.weights])
      have a2 := hw s2.data.toList.length (by rw [f2]; simp [DataW.weightsEach, DataW.weights])
      have a5 := hw s5.data.toList.length (by rw [f5]; simp [DataW.weightsEach, DataW.weights])
      rw [list_len] at a1 a2 a5
      have w3 : ∀ k ∈ y3.1.weights Tryz.prog 22, k ≤ reachBytes := fun k hk => hw k (by
        simp only [DataW.weightsEach, List.mem_append, List.map_cons, List.map_nil]
        exact .inr (.inr (.inr (.inl hk))))
      have w4 : ∀ k ∈ y4.1.weights Tryz.prog 23, k ≤ reachBytes := fun k hk => hw k (by
        simp only [DataW.weightsEach, List.mem_append, List.map_cons, List.map_nil]
        exact .inr (.inr (.inr (.inr (.inl hk)))))
      obtain ⟨as', hat, l1, l2, l3⟩ := atts_open (v := x3) (by simpa using h3) w3
      have hkids : ∃ (kids : List Gv.Node) (rows : Nat → List Value), RowsAt (fun _ => True) W x4 kids.length rows ∧ kids.length ≤ maxLen ∧ (∀ j (h : j < kids.length), NodeAt (fun _ => True) W (rows j) kids[j]) ∧ ∀ c ∈ kids, Sized c := by
        rcases DataW.trod_slice (cs := [x4]) Tryz.underlying23 (by simpa using h4) with ⟨hcs, _⟩ | ⟨a', len, cap, elems, rest, m2, hm2, hcs, hx4, _, hl, hm, hel, hall, _, _⟩
        · simp at hcs
          subst hcs
          exact ⟨[], fun _ => [], ⟨none, 0, rfl, fun j hj => by simp at hj⟩, by unfold maxLen; simp, fun j hj => by simp at hj, fun r hr => by cases hr⟩
        · simp at hcs
          subst hcs
          rw [hx4] at w4
          simp only [DataW.weights, Tryz.underlying23] at w4
          have hrow : ∀ i, i < len → ∃ r : Gv.Node × List Value, r.2.length = 6 ∧ (∀ j u, r.2[j]? = some u → W.cell? ((a'.add (i * 6)).add j) = some u) ∧ NodeAt (fun _ => True) W r.2 r.1 ∧ Sized r.1 := fun i hi => by
            have hi' := hall i hi
            rw [List.getElem?_eq_getElem (by omega), Option.bind_eq_some_iff] at hi'
            obtain ⟨cs, hc, ht⟩ := hi'
            rw [c6] at hc
            obtain ⟨hl6, hat'⟩ := row_at hc
            obtain ⟨nd, q1, q2⟩ := ih m2 (by omega) cs _ ht (fun k hk => w4 k (by
              rw [List.mem_cons, List.mem_append]
              exact .inr (.inl (weights_in hk (List.mem_map.2 ⟨_, List.getElem_mem _, rfl⟩)))))
            exact ⟨(nd, cs), hl6, hat', q1, q2⟩
          have : Inhabited (Gv.Node × List Value) := ⟨(.mk 0 ByteArray.empty ByteArray.empty [] [] ByteArray.empty, [])⟩
          obtain ⟨R, hR⟩ := choose_lt hrow
          refine ⟨(List.range len).map fun i => (R i).1, fun i => (R i).2, ⟨some a', cap, by simp, fun j hj => ?_⟩, by simp; omega, fun j hj => ?_, fun r hr => ?_⟩
          · have hj' : j < len := by simpa using hj
            obtain ⟨q6, _⟩ := hR j hj'
            refine ⟨q6, ?_⟩
            obtain ⟨r6, r1, _⟩ := hR 0 (by omega)
            obtain ⟨u0, hu0⟩ : ∃ u, (R 0).2[0]? = some u := ⟨_, List.getElem?_eq_getElem (by omega)⟩
            have h0 := r1 0 _ hu0
            rw [Nat.zero_mul, add_zero', add_zero'] at h0
            obtain ⟨b, off, rfl⟩ := plain_of h0
            refine ⟨b, off, rfl, trivial, fun i u hu => ?_⟩
            have := (hR j hj').2.1 i u hu
            simpa only [WideShapes.add_plain] using this
          · have hj' : j < len := by simpa using hj
            simpa using (hR j hj').2.2.1
          · obtain ⟨i, hi, rfl⟩ := List.mem_map.1 hr
            exact (hR i (List.mem_range.1 hi)).2.2.2
      obtain ⟨kids, rows, hrw, hk1, hk2, hk3⟩ := hkids
      exact ⟨.mk k0 s1 s2 as' kids s5, .mk rows ⟨l1, hk1⟩ hat hrw hk2, .mk l2 (by omega) (by omega) (by omega) l3 hk3⟩
set_option maxRecDepth 100000 in
theorem node_read {H : Type} {enc : TypeId × Value → H} {W : World} {spare : Nat → Bool} {held : Bool} {base : Nat} {v : Value} {d : DataW H} {p : List MemPlace} (hv : Value.okWide Tryz.prog W .any base 25 v) (h : DataW.Trod enc Tryz.prog W 0 spare held 25 v d p)
    (hw : ∀ k ∈ d.weights Tryz.prog 25, k ≤ reachBytes) : ∃ (c : List Value) (n : Gv.Node), v = .agg c.toArray ∧ NodeAt (fun _ => True) W c n ∧ Sized n := by
  obtain ⟨cs, rfl, hsz⟩ := okWide_struct Tryz.underlying25 hv
  obtain ⟨fuel, hf⟩ := h
  obtain ⟨n, h1, h2⟩ := node_trod fuel cs.toList (d, p) (by simpa [Value.cells] using hf) hw
  exact ⟨cs.toList, n, by simp, h1, h2⟩
end Go.Proofs.YtbaclacfadkjdaaGreatDoor
namespace Go.Proofs.YtbaclacfadkjdaaGreatDoor
open Go.RowKit
def OwnsAtts (B : Nat) (v : Value) (l : List Gv.Att) (w : World) : Prop := w.ownsRow B 41 3 v l.length (l.flatMap attCells)
theorem infoAtt : (Tryz.prog.info? 41).map (fun i => (i.zero, i.size, i.bytes)) = some (some (.agg #[.string ByteArray.empty, .string ByteArray.empty, .string ByteArray.empty]), 3, 48) := by kernel_rfl
theorem atts_none (B : Nat) (w : World) : OwnsAtts B (.slice none 0 0) [] w := World.ownsRow_nil _ _ _ _
theorem attRow_at : ∀ (l : List Gv.Att) (j i : Nat) (h : j < l.length), i < 3 → (l.flatMap attCells)[j * 3 + i]? = (attCells l[j])[i]?
  | [], j, i, h, _ => by simp at h
  | r :: l, 0, i, _, hi => by
    simp only [List.flatMap_cons, Nat.zero_mul, Nat.zero_add, List.getElem_cons_zero]
    rw [List.getElem?_append_left (by simpa [attCells] using hi)]
  | r :: l, j + 1, i, h, hi => by
    have ih := attRow_at l j i (by simpa using h) hi
    simp only [List.flatMap_cons, List.getElem_cons_succ]
    rw [List.getElem?_append_right (by simp [attCells]; omega), ← ih]
    congr 1
    simp [attCells]; omega
theorem OwnsAtts.at' {B : Nat} {v : Value} {l : List Gv.Att} {w : World} (h : OwnsAtts B v l w) : ∃ ao cap, v = .slice ao l.length cap ∧ AttsAt (fun b => B ≤ b ∧ some b = v.ownBlock) w v l := by
  have hc := fun g hg => World.ownsRow.cells h (g := g) hg
  obtain ⟨hl, ⟨rfl, h0⟩ | ⟨g, cap, cur, rfl, hb, _, hcap, _⟩⟩ := h
  · have : l = [] := List.eq_nil_of_length_eq_zero h0
    subst this
    exact ⟨none, 0, rfl, none, 0, rfl, Nat.le_refl _, fun j hj => by simp at hj⟩
  · refine ⟨_, cap, rfl, _, cap, rfl, hcap, fun j hj => ⟨g, 0, rfl, ⟨hb, by simp [Value.ownBlock]⟩, fun i u hu => ?_⟩⟩
    have hi : i < 3 := by
      have := (List.getElem?_eq_some_iff.1 hu).1
      simpa [attCells] using this
    have := hc g rfl (j * 3 + i) u (by rw [attRow_at l j i hj hi]; exact hu)
    rw [add_at, ← Nat.add_assoc] at this
    exact this
end Go.Proofs.YtbaclacfadkjdaaGreatDoor
namespace Go.Proofs.YtbaclacfadkjdaaGreatDoor
open Go.RowKit
def elK (text : ByteArray) : List Gv.Node := if text.size = 0 then [] else [txtN text]
theorem elK_no {text : ByteArray} (h : text.size = 0) : elK text = [] := by unfold elK; rw [if_pos h]
theorem elK_yes {text : ByteArray} (h : ¬ text.size = 0) : elK text = [txtN text] := by unfold elK; rw [if_neg h]
theorem owns_one {S : Nat → Prop} {B : Nat} {w : World} {g : Nat} {c : List Value} {n : Gv.Node} (hc : Cells w g 25 c.toArray) (hB : B ≤ g) (hn : NodeAt (fun b => S b ∧ some b ≠ some g) w c n) : OwnsKids S B (.slice (some ⟨g, 0, none⟩) 1 1) [n] w := by
  have h6 := hn.six
  refine ⟨[c], rfl, ⟨by simp [h6], .inr ⟨g, 1, c.toArray, rfl, hB, hc, Nat.le_refl _, by unfold maxLen; simp, by simp [h6], by rw [List.take_of_length_le (by simp [h6])]; simp⟩⟩, fun j a b => ?_⟩
  have hj0 : j = 0 := by simp at a; exact a
  subst hj0
  exact hn
set_option maxRecDepth 100000 in
set_option maxHeartbeats 3200000 in
theorem el_owned (name text : ByteArray) (w : World) :
    Calls Tryz.prog 16 #[.string name, .string text] w fun e w' => ∃ ko kn kc, e = .returned (.agg #[.int .i64 0, .string ⟨#[104, 116, 116, 112, 58, 47, 47, 119, 119, 119, 46, 119, 51, 46, 111, 114, 103, 47, 50, 48, 48, 53, 47, 65, 116, 111, 109]⟩, .string name, .slice none 0 0, .slice ko kn kc, .string ⟨#[]⟩]) ∧ OwnsKids (fun b => w.heap.size < b) w.heap.size (.slice ko kn kc) (elK text) w' ∧ Below w.heap.size w w' := by
  have Z := (Cells.new w 25 #[.int .i64 0, .string ⟨#[]⟩, .string ⟨#[]⟩, .slice none 0 0, .slice none 0 0, .string ⟨#[]⟩])
  have bZ := (Below.refl w.heap.size w).alloc (Nat.le_refl _) (.cells #[.int .i64 0, .string ⟨#[]⟩, .string ⟨#[]⟩, .slice none 0 0, .slice none 0 0, .string ⟨#[]⟩] 25)
  go_enter Tryz.func16, Tryz.ntmps16
  replace Z := Lib.hid Z
  replace bZ := Lib.hid bZ
  go_upto_region 1 with fail
  generalize w.alloc (.cells #[.int .i64 0, .string ⟨#[]⟩, .string ⟨#[]⟩, .slice none 0 0, .slice none 0 0, .string ⟨#[]⟩] 25) = w1 at *
  have X := Cells.new w1 25 #[.int .i64 0, .string ⟨#[104, 116, 116, 112, 58, 47, 47, 119, 119, 119, 46, 119, 51, 46, 111, 114, 103, 47, 50, 48, 48, 53, 47, 65, 116, 111, 109]⟩, .string name, .slice none 0 0, .slice none 0 0, .string ⟨#[]⟩]
  have bX := (Below.refl w1.heap.size w1).alloc (Nat.le_refl _) (.cells #[.int .i64 0, .string ⟨#[104, 116, 116, 112, 58, 47, 47, 119, 119, 119, 46, 119, 51, 46, 111, 114, 103, 47, 50, 48, 48, 53, 47, 65, 116, 111, 109]⟩, .string name, .slice none 0 0, .slice none 0 0, .string ⟨#[]⟩] 25)
  have Z2 := Lib.hid (Z.out.on bX)
  have bX2 := Lib.hid (bZ.out.trans (bX.mono bZ.out.size))
  have hne := Lib.hid (show w.heap.size < w1.heap.size from Z.out.lt)
  replace X := Lib.hid X
  clear bX Z bZ
  go_upto_region 2 with fail
  generalize w1.alloc (.cells #[.int .i64 0, .string ⟨#[104, 116, 116, 112, 58, 47, 47, 119, 119, 119, 46, 119, 51, 46, 111, 114, 103, 47, 50, 48, 48, 53, 47, 65, 116, 111, 109]⟩, .string name, .slice none 0 0, .slice none 0 0, .string ⟨#[]⟩] 25) = w2 at *
  by_cases h0 : text.size = 0
  · have hM := Lib.hid (elK_no h0)
    obtain rfl : text = ByteArray.empty := ByteArray.size_eq_zero_iff.1 h0
    have he3 : (ByteArray.empty.toList == []) = true := by rw [ByteArray.toList_eq]; rfl
    have he4 : (ByteArray.empty.toList != []) = false := by rw [ByteArray.toList_eq]; rfl
    have he2 : ByteArray.empty.toList = [] := by rw [ByteArray.toList_eq]; rfl
    obtain ⟨x0, x1, x2, x3, x4, x5⟩ := node_open (show Cells w2 _ _ (nodeArr 0 ⟨#[104, 116, 116, 112, 58, 47, 47, 119, 119, 119, 46, 119, 51, 46, 111, 114, 103, 47, 50, 48, 48, 53, 47, 65, 116, 111, 109]⟩ name (.slice none 0 0) (.slice none 0 0) ⟨#[]⟩) from X.out)
    obtain ⟨z0, z1, z2, z3, z4, z5⟩ := node_open (show Cells w2 _ _ (nodeArr 0 ⟨#[]⟩ ⟨#[]⟩ (.slice none 0 0) (.slice none 0 0) ⟨#[]⟩) from Z2.out)
    have f0 := Z2.out.free 0
    have f1 := Z2.out.free 1
    have f2 := Z2.out.free 2
    have f3 := Z2.out.free 3
    have f4 := Z2.out.free 4
    have f5 := Z2.out.free 5
    have hF := Lib.hid (six_cells Z2.out (.int .i64 0) (.string ⟨#[104, 116, 116, 112, 58, 47, 47, 119, 119, 119, 46, 119, 51, 46, 111, 114, 103, 47, 50, 48, 48, 53, 47, 65, 116, 111, 109]⟩) (.string name) (.slice none 0 0) (.slice none 0 0) (.string ⟨#[]⟩))
    have hB := Lib.hid (six_below bX2.out (Nat.le_refl _) (.int .i64 0) (.string ⟨#[104, 116, 116, 112, 58, 47, 47, 119, 119, 119, 46, 119, 51, 46, 111, 114, 103, 47, 50, 48, 48, 53, 47, 65, 116, 111, 109]⟩) (.string name) (.slice none 0 0) (.slice none 0 0) (.string ⟨#[]⟩))
    clear Z2 X bX2
    go_wp2_with fail
    exact node_end (i := 4) (rb := w.heap.size) rfl rfl hF.out ⟨none, 0, 0, rfl, by rw [hM.out]; exact kids_nil _ _ _, hB.out⟩
  · have hM := Lib.hid (elK_yes h0)
    have hp : 0 < text.size := by omega
    have hne3 : ¬ text.toList = [] := by
      rw [ByteArray.toList_eq]
      exact lst_ne hp
    have hne2 : (text.toList == []) = false := by
      rw [beq_eq_false_iff_ne]; exact hne3
    have hne4 : (text.toList != []) = true := by rw [bne, hne2]; rfl
    have x4 := (X.out.alloc (.cells #[.int .i64 1, .string ⟨#[]⟩, .string ⟨#[]⟩, .slice none 0 0, .slice none 0 0, .string text] 25)).cell (i := 4) rfl
    have g4 := (X.out.alloc (.cells #[.int .i64 1, .string ⟨#[]⟩, .string ⟨#[]⟩, .slice none 0 0, .slice none 0 0, .string text] 25)).free 4
    have l1 := X.out.lt
    have l2 := Z2.out.lt
    have hne0 := hne.out
    have T4 := Lib.hid ((Cells.new w2 25 #[.int .i64 1, .string ⟨#[]⟩, .string ⟨#[]⟩, .slice none 0 0, .slice none 0 0, .string text]).other (c := w1.heap.size) 4 (.slice (some ⟨w2.heap.size, 0, none⟩) 1 1) (by omega))
    have X4 := Lib.hid ((X.out.alloc (.cells #[.int .i64 1, .string ⟨#[]⟩, .string ⟨#[]⟩, .slice none 0 0, .slice none 0 0, .string text] 25)).set 4 (.slice (some ⟨w2.heap.size, 0, none⟩) 1 1))
    have Z4 := Lib.hid ((Z2.out.alloc (.cells #[.int .i64 1, .string ⟨#[]⟩, .string ⟨#[]⟩, .slice none 0 0, .slice none 0 0, .string text] 25)).other (c := w1.heap.size) 4 (.slice (some ⟨w2.heap.size, 0, none⟩) 1 1) (by omega))
    have b4 := Lib.hid ((bX2.out.alloc (by omega) (.cells #[.int .i64 1, .string ⟨#[]⟩, .string ⟨#[]⟩, .slice none 0 0, .slice none 0 0, .string text] 25)).setCell (p := ⟨w1.heap.size, 4, none⟩) (by show w.heap.size ≤ w1.heap.size; omega) (.slice (some ⟨w2.heap.size, 0, none⟩) 1 1))
    have hT := Lib.hid (show ¬ w2.heap.size = w.heap.size by omega)
    have hT2 := Lib.hid (show w.heap.size ≤ w2.heap.size by omega)
    clear Z2 X bX2 l1 l2 hne0
    go_upto_region 4 with fail
    clear x4 g4
    generalize (w2.alloc (.cells #[.int .i64 1, .string ⟨#[]⟩, .string ⟨#[]⟩, .slice none 0 0, .slice none 0 0, .string text] 25)).setCell ⟨w1.heap.size, 4, none⟩ (.slice (some ⟨w2.heap.size, 0, none⟩) 1 1) = w4 at *
    obtain ⟨x0, x1, x2, x3, x4, x5⟩ := node_open (show Cells w4 _ _ (nodeArr 0 ⟨#[104, 116, 116, 112, 58, 47, 47, 119, 119, 119, 46, 119, 51, 46, 111, 114, 103, 47, 50, 48, 48, 53, 47, 65, 116, 111, 109]⟩ name (.slice none 0 0) (.slice (some ⟨w2.heap.size, 0, none⟩) 1 1) ⟨#[]⟩) from X4.out)
    obtain ⟨z0, z1, z2, z3, z4, z5⟩ := node_open (show Cells w4 _ _ (nodeArr 0 ⟨#[]⟩ ⟨#[]⟩ (.slice none 0 0) (.slice none 0 0) ⟨#[]⟩) from Z4.out)
    have f0 := Z4.out.free 0
    have f1 := Z4.out.free 1
    have f2 := Z4.out.free 2
    have f3 := Z4.out.free 3
    have f4 := Z4.out.free 4
    have f5 := Z4.out.free 5
    have hF := Lib.hid (six_cells Z4.out (.int .i64 0) (.string ⟨#[104, 116, 116, 112, 58, 47, 47, 119, 119, 119, 46, 119, 51, 46, 111, 114, 103, 47, 50, 48, 48, 53, 47, 65, 116, 111, 109]⟩) (.string name) (.slice none 0 0) (.slice (some ⟨w2.heap.size, 0, none⟩) 1 1) (.string ⟨#[]⟩))
    have hB := Lib.hid (six_below b4.out (Nat.le_refl _) (.int .i64 0) (.string ⟨#[104, 116, 116, 112, 58, 47, 47, 119, 119, 119, 46, 119, 51, 46, 111, 114, 103, 47, 50, 48, 48, 53, 47, 65, 116, 111, 109]⟩) (.string name) (.slice none 0 0) (.slice (some ⟨w2.heap.size, 0, none⟩) 1 1) (.string ⟨#[]⟩))
    have hK : Hid (Cells ((((((w4.setCell ⟨w.heap.size, 0, none⟩ (.int .i64 0)).setCell ⟨w.heap.size, 1, none⟩ (.string ⟨#[104, 116, 116, 112, 58, 47, 47, 119, 119, 119, 46, 119, 51, 46, 111, 114, 103, 47, 50, 48, 48, 53, 47, 65, 116, 111, 109]⟩)).setCell ⟨w.heap.size, 2, none⟩ (.string name)).setCell ⟨w.heap.size, 3, none⟩ (.slice none 0 0)).setCell ⟨w.heap.size, 4, none⟩ (.slice (some ⟨w2.heap.size, 0, none⟩) 1 1)).setCell ⟨w.heap.size, 5, none⟩ (.string ⟨#[]⟩)) w2.heap.size 25 #[.int .i64 1, .string ⟨#[]⟩, .string ⟨#[]⟩, .slice none 0 0, .slice none 0 0, .string text]) :=
      Lib.hid ((((((T4.out.other 0 _ hT.out).other 1 _ hT.out).other 2 _ hT.out).other 3 _ hT.out).other 4 _ hT.out).other 5 _ hT.out)
    clear X4 Z4 b4 T4
    go_wp2_with fail
    exact node_end (i := 4) (rb := w.heap.size) rfl rfl hF.out ⟨some ⟨w2.heap.size, 0, none⟩, 1, 1, rfl, by rw [hM.out]; exact owns_one hK.out hT2.out (node_plain _ _ 1 ⟨#[]⟩ ⟨#[]⟩ text), hB.out⟩
end Go.Proofs.YtbaclacfadkjdaaGreatDoor
namespace Go.Proofs.YtbaclacfadkjdaaGreatDoor
open Go.RowKit
theorem km_apart {w : World} {B1 B2 n1 n2 s1 s2 : Nat} {e1 e2 : TypeId} {v1 v2 : Value} {x1 x2 : List Value} (h1 : w.ownsRow B1 e1 s1 v1 n1 x1) (h2 : w.ownsRow B2 e2 s2 v2 n2 x2) (hte : e1 ≠ e2) : v1.ownBlock = none ∨ v1.ownBlock ≠ v2.ownBlock := by
  obtain ⟨_, ⟨rfl, _⟩ | ⟨g, cap, cur, rfl, hb, hh, _⟩⟩ := h1
  · exact .inl rfl
  · right
    obtain ⟨_, ⟨rfl, _⟩ | ⟨g2, cap2, cur2, rfl, hb2, hh2, _⟩⟩ := h2
    · simp [Value.ownBlock]
    · simp only [Value.ownBlock, ne_eq, Option.some.injEq]
      rintro rfl
      rw [hh] at hh2
      simp only [Option.some.injEq, Obj.cells.injEq] at hh2
      exact hte hh2.2.1
theorem km_cells_apart {w : World} {B size n b : Nat} {te : TypeId} {v : Value} {xs : List Value} {t : TypeId} {cs : Array Value} (h : w.ownsRow B te size v n xs) (hc : Cells w b t cs) (hne : t ≠ te) : v.ownBlock ≠ some b := by
  obtain ⟨_, ⟨rfl, _⟩ | ⟨g, cap, cur, rfl, hb, hh, _⟩⟩ := h
  · simp [Value.ownBlock]
  · simp only [Value.ownBlock, ne_eq, Option.some.injEq]
    rintro rfl
    rw [show w.heap[_]? = _ from hc] at hh
    cases hh
    exact hne rfl
theorem km_put (w : World) (g j : Nat) (u : Value) : w.grownBy (w.setCell ⟨g, j, none⟩ u) (some g) := ⟨rfl, rfl, rfl, by simp, fun k _ hk => RowKit.Below.heap_setCell w ⟨g, j, none⟩ u k (fun e => hk (by simp [e]))⟩
structure KIn (B rb : Nat) (w0 : World) (sp nm : ByteArray) (va vk : Value) (as' : List Gv.Att) (kids : List Gv.Node) (w : World) : Prop where
  n : Cells w rb 25 (nodeArr 0 sp nm va vk ⟨#[]⟩)
  att : OwnsAtts B va as' w
  kid : OwnsKids (fun b => (B ≤ b ∧ b ≠ rb) ∧ some b ≠ va.ownBlock) B vk kids w
  kb : some rb ≠ vk.ownBlock
  low : Below B w0 w
  lb : B ≤ rb
theorem KIn.on {B rb : Nat} {w0 : World} {sp nm : ByteArray} {va vk : Value} {as' : List Gv.Att} {kids : List Gv.Node} {w w' : World} (h : KIn B rb w0 sp nm va vk as' kids w) (hb : Below w.heap.size w w') : KIn B rb w0 sp nm va vk as' kids w' :=
  ⟨h.n.on hb, own_on h.att hb, h.kid.on hb, h.kb, h.low.trans (hb.mono (by have := h.n.lt; have := h.lb; omega)), h.lb⟩
theorem KIn.put {B rb : Nat} {w0 : World} {sp nm : ByteArray} {va vk : Value} {as' : List Gv.Att} {kids : List Gv.Node} {w : World} {A : Array Value} (hc : Cells w rb 25 A) (ha : OwnsAtts B va as' w) (hk : OwnsKids (fun b => (B ≤ b ∧ b ≠ rb) ∧ some b ≠ va.ownBlock) B vk kids w) (hkb : some rb ≠ vk.ownBlock) (hl : Below B w0 w) (hs : B ≤ rb)
    (i : Nat) (u : Value) (hA : A.set! i u = nodeArr 0 sp nm va vk ⟨#[]⟩) : KIn B rb w0 sp nm va vk as' kids (w.setCell ⟨rb, i, none⟩ u) := by
  refine ⟨?_, World.ownsRow.kept ha (km_put w rb i u) (.inr (km_cells_apart ha hc (by decide))), hk.set (fun x => x.1.2 rfl) hkb i u, hkb, hl.setCell (p := ⟨rb, i, none⟩) hs _, hs⟩
  have := hc.set i u
  simpa [← hA] using this
theorem KIn.kids {B rb : Nat} {w0 : World} {sp nm : ByteArray} {va vk v' : Value} {as' : List Gv.Att} {kids kids' : List Gv.Node} {w : World} (h : KIn B rb w0 sp nm va vk as' kids w) (hk : OwnsKids (fun b => (B ≤ b ∧ b ≠ rb) ∧ some b ≠ va.ownBlock) B v' kids' w) (hb : some rb ≠ v'.ownBlock) :
    KIn B rb w0 sp nm va v' as' kids' (w.setCell ⟨rb, 4, none⟩ v') := KIn.put h.n h.att hk hb h.low h.lb 4 v' (by simp [nodeArr])
theorem KIn.more {B rb : Nat} {w0 : World} {sp nm : ByteArray} {va vk v' : Value} {as' : List Gv.Att} {kids kids' : List Gv.Node} {w w' : World} (h : KIn B rb w0 sp nm va vk as' kids w) (hk : OwnsKids (fun b => (B ≤ b ∧ b ≠ rb) ∧ some b ≠ va.ownBlock) B v' kids' w') (hg : w.grownBy w' vk.ownBlock) (hat : v'.ownBlock = vk.ownBlock ∨ v'.ownBlock = some w.heap.size) :
    KIn B rb w0 sp nm va v' as' kids' (w'.setCell ⟨rb, 4, none⟩ v') := by
  have hlt := h.n.lt
  have hlb := h.lb
  have hv : ∀ k, vk.ownBlock = some k → B ≤ k := fun k e => by
    obtain ⟨css, _, h2, _⟩ := h.kid
    exact (World.ownsRow.lt h2 k e).1
  have kn : Cells w' rb 25 (nodeArr 0 sp nm va vk ⟨#[]⟩) := (hg.block rb hlt h.kb).trans h.n
  have ha : OwnsAtts B va as' w' := World.ownsRow.kept h.att hg (by
    obtain ⟨css, _, h2, _⟩ := h.kid
    exact km_apart h.att h2 (by decide))
  refine KIn.put kn ha hk ?_ (h.low.grown hg (by omega) hv) hlb 4 v' (by simp [nodeArr])
  rcases hat with e | e
  · rw [e]; exact h.kb
  · rw [e]; intro x; injection x with x; omega
theorem KIn.atts {B rb : Nat} {w0 : World} {sp nm : ByteArray} {va vk v' : Value} {as' as2 : List Gv.Att} {kids : List Gv.Node} {w w' : World} (h : KIn B rb w0 sp nm va vk as' kids w) (ha : OwnsAtts B v' as2 w') (hg : w.grownBy w' va.ownBlock) (hat : v'.ownBlock = va.ownBlock ∨ v'.ownBlock = none ∨ ∃ g, v'.ownBlock = some g ∧ w.heap.size ≤ g) :
    KIn B rb w0 sp nm v' vk as2 kids (w'.setCell ⟨rb, 3, none⟩ v') := by
  have hlt := h.n.lt
  have hlb := h.lb
  have hv : ∀ k, va.ownBlock = some k → B ≤ k := fun k e => (World.ownsRow.lt h.att k e).1
  have kn : Cells w' rb 25 (nodeArr 0 sp nm va vk ⟨#[]⟩) := (hg.block rb hlt (fun e => km_cells_apart h.att h.n (by decide) e.symm)).trans h.n
  have hk1 : OwnsKids (fun b => ((B ≤ b ∧ b ≠ rb) ∧ some b ≠ va.ownBlock) ∧ some b ≠ v'.ownBlock) B vk kids w := h.kid.mono fun b hb hl => ⟨hb, fun e => by
    rcases hat with h1 | h1 | ⟨g, h1, h2⟩
    · exact hb.2 (e.trans h1)
    · rw [h1] at e; cases e
    · rw [h1] at e
      injection e with e
      omega⟩
  obtain ⟨css, _, h2, _⟩ := h.kid
  have hk2 := OwnsKids.far hk1 hg (fun g e x => x.1.2 e.symm) (km_apart h2 h.att (by decide))
  exact KIn.put kn ha (hk2.mono fun b hb _ => ⟨hb.1.1, hb.2⟩) h.kb (h.low.grown hg (by omega) hv) hlb 3 v' (by simp [nodeArr])
theorem KIn.node {B rb : Nat} {w0 : World} {sp nm : ByteArray} {va vk : Value} {as' : List Gv.Att} {kids : List Gv.Node} {w : World} (h : KIn B rb w0 sp nm va vk as' kids w) (h1 : as'.length ≤ maxLen) : NodeAt (fun b => B ≤ b) w [.int .i64 0, .string sp, .string nm, va, vk, .string ⟨#[]⟩] (.mk 0 sp nm as' kids ⟨#[]⟩) := by
  obtain ⟨ao, ca, rfl, hat⟩ := h.att.at'
  obtain ⟨bo, cb, cs, rfl, hr, hn, hl, _⟩ := (h.kid.mono (S' := fun b => B ≤ b) (fun b hb _ => hb.1.1)).rows (fun b hb _ => hb)
  exact .mk cs ⟨h1, hl⟩ (hat.mono fun b hb _ => hb.1) hr hn
end Go.Proofs.YtbaclacfadkjdaaGreatDoor
namespace Go.Proofs.YtbaclacfadkjdaaGreatDoor
open Go
section
variable {P : Program} {ops : Array Oper} {Q : Exit → Act → World → Prop}
def unlL : List Bool → Nat
  | [] => 0
  | b :: l => (if b then 0 else 1) + unlL l
def unl (l : Array Bool) : Nat := unlL l.toList
theorem unlL_set : ∀ (l : List Bool) (i : Nat), l[i]? = some false → unlL (l.set i true) + 1 = unlL l
  | [], i, h => by simp at h
  | b :: l, 0, h => by
    simp at h
    subst h
    simp [unlL]; omega
  | b :: l, i + 1, h => by
    have := unlL_set l i (by simpa using h)
    simp only [List.set_cons_succ, unlL]
    omega
theorem unl_set {listed : Array Bool} {i : Nat} (h : listed.getD i true = false) : unl (listed.setIfInBounds i true) + 1 = unl listed := by
  unfold unl
  rw [Array.toList_setIfInBounds]
  refine unlL_set _ _ ?_
  rcases Nat.lt_or_ge i listed.size with h' | h'
  · simp [h'] at h
    simp [h', h]
  · simp [Array.getElem?_eq_none h'] at h
def nopOf (o : Oper) : Oper := { o with op := .move (.const (.bool true)) }
def lastNop (ops : Array Oper) (n : Nat) (o : Oper) : Array Oper := ops.setIfInBounds n (nopOf o)
def lastB (ops : Array Oper) (n : Nat) : Bool :=
  ((List.range n).all fun j => Region.waitsFor .any ops n j) &&
  ((List.range ops.size).all fun j => match ops[j]? with
    | some o => o.after.all fun e => !Region.binds .any e || decide (e.on < j)
    | none => true)
def lastQ (P : Program) (o : Oper) (Q : Exit → Act → World → Prop) : Exit → Act → World → Prop
  | .normal, a, w => o.wp P a w (Q .normal) Q
  | e, a, w => Q e a w
theorem lastQ_out {o : Oper} {e : Exit} {a : Act} {w : World} (h : e ≠ .normal) (hq : lastQ P o Q e a w) : Q e a w := by
  cases e <;> first | exact hq | exact absurd rfl h
theorem nop_at {n : Nat} {o : Oper} (ho : ops[n]? = some o) (j : Nat) : (lastNop ops n o)[j]? = if j = n then some (nopOf o) else ops[j]? := by
  have hlt : n < ops.size := (Array.getElem?_eq_some_iff.1 ho).1
  unfold lastNop
  rw [Array.getElem?_setIfInBounds]
  by_cases h : n = j
  · subst h; simp [hlt]
  · rw [if_neg h, if_neg (fun e => h e.symm)]
theorem nop_ready {n : Nat} {o : Oper} (ho : ops[n]? = some o) (listed : Array Bool) : Region.ready .any (lastNop ops n o) listed = Region.ready .any ops listed := by
  unfold Region.ready
  have hs : (lastNop ops n o).size = ops.size := by unfold lastNop; simp
  rw [hs]
  refine List.filter_congr fun i _ => ?_
  rw [nop_at ho]
  by_cases h : i = n
  · subst h; rw [if_pos rfl, ho]; rfl
  · rw [if_neg h]
theorem nop_yielded {n : Nat} {o : Oper} (ho : ops[n]? = some o) (tmps : Array Value) : yielded (lastNop ops n o) tmps = yielded ops tmps := by
  funext j
  unfold yielded
  rw [nop_at ho]
  by_cases h : j = n
  · subst h; rw [if_pos rfl, ho]; rfl
  · rw [if_neg h]
theorem wp_both {o : Oper} {a : Act} {w : World} {K K' : Act → World → Prop} {Q' : Exit → Act → World → Prop} (hq : ∀ e a w, e ≠ .normal → Q' e a w → Q e a w) (h : ∀ a w, K' a w → K a w)
    (hh : o.wp P a w K' Q') : o.wp P a w K Q := by
  have hL : LetsOut Q' → LetsOut Q := fun ⟨a, w, h⟩ => ⟨a, w, hq _ _ _ (by simp) h⟩
  unfold Oper.wp at *
  generalize (execOp a.eval o).run P w = r at *
  cases r with
  | ok n w' =>
    cases n <;> simp only [Oper.upon] at hh ⊢ <;>
      first
        | exact h _ _ hh
        | exact Calls.mono hh (fun e w'' he => by cases e <;> first | exact h _ _ he | exact hq _ _ _ (by simp) he | exact hL he)
        | exact Rows.mono hh (fun _ _ he => h _ _ he)
  | halt x w' => cases x <;> simp only [Oper.upon] at hh ⊢ <;> first | exact hq _ _ _ (by simp) hh | exact hh
theorem ready_some {n : Nat} {listed : Array Bool} (hB : lastB ops n = true) (hs : listed.size = ops.size) : ∀ j, j < ops.size → listed.getD j true = false → Region.ready .any ops listed ≠ [] := by
  intro j
  induction j using Nat.strongRecOn with
  | _ j ih =>
    intro hj hun
    unfold lastB at hB
    rw [Bool.and_eq_true] at hB
    have h2 := List.all_eq_true.1 hB.2 j (List.mem_range.2 hj)
    have hoj : ops[j]? = some ops[j] := Array.getElem?_eq_getElem hj
    rw [hoj] at h2
    dsimp only at h2
    by_cases hall : ∀ e ∈ ops[j].after, Region.binds .any e = true → listed.getD e.on false = true
    · intro h0
      have : j ∈ Region.ready .any ops listed := mem_ready.2 ⟨hun, _, hoj, hall⟩
      rw [h0] at this
      cases this
    · obtain ⟨e, he⟩ := Classical.not_forall.1 hall
      obtain ⟨he, hx⟩ := Classical.not_imp.1 he
      obtain ⟨hb, hne⟩ := Classical.not_imp.1 hx
      have h3 := Array.all_eq_true_iff_forall_mem.1 h2 e he
      rw [hb] at h3
      have hlt : e.on < j := by simpa using h3
      refine ih e.on hlt (by omega) ?_
      have hin : e.on < listed.size := by omega
      simp [hin] at hne ⊢
      exact hne
theorem ready_none {n : Nat} {o : Oper} {listed : Array Bool} (ho : ops[n]? = some o) (hn : ops.size = n + 1) (hB : lastB ops n = true) (hr : n ∈ Region.ready .any ops listed) : Region.ready .any ops (listed.setIfInBounds n true) = [] := by
  obtain ⟨hun, o', ho', hall⟩ := mem_ready.1 hr
  rw [ho] at ho'
  injection ho' with ho'
  subst ho'
  unfold lastB at hB
  rw [Bool.and_eq_true] at hB
  cases hc : Region.ready .any ops (listed.setIfInBounds n true) with
  | nil => rfl
  | cons j t =>
    exfalso
    have hj : j ∈ Region.ready .any ops (listed.setIfInBounds n true) := by rw [hc]; simp
    obtain ⟨hju, oj, hoj, _⟩ := mem_ready.1 hj
    have hjlt : j < ops.size := (Array.getElem?_eq_some_iff.1 hoj).1
    by_cases hjn : j = n
    · subst hjn
      rcases Nat.lt_or_ge j listed.size with h' | h'
      · simp [h'] at hju
      · simp [Array.getElem?_eq_none h'] at hun
    · have h1 := List.all_eq_true.1 hB.1 j (List.mem_range.2 (by omega))
      obtain ⟨on', hon, e, he, hb, hone⟩ := Region.waitsFor_spec h1
      rw [ho] at hon
      injection hon with hon
      subst hon
      have h2 := hall e he hb
      rw [hone] at h2
      rw [getD_set_ne true (fun e => hjn e.symm)] at hju
      rw [getD_both hju] at h2
      cases h2
theorem wpAny_last {n : Nat} {o : Oper} (ho : ops[n]? = some o) (hn : ops.size = n + 1) (hd : o.dst = none) (hg : o.guard = none) (hB : lastB ops n = true) :
    ∀ (fuel : Nat) (listed : Array Bool) (a : Act) (w : World), listed.size = ops.size → listed.getD n true = false → unl listed ≤ fuel →
      wpAny P .any (lastNop ops n o) (lastQ P o Q) fuel listed a w → wpAny P .any ops Q fuel listed a w := by
  intro fuel
  induction fuel with
  | zero =>
    intro listed a w _ hun hf _
    have := unl_set hun
    omega
  | succ fuel ih =>
    intro listed a w hs hun hf h
    refine ⟨fun h0 => absurd h0 (ready_some hB hs n (by omega) hun), fun i hi => ?_⟩
    have h1 := h.2 i (by rw [nop_ready ho]; exact hi)
    by_cases hin : i = n
    · subst hin
      have hnone := ready_none ho hn hB hi
      have hK : wpAny P .any (lastNop ops i o) (lastQ P o Q) fuel (listed.setIfInBounds i true) a w := by
        unfold wpOp at h1
        rw [nop_at ho, if_pos rfl] at h1
        dsimp only at h1
        have hw : Region.wanted (nopOf o) (yielded (lastNop ops i o) a.tmps) = true := by
          show Region.wanted { o with op := _ } _ = true
          simp [Region.wanted, hg]
        rw [if_pos hw] at h1
        rcases h1 with h1 | ⟨h1, _⟩
        · have h2 : wpAny P .any (lastNop ops i o) (lastQ P o Q) fuel (listed.setIfInBounds i true) (a.put o.dst (.bool true)) w := h1
          rw [hd] at h2
          exact h2
        · exact absurd (show noRoomEvent ∈ (#[] : Array Event) from h1.1) (by simp)
      have hq : o.wp P a w (Q .normal) Q := by
        cases fuel with
        | zero => exact hK.2
        | succ f => exact hK.1 (by rw [nop_ready ho]; exact hnone)
      unfold wpOp
      rw [ho]
      dsimp only
      rw [if_pos (by simp [Region.wanted, hg])]
      refine .inl (Oper.wp_mono (fun a w hq => ?_) hq)
      cases fuel with
      | zero => exact ⟨hnone, hq⟩
      | succ f => exact ⟨fun _ => hq, fun j hj => by rw [hnone] at hj; cases hj⟩
    · have hiu := (mem_ready.1 hi).1
      have hstep := unl_set hiu
      have hK : ∀ a w, wpAny P .any (lastNop ops n o) (lastQ P o Q) fuel (listed.setIfInBounds i true) a w → wpAny P .any ops Q fuel (listed.setIfInBounds i true) a w := fun a w hk =>
        ih _ a w (by simpa using hs) (by rw [getD_set_ne true hin]; exact hun) (by omega) hk
      unfold wpOp at h1 ⊢
      rw [nop_at ho, if_neg hin, nop_yielded ho] at h1
      split
      · rename_i hx
        rw [hx] at h1
        exact hK _ _ h1
      · rename_i oi hx
        rw [hx] at h1
        dsimp only at h1
        split
        · rename_i hw
          rw [if_pos hw] at h1
          exact h1.imp (wp_both (fun _ _ _ => lastQ_out) hK) (fun ⟨x, a, w, hl⟩ => ⟨x, a, w, lastQ_out (by simp) hl⟩)
        · rename_i hw
          rw [if_neg hw] at h1
          exact hK _ _ h1
theorem unl_replicate (m : Nat) : unl (Array.replicate m false) = m := by
  unfold unl
  rw [Array.toList_replicate]
  induction m with
  | zero => rfl
  | succ m ih => rw [List.replicate_succ, unlL, ih]; simp; omega
theorem wp_region_last {id n : Nat} {o : Oper} {S : World → Prop} {a : Act} {w : World} (hm : P.follows .mixedOrders = true) (ho : ops[n]? = some o) (hn : ops.size = n + 1) (hd : o.dst = none) (hg : o.guard = none) (hB : lastB ops n = true) (hS : S w.drew)
    (h : S w.drew → wpAnyH P .any (lastNop ops n o) (lastQ P o Q) S (n + 1) (Array.replicate (n + 1) false) a w.drew) : (Code.region id ops true).wp P Q a w := by
  refine wp_region_any hm ?_
  rw [hn]
  refine wpAny_last ho hn hd hg hB _ _ _ _ (by simp [hn]) ?_ (by rw [unl_replicate]; exact Nat.le_refl _) (wpAny_of_held _ _ _ _ (h hS))
  simp
end
end Go.Proofs.YtbaclacfadkjdaaGreatDoor
