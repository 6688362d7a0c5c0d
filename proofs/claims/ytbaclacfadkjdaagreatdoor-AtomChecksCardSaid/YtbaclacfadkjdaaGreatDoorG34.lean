/-
  A map that the call itself has made by inserts alone, entry for entry: look-ups, stores, and a range over it in whatever order.
  Rules for kids, by their names, in plain Lean: what the program's own tables say is what the document asks of an entry's and of a person's kids.
  The program's own words of a node: isElement, isPlain, attribute.
-/
import Derived.Test.YtbaclacfadkjdaaGreatDoorG01
import Derived.Maps.RangeWalk
import Derived.Test.YtbaclacfadkjdaaGreatDoorG21
namespace Go.Proofs.YtbaclacfadkjdaaGreatDoor
open Go.RowKit Go.Maps
open Go.ChangeMaps (setBlock heap_setBlock_same heap_setBlock_other)
def tabEnts : List (Value × Value) → Nat → List MapEntry
  | [], _ => []
  | p :: l, i => ⟨p.1, p.2, i⟩ :: tabEnts l (i + 1)
theorem tabEnts_len : ∀ (l : List (Value × Value)) (i : Nat), (tabEnts l i).length = l.length
  | [], _ => rfl
  | _ :: l, i => by simp [tabEnts, tabEnts_len l]
theorem tabEnts_get : ∀ (l : List (Value × Value)) (i j : Nat), (tabEnts l i)[j]? = (l[j]?).map fun p => ⟨p.1, p.2, i + j⟩
  | [], _, _ => by simp [tabEnts]
  | p :: l, i, 0 => by simp [tabEnts]
  | p :: l, i, j + 1 => by
    simp only [tabEnts, List.getElem?_cons_succ]
    rw [tabEnts_get l (i + 1) j, show i + 1 + j = i + (j + 1) from by omega]
theorem tabEnts_snoc : ∀ (l : List (Value × Value)) (i : Nat) (p : Value × Value), tabEnts (l ++ [p]) i = tabEnts l i ++ [⟨p.1, p.2, i + l.length⟩]
  | [], i, p => by simp [tabEnts]
  | q :: l, i, p => by
    simp only [List.cons_append, tabEnts, List.length_cons]
    rw [tabEnts_snoc l (i + 1) p, show i + 1 + l.length = i + (l.length + 1) from by omega]
theorem tabEnts_set : ∀ (l : List (Value × Value)) (i j : Nat) (p : Value × Value), (tabEnts l i).set j ⟨p.1, p.2, i + j⟩ = tabEnts (l.set j p) i
  | [], _, _, _ => by simp [tabEnts]
  | q :: l, i, 0, p => by simp [tabEnts]
  | q :: l, i, j + 1, p => by
    simp only [tabEnts, List.set_cons_succ]
    rw [show i + (j + 1) = i + 1 + j from by omega, tabEnts_set l (i + 1) j p]
theorem tabEnts_mem {l : List (Value × Value)} {i : Nat} {e : MapEntry} (h : e ∈ tabEnts l i) : ∃ j, ∃ hj : j < l.length, e = ⟨l[j].1, l[j].2, i + j⟩ := by
  obtain ⟨j, hj, rfl⟩ := List.getElem_of_mem h
  have hj' : j < l.length := by rwa [tabEnts_len] at hj
  refine ⟨j, hj', ?_⟩
  have := tabEnts_get l i j
  rw [List.getElem?_eq_getElem hj, List.getElem?_eq_getElem hj'] at this
  simpa using this
def Tab (w : World) (b : Nat) (l : List (Value × Value)) : Prop := w.heap[b]? = some (.map (tabEnts l 0).toArray l.length)
theorem Tab.new (w : World) : Tab (w.alloc (.map #[] 0)) w.heap.size [] := heap_alloc_new w _
theorem Tab.lt {w : World} {b : Nat} {l : List (Value × Value)} (h : Tab w b l) : b < w.heap.size := (Array.getElem?_eq_some_iff.1 h).1
theorem Tab.on {w w' : World} {b : Nat} {l : List (Value × Value)} (h : Tab w b l) (hb : Below w.heap.size w w') : Tab w' b l := (hb.block b h.lt).trans h
theorem Tab.kept {w w' : World} {b : Nat} {l : List (Value × Value)} {row : Option Nat} (h : Tab w b l) (hg : w.grownBy w' row) (hne : some b ≠ row) : Tab w' b l := (hg.block b h.lt hne).trans h
def TabKeys (P : Program) (k : TypeId) (l : List (Value × Value)) : Prop := ∀ p ∈ l, ∃ x, keyOf P k p.1 = some x
section
variable {P : Program} {k e t : TypeId} {w : World} {b : Nat} {l : List (Value × Value)}
theorem tabKeys_ents (hl : TabKeys P k l) : ∀ e ∈ tabEnts l 0, ∃ x, keyOf P k e.key = some x := by
  intro e he
  obtain ⟨j, hj, rfl⟩ := tabEnts_mem he
  exact hl _ (List.getElem_mem hj)
theorem tab_find (K : Keyed P k) (w : World) (hl : TabKeys P k l) {x : Value} {lx : Lit} (hx : keyOf P k x = some lx) :
    ((Instr.findKey k x (tabEnts l 0)).run P w = .ok none w ∧ ∀ p ∈ l, p.1 ≠ x) ∨ ∃ j v, (Instr.findKey k x (tabEnts l 0)).run P w = .ok (some (j, v)) w ∧ l[j]? = some (x, v) := by
  rcases K.find w hx (tabEnts l 0) (tabKeys_ents hl) with ⟨h1, h2⟩ | ⟨j, e0, h1, h2, h3⟩
  · refine .inl ⟨h1, fun p hp => ?_⟩
    obtain ⟨j, hj, rfl⟩ := List.getElem_of_mem hp
    have h := tabEnts_get l 0 j
    rw [List.getElem?_eq_getElem hj] at h
    exact h2 _ (List.mem_of_getElem? h)
  · refine .inr ⟨j, e0.val, h1, ?_⟩
    rw [tabEnts_get] at h2
    cases hj : l[j]? with
    | none => rw [hj] at h2; cases h2
    | some p =>
      rw [hj] at h2
      cases h2
      subst h3
      rfl
theorem Tab.look (K : Keyed P k) (ht : P.underlying t = some (.map k e)) {z : Value} (hz : (zeroValue e).run P w = .ok z w) (hb : Tab w b l) (hl : TabKeys P k l) {x : Value} {lx : Lit} (hx : keyOf P k x = some lx) (c : Bool) :
    ((Instr.lookup t (.map (some b)) x c).run P w = .ok (if c then .tuple #[z, .bool false] else z) w ∧ ∀ p ∈ l, p.1 ≠ x) ∨
    ∃ v, (Instr.lookup t (.map (some b)) x c).run P w = .ok (if c then .tuple #[v, .bool true] else v) w ∧ (x, v) ∈ l := by
  rcases tab_find K w hl hx with ⟨h1, h2⟩ | ⟨j, v, h1, h2⟩
  · exact .inl ⟨by simp [Instr.lookup, run_underlying ht, MapKept.run_getObj_map hb, K.check w _ hx, h1, hz, Result.andThen], h2⟩
  · exact .inr ⟨v, by simp [Instr.lookup, run_underlying ht, MapKept.run_getObj_map hb, K.check w _ hx, h1, Result.andThen], List.mem_of_getElem? h2⟩
theorem Tab.put (K : Keyed P k) (ht : P.underlying t = some (.map k e)) (hb : Tab w b l) (hl : TabKeys P k l) {x : Value} {lx : Lit} (hx : keyOf P k x = some lx) (v : Value) :
    ∃ w', (Instr.mapUpdate t (.map (some b)) x v).run P w = .ok () w' ∧ w.grownBy w' (some b) ∧ w'.heap.size = w.heap.size ∧
      (((∀ p ∈ l, p.1 ≠ x) ∧ Tab w' b (l ++ [(x, v)])) ∨ ∃ j u, l[j]? = some (x, u) ∧ Tab w' b (l.set j (x, v))) := by
  have grow : ∀ o, w.grownBy (setBlock w b o) (some b) := fun o => ⟨rfl, rfl, rfl, by simp [setBlock], fun i _ hi => heap_setBlock_other hb _ (fun e => hi (by rw [e]))⟩
  rcases tab_find K w hl hx with ⟨h1, h2⟩ | ⟨j, u, h1, h2⟩
  · refine ⟨setBlock w b (.map ((tabEnts l 0).toArray.push ⟨x, v, l.length⟩) (l.length + 1)), ?_, grow _, by simp [setBlock], .inl ⟨h2, ?_⟩⟩
    · simp [Instr.mapUpdate, run_underlying ht, MapKept.run_getObj_map hb, K.check w false hx, h1, MapKept.run_setObj_map _ hb, Result.andThen, setBlock]
    · unfold Tab
      rw [heap_setBlock_same hb, tabEnts_snoc]
      simp
  · have hg : (tabEnts l 0)[j]? = some ⟨x, u, j⟩ := by rw [tabEnts_get, h2]; simp
    have hga : (tabEnts l 0).toArray[j]? = some ⟨x, u, j⟩ := by simpa using hg
    refine ⟨setBlock w b (.map ((tabEnts l 0).toArray.modify j (fun e' => { e' with key := x, val := v })) l.length), ?_, grow _, by simp [setBlock], .inr ⟨j, u, h2, ?_⟩⟩
    · simp [Instr.mapUpdate, run_underlying ht, MapKept.run_getObj_map hb, K.check w false hx, h1, hg, K.stays w hx, MapKept.run_setObj_map _ hb, Result.andThen, setBlock]
    · unfold Tab
      rw [heap_setBlock_same hb, List.length_set, ← tabEnts_set]
      congr 2
      apply Array.toList_inj.1
      rw [Array.toList_modify, ChangeMaps.modify_eq_set _ _ _ _ hg]
      simp
def Rng (w : World) (b r : Nat) (l : List (Value × Value)) (seen : List Nat) : Prop := Tab w b l ∧ w.heap[r]? = some (.mapIter (some b) l.length seen.toArray l.length)
theorem Rng.lt {r : Nat} {seen : List Nat} (h : Rng w b r l seen) : r < w.heap.size := (Array.getElem?_eq_some_iff.1 h.2).1
theorem Rng.ne {r : Nat} {seen : List Nat} (h : Rng w b r l seen) : r ≠ b := by
  intro e
  have h1 := h.1
  unfold Tab at h1
  rw [← e, h.2] at h1
  cases h1
theorem Rng.on {w' : World} {r : Nat} {seen : List Nat} (h : Rng w b r l seen) (hb : Below w.heap.size w w') : Rng w' b r l seen := ⟨h.1.on hb, (hb.block r h.lt).trans h.2⟩
theorem Tab.range (ht : P.underlying t = some (.map k e)) (hb : Tab w b l) :
    (Instr.range t (.map (some b))).run P w = .ok (.pointer (some ⟨w.heap.size, 0, none⟩)) (w.alloc (.mapIter (some b) l.length #[] l.length)) ∧ Rng (w.alloc (.mapIter (some b) l.length #[] l.length)) b w.heap.size l [] :=
  ⟨run_range_map w t k e b _ l.length ht hb, (heap_alloc_old w _ hb.lt).trans hb, heap_alloc_new w _⟩
theorem tabEnts_born : ∀ (l : List (Value × Value)) (i : Nat), (tabEnts l i).map (·.born) = List.range' i l.length
  | [], i => rfl
  | p :: l, i => by simp [tabEnts, tabEnts_born l (i + 1), List.range'_succ]
theorem Rng.next {r : Nat} {seen : List Nat} (h : Rng w b r l seen) (ty : TypeId) :
    ((∀ i, i < l.length → i ∈ seen) ∧ (Instr.next (.pointer (some ⟨r, 0, none⟩)) false ty).run P w = .ok (.tuple #[.bool false]) w) ∨
    ∃ (i : Nat) (hi : i < l.length) (w' : World), i ∉ seen ∧ (Instr.next (.pointer (some ⟨r, 0, none⟩)) false ty).run P w = .ok (.tuple #[.bool true, l[i].1, l[i].2]) w' ∧ Rng w' b r l (seen ++ [i]) ∧ w.grownBy w' (some r) ∧ w'.heap.size = w.heap.size ∧
      (Instr.entry (.pointer (some ⟨r, 0, none⟩))).run P w' = .ok (.tuple #[l[i].1, l[i].2]) w' := by
  have hne := h.ne
  have hlt := h.lt
  obtain ⟨hb, hr⟩ := h
  have hold : ∀ x ∈ ((tabEnts l 0).toArray).toList, x.born < l.length := fun x hx => by
    obtain ⟨j, hj, rfl⟩ := tabEnts_mem (show x ∈ tabEnts l 0 by simpa using hx)
    simpa using hj
  rcases run_next_at (P := P) w ty r b l.length l.length seen.toArray (tabEnts l 0).toArray l.length hr hb hold (Nat.le_refl _) with ⟨h0, hrun⟩ | ⟨e, he, w1, hal, hrun⟩
  · refine .inl ⟨fun i hi => ?_, hrun⟩
    have hg := tabEnts_get l 0 i
    rw [List.getElem?_eq_getElem hi] at hg
    have := all_seen (tabEnts l 0).toArray seen.toArray h0 _ (by simpa using List.mem_of_getElem? hg)
    simpa using this
  · obtain ⟨hem, hes⟩ := mem_left he
    obtain ⟨i, hi, rfl⟩ := tabEnts_mem (show e ∈ tabEnts l 0 by simpa using hem)
    simp only [Nat.zero_add] at hes hrun hem
    have hr1 : w1.heap[r]? = some (.mapIter (some b) l.length seen.toArray l.length) := by rcases hal with rfl | rfl <;> exact hr
    have hb1 : w1.heap[b]? = some (.map (tabEnts l 0).toArray l.length) := by rcases hal with rfl | rfl <;> exact hb
    have s1 : (setBlock w1 r (.mapIter (some b) l.length (seen.toArray.push i) l.length)).heap[r]? = some (.mapIter (some b) l.length (seen.toArray.push i) l.length) := by
      simp only [setBlock]
      rw [Array.getElem?_setIfInBounds_self_of_lt]
      exact (Array.getElem?_eq_some_iff.1 hr1).1
    have s2 : ∀ j, j ≠ r → (setBlock w1 r (.mapIter (some b) l.length (seen.toArray.push i) l.length)).heap[j]? = w.heap[j]? := fun j hj => by
      simp only [setBlock]
      rw [Array.getElem?_setIfInBounds_ne (Ne.symm hj)]
      rcases hal with rfl | rfl <;> rfl
    refine .inr ⟨i, hi, setBlock w1 r (.mapIter (some b) l.length (seen.toArray.push i) l.length), ?_, hrun, ⟨(s2 b (Ne.symm hne)).trans hb, ?_⟩, ⟨?_, ?_, ?_, ?_, fun j _ hj => s2 j (fun e => hj (by rw [e]))⟩, ?_, ?_⟩
    · simpa using hes
    · rw [s1]; simp
    · rcases hal with rfl | rfl <;> rfl
    · rcases hal with rfl | rfl <;> rfl
    · rcases hal with rfl | rfl <;> rfl
    · rcases hal with rfl | rfl <;> simp [setBlock]
    · rcases hal with rfl | rfl <;> simp [setBlock]
    · exact run_entry_at (P := P) _ r b l.length seen.toArray (tabEnts l 0).toArray l.length ⟨l[i].1, l[i].2, i⟩ s1 ((s2 b (Ne.symm hne)).trans hb) hem (by
        simp only [tabEnts_born]
        exact List.nodup_range')
end
end Go.Proofs.YtbaclacfadkjdaaGreatDoor
namespace Go.Proofs.YtbaclacfadkjdaaGreatDoor
namespace Am
structure Rl where
  name : ByteArray
  fn : Nat
  one : Bool
  need : Bool
  fit : Gv.Node → Bool
def isA (k : Gv.Node) : Bool := decide (kindOf k = 0) && decide ((spaceOf k).data.toList = atomS)
def inN (nm : ByteArray) (k : Gv.Node) : Bool := isA k && decide (nameOf k = nm)
def rcnt (l : List Gv.Node) (nm : ByteArray) : Nat := (l.filter (inN nm)).length
def kidFits (T : List Rl) (k : Gv.Node) : Bool := !isA k || match T.find? fun r => decide (r.name = nameOf k) with
  | some r => r.fit k
  | none => true
def countFits (l : List Gv.Node) (r : Rl) : Bool := !(r.one && decide (1 < rcnt l r.name) || r.need && decide (rcnt l r.name = 0))
def fitIn (T : List Rl) (l : List Gv.Node) : Bool := l.all (kidFits T) && T.all (countFits l)
theorem inN_isEl (nm : ByteArray) (k : Gv.Node) : inN nm k = isEl k atomS nm.data.toList := by
  unfold inN isA isEl
  congr 1
  rw [decide_eq_decide]
  constructor
  · intro h; rw [h]
  · intro h
    cases hn : nameOf k
    cases nm
    rw [hn] at h
    simpa using h
theorem rcnt_allIn (l : List Gv.Node) (nm : ByteArray) : rcnt l nm = (allIn l nm.data.toList).length := by
  unfold rcnt allIn
  congr 2
  funext k
  exact inN_isEl nm k
theorem rcnt_snoc (l : List Gv.Node) (k : Gv.Node) (nm : ByteArray) : rcnt (l ++ [k]) nm = rcnt l nm + if inN nm k then 1 else 0 := by
  unfold rcnt
  rw [List.filter_append, List.length_append]
  cases h : inN nm k <;> simp [h]
theorem rcnt_le (l : List Gv.Node) (nm : ByteArray) : rcnt l nm ≤ l.length := List.length_filter_le _ _
theorem kids_rules {T : List Rl} (hT : (T.map (·.name)).Nodup) (l : List Gv.Node) : l.all (kidFits T) = T.all fun r => (allIn l r.name.data.toList).all r.fit := by
  have key : ∀ k, kidFits T k = T.all fun r => !inN r.name k || r.fit k := by
    intro k
    unfold kidFits inN
    cases hk : isA k
    · simp
    · simp only [Bool.not_true, Bool.false_or, Bool.true_and]
      induction T with
      | nil => rfl
      | cons r T ih =>
        rw [List.map_cons, List.nodup_cons] at hT
        rw [List.find?_cons, List.all_cons]
        by_cases e : r.name = nameOf k
        · rw [decide_eq_true e, decide_eq_true e.symm]
          have hr : (T.all fun r => !decide (nameOf k = r.name) || r.fit k) = true := by
            rw [List.all_eq_true]
            intro x hx
            have : nameOf k ≠ x.name := fun e2 => hT.1 (by rw [e, e2]; exact List.mem_map.2 ⟨x, hx, rfl⟩)
            simp [this]
          simp [hr]
        · rw [decide_eq_false e, decide_eq_false (Ne.symm e)]
          simp only [Bool.not_false, Bool.true_or, Bool.true_and]
          exact ih hT.2
  rw [Bool.eq_iff_iff, List.all_eq_true, List.all_eq_true]
  constructor
  · intro h r hr
    rw [List.all_eq_true]
    intro k hk
    have hm := List.mem_filter.1 hk
    have h1 := h k hm.1
    rw [key, List.all_eq_true] at h1
    have h2 := h1 r hr
    rw [inN_isEl, hm.2] at h2
    simpa using h2
  · intro h k hk
    rw [key, List.all_eq_true]
    intro r hr
    cases hi : inN r.name k
    · rfl
    · have h1 := h r hr
      rw [List.all_eq_true] at h1
      simpa using h1 k (List.mem_filter.2 ⟨hk, by rw [← inN_isEl]; exact hi⟩)
theorem fitIn_is {T : List Rl} (hT : (T.map (·.name)).Nodup) (l : List Gv.Node) : fitIn T l = T.all fun r => (allIn l r.name.data.toList).all r.fit && !(r.one && decide (1 < (allIn l r.name.data.toList).length) || r.need && decide ((allIn l r.name.data.toList).length = 0)) := by
  unfold fitIn
  rw [kids_rules hT]
  unfold countFits
  simp only [rcnt_allIn]
  induction T with
  | nil => rfl
  | cons r T ih =>
    rw [List.map_cons, List.nodup_cons] at hT
    simp only [List.all_cons]
    rw [← ih hT.2]
    ac_rfl
variable (o : On)
def personT (f1 f2 f3 : Nat) : List Rl :=
  [⟨ "email".toUTF8, f1, true, false, fun n => plain n && decide ((trim (text n)).count 64 = 1) && decide ((trim (text n)).head? ≠ some 64) && decide ((trim (text n)).getLast? ≠ some 64)⟩,
   ⟨ "name".toUTF8, f2, true, true, fun n => plain n && decide (trim (text n) ≠ [])⟩,
   ⟨ "uri".toUTF8, f3, true, false, fun n => plain n && o.iri (trim (text n)) false⟩]
def entryT (f1 f2 f3 f4 f5 f6 f7 : Nat) (stored : Bool) : List Rl :=
  [⟨ "author".toUTF8, f1, false, true, person o⟩, ⟨ "category".toUTF8, f2, false, false, fun n => (attr n (lit "term")).isSome⟩, ⟨ "content".toUTF8, f3, true, false, content o⟩, ⟨ "contributor".toUTF8, f1, false, false, person o⟩,
   ⟨ "id".toUTF8, f4, true, stored, fun n => plain n && o.iri (trim (text n)) true⟩, ⟨ "link".toUTF8, f5, false, false, link o⟩, ⟨ "published".toUTF8, f6, true, false, momentOk o⟩,
   ⟨ "rights".toUTF8, f7, true, false, textOk⟩, ⟨ "summary".toUTF8, f7, true, false, textOk⟩, ⟨ "title".toUTF8, f7, true, true, textOk⟩, ⟨ "updated".toUTF8, f6, true, stored, momentOk o⟩]
theorem personT_apart (f1 f2 f3 : Nat) : ((personT o f1 f2 f3).map (·.name)).Nodup := by
  show ["email".toUTF8, "name".toUTF8, "uri".toUTF8].Nodup
  decide +kernel
theorem entryT_apart (f1 f2 f3 f4 f5 f6 f7 : Nat) (s : Bool) : ((entryT o f1 f2 f3 f4 f5 f6 f7 s).map (·.name)).Nodup := by
  show ["author".toUTF8, "category".toUTF8, "content".toUTF8, "contributor".toUTF8, "id".toUTF8, "link".toUTF8, "published".toUTF8, "rights".toUTF8, "summary".toUTF8, "title".toUTF8, "updated".toUTF8].Nodup
  decide +kernel
theorem one_match {l : List Gv.Node} (f : Gv.Node → Bool) : (match l with | [] => true | [x] => f x | _ => false) = (l.all f && decide (l.length ≤ 1)) := by
  rcases l with _ | ⟨x, _ | ⟨y, l⟩⟩
  · rfl
  · simp
  · have : ¬ (x :: y :: l).length ≤ 1 := by simp
    rw [decide_eq_false this, Bool.and_false]
theorem just_match {l : List Gv.Node} (f : Gv.Node → Bool) : (match l with | [x] => f x | _ => false) = (l.all f && !(decide (1 < l.length) || decide (l.length = 0))) := by
  rcases l with _ | ⟨x, _ | ⟨y, l⟩⟩
  · rfl
  · simp
  · have : 1 < (x :: y :: l).length := by simp
    rw [decide_eq_true this]
    simp
theorem and_same {a b c d : Bool} (h : a = c) (k : b = d) : (a && b) = (c && d) := by rw [h, k]
theorem pPerson_is (f1 f2 f3 : Nat) (n : Gv.Node) : fitIn (personT o f1 f2 f3) (kidsOf n) = person o n := by
  rw [fitIn_is (personT_apart o f1 f2 f3)]
  rw [show person o n = ((((all n (lit "name")).all (fun x => plain x && decide (trim (text x) ≠ []))) && !(decide (1 < (all n (lit "name")).length) || decide ((all n (lit "name")).length = 0))) && (((all n (lit "uri")).all (fun x => plain x && o.iri (trim (text x)) false)) && decide ((all n (lit "uri")).length ≤ 1)) && (((all n (lit "email")).all (fun x => plain x && decide ((trim (text x)).count 64 = 1) && decide ((trim (text x)).head? ≠ some 64) && decide ((trim (text x)).getLast? ≠ some 64))) && decide ((all n (lit "email")).length ≤ 1))) from by
    unfold person
    exact and_same (and_same (just_match _) (one_match _)) (one_match _)]
  have e1 : allIn (kidsOf n) "email".toUTF8.data.toList = all n (lit "email") := rfl
  have e2 : allIn (kidsOf n) "name".toUTF8.data.toList = all n (lit "name") := rfl
  have e3 : allIn (kidsOf n) "uri".toUTF8.data.toList = all n (lit "uri") := rfl
  simp only [List.all_cons, List.all_nil, personT, Bool.true_and, Bool.false_and, Bool.or_false, Bool.and_true, e1, e2, e3]
  have nle : ∀ m : Nat, (!decide (1 < m)) = decide (m ≤ 1) := fun m => by
    by_cases h : m ≤ 1
    · rw [decide_eq_true h, decide_eq_false (by omega)]; rfl
    · rw [decide_eq_false h, decide_eq_true (by omega)]; rfl
  simp only [nle]
  generalize (all n (lit "email")).all _ = a1
  generalize decide ((all n (lit "email")).length ≤ 1) = a2
  generalize (all n (lit "uri")).all _ = a3
  generalize decide ((all n (lit "uri")).length ≤ 1) = a4
  generalize (all n (lit "name")).all _ = a5
  generalize (!(_ || _)) = a6
  ac_rfl
theorem pEntry_is (f1 f2 f3 f4 f5 f6 f7 : Nat) (l : List Gv.Node) (stored : Bool) :
    (fitIn (entryT o f1 f2 f3 f4 f5 f6 f7 stored) l && apart o l) = checkIn o l stored := by
  rw [fitIn_is (entryT_apart o f1 f2 f3 f4 f5 f6 f7 stored)]
  unfold checkIn rules ruled has
  simp only [List.all_cons, List.all_nil, entryT, Bool.true_and, Bool.false_and, Bool.or_false, Bool.false_or, Bool.and_true, Bool.true_or]
  have nle : ∀ m : Nat, (!decide (1 < m)) = decide (m ≤ 1) := fun m => by
    by_cases h : m ≤ 1
    · rw [decide_eq_true h, decide_eq_false (by omega)]; rfl
    · rw [decide_eq_false h, decide_eq_true (by omega)]; rfl
  have nz : ∀ m : Nat, (!decide (m = 0)) = decide (m ≠ 0) := fun m => by simp
  have hs : ∀ x y : Bool, (!stored || (x && y)) = ((!stored || x) && (!stored || y)) := fun x y => by cases stored <;> simp
  have hn : ∀ m : Nat, (!(stored && decide (m = 0))) = (!stored || decide (m ≠ 0)) := fun m => by rw [Bool.not_and, nz]
  simp only [Bool.not_or, nle, nz, hs, hn]
  have e1 : "author".toUTF8.data.toList = lit "author" := rfl
  have e2 : "category".toUTF8.data.toList = lit "category" := rfl
  have e3 : "content".toUTF8.data.toList = lit "content" := rfl
  have e4 : "contributor".toUTF8.data.toList = lit "contributor" := rfl
  have e5 : "id".toUTF8.data.toList = lit "id" := rfl
  have e6 : "link".toUTF8.data.toList = lit "link" := rfl
  have e7 : "published".toUTF8.data.toList = lit "published" := rfl
  have e8 : "rights".toUTF8.data.toList = lit "rights" := rfl
  have e9 : "summary".toUTF8.data.toList = lit "summary" := rfl
  have e10 : "title".toUTF8.data.toList = lit "title" := rfl
  have e11 : "updated".toUTF8.data.toList = lit "updated" := rfl
  simp only [e1, e2, e3, e4, e5, e6, e7, e8, e9, e10, e11]
  ac_rfl
end Am
end Go.Proofs.YtbaclacfadkjdaaGreatDoor
namespace Go.Proofs.YtbaclacfadkjdaaGreatDoor
open Go.RowKit
set_option linter.unusedVariables false
set_option linter.unusedSimpArgs false
set_option maxRecDepth 100000 in
set_option maxHeartbeats 3200000 in
theorem pIs_at (k : Int) (sp nm d s m : ByteArray) (va vk : Value) (as' : List Gv.Att) (kids : List Gv.Node) (w : World) :
    Calls Tryz.prog 17 #[.agg #[.int .i64 k, .string sp, .string nm, va, vk, .string d], .string s, .string m] w fun e w' => e = .returned (.bool (Am.isEl (.mk k sp nm as' kids d) s.data.toList m.data.toList)) ∧ Below w.heap.size w w' := by
  have hq : Hid (Am.isEl (.mk k sp nm as' kids d) s.data.toList m.data.toList = (decide (k = 0) && decide (sp.data.toList = s.data.toList) && decide (nm.data.toList = m.data.toList))) := Lib.hid rfl
  generalize Am.isEl (.mk k sp nm as' kids d) s.data.toList m.data.toList = Q at *
  have b1 := (Below.refl w.heap.size w).alloc (Nat.le_refl _) (.cells #[.int .i64 k, .string sp, .string nm, va, vk, .string d] 25)
  by_cases h0 : k = 0
  · subst h0
    by_cases h1 : sp.data.toList = s.data.toList
    · have e1 := am_yes h1
      by_cases h2 : nm.data.toList = m.data.toList
      · have e2 := am_yes h2
        have hr : Hid (Q = true) := Lib.hid (by rw [hq.out]; simp [h1, h2])
        clear hq h1 h2
        go_enter Tryz.func17, Tryz.ntmps17
        go_wp2_with fail
        go_ret
        exact ⟨ret_bool hr.out.symm, b1⟩
      · have e2 := am_no h2
        have hr : Hid (Q = false) := Lib.hid (by rw [hq.out]; simp [h1, h2])
        clear hq h1 h2
        go_enter Tryz.func17, Tryz.ntmps17
        go_wp2_with fail
        go_ret
        exact ⟨ret_bool hr.out.symm, b1⟩
    · have e1 := am_no h1
      have hr : Hid (Q = false) := Lib.hid (by rw [hq.out]; simp [h1])
      clear hq h1
      go_enter Tryz.func17, Tryz.ntmps17
      go_wp2_with fail
      go_ret
      exact ⟨ret_bool hr.out.symm, b1⟩
  · have e0 : (k == 0) = false := beq_false_of_ne h0
    have hr : Hid (Q = false) := Lib.hid (by rw [hq.out]; simp [h0])
    clear hq h0
    go_enter Tryz.func17, Tryz.ntmps17
    go_wp2_with fail
    go_ret
    exact ⟨ret_bool hr.out.symm, b1⟩
theorem pIs_any (n : Gv.Node) {A : Array Value} (s m : ByteArray) (w : World) (h : Nd w A n) :
    Calls Tryz.prog 17 #[.agg A, .string s, .string m] w fun e w' => e = .returned (.bool (Am.isEl n s.data.toList m.data.toList)) ∧ Below w.heap.size w w' := by
  obtain ⟨S, k, sp, nm, d, as', kids, ao, bo, ca, cb, rfl, rfl, ha, hk, h1, h2⟩ := h.form
  exact pIs_at k sp nm d s m _ _ as' kids w
set_option maxRecDepth 100000 in
set_option maxHeartbeats 3200000 in
theorem pPlain_any (n : Gv.Node) {A : Array Value} (w : World) (h : Nd w A n) :
    Calls Tryz.prog 57 #[.agg A] w fun e w' => e = .returned (.bool (Am.plain n)) ∧ Below w.heap.size w w' := by
  obtain ⟨S, k, sp, nm, d, as', kids, ao, bo, ca, cb, rfl, rfl, ha, hK, h1, hl⟩ := h.form
  unfold maxLen at hl
  have hq : Hid (Am.plain (.mk k sp nm as' kids d) = kids.all fun k => decide (Am.kindOf k ≠ 0)) := Lib.hid rfl
  generalize Am.plain (.mk k sp nm as' kids d) = Q at *
  have b1 := (Below.refl w.heap.size w).alloc (Nat.le_refl _) (.cells #[.int .i64 k, .string sp, .string nm, .slice ao as'.length ca, .slice bo kids.length cb, .string d] 25)
  have hK1 := hK.on b1
  go_enter Tryz.func57, Tryz.ntmps57
  go_wp2_with fail
  obtain ⟨-, -, -, -, c4, -⟩ := node_open (Cells.new w 25 (nodeArr k sp nm (.slice ao as'.length ca) (.slice bo kids.length cb) d))
  unfold nodeArr at c4
  generalize w.alloc (.cells #[.int .i64 k, .string sp, .string nm, .slice ao as'.length ca, .slice bo kids.length cb, .string d] 25) = wA at *
  replace b1 := Lib.hid b1
  replace hK1 := Lib.hid hK1
  clear hK h ha
  go_loopw [8] (fun i wr => ∃ j : Nat, j ≤ kids.length ∧ i = .int .i64 (j : Int) ∧ Hid ((kids.take j).all (fun k => decide (Am.kindOf k ≠ 0)) = true) ∧ Hid (Below wA.heap.size wA wr)) (fun i _ => kids.length - (intOf i).toNat)
  case atStart => exact ⟨0, Nat.zero_le _, rfl, Lib.hid (by simp), Lib.hid (Below.refl _ _)⟩
  case round =>
    obtain ⟨j, hj, rfl, hD, bw⟩ := hrel
    by_cases hlt : j < kids.length
    · obtain ⟨b, off, k', sp', nm', d', as2, kids2, po, qo, pc, qc, rfl, ek, d0, d1, d2, d3, d4, d5, -⟩ := (hK1.out.on bw.out).kid hlt
      have hji : (j : Int) < (kids.length : Int) := by omega
      have R := Cells.new wr 25 #[.int .i64 k', .string sp', .string nm', .slice po as2.length pc, .slice qo kids2.length qc, .string d']
      have q0 := R.cell (i := 0) rfl
      have bP := Lib.hid (bw.out.alloc (by have := bw.out.size; omega) (.cells #[.int .i64 k', .string sp', .string nm', .slice po as2.length pc, .slice qo kids2.length qc, .string d'] 25))
      clear R
      by_cases h0 : k' = 0
      · subst h0
        have hr : Hid (Q = false) := Lib.hid (by rw [hq.out]; exact am_all_bad _ _ j hlt (by rw [ek]; rfl))
        have bF := Lib.hid (b1.out.trans (bP.out.mono b1.out.size))
        clear hD ek hq bw bP
        go_wp2_with fail
        go_ret
        exact ⟨ret_bool hr.out.symm, bF.out⟩
      · have e0 : (k' == 0) = false := beq_false_of_ne h0
        have hD' := Lib.hid (am_all_more _ _ j hlt hD.out (by rw [ek]; exact decide_eq_true h0))
        clear hD ek h0 bw
        go_wp2_with fail
        go_roundw
        case rel => exact ⟨j + 1, by omega, by go_num, hD', bP⟩
        case measure => simp [intOf]; omega
    · have hr : Hid (Q = true) := Lib.hid (by rw [hq.out]; have := hD.out; rwa [List.take_of_length_le (by omega)] at this)
      have hki : ¬ (j : Int) < (kids.length : Int) := by omega
      have bF := Lib.hid (b1.out.trans (bw.out.mono b1.out.size))
      clear hD hq bw
      go_wp2_with fail
      go_ret
      exact ⟨ret_bool hr.out.symm, bF.out⟩
set_option maxRecDepth 100000 in
set_option maxHeartbeats 3200000 in
theorem pAttr_any (n : Gv.Node) {A : Array Value} (name : ByteArray) (w : World) (h : Nd w A n) :
    Calls Tryz.prog 51 #[.agg A, .string name] w fun e w' => e = .returned (.tuple #[.string (atA (Am.attr n name.data.toList)), .bool (atB (Am.attr n name.data.toList))]) ∧ Below w.heap.size w w' := by
  obtain ⟨S, k, sp, nm, d, as', kids, ao, bo, ca, cb, rfl, rfl, hA, hK, hl, h2⟩ := h.form
  unfold maxLen at hl
  have hq : Hid (Am.attr (.mk k sp nm as' kids d) name.data.toList = Am.attrIn as' name.data.toList) := Lib.hid rfl
  generalize Am.attr (.mk k sp nm as' kids d) name.data.toList = Q at *
  have b1 := (Below.refl w.heap.size w).alloc (Nat.le_refl _) (.cells #[.int .i64 k, .string sp, .string nm, .slice ao as'.length ca, .slice bo kids.length cb, .string d] 25)
  have hA1 := hA.stay (stay_below b1)
  go_enter Tryz.func51, Tryz.ntmps51
  go_wp2_with fail
  obtain ⟨-, -, -, c3, -, -⟩ := node_open (Cells.new w 25 (nodeArr k sp nm (.slice ao as'.length ca) (.slice bo kids.length cb) d))
  unfold nodeArr at c3
  generalize w.alloc (.cells #[.int .i64 k, .string sp, .string nm, .slice ao as'.length ca, .slice bo kids.length cb, .string d] 25) = wA at *
  replace b1 := Lib.hid b1
  replace hA1 := Lib.hid hA1
  clear hA h hK
  go_loopw [11] (fun i wr => ∃ j : Nat, j ≤ as'.length ∧ i = .int .i64 (j : Int) ∧ Hid (Q = Am.attrIn (as'.drop j) name.data.toList) ∧ Hid (Below wA.heap.size wA wr)) (fun i _ => as'.length - (intOf i).toNat)
  case atStart => exact ⟨0, Nat.zero_le _, rfl, Lib.hid (by rw [List.drop_zero]; exact hq.out), Lib.hid (Below.refl _ _)⟩
  case round =>
    obtain ⟨j, hj, rfl, hD, bw⟩ := hrel
    by_cases hlt : j < as'.length
    · have hst := hD.out
      rw [List.drop_eq_getElem_cons hlt, Am.attrIn_cons] at hst
      obtain ⟨asp, anm, ava, ea⟩ : ∃ asp anm ava, as'[j] = ⟨asp, anm, ava⟩ := ⟨_, _, _, rfl⟩
      obtain ⟨b, off, rfl, d0, d1, d2⟩ := (hA1.out.stay (stay_below bw.out)).cells hlt ea
      rw [ea] at hst
      dsimp only at hst
      have hji : (j : Int) < (as'.length : Int) := by omega
      have R := Cells.new wr 41 #[.string asp, .string anm, .string ava]
      have q0 := R.cell (i := 0) rfl
      have q1 := R.cell (i := 1) rfl
      have q2 := R.cell (i := 2) rfl
      have bP := Lib.hid (bw.out.alloc (by have := bw.out.size; omega) (.cells #[.string asp, .string anm, .string ava] 41))
      clear hD ea hq R bw
      by_cases h1 : asp.data.toList = []
      · have e1 : (asp.toList == []) = true := by rw [ByteArray.toList_eq]; simpa using h1
        by_cases h2 : anm.data.toList = name.data.toList
        · have e2 := am_yes h2
          rw [if_pos ⟨h1, h2⟩] at hst
          replace hst := Lib.hid hst
          have bF := Lib.hid (b1.out.trans (bP.out.mono b1.out.size))
          clear h1 h2 bP
          go_wp2_with fail
          go_ret2
          exact ⟨am_ret (by rw [hst.out]; exact bytes_eq (by unfold atA; simp)) (by rw [hst.out]; rfl), bF.out⟩
        · have e2 := am_no h2
          rw [if_neg (fun h => h2 h.2)] at hst
          replace hst := Lib.hid hst
          clear h1 h2
          go_wp2_with fail
          go_roundw
          case rel => exact ⟨j + 1, by omega, by go_num, hst, bP⟩
          case measure => simp [intOf]; omega
      · have e1 : (asp.toList == []) = false := by rw [ByteArray.toList_eq]; exact beq_false_of_ne h1
        rw [if_neg (fun h => h1 h.1)] at hst
        replace hst := Lib.hid hst
        clear h1
        go_wp2_with fail
        go_roundw
        case rel => exact ⟨j + 1, by omega, by go_num, hst, bP⟩
        case measure => simp [intOf]; omega
    · have hr : Hid (Q = none) := Lib.hid (by rw [hD.out, List.drop_of_length_le (by omega)]; rfl)
      have hki : ¬ (j : Int) < (as'.length : Int) := by omega
      have bF := Lib.hid (b1.out.trans (bw.out.mono b1.out.size))
      clear hD hq bw
      go_wp2_with fail
      go_ret2
      exact ⟨am_ret (by rw [hr.out]; rfl) (by rw [hr.out]; rfl), bF.out⟩
end Go.Proofs.YtbaclacfadkjdaaGreatDoor
