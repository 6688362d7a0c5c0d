/-
  Rules for kids, by their names, in plain Lean: what the program's own tables say is what the document asks of an entry's and of a person's kids.
  A map that the call itself has made by inserts alone, entry for entry: look-ups, stores, and a range over it in whatever order.
  The program's own word of one div alone among kids: isDivAlone.
  References in plain Lean, as the program goes about them: parts taken from the end on, signs byte by byte, pieces of a path on a stack.
-/
import Derived.Test.YtdhondndidoniaaGreatDoorG07
import Derived.Test.YtdhondndidoniaaGreatDoorG02
import Derived.Maps.RangeWalk
import Derived.Test.YtdhondndidoniaaGreatDoorG11
import Derived.Test.YtdhondndidoniaaGreatDoorG06
namespace Go.Proofs.YtdhondndidoniaaGreatDoor
namespace Am

/-- A rule: a name, the function that tells whether a kid fits, whether there is at most one, at least one; what the function says. -/
structure Rl where
  name : ByteArray
  fn : Nat
  one : Bool
  need : Bool
  fit : Gv.Node → Bool

def isA (k : Gv.Node) : Bool := decide (kindOf k = 0) && decide ((spaceOf k).data.toList = atomS)
def inN (nm : ByteArray) (k : Gv.Node) : Bool := isA k && decide (nameOf k = nm)
/-- How many kids have that name. -/
def rcnt (l : List Gv.Node) (nm : ByteArray) : Nat := (l.filter (inN nm)).length
def kidFits (T : List Rl) (k : Gv.Node) : Bool := !isA k || match T.find? fun r => decide (r.name = nameOf k) with
  | some r => r.fit k
  | none => true
def countFits (l : List Gv.Node) (r : Rl) : Bool := !(r.one && decide (1 < rcnt l r.name) || r.need && decide (rcnt l r.name = 0))
/-- KIDS ARE AS THE RULES ASK. -/
def fitIn (T : List Rl) (l : List Gv.Node) : Bool := l.all (kidFits T) && T.all (countFits l)

theorem inN_isEl (nm : ByteArray) (k : Gv.Node) : inN nm k = isEl k atomS nm.data.toList := by
  unfold inN isA isEl
  congr 1
  rw [decide_eq_decide]
  constructor
  · intro h; rw [h]
  · intro h
    cases hn : nameOf k
    cases nm
    rw [hn] at h
    simpa using h
theorem rcnt_allIn (l : List Gv.Node) (nm : ByteArray) : rcnt l nm = (allIn l nm.data.toList).length := by
  unfold rcnt allIn
  congr 2
  funext k
  exact inN_isEl nm k
theorem rcnt_snoc (l : List Gv.Node) (k : Gv.Node) (nm : ByteArray) : rcnt (l ++ [k]) nm = rcnt l nm + if inN nm k then 1 else 0 := by
  unfold rcnt
  rw [List.filter_append, List.length_append]
  cases h : inN nm k <;> simp [h]
theorem rcnt_le (l : List Gv.Node) (nm : ByteArray) : rcnt l nm ≤ l.length := List.length_filter_le _ _

/-- Kid by kid it is what it is name by name. -/
theorem kids_rules {T : List Rl} (hT : (T.map (·.name)).Nodup) (l : List Gv.Node) : l.all (kidFits T) = T.all fun r => (allIn l r.name.data.toList).all r.fit := by
  have key : ∀ k, kidFits T k = T.all fun r => !inN r.name k || r.fit k := by
    intro k
    unfold kidFits inN
    cases hk : isA k
    · simp
    · simp only [Bool.not_true, Bool.false_or, Bool.true_and]
      induction T with
      | nil => rfl
      | cons r T ih =>
        rw [List.map_cons, List.nodup_cons] at hT
        rw [List.find?_cons, List.all_cons]
        by_cases e : r.name = nameOf k
        · rw [decide_eq_true e, decide_eq_true e.symm]
          have hr : (T.all fun r => !decide (nameOf k = r.name) || r.fit k) = true := by
            rw [List.all_eq_true]
            intro x hx
            have : nameOf k ≠ x.name := fun e2 => hT.1 (by rw [e, e2]; exact List.mem_map.2 ⟨x, hx, rfl⟩)
            simp [this]
          simp [hr]
        · rw [decide_eq_false e, decide_eq_false (Ne.symm e)]
          simp only [Bool.not_false, Bool.true_or, Bool.true_and]
          exact ih hT.2
  rw [Bool.eq_iff_iff, List.all_eq_true, List.all_eq_true]
  constructor
  · intro h r hr
    rw [List.all_eq_true]
    intro k hk
    have hm := List.mem_filter.1 hk
    have h1 := h k hm.1
    rw [key, List.all_eq_true] at h1
    have h2 := h1 r hr
    rw [inN_isEl, hm.2] at h2
    simpa using h2
  · intro h k hk
    rw [key, List.all_eq_true]
    intro r hr
    cases hi : inN r.name k
    · rfl
    · have h1 := h r hr
      rw [List.all_eq_true] at h1
      simpa using h1 k (List.mem_filter.2 ⟨hk, by rw [← inN_isEl]; exact hi⟩)
theorem fitIn_is {T : List Rl} (hT : (T.map (·.name)).Nodup) (l : List Gv.Node) : fitIn T l = T.all fun r => (allIn l r.name.data.toList).all r.fit && !(r.one && decide (1 < (allIn l r.name.data.toList).length) || r.need && decide ((allIn l r.name.data.toList).length = 0)) := by
  unfold fitIn
  rw [kids_rules hT]
  unfold countFits
  simp only [rcnt_allIn]
  induction T with
  | nil => rfl
  | cons r T ih =>
    rw [List.map_cons, List.nodup_cons] at hT
    simp only [List.all_cons]
    rw [← ih hT.2]
    ac_rfl

variable (o : On)
/-- The program's rules for a person's kids. -/
def personT (f1 f2 f3 : Nat) : List Rl :=
  [⟨ "email".toUTF8, f1, true, false, fun n => plain n && decide ((trim (text n)).count 64 = 1) && decide ((trim (text n)).head? ≠ some 64) && decide ((trim (text n)).getLast? ≠ some 64)⟩,
   ⟨ "name".toUTF8, f2, true, true, fun n => plain n && decide (trim (text n) ≠ [])⟩,
   ⟨ "uri".toUTF8, f3, true, false, fun n => plain n && o.iri (trim (text n)) false⟩]
/-- .. and for an entry's. -/
def entryT (f1 f2 f3 f4 f5 f6 f7 : Nat) (stored : Bool) : List Rl :=
  [⟨ "author".toUTF8, f1, false, true, person o⟩, ⟨ "category".toUTF8, f2, false, false, fun n => (attr n (lit "term")).isSome⟩, ⟨ "content".toUTF8, f3, true, false, content o⟩, ⟨ "contributor".toUTF8, f1, false, false, person o⟩,
   ⟨ "id".toUTF8, f4, true, stored, fun n => plain n && o.iri (trim (text n)) true⟩, ⟨ "link".toUTF8, f5, false, false, link o⟩, ⟨ "published".toUTF8, f6, true, false, momentOk o⟩,
   ⟨ "rights".toUTF8, f7, true, false, textOk⟩, ⟨ "summary".toUTF8, f7, true, false, textOk⟩, ⟨ "title".toUTF8, f7, true, true, textOk⟩, ⟨ "updated".toUTF8, f6, true, stored, momentOk o⟩]
theorem personT_apart (f1 f2 f3 : Nat) : ((personT o f1 f2 f3).map (·.name)).Nodup := by
  show ["email".toUTF8, "name".toUTF8, "uri".toUTF8].Nodup
  decide +kernel
theorem entryT_apart (f1 f2 f3 f4 f5 f6 f7 : Nat) (s : Bool) : ((entryT o f1 f2 f3 f4 f5 f6 f7 s).map (·.name)).Nodup := by
  show ["author".toUTF8, "category".toUTF8, "content".toUTF8, "contributor".toUTF8, "id".toUTF8, "link".toUTF8, "published".toUTF8, "rights".toUTF8, "summary".toUTF8, "title".toUTF8, "updated".toUTF8].Nodup
  decide +kernel

theorem one_match {l : List Gv.Node} (f : Gv.Node → Bool) : (match l with | [] => true | [x] => f x | _ => false) = (l.all f && decide (l.length ≤ 1)) := by
  rcases l with _ | ⟨x, _ | ⟨y, l⟩⟩
  · rfl
  · simp
  · have : ¬ (x :: y :: l).length ≤ 1 := by simp
    rw [decide_eq_false this, Bool.and_false]
theorem just_match {l : List Gv.Node} (f : Gv.Node → Bool) : (match l with | [x] => f x | _ => false) = (l.all f && !(decide (1 < l.length) || decide (l.length = 0))) := by
  rcases l with _ | ⟨x, _ | ⟨y, l⟩⟩
  · rfl
  · simp
  · have : 1 < (x :: y :: l).length := by simp
    rw [decide_eq_true this]
    simp
theorem and_same {a b c d : Bool} (h : a = c) (k : b = d) : (a && b) = (c && d) := by rw [h, k]
theorem pPerson_is (f1 f2 f3 : Nat) (n : Gv.Node) : fitIn (personT o f1 f2 f3) (kidsOf n) = person o n := by
  rw [fitIn_is (personT_apart o f1 f2 f3)]
  rw [show person o n = ((((all n (lit "name")).all (fun x => plain x && decide (trim (text x) ≠ []))) && !(decide (1 < (all n (lit "name")).length) || decide ((all n (lit "name")).length = 0))) && (((all n (lit "uri")).all (fun x => plain x && o.iri (trim (text x)) false)) && decide ((all n (lit "uri")).length ≤ 1)) && (((all n (lit "email")).all (fun x => plain x && decide ((trim (text x)).count 64 = 1) && decide ((trim (text x)).head? ≠ some 64) && decide ((trim (text x)).getLast? ≠ some 64))) && decide ((all n (lit "email")).length ≤ 1))) from by
    unfold person
    exact and_same (and_same (just_match _) (one_match _)) (one_match _)]
  have e1 : allIn (kidsOf n) "email".toUTF8.data.toList = all n (lit "email") := rfl
  have e2 : allIn (kidsOf n) "name".toUTF8.data.toList = all n (lit "name") := rfl
  have e3 : allIn (kidsOf n) "uri".toUTF8.data.toList = all n (lit "uri") := rfl
  simp only [List.all_cons, List.all_nil, personT, Bool.true_and, Bool.false_and, Bool.or_false, Bool.and_true, e1, e2, e3]
  have nle : ∀ m : Nat, (!decide (1 < m)) = decide (m ≤ 1) := fun m => by
    by_cases h : m ≤ 1
    · rw [decide_eq_true h, decide_eq_false (by omega)]; rfl
    · rw [decide_eq_false h, decide_eq_true (by omega)]; rfl
  simp only [nle]
  generalize (all n (lit "email")).all _ = a1
  generalize decide ((all n (lit "email")).length ≤ 1) = a2
  generalize (all n (lit "uri")).all _ = a3
  generalize decide ((all n (lit "uri")).length ≤ 1) = a4
  generalize (all n (lit "name")).all _ = a5
  generalize (!(_ || _)) = a6
  ac_rfl
theorem pEntry_is (f1 f2 f3 f4 f5 f6 f7 : Nat) (l : List Gv.Node) (stored : Bool) :
    (fitIn (entryT o f1 f2 f3 f4 f5 f6 f7 stored) l && apart o l) = checkIn o l stored := by
  rw [fitIn_is (entryT_apart o f1 f2 f3 f4 f5 f6 f7 stored)]
  unfold checkIn rules ruled has
  simp only [List.all_cons, List.all_nil, entryT, Bool.true_and, Bool.false_and, Bool.or_false, Bool.false_or, Bool.and_true, Bool.true_or]
  have nle : ∀ m : Nat, (!decide (1 < m)) = decide (m ≤ 1) := fun m => by
    by_cases h : m ≤ 1
    · rw [decide_eq_true h, decide_eq_false (by omega)]; rfl
    · rw [decide_eq_false h, decide_eq_true (by omega)]; rfl
  have nz : ∀ m : Nat, (!decide (m = 0)) = decide (m ≠ 0) := fun m => by simp
  have hs : ∀ x y : Bool, (!stored || (x && y)) = ((!stored || x) && (!stored || y)) := fun x y => by cases stored <;> simp
  have hn : ∀ m : Nat, (!(stored && decide (m = 0))) = (!stored || decide (m ≠ 0)) := fun m => by rw [Bool.not_and, nz]
  simp only [Bool.not_or, nle, nz, hs, hn]
  have e1 : "author".toUTF8.data.toList = lit "author" := rfl
  have e2 : "category".toUTF8.data.toList = lit "category" := rfl
  have e3 : "content".toUTF8.data.toList = lit "content" := rfl
  have e4 : "contributor".toUTF8.data.toList = lit "contributor" := rfl
  have e5 : "id".toUTF8.data.toList = lit "id" := rfl
  have e6 : "link".toUTF8.data.toList = lit "link" := rfl
  have e7 : "published".toUTF8.data.toList = lit "published" := rfl
  have e8 : "rights".toUTF8.data.toList = lit "rights" := rfl
  have e9 : "summary".toUTF8.data.toList = lit "summary" := rfl
  have e10 : "title".toUTF8.data.toList = lit "title" := rfl
  have e11 : "updated".toUTF8.data.toList = lit "updated" := rfl
  simp only [e1, e2, e3, e4, e5, e6, e7, e8, e9, e10, e11]
  ac_rfl
end Am
end Go.Proofs.YtdhondndidoniaaGreatDoor
namespace Go.Proofs.YtdhondndidoniaaGreatDoor
open Go.RowKit Go.Maps
open Go.ChangeMaps (setBlock heap_setBlock_same heap_setBlock_other)

/-- The entries of such a map, stamped in their order. -/
def tabEnts : List (Value × Value) → Nat → List MapEntry
  | [], _ => []
  | p :: l, i => ⟨p.1, p.2, i⟩ :: tabEnts l (i + 1)
theorem tabEnts_len : ∀ (l : List (Value × Value)) (i : Nat), (tabEnts l i).length = l.length
  | [], _ => rfl
  | _ :: l, i => by simp [tabEnts, tabEnts_len l]
theorem tabEnts_get : ∀ (l : List (Value × Value)) (i j : Nat), (tabEnts l i)[j]? = (l[j]?).map fun p => ⟨p.1, p.2, i + j⟩
  | [], _, _ => by simp [tabEnts]
  | p :: l, i, 0 => by simp [tabEnts]
  | p :: l, i, j + 1 => by
    simp only [tabEnts, List.getElem?_cons_succ]
    rw [tabEnts_get l (i + 1) j, show i + 1 + j = i + (j + 1) from by omega]
theorem tabEnts_snoc : ∀ (l : List (Value × Value)) (i : Nat) (p : Value × Value), tabEnts (l ++ [p]) i = tabEnts l i ++ [⟨p.1, p.2, i + l.length⟩]
  | [], i, p => by simp [tabEnts]
  | q :: l, i, p => by
    simp only [List.cons_append, tabEnts, List.length_cons]
    rw [tabEnts_snoc l (i + 1) p, show i + 1 + l.length = i + (l.length + 1) from by omega]
theorem tabEnts_set : ∀ (l : List (Value × Value)) (i j : Nat) (p : Value × Value), (tabEnts l i).set j ⟨p.1, p.2, i + j⟩ = tabEnts (l.set j p) i
  | [], _, _, _ => by simp [tabEnts]
  | q :: l, i, 0, p => by simp [tabEnts]
  | q :: l, i, j + 1, p => by
    simp only [tabEnts, List.set_cons_succ]
    rw [show i + (j + 1) = i + 1 + j from by omega, tabEnts_set l (i + 1) j p]
theorem tabEnts_mem {l : List (Value × Value)} {i : Nat} {e : MapEntry} (h : e ∈ tabEnts l i) : ∃ j, ∃ hj : j < l.length, e = ⟨l[j].1, l[j].2, i + j⟩ := by
  obtain ⟨j, hj, rfl⟩ := List.getElem_of_mem h
  have hj' : j < l.length := by rwa [tabEnts_len] at hj
  refine ⟨j, hj', ?_⟩
  have := tabEnts_get l i j
  rw [List.getElem?_eq_getElem hj, List.getElem?_eq_getElem hj'] at this
  simpa using this

/-- BLOCK b IS A MAP THAT HOLDS THESE PAIRS, laid in this order. -/
def Tab (w : World) (b : Nat) (l : List (Value × Value)) : Prop := w.heap[b]? = some (.map (tabEnts l 0).toArray l.length)
theorem Tab.new (w : World) : Tab (w.alloc (.map #[] 0)) w.heap.size [] := heap_alloc_new w _
theorem Tab.lt {w : World} {b : Nat} {l : List (Value × Value)} (h : Tab w b l) : b < w.heap.size := (Array.getElem?_eq_some_iff.1 h).1
theorem Tab.on {w w' : World} {b : Nat} {l : List (Value × Value)} (h : Tab w b l) (hb : Below w.heap.size w w') : Tab w' b l := (hb.block b h.lt).trans h
theorem Tab.kept {w w' : World} {b : Nat} {l : List (Value × Value)} {row : Option Nat} (h : Tab w b l) (hg : w.grownBy w' row) (hne : some b ≠ row) : Tab w' b l := (hg.block b h.lt hne).trans h

/-- Each key reads as one. -/
def TabKeys (P : Program) (k : TypeId) (l : List (Value × Value)) : Prop := ∀ p ∈ l, ∃ x, keyOf P k p.1 = some x

section
variable {P : Program} {k e t : TypeId} {w : World} {b : Nat} {l : List (Value × Value)}

theorem tabKeys_ents (hl : TabKeys P k l) : ∀ e ∈ tabEnts l 0, ∃ x, keyOf P k e.key = some x := by
  intro e he
  obtain ⟨j, hj, rfl⟩ := tabEnts_mem he
  exact hl _ (List.getElem_mem hj)

/-- Which pair bears a key. -/
theorem tab_find (K : Keyed P k) (w : World) (hl : TabKeys P k l) {x : Value} {lx : Lit} (hx : keyOf P k x = some lx) :
    ((Instr.findKey k x (tabEnts l 0)).run P w = .ok none w ∧ ∀ p ∈ l, p.1 ≠ x) ∨ ∃ j v, (Instr.findKey k x (tabEnts l 0)).run P w = .ok (some (j, v)) w ∧ l[j]? = some (x, v) := by
  rcases K.find w hx (tabEnts l 0) (tabKeys_ents hl) with ⟨h1, h2⟩ | ⟨j, e0, h1, h2, h3⟩
  · refine .inl ⟨h1, fun p hp => ?_⟩
    obtain ⟨j, hj, rfl⟩ := List.getElem_of_mem hp
    have h := tabEnts_get l 0 j
    rw [List.getElem?_eq_getElem hj] at h
    exact h2 _ (List.mem_of_getElem? h)
  · refine .inr ⟨j, e0.val, h1, ?_⟩
    rw [tabEnts_get] at h2
    cases hj : l[j]? with
    | none => rw [hj] at h2; cases h2
    | some p =>
      rw [hj] at h2
      cases h2
      subst h3
      rfl

/-- 'm[k]', 'v, ok := m[k]'. -/
theorem Tab.look (K : Keyed P k) (ht : P.underlying t = some (.map k e)) {z : Value} (hz : (zeroValue e).run P w = .ok z w) (hb : Tab w b l) (hl : TabKeys P k l) {x : Value} {lx : Lit} (hx : keyOf P k x = some lx) (c : Bool) :
    ((Instr.lookup t (.map (some b)) x c).run P w = .ok (if c then .tuple #[z, .bool false] else z) w ∧ ∀ p ∈ l, p.1 ≠ x) ∨
    ∃ v, (Instr.lookup t (.map (some b)) x c).run P w = .ok (if c then .tuple #[v, .bool true] else v) w ∧ (x, v) ∈ l := by
  rcases tab_find K w hl hx with ⟨h1, h2⟩ | ⟨j, v, h1, h2⟩
  · exact .inl ⟨by simp [Instr.lookup, run_underlying ht, MapKept.run_getObj_map hb, K.check w _ hx, h1, hz, Result.andThen], h2⟩
  · exact .inr ⟨v, by simp [Instr.lookup, run_underlying ht, MapKept.run_getObj_map hb, K.check w _ hx, h1, Result.andThen], List.mem_of_getElem? h2⟩

/-- 'm[k] = v'. -/
theorem Tab.put (K : Keyed P k) (ht : P.underlying t = some (.map k e)) (hb : Tab w b l) (hl : TabKeys P k l) {x : Value} {lx : Lit} (hx : keyOf P k x = some lx) (v : Value) :
    ∃ w', (Instr.mapUpdate t (.map (some b)) x v).run P w = .ok () w' ∧ w.grownBy w' (some b) ∧ w'.heap.size = w.heap.size ∧
      (((∀ p ∈ l, p.1 ≠ x) ∧ Tab w' b (l ++ [(x, v)])) ∨ ∃ j u, l[j]? = some (x, u) ∧ Tab w' b (l.set j (x, v))) := by
  have grow : ∀ o, w.grownBy (setBlock w b o) (some b) := fun o => ⟨rfl, rfl, rfl, by simp [setBlock], fun i _ hi => heap_setBlock_other hb _ (fun e => hi (by rw [e]))⟩
  rcases tab_find K w hl hx with ⟨h1, h2⟩ | ⟨j, u, h1, h2⟩
  · refine ⟨setBlock w b (.map ((tabEnts l 0).toArray.push ⟨x, v, l.length⟩) (l.length + 1)), ?_, grow _, by simp [setBlock], .inl ⟨h2, ?_⟩⟩
    · simp [Instr.mapUpdate, run_underlying ht, MapKept.run_getObj_map hb, K.check w false hx, h1, MapKept.run_setObj_map _ hb, Result.andThen, setBlock]
    · unfold Tab
      rw [heap_setBlock_same hb, tabEnts_snoc]
      simp
  · have hg : (tabEnts l 0)[j]? = some ⟨x, u, j⟩ := by rw [tabEnts_get, h2]; simp
    have hga : (tabEnts l 0).toArray[j]? = some ⟨x, u, j⟩ := by simpa using hg
    refine ⟨setBlock w b (.map ((tabEnts l 0).toArray.modify j (fun e' => { e' with key := x, val := v })) l.length), ?_, grow _, by simp [setBlock], .inr ⟨j, u, h2, ?_⟩⟩
    · simp [Instr.mapUpdate, run_underlying ht, MapKept.run_getObj_map hb, K.check w false hx, h1, hg, K.stays w hx, MapKept.run_setObj_map _ hb, Result.andThen, setBlock]
    · unfold Tab
      rw [heap_setBlock_same hb, List.length_set, ← tabEnts_set]
      congr 2
      apply Array.toList_inj.1
      rw [Array.toList_modify, ChangeMaps.modify_eq_set _ _ _ _ hg]
      simp

/-- A RANGE OVER SUCH A MAP IS UNDER WAY: r, the iterator's block; what has come, by place. -/
def Rng (w : World) (b r : Nat) (l : List (Value × Value)) (seen : List Nat) : Prop := Tab w b l ∧ w.heap[r]? = some (.mapIter (some b) l.length seen.toArray l.length)
theorem Rng.lt {r : Nat} {seen : List Nat} (h : Rng w b r l seen) : r < w.heap.size := (Array.getElem?_eq_some_iff.1 h.2).1
theorem Rng.ne {r : Nat} {seen : List Nat} (h : Rng w b r l seen) : r ≠ b := by
  intro e
  have h1 := h.1
  unfold Tab at h1
  rw [← e, h.2] at h1
  cases h1
theorem Rng.on {w' : World} {r : Nat} {seen : List Nat} (h : Rng w b r l seen) (hb : Below w.heap.size w w') : Rng w' b r l seen := ⟨h.1.on hb, (hb.block r h.lt).trans h.2⟩
theorem Tab.range (ht : P.underlying t = some (.map k e)) (hb : Tab w b l) :
    (Instr.range t (.map (some b))).run P w = .ok (.pointer (some ⟨w.heap.size, 0, none⟩)) (w.alloc (.mapIter (some b) l.length #[] l.length)) ∧ Rng (w.alloc (.mapIter (some b) l.length #[] l.length)) b w.heap.size l [] :=
  ⟨run_range_map w t k e b _ l.length ht hb, (heap_alloc_old w _ hb.lt).trans hb, heap_alloc_new w _⟩

theorem tabEnts_born : ∀ (l : List (Value × Value)) (i : Nat), (tabEnts l i).map (·.born) = List.range' i l.length
  | [], i => rfl
  | p :: l, i => by simp [tabEnts, tabEnts_born l (i + 1), List.range'_succ]

/-- THE STEP: nothing is left; or some pair, whichever, that has not come. -/
theorem Rng.next {r : Nat} {seen : List Nat} (h : Rng w b r l seen) (ty : TypeId) :
    ((∀ i, i < l.length → i ∈ seen) ∧ (Instr.next (.pointer (some ⟨r, 0, none⟩)) false ty).run P w = .ok (.tuple #[.bool false]) w) ∨
    ∃ (i : Nat) (hi : i < l.length) (w' : World), i ∉ seen ∧ (Instr.next (.pointer (some ⟨r, 0, none⟩)) false ty).run P w = .ok (.tuple #[.bool true, l[i].1, l[i].2]) w' ∧ Rng w' b r l (seen ++ [i]) ∧ w.grownBy w' (some r) ∧ w'.heap.size = w.heap.size ∧
      (Instr.entry (.pointer (some ⟨r, 0, none⟩))).run P w' = .ok (.tuple #[l[i].1, l[i].2]) w' := by
  have hne := h.ne
  have hlt := h.lt
  obtain ⟨hb, hr⟩ := h
  have hold : ∀ x ∈ ((tabEnts l 0).toArray).toList, x.born < l.length := fun x hx => by
    obtain ⟨j, hj, rfl⟩ := tabEnts_mem (show x ∈ tabEnts l 0 by simpa using hx)
    simpa using hj
  rcases run_next_at (P := P) w ty r b l.length l.length seen.toArray (tabEnts l 0).toArray l.length hr hb hold (Nat.le_refl _) with ⟨h0, hrun⟩ | ⟨e, he, w1, hal, hrun⟩
  · refine .inl ⟨fun i hi => ?_, hrun⟩
    have hg := tabEnts_get l 0 i
    rw [List.getElem?_eq_getElem hi] at hg
    have := all_seen (tabEnts l 0).toArray seen.toArray h0 _ (by simpa using List.mem_of_getElem? hg)
    simpa using this
  · obtain ⟨hem, hes⟩ := mem_left he
    obtain ⟨i, hi, rfl⟩ := tabEnts_mem (show e ∈ tabEnts l 0 by simpa using hem)
    simp only [Nat.zero_add] at hes hrun hem
    have hr1 : w1.heap[r]? = some (.mapIter (some b) l.length seen.toArray l.length) := by rcases hal with rfl | rfl <;> exact hr
    have hb1 : w1.heap[b]? = some (.map (tabEnts l 0).toArray l.length) := by rcases hal with rfl | rfl <;> exact hb
    have s1 : (setBlock w1 r (.mapIter (some b) l.length (seen.toArray.push i) l.length)).heap[r]? = some (.mapIter (some b) l.length (seen.toArray.push i) l.length) := by
      simp only [setBlock]
      rw [Array.getElem?_setIfInBounds_self_of_lt]
      exact (Array.getElem?_eq_some_iff.1 hr1).1
    have s2 : ∀ j, j ≠ r → (setBlock w1 r (.mapIter (some b) l.length (seen.toArray.push i) l.length)).heap[j]? = w.heap[j]? := fun j hj => by
      simp only [setBlock]
      rw [Array.getElem?_setIfInBounds_ne (Ne.symm hj)]
      rcases hal with rfl | rfl <;> rfl
    refine .inr ⟨i, hi, setBlock w1 r (.mapIter (some b) l.length (seen.toArray.push i) l.length), ?_, hrun, ⟨(s2 b (Ne.symm hne)).trans hb, ?_⟩, ⟨?_, ?_, ?_, ?_, fun j _ hj => s2 j (fun e => hj (by rw [e]))⟩, ?_, ?_⟩
    · simpa using hes
    · rw [s1]; simp
    · rcases hal with rfl | rfl <;> rfl
    · rcases hal with rfl | rfl <;> rfl
    · rcases hal with rfl | rfl <;> rfl
    · rcases hal with rfl | rfl <;> simp [setBlock]
    · rcases hal with rfl | rfl <;> simp [setBlock]
    · exact run_entry_at (P := P) _ r b l.length seen.toArray (tabEnts l 0).toArray l.length ⟨l[i].1, l[i].2, i⟩ s1 ((s2 b (Ne.symm hne)).trans hb) hem (by
        simp only [tabEnts_born]
        exact List.nodup_range')
end
end Go.Proofs.YtdhondndidoniaaGreatDoor
namespace Go.Proofs.YtdhondndidoniaaGreatDoor
open Go.RowKit
set_option linter.unusedVariables false
set_option linter.unusedSimpArgs false

theorem am_empty (s : ByteArray) : ((s.toList == []) = true ∧ (s.toList != []) = false ∧ s.data.toList = []) ∨ ((s.toList == []) = false ∧ (s.toList != []) = true ∧ ¬ s.data.toList = []) := by
  rw [ByteArray.toList_eq]
  cases s.data.toList with
  | nil => exact .inl ⟨rfl, rfl, rfl⟩
  | cons b l => exact .inr ⟨rfl, rfl, by simp⟩
theorem Am.drop_nil (p : UInt8 → Bool) : ∀ l : List UInt8, l.dropWhile p = [] ↔ l.all p = true
  | [] => by simp
  | b :: l => by
    rw [List.dropWhile_cons, List.all_cons]
    cases h : p b
    · simp
    · rw [if_pos rfl, Am.drop_nil p l, Bool.true_and]
theorem Am.trim_nil (l : List UInt8) : Am.trim l = [] ↔ l.all Am.space = true := by
  rw [Am.trim_is]
  unfold Am.trimR
  rw [List.reverse_eq_nil_iff, Am.drop_nil, List.all_reverse]
  have h := List.takeWhile_append_dropWhile (p := Am.space) (l := l)
  have h2 := congrArg (List.all · Am.space) h
  simp only [List.all_append] at h2
  rw [← h2, List.all_takeWhile, Bool.true_and]
theorem trS_pick (s : ByteArray) : (((trS s).toList == []) = true ∧ ((trS s).toList != []) = false ∧ s.data.toList.all Am.space = true) ∨ (((trS s).toList == []) = false ∧ ((trS s).toList != []) = true ∧ s.data.toList.all Am.space = false) := by
  rcases am_empty (trS s) with ⟨h1, h2, h3⟩ | ⟨h1, h2, h3⟩
  · exact .inl ⟨h1, h2, (Am.trim_nil _).1 (by rw [← trS_list]; exact h3)⟩
  · refine .inr ⟨h1, h2, ?_⟩
    rw [← Bool.not_eq_true]
    exact fun e => h3 (by rw [trS_list]; exact (Am.trim_nil _).2 e)

set_option maxRecDepth 100000 in
set_option maxHeartbeats 6400000 in
theorem pDivs_any {S : Nat → Prop} {bo : Option Addr} {cb : Nat} (kids : List Gv.Node) (w : World) (hK : KidsAt S w (.slice bo kids.length cb) kids) (hkz : kids.length ≤ 1000000) (hwk0 : ∀ x, x ∈ kids → Gv.wt x ≤ 1000000) :
    Calls Tryz.prog 121 #[.slice bo kids.length cb] w fun e w' => e = .returned (.bool (decide ((kids.filter Am.isDiv).length = 1) && kids.all Am.divOk)) ∧ Below w.heap.size w w' := by
  obtain ⟨Q, hq⟩ : ∃ Q, Q = (decide ((kids.filter Am.isDiv).length = 1) && kids.all Am.divOk) := ⟨_, rfl⟩
  rw [← hq]
  replace hq := Lib.hid hq
  have hwk := Lib.hid hwk0
  replace hK := Lib.hid hK
  clear hwk0
  go_enter Tryz.func121, Tryz.ntmps121
  go_wp2_with fail
  go_loopw [3, 8] (fun c i wr => ∃ j m : Nat, j ≤ kids.length ∧ i = .int .i64 (j : Int) ∧ c = .int .i64 (m : Int) ∧ m ≤ j ∧ Hid (m = ((kids.take j).filter Am.isDiv).length) ∧ Hid ((kids.take j).all Am.divOk = true) ∧ Hid (Below w.heap.size w wr)) (fun _ i _ => kids.length - (intOf i).toNat)
  case atStart => exact ⟨0, 0, Nat.zero_le _, rfl, rfl, Nat.le_refl _, Lib.hid (by simp), Lib.hid (by simp), Lib.hid (Below.refl _ _)⟩
  case round =>
    obtain ⟨j, m, hj, rfl, rfl, hmj, hm, hall, bw⟩ := hrel
    by_cases hlt : j < kids.length
    · obtain ⟨b, off, k', sp', nm', d', x3, x4, rfl, d0, d1, d2, d3, d4, d5, hN, ⟨po, pn, pc, rfl⟩, ⟨qo, qn, qc, rfl⟩, hkd, hdd⟩ := (hK.out.on bw.out).nd hlt
      have hwt := hwk.out kids[j] (List.getElem_mem hlt)
      have hdw := Am.data_wt kids[j]
      have hmr := Am.divs_more hlt
      have hbad := Lib.hid (fun e => am_all_bad Am.divOk kids j hlt e)
      have hgood := Lib.hid (fun e => am_all_more Am.divOk kids j hlt hall.out e)
      have hok : Hid (Am.divOk kids[j] = (Am.isDiv kids[j] || !(decide (k' = 0) || (decide (k' = 1) && !(d'.data.toList.all Am.space))))) := Lib.hid (by unfold Am.divOk; rw [hkd, hdd])
      rw [hdd] at hdw
      have bx := (Below.refl wr.heap.size wr).alloc (Nat.le_refl _) (.cells #[.int .i64 k', .string sp', .string nm', .slice po pn pc, .slice qo qn qc, .string d'] 27)
      have hN1 := Lib.hid (hN.on bx)
      have C1 := Cells.new wr 27 (nodeArr k' sp' nm' (.slice po pn pc) (.slice qo qn qc) d')
      unfold nodeArr at C1
      replace C1 := Lib.hid C1
      have bw1 := Lib.hid (bw.out.trans (bx.mono bw.out.size))
      have hbl := Lib.hid (fun W => pWithout_any d' W (by omega))
      have hpick := trS_pick d'
      generalize trS d' = td at *
      clear hN bx bw hkd hdd hdw hwt
      have hji : (j : Int) < (kids.length : Int) := by omega
      go_upto_region 5 with fail
      clear d0 d1 d2 d3 d4 d5
      generalize wr.alloc (.cells #[.int .i64 k', .string sp', .string nm', .slice po pn pc, .slice qo qn qc, .string d'] 27) = w1 at *
      obtain ⟨x0, x1, x2, x3, x4, x5⟩ := node_open (show Cells w1 _ _ (nodeArr k' sp' nm' (.slice po pn pc) (.slice qo qn qc) d') from C1.out)
      have his := pIs_any kids[j] ⟨#[104, 116, 116, 112, 58, 47, 47, 119, 119, 119, 46, 119, 51, 46, 111, 114, 103, 47, 49, 57, 57, 57, 47, 120, 104, 116, 109, 108]⟩ ⟨#[100, 105, 118]⟩ w1 hN1.out
      rw [am_xhtml, am_div] at his
      change Calls _ _ _ _ fun e w' => e = .returned (.bool (Am.isDiv kids[j])) ∧ _ at his
      replace his := Lib.hid his
      generalize Am.divOk kids[j] = dk at *
      generalize Am.isDiv kids[j] = y at *
      generalize kids[j] = nd at *
      generalize d'.data.toList.all Am.space = bl at *
      go_wp2_with fail
      (with_reducible refine (his.out).mono ?_); rintro e w2 ⟨rfl, b2⟩
      have C2 := C1.out.on b2
      obtain ⟨z0, z1, z2, z3, z4, z5⟩ := node_open (show Cells w2 _ _ (nodeArr k' sp' nm' (.slice po pn pc) (.slice qo qn qc) d') from C2)
      have bw2 := Lib.hid (bw1.out.trans (b2.mono bw1.out.size))
      clear x0 x1 x2 x3 x4 x5 C1 bw1 b2 his C2 z1 z2 z3 z4
      cases y with
      | true =>
        have hok2 := Lib.hid (hgood.out (by rw [hok.out]; rfl))
        have hm2 : Hid (m + 1 = ((kids.take (j + 1)).filter Am.isDiv).length) := Lib.hid (by rw [hmr, ← hm.out]; rfl)
        clear hmr hgood hbad hok hpick
        go_wp2_with fail
        go_roundw
        case rel => exact ⟨j + 1, m + 1, by omega, by go_num, by go_num, by omega, hm2, hok2, bw2⟩
        case measure => simp [intOf]; omega
      | false =>
        have hm2 : Hid (m = ((kids.take (j + 1)).filter Am.isDiv).length) := Lib.hid (by rw [hmr, ← hm.out]; rfl)
        rw [Bool.false_or] at hok
        clear hmr
        by_cases k0 : k' = 0
        · subst k0
          have hr : Hid (Q = false) := Lib.hid (by rw [hq.out, hbad.out (by rw [hok.out]; rfl), Bool.and_false])
          clear hpick
          go_wp2_with fail
          go_ret
          exact ⟨ret_bool hr.out.symm, bw2.out⟩
        · have e0 : (k' == 0) = false := beq_false_of_ne k0
          by_cases k1 : k' = 1
          · subst k1
            have cc := Lib.hid (hbl.out w2)
            rcases hpick with ⟨e1, e2, rfl⟩ | ⟨e1, e2, rfl⟩
            · have hok2 := Lib.hid (hgood.out (by rw [hok.out]; rfl))
              clear hgood hbad hok hbl
              go_wp2_with fail
              (with_reducible refine (cc.out).mono ?_); rintro e w3 ⟨rfl, b3⟩
              have bw3 := Lib.hid (bw2.out.trans (b3.mono bw2.out.size))
              clear cc b3
              go_wp2_with fail
              go_roundw
              case rel => exact ⟨j + 1, m, by omega, by go_num, rfl, by omega, hm2, hok2, bw3⟩
              case measure => simp [intOf]; omega
            · have hr : Hid (Q = false) := Lib.hid (by rw [hq.out, hbad.out (by rw [hok.out]; rfl), Bool.and_false])
              clear hgood hbad hok hbl
              go_wp2_with fail
              (with_reducible refine (cc.out).mono ?_); rintro e w3 ⟨rfl, b3⟩
              have bw3 := Lib.hid (bw2.out.trans (b3.mono bw2.out.size))
              clear cc b3
              go_wp2_with fail
              go_ret
              exact ⟨ret_bool hr.out.symm, bw3.out⟩
          · have e1 : (k' == 1) = false := beq_false_of_ne k1
            have hok2 := Lib.hid (hgood.out (by rw [hok.out, decide_eq_false k0, decide_eq_false k1]; rfl))
            clear hgood hbad hok hpick
            go_wp2_with fail
            go_roundw
            case rel => exact ⟨j + 1, m, by omega, by go_num, rfl, by omega, hm2, hok2, bw2⟩
            case measure => simp [intOf]; omega
    · have hfull : kids.take j = kids := List.take_of_length_le (by omega)
      have hki : ¬ (j : Int) < (kids.length : Int) := by omega
      have hr : Hid (Q = decide (m = 1)) := Lib.hid (by
        have h1 := hm.out
        have h2 := hall.out
        rw [hfull] at h1 h2
        rw [hq.out, h2, ← h1, Bool.and_true])
      clear hfull
      by_cases hm1 : m = 1
      · subst hm1
        go_wp2_with fail
        go_ret
        exact ⟨ret_bool (by rw [hr.out]; rfl), bw.out⟩
      · have hmi : ((m : Int) == 1) = false := beq_false_of_ne (by omega)
        have hr2 : Hid (Q = false) := Lib.hid (by rw [hr.out]; exact decide_eq_false hm1)
        go_wp2_with fail
        go_ret
        exact ⟨ret_bool hr2.out.symm, bw.out⟩

theorem nd_slice {W : World} {n : Gv.Node} {a b c d e : Value} {bo : Option Addr} {m cb : Nat} (h : Nd W #[a, b, c, d, .slice bo m cb, e] n) : ∃ S, m = (Am.kidsOf n).length ∧ KidsAt S W (.slice bo m cb) (Am.kidsOf n) := by
  obtain ⟨S, k, sp, nm, d', as', kids, ao, bo', ca, cb', rfl, hA, ha, hK, h1, h2⟩ := h.form
  simp only [Array.mk.injEq, List.cons.injEq, Value.slice.injEq] at hA
  obtain ⟨-, -, -, -, ⟨rfl, rfl, rfl⟩, -⟩ := hA
  exact ⟨S, rfl, hK⟩
theorem pDiv_nd (n : Gv.Node) (W : World) {a b c d e : Value} {bo : Option Addr} {m cb : Nat} (h : Nd W #[a, b, c, d, .slice bo m cb, e] n) (hz : Gv.wt n ≤ 100000) :
    Calls Tryz.prog 121 #[.slice bo m cb] W fun e w' => e = .returned (.bool (Am.div n)) ∧ Below W.heap.size W w' := by
  obtain ⟨S, rfl, hK⟩ := nd_slice h
  rw [Am.div_is]
  exact pDivs_any _ W hK (by have := Am.kids_wt n; omega) (fun x hx => Nat.le_trans (Am.mem_kids hx) (by omega))
end Go.Proofs.YtdhondndidoniaaGreatDoor
namespace Go.Proofs.YtdhondndidoniaaGreatDoor
open Go.RowKit
namespace Lc

/-! Parts, from the end on. -/
theorem cut_one {l : List UInt8} {c : UInt8} {b : UInt8} (h : b ∈ cut l [c]) : b ≠ c := by
  have := cut_not h
  simpa using this
theorem rest_one (l : List UInt8) (c : UInt8) : rest l [c] = [] ∨ ∃ r, rest l [c] = c :: r := by
  cases h : rest l [c] with
  | nil => exact .inl rfl
  | cons b t =>
    have := rest_head h
    have : b = c := by simpa using this
    exact .inr ⟨t, by rw [this]⟩
theorem split_end (s : List UInt8) :
    hoB s = hoB (cut (cut s [35]) [63]) ∧
    hoA s = (if hoB (cut (cut s [35]) [63]) then cut ((cut (cut s [35]) [63]).drop 2) [47] else []) ∧
    paA (hoR s) = (if hoB (cut (cut s [35]) [63]) then rest ((cut (cut s [35]) [63]).drop 2) [47] else cut (cut s [35]) [63]) ∧
    quB (paR (hoR s)) = !(rest (cut s [35]) [63]).isEmpty ∧ quA (paR (hoR s)) = (rest (cut s [35]) [63]).drop 1 ∧
    frB (quR (paR (hoR s))) = !(rest s [35]).isEmpty ∧ frA (quR (paR (hoR s))) = (rest s [35]).drop 1 := by
  have e1 := cut_rest s [35]
  have e2 := cut_rest (cut s [35]) [63]
  have f1 : ∀ x ∈ cut s [35], x ≠ 35 := fun x h => cut_one h
  have f2 : ∀ x ∈ cut (cut s [35]) [63], x ≠ 63 := fun x h => cut_one h
  have r1 := rest_one s 35
  have r2 := rest_one (cut s [35]) 63
  generalize cut s [35] = a at *
  generalize rest s [35] = ra at *
  generalize cut a [63] = b at *
  generalize rest a [63] = rb at *
  have fb : ∀ x ∈ b, x ≠ 35 := fun x h => f1 x (by rw [← e2]; simp [h])
  have fr : ∀ x ∈ rb, x ≠ 35 := fun x h => f1 x (by rw [← e2]; simp [h])
  subst e2
  subst e1
  clear f1
  rw [List.append_assoc]
  have hT : rb ++ ra = [] ∨ ∃ x r', rb ++ ra = x :: r' ∧ ([63, 35] : List UInt8).contains x = true := by
    rcases r2 with rfl | ⟨q, rfl⟩
    · rcases r1 with rfl | ⟨q, rfl⟩
      · exact .inl rfl
      · exact .inr ⟨35, q, rfl, rfl⟩
    · exact .inr ⟨63, q ++ ra, rfl, rfl⟩
  have hq : quB (rb ++ ra) = !rb.isEmpty ∧ quA (rb ++ ra) = rb.drop 1 ∧ quR (rb ++ ra) = ra := by
    unfold quA quR
    rcases r2 with rfl | ⟨q, rfl⟩
    · have : quB ([] ++ ra) = false := by
        rcases r1 with rfl | ⟨q, rfl⟩
        · rfl
        · rfl
      rw [this]
      exact ⟨rfl, rfl, rfl⟩
    · have hc := cut_full (t := 63 :: q) (r := ra) (m := [35]) (fun x hx => by have := fr x hx; simpa using this) (by
        rcases r1 with rfl | ⟨q', rfl⟩
        · exact .inl rfl
        · exact .inr ⟨35, q', rfl, rfl⟩)
      have : quB (63 :: q ++ ra) = true := by simp [quB]
      rw [this, if_pos rfl, if_pos rfl, hc.1, hc.2]
      exact ⟨rfl, rfl, rfl⟩
  have key : ∀ p : List UInt8, (∀ x ∈ p, x ≠ 63 ∧ x ≠ 35) → paA (p ++ (rb ++ ra)) = p ∧ paR (p ++ (rb ++ ra)) = rb ++ ra := fun p hp =>
    cut_full (fun x hx => by have := hp x hx; simp [this.1, this.2]) hT
  have hb : hoB (b ++ (rb ++ ra)) = hoB b := by
    have n47 : ∀ x r', rb ++ ra = x :: r' → x ≠ 47 := by
      intro x r' e
      rcases hT with h | ⟨y, r2', h, hy⟩
      · rw [h] at e; cases e
      · rw [h] at e
        injection e with e _
        subst e
        rintro rfl
        simp at hy
    unfold hoB
    match b with
    | [] =>
      cases hh : rb ++ ra with
      | nil => rfl
      | cons x r' =>
        have := n47 x r' hh
        cases r' <;> simp [this]
    | [x] =>
      cases hh : rb ++ ra with
      | nil => rfl
      | cons y r' =>
        have := n47 y r' hh
        simp [this]
    | x :: y :: r => simp
  have hfree : ∀ x ∈ b, x ≠ 63 ∧ x ≠ 35 := fun x h => ⟨f2 x h, fb x h⟩
  rw [hb]
  unfold hoA hoR
  rw [hb]
  cases hh : hoB b with
  | false =>
    obtain ⟨k1, k2⟩ := key b hfree
    simp only [Bool.false_eq_true, if_false]
    rw [k1, k2, hq.1, hq.2.1, hq.2.2]
    refine ⟨?_, ?_, ?_, ?_, ?_, ?_, ?_⟩ <;> first | trivial | rfl
  | true =>
    obtain ⟨h, rfl⟩ : ∃ h, b = 47 :: 47 :: h := by
      unfold hoB at hh
      match b, hh with
      | [], hh => simp at hh
      | [x], hh => simp at hh
      | x :: y :: h, hh =>
        simp at hh
        exact ⟨h, by rw [hh.1, hh.2]⟩
    simp only [if_true, List.cons_append, List.drop_succ_cons, List.drop_zero]
    have e3 := cut_rest h [47]
    have hin : ∀ x ∈ h, x ≠ 63 ∧ x ≠ 35 := fun x hx => hfree x (by simp [hx])
    have g1 : ∀ x ∈ cut h [47], x ≠ 47 := fun x hx => cut_one hx
    have g2 : ∀ x ∈ cut h [47], x ≠ 63 ∧ x ≠ 35 := fun x hx => hin x (by rw [← e3]; simp [hx])
    have g3 : ∀ x ∈ rest h [47], x ≠ 63 ∧ x ≠ 35 := fun x hx => hin x (by rw [← e3]; simp [hx])
    have hc := cut_full (t := cut h [47]) (r := rest h [47] ++ (rb ++ ra)) (m := [47, 63, 35]) (fun x hx => by
      have a1 := g1 x hx
      have a2 := g2 x hx
      simp [a1, a2.1, a2.2]) (by
      rcases rest_one h 47 with e | ⟨q, e⟩
      · rw [e, List.nil_append]
        rcases hT with h0 | ⟨x, r', h0, hx⟩
        · exact .inl h0
        · refine .inr ⟨x, r', h0, ?_⟩
          simp at hx ⊢
          exact .inr hx
      · exact .inr ⟨47, q ++ (rb ++ ra), by rw [e]; rfl, rfl⟩)
    rw [← List.append_assoc, e3] at hc
    rw [hc.1, hc.2]
    obtain ⟨k1, k2⟩ := key _ g3
    rw [k1, k2, hq.1, hq.2.1, hq.2.2]
    refine ⟨?_, ?_, ?_, ?_, ?_, ?_, ?_⟩ <;> first | trivial | rfl

/-! Signs, byte by byte. -/
def hexPair (l : List UInt8) : Bool := match l with
  | c :: d :: _ => hexB c && hexB d
  | _ => false
theorem hex_plain (more : List UInt8) {b : UInt8} (h : hexB b = true) : plainB more b = true := by
  unfold hexB at h
  have h := of_decide_eq_true h
  unfold plainB alphaB digitB
  by_cases h1 : 48 ≤ b.toNat ∧ b.toNat ≤ 57
  · simp [h1]
  · have h2 : (65 ≤ b.toNat ∧ b.toNat ≤ 90) ∨ (97 ≤ b.toNat ∧ b.toNat ≤ 122) := by omega
    rw [decide_eq_true h2]
    simp
theorem percent_plain {more : List UInt8} (h : more.contains 37 = false) : plainB more 37 = false := by
  unfold plainB has
  rw [h]
  rfl
/-- How signs go on. -/
theorem signs_step {more : List UInt8} (hm : more.contains 37 = false) (b : UInt8) (t : List UInt8) :
    signs more (b :: t) = ((if b = 37 then hexPair t else plainB more b) && signs more t) := by
  by_cases h : b = 37
  · subst h
    rw [if_pos rfl]
    have hp := percent_plain hm
    match t with
    | [] => rw [signs_short hp (by simp)]; rfl
    | [c] => rw [signs_short hp (by simp)]; rfl
    | c :: d :: u =>
      unfold hexPair
      cases h1 : hexB c with
      | false => rw [signs_no hp (by rw [h1]; simp)]; simp [h1]
      | true => cases h2 : hexB d with
        | false => rw [signs_no hp (by rw [h2]; simp)]; simp [h2]
        | true =>
          rw [signs_hex hp rfl h1 h2, signs_plain (hex_plain more h1), signs_plain (hex_plain more h2)]
          simp [h1, h2]
  · rw [if_neg h]
    cases hp : plainB more b with
    | true => rw [signs_plain hp]; rfl
    | false => rw [signs_other hp h]; rfl

/-! Pieces on a stack. -/
/-- Each piece but the first begins with the one sign between that it has; what is left begins with one, if a piece is there. -/
structure Pcs (P : List (List UInt8)) (s : List UInt8) : Prop where
  rows : ∀ p ∈ P.drop 1, ∃ t, p = 47 :: t ∧ (47 : UInt8) ∉ t
  all : ∀ p ∈ P, ∃ b t, p = b :: t ∧ (47 : UInt8) ∉ t
  next : P ≠ [] → s = [] ∨ ∃ t, s = 47 :: t
end Lc
end Go.Proofs.YtdhondndidoniaaGreatDoor
