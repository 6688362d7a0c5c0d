/-
  Trees as documents, in plain Lean: which trees may be told, and their texts; names that stand alone, what is escaped passes Check as it was.
  Trees as documents, in plain Lean: the tokens of a node's text are those of the node.
-/
import Derived.Test.YtegaidfmkfnbnaaGreatDoorP03
namespace Go.Proofs.YtegaidfmkfnbnaaGreatDoor
namespace Gv
def Node.space : Node → ByteArray | .mk _ s _ _ _ _ => s
def Node.name : Node → ByteArray | .mk _ _ n _ _ _ => n
def Node.attrs : Node → List Att | .mk _ _ _ a _ _ => a
def Node.kids : Node → List Node | .mk _ _ _ _ k _ => k
end Gv
namespace Sc
open Gv (Att str)

/-! ### which trees may be told -/
def spaceOk (s : ByteArray) : Bool := G.check s.data.toList && decide (s ≠ P.xmlnsS)
def attOk (a : Att) : Bool := P.plainB a.name && spaceOk a.space && G.check a.value.data.toList && !(decide (a.space = ByteArray.empty) && decide (a.name = P.xmlns))
def attsGo : List Att → List Att → Bool
  | _, [] => true
  | seen, a :: l => attOk a && !(seen.any fun x => decide (x.space = a.space ∧ x.name = a.name)) && attsGo (seen ++ [a]) l
def hasIn (p l : List UInt8) : Bool := (T.cutAt p l).isSome
def leafData (k : Int) (nm d : ByteArray) : Bool :=
  if k = 1 then decide (nm = ByteArray.empty) && decide (d ≠ ByteArray.empty)
  else if k = 2 then decide (nm = ByteArray.empty) && !hasIn [45, 45] d.data.toList && decide (d.data.toList.getLast? ≠ some 45) && !hasIn [13] d.data.toList
  else if k = 3 then P.plainB nm && decide (nm.data.toList.map T.lower ≠ [120, 109, 108]) && !hasIn [63, 62] d.data.toList && decide (T.skip d.data.toList = d.data.toList) && !hasIn [13] d.data.toList
  else false
def leafOk (n : Gv.Node) : Bool := decide (n.space = ByteArray.empty) && decide (n.attrs.length + n.kids.length = 0) && G.check n.data.data.toList && leafData n.kind n.name n.data
def kidsGo (m : Gv.Node → Bool) : Option Int → List Gv.Node → Bool
  | _, [] => true
  | p, n :: l => m n && !(decide (n.kind = 1) && decide (p = some 1)) && kidsGo m (some n.kind) l
def elemOk (n : Gv.Node) : Bool := decide (n.attrs.length ≤ 24) && decide (n.data = ByteArray.empty) && P.plainB n.name && spaceOk n.space && decide (n.space ≠ P.xmlS) && attsGo [] n.attrs
/-- MAY a node be told, in which at most so many elements may stand in one another? -/
def may : Nat → Gv.Node → Bool
  | 0, n => if n.kind = 0 then false else leafOk n
  | f + 1, n => if n.kind = 0 then elemOk n && kidsGo (may f) none n.kids else leafOk n

/-! ### its text -/
def dig (i : Nat) : List UInt8 := if i < 10 then [UInt8.ofNat (48 + i)] else [UInt8.ofNat (48 + i / 10), UInt8.ofNat (48 + i % 10)]
def nI (i : Nat) : List UInt8 := 110 :: dig i
def one (p : List UInt8 × List UInt8) : List UInt8 := 32 :: (p.1 ++ 61 :: 34 :: (E.escape true p.2 ++ [34]))
def rawName (i : Nat) (a : Att) : List UInt8 :=
  if a.space = P.xmlS then [120, 109, 108] ++ 58 :: a.name.data.toList
  else if a.space ≠ ByteArray.empty then nI i ++ 58 :: a.name.data.toList else a.name.data.toList
def rawDecl (i : Nat) (a : Att) : List (List UInt8 × List UInt8) :=
  if a.space = P.xmlS then [] else if a.space ≠ ByteArray.empty then [([120, 109, 108, 110, 115] ++ 58 :: nI i, a.space.data.toList)] else []
def rawAtt (i : Nat) (a : Att) : List (List UInt8 × List UInt8) := rawDecl i a ++ [(rawName i a, a.value.data.toList)]
def rawsFrom : Nat → List Att → List (List UInt8 × List UInt8)
  | _, [] => []
  | i, a :: l => rawAtt i a ++ rawsFrom (i + 1) l
def raws (up sp : ByteArray) (as' : List Att) : List (List UInt8 × List UInt8) := (if sp ≠ up then [([120, 109, 108, 110, 115], sp.data.toList)] else []) ++ rawsFrom 0 as'
def leafText (n : Gv.Node) : List UInt8 :=
  if n.kind = 1 then E.escape false n.data.data.toList
  else if n.kind = 2 then 60 :: 33 :: 45 :: 45 :: (n.data.data.toList ++ [45, 45, 62])
  else 60 :: 63 :: (n.name.data.toList ++ ((if n.data = ByteArray.empty then [] else 32 :: n.data.data.toList) ++ [63, 62]))
def headText (up : ByteArray) (n : Gv.Node) : List UInt8 := 60 :: (n.name.data.toList ++ (raws up n.space n.attrs).flatMap one)
/-- A NODE'S TEXT, in an element of the space up. -/
def spell : Nat → ByteArray → Gv.Node → List UInt8
  | 0, _, n => if n.kind = 0 then [] else leafText n
  | f + 1, up, n => if n.kind = 0 then headText up n ++ (if n.kids.length = 0 then [47, 62] else 62 :: (n.kids.flatMap (spell f n.space) ++ 60 :: 47 :: (n.name.data.toList ++ [62]))) else leafText n

/-! ### names that stand alone -/
def NameOk (l : List UInt8) : Prop := l ≠ [] ∧ G.name l = l.length
theorem name_of_plain {l : List UInt8} (h : G.plain l = true) : NameOk l := by
  unfold G.plain at h
  simp only [Bool.and_eq_true, decide_eq_true_eq] at h
  exact ⟨h.1.1, h.1.2⟩
theorem NameOk.ne {l : List UInt8} (h : NameOk l) : G.name l ≠ 0 := by
  rw [h.2]; exact fun e => h.1 (List.length_eq_zero_iff.1 e)
theorem NameOk.span {l : List UInt8} (h : NameOk l) : G.span G.part l = l.length := by rw [← G.name_span l h.ne, h.2]
theorem NameOk.colon {p l : List UInt8} (hp : NameOk p) (hl : NameOk l) : NameOk (p ++ 58 :: l) := by
  refine ⟨by simp, ?_⟩
  obtain ⟨h0, hs⟩ := G.name_head _ hp.ne
  have fa := G.first_append p (58 :: l) h0
  have hne : G.name (p ++ 58 :: l) ≠ 0 := by
    have e : G.name (p ++ 58 :: l) = if (G.first (p ++ 58 :: l)).2 ≠ 0 ∧ G.start (G.first (p ++ 58 :: l)).1 = true then (G.first (p ++ 58 :: l)).2 + G.span G.part ((p ++ 58 :: l).drop (G.first (p ++ 58 :: l)).2) else 0 := rfl
    rw [e, fa, if_pos ⟨h0, hs⟩]
    omega
  have f58 := G.first_ascii 58 l (by decide)
  rw [G.name_span _ hne, G.span_append G.part _ p hp.span, G.span_step G.part (58 :: l) (by rw [f58]; decide) (by rw [f58]; decide), f58]
  simp only [List.drop_succ_cons, List.drop_zero, List.length_append, List.length_cons]
  rw [hl.span]; omega
theorem name_at {l : List UInt8} (h : NameOk l) {c : UInt8} (hc : c.toNat < 128) (hp : G.part (c.toNat : Int) = false) (u : List UInt8) : T.nameAt (l ++ c :: u) = some (l, c :: u) := by
  have h1 := G.name_append h.ne (c :: u) (by rw [G.first_ascii c u hc]; exact .inr hp)
  rw [h.2, List.take_length] at h1
  unfold T.nameAt
  have h0 : l.length ≠ 0 := fun e => h.1 (List.length_eq_zero_iff.1 e)
  rw [h1, if_neg h0, List.take_left, List.drop_left]
theorem start_bytes : ∀ c : Nat, c < 128 → G.start (c : Int) = true → c ≠ 33 ∧ c ≠ 63 ∧ c ≠ 47 ∧ c ≠ 62 ∧ c ≠ 60 ∧ c ≠ 38 ∧ G.space (c : Int) = false := by decide +kernel
theorem name_byte {c : UInt8} {l : List UInt8} (h : NameOk (c :: l)) : c ≠ 33 ∧ c ≠ 63 ∧ c ≠ 47 ∧ c ≠ 62 ∧ c ≠ 60 ∧ c ≠ 38 ∧ G.space (c.toNat : Int) = false := by
  by_cases hc : c.toNat < 128
  · obtain ⟨_, hs⟩ := G.name_head _ h.ne
    rw [G.first_ascii c l hc] at hs
    obtain ⟨h1, h2, h3, h4, h5, h6, h7⟩ := start_bytes c.toNat hc hs
    exact ⟨fun e => h1 (by rw [e]; rfl), fun e => h2 (by rw [e]; rfl), fun e => h3 (by rw [e]; rfl), fun e => h4 (by rw [e]; rfl), fun e => h5 (by rw [e]; rfl), fun e => h6 (by rw [e]; rfl), h7⟩
  · refine ⟨?_, ?_, ?_, ?_, ?_, ?_, ?_⟩
    all_goals first
      | (rintro rfl; exact hc (by decide))
      | (cases hs : G.space (c.toNat : Int) with
         | false => rfl
         | true => exact absurd (T.space_ascii hs) hc)
theorem name_cons {l : List UInt8} (h : NameOk l) : ∃ c t, l = c :: t := by
  cases l with
  | nil => exact absurd rfl h.1
  | cons c t => exact ⟨c, t, rfl⟩

/-! ### what passes Check -/
theorem part_char {c : Int} (h : G.part c = true) : G.char c = true := by
  simp only [G.part, G.start, G.char, G.inR, Bool.or_eq_true, Bool.and_eq_true, decide_eq_true_eq] at *
  omega
theorem span_part_char : ∀ l : List UInt8, G.span G.part l = l.length → G.span G.char l = l.length := by
  intro l
  induction l using G.along G.part with
  | stop l h =>
    intro e
    rw [G.span_stop G.part l h] at e
    have : l = [] := List.length_eq_zero_iff.1 e.symm
    subst this; rfl
  | step l h0 hp ih =>
    intro e
    have hle := G.first_le l
    rw [G.span_step G.part l h0 hp] at e
    rw [G.span_step G.char l h0 (part_char hp), ih (by rw [List.length_drop]; omega), List.length_drop]
    omega
theorem NameOk.check {l : List UInt8} (h : NameOk l) : G.check l = true := by
  unfold G.check
  rw [decide_eq_true_eq]
  exact span_part_char l h.span
/-- the bytes of a code point: one that is ASCII, or none that is. -/
theorem first_bytes (l : List UInt8) (h0 : (G.first l).2 ≠ 0) : (∃ b t, l = b :: t ∧ b.toNat < 128) ∨ ∀ b ∈ l.take (G.first l).2, 128 ≤ b.toNat := by
  obtain ⟨e, hne⟩ := G.first_pos l h0
  cases l with
  | nil => exact absurd rfl hne
  | cons b0 t =>
    by_cases hb : b0.toNat < 128
    · exact .inl ⟨b0, t, rfl, hb⟩
    · right
      have hz := mt (G.first_zero (b0 :: t)).2 h0
      rw [e]
      rw [Lib.decodeL_N] at hz ⊢
      have hmem : ∀ k, k ≤ (b0 :: t).length → ∀ b ∈ (b0 :: t).take k, ∃ j, j < k ∧ (b0 :: t).getD j 0 = b := by
        intro k hk b hb
        obtain ⟨j, hj, rfl⟩ := List.mem_iff_getElem.1 hb
        rw [List.length_take] at hj
        refine ⟨j, by omega, ?_⟩
        rw [List.getElem_take, List.getD, List.getElem?_eq_getElem (by omega)]; rfl
      have hz0 : ((b0 :: t).getD 0 0) = b0 := rfl
      rcases Lib.decodeN_shape (b0 :: t).length ((b0 :: t).getD 0 0).toNat ((b0 :: t).getD 1 0).toNat ((b0 :: t).getD 2 0).toNat ((b0 :: t).getD 3 0).toNat with ⟨c1, e2⟩ | ⟨c1, c2, c3, _, e2⟩ | ⟨c1, c2, c3, c4, _, _, e2⟩ | ⟨c1, c2, c3, c4, c5, _, _, e2⟩ | e2
      · rw [hz0] at c1; omega
      · rw [e2]
        intro b hb
        obtain ⟨j, hj, rfl⟩ := hmem _ (by simp only; omega) b hb
        simp only at hj
        rcases (by omega : j = 0 ∨ j = 1) with rfl | rfl <;> omega
      · rw [e2]
        intro b hb
        obtain ⟨j, hj, rfl⟩ := hmem _ (by simp only; omega) b hb
        simp only at hj
        rcases (by omega : j = 0 ∨ j = 1 ∨ j = 2) with rfl | rfl | rfl <;> omega
      · rw [e2]
        intro b hb
        obtain ⟨j, hj, rfl⟩ := hmem _ (by simp only; omega) b hb
        simp only at hj
        rcases (by omega : j = 0 ∨ j = 1 ∨ j = 2 ∨ j = 3) with rfl | rfl | rfl | rfl <;> omega
      · rw [e2] at hz; exact absurd (Or.inr ⟨rfl, rfl⟩) hz
theorem esc_high (attr : Bool) {b : UInt8} (h : 128 ≤ b.toNat) : E.esc attr b = [b] := by
  have g : ∀ k : UInt8, k.toNat < 128 → ¬ b = k := fun k hk e => by rw [e] at h; omega
  unfold E.esc
  rw [if_neg (g 38 (by decide)), if_neg (g 60 (by decide)), if_neg (g 62 (by decide)), if_neg (g 13 (by decide)), if_neg (fun e => g 34 (by decide) e.2), if_neg (fun e => g 9 (by decide) e.2), if_neg (fun e => g 10 (by decide) e.2)]
theorem escape_high (attr : Bool) : ∀ {l : List UInt8}, (∀ b ∈ l, 128 ≤ b.toNat) → E.escape attr l = l
  | [], _ => rfl
  | b :: l, h => by
    have ih := escape_high attr (l := l) fun x hx => h x (by simp [hx])
    unfold E.escape at ih ⊢
    rw [List.flatMap_cons, ih, esc_high attr (h b (by simp))]
    rfl
theorem check_esc (attr : Bool) {b : UInt8} (h : G.check [b] = true) : G.check (E.esc attr b) = true := by
  unfold E.esc
  (repeat' split) <;> first | exact h | decide +kernel
theorem check_span {l : List UInt8} (h : G.check l = true) : G.span G.char l = l.length := by
  unfold G.check at h
  rwa [decide_eq_true_eq] at h
theorem check_escape (attr : Bool) : ∀ l : List UInt8, G.check l = true → G.check (E.escape attr l) = true := by
  intro l
  induction l using G.along G.char with
  | stop l h =>
    intro e
    have e := check_span e
    rw [G.span_stop G.char l h] at e
    have : l = [] := List.length_eq_zero_iff.1 e.symm
    subst this; rfl
  | step l h0 hp ih =>
    intro e
    have e := check_span e
    have hle := G.first_le l
    rw [G.span_step G.char l h0 hp] at e
    have hd : G.check (l.drop (G.first l).2) = true := by
      unfold G.check
      rw [decide_eq_true_eq, List.length_drop]
      omega
    have ft := G.first_take l (G.first l).2 (Nat.le_refl _) h0
    have ht : G.check (l.take (G.first l).2) = true := by
      unfold G.check
      rw [decide_eq_true_eq, G.span_step G.char _ (by rw [ft]; exact h0) (by rw [ft]; exact hp), ft, List.drop_take, Nat.sub_self, List.take_zero, List.length_take, Nat.min_eq_left hle]
      rfl
    have hsplit : E.escape attr l = E.escape attr (l.take (G.first l).2) ++ E.escape attr (l.drop (G.first l).2) := by
      unfold E.escape
      rw [← List.flatMap_append, List.take_append_drop]
    rw [hsplit]
    refine G.check_append ?_ (ih hd)
    rcases first_bytes l h0 with ⟨b, t, rfl, hb⟩ | hb
    · rw [G.first_ascii b t hb] at ht ⊢
      simp only [List.take_succ_cons, List.take_zero] at ht ⊢
      rw [show E.escape attr [b] = E.esc attr b by simp [E.escape]]
      exact check_esc attr ht
    · rw [escape_high attr hb]; exact ht
end Sc
end Go.Proofs.YtegaidfmkfnbnaaGreatDoor
namespace Go.Proofs.YtegaidfmkfnbnaaGreatDoor
namespace Sc
open Gv (Att str)
open T (Tok)

def leafTok (n : Gv.Node) : Tok :=
  if n.kind = 1 then ⟨2, [], [], decide (38 ∈ E.escape false n.data.data.toList), n.data.data.toList⟩ else if n.kind = 2 then ⟨3, [], [], false, n.data.data.toList⟩ else ⟨4, n.name.data.toList, [], false, n.data.data.toList⟩
def startTok (up : ByteArray) (n : Gv.Node) (alone : Bool) : Tok := ⟨0, n.name.data.toList, raws up n.space n.attrs, alone, []⟩
def toks : Nat → ByteArray → Gv.Node → List Tok
  | 0, _, n => if n.kind = 0 then [] else [leafTok n]
  | f + 1, up, n => if n.kind = 0 then (if n.kids.length = 0 then [startTok up n true] else startTok up n false :: (n.kids.flatMap (toks f n.space) ++ [⟨1, n.name.data.toList, [], false, []⟩])) else [leafTok n]

/-! ### the raw attributes -/
theorem ne_list {b : ByteArray} : b ≠ ByteArray.empty ↔ b.data.toList ≠ [] := by
  constructor
  · intro h e; exact h (bytes_eq e)
  · rintro h rfl; exact h rfl
theorem nI_ok : ∀ i, i < 24 → NameOk (nI i) := by
  have h : ∀ i, i < 24 → (nI i ≠ [] ∧ G.name (nI i) = (nI i).length) := by decide +kernel
  exact h
theorem nI_apart : ∀ i, i < 24 → ∀ j, j < 24 → nI i = nI j → i = j := by decide +kernel
theorem nI_plain : ∀ i, i < 24 → G.plain (nI i) = true := by decide +kernel
theorem nI_other : ∀ i, i < 24 → nI i ≠ [120, 109, 108] ∧ nI i ≠ [120, 109, 108, 110, 115] := by decide +kernel
theorem str_lst (b : ByteArray) : str b.data.toList = b := bytes_eq (by rw [Gv.str_list])
theorem str_colon (p l : List UInt8) : str (p ++ 58 :: l) = str p ++ ⟨#[58]⟩ ++ str l := by
  apply bytes_eq
  rw [ByteArray.toList_data_append, ByteArray.toList_data_append, Gv.str_list, Gv.str_list, Gv.str_list]
  simp
theorem plain_str {l : List UInt8} (h : G.plain l = true) : P.plainB (str l) = true := by unfold P.plainB; rw [Gv.str_list]; exact h
theorem split_colon {p l : List UInt8} (hp : G.plain p = true) (hl : G.plain l = true) : P.split (str (p ++ 58 :: l)) = some (str p, str l) := by
  rw [str_colon]
  exact P.split_mk (plain_str hp) (plain_str hl)
theorem split_lone {l : List UInt8} (hl : G.plain l = true) : P.split (str l) = some (ByteArray.empty, str l) := P.split_plain (plain_str hl)

/-- an attribute that may be: its parts. -/
structure Fit (a : Att) : Prop where
  plain : G.plain a.name.data.toList = true
  space : G.check a.space.data.toList = true
  xmlns : a.space ≠ P.xmlnsS
  value : G.check a.value.data.toList = true
  decl : a.space = ByteArray.empty → a.name ≠ P.xmlns
theorem fit_of {a : Att} (h : attOk a = true) : Fit a := by
  unfold attOk spaceOk P.plainB at h
  simp only [Bool.and_eq_true, decide_eq_true_eq, Bool.not_eq_true', Bool.and_eq_false_iff, decide_eq_false_iff_not] at h
  obtain ⟨⟨⟨h1, h2, h3⟩, h4⟩, h5⟩ := h
  exact ⟨h1, h2, h3, h4, fun e => h5.resolve_left (fun c => c e)⟩
/-- Which of the three an attribute is. -/
inductive Sort3 (i : Nat) (a : Att) : Prop where
  | xml (h : a.space = P.xmlS) (d : rawDecl i a = []) (n : rawName i a = [120, 109, 108] ++ 58 :: a.name.data.toList)
  | own (h : a.space ≠ P.xmlS) (h2 : a.space ≠ ByteArray.empty) (d : rawDecl i a = [([120, 109, 108, 110, 115] ++ 58 :: nI i, a.space.data.toList)]) (n : rawName i a = nI i ++ 58 :: a.name.data.toList)
  | bare (h : a.space = ByteArray.empty) (h2 : a.space ≠ P.xmlS) (d : rawDecl i a = []) (n : rawName i a = a.name.data.toList)
theorem sort3 (i : Nat) (a : Att) : Sort3 i a := by
  by_cases h : a.space = P.xmlS
  · exact .xml h (by unfold rawDecl; rw [if_pos h]) (by unfold rawName; rw [if_pos h])
  · by_cases h2 : a.space = ByteArray.empty
    · exact .bare h2 h (by unfold rawDecl; rw [if_neg h, if_neg (fun c => c h2)]) (by unfold rawName; rw [if_neg h, if_neg (fun c => c h2)])
    · exact .own h h2 (by unfold rawDecl; rw [if_neg h, if_pos h2]) (by unfold rawName; rw [if_neg h, if_pos h2])
theorem ok_xml : NameOk [120, 109, 108] := ⟨by decide, by decide +kernel⟩
theorem ok_xmlns : NameOk [120, 109, 108, 110, 115] := ⟨by decide, by decide +kernel⟩
theorem raw_ok {i : Nat} {a : Att} (hi : i < 24) (h : Fit a) : ∀ p ∈ rawAtt i a, NameOk p.1 := by
  intro p hp
  have hn := name_of_plain h.plain
  unfold rawAtt at hp
  rcases sort3 i a with ⟨_, d, n⟩ | ⟨_, _, d, n⟩ | ⟨_, _, d, n⟩
  · rw [d, n] at hp
    obtain rfl := List.mem_singleton.1 hp
    exact ok_xml.colon hn
  · rw [d, n] at hp
    rcases List.mem_cons.1 hp with rfl | hp
    · exact ok_xmlns.colon (nI_ok i hi)
    · obtain rfl := List.mem_singleton.1 hp
      exact (nI_ok i hi).colon hn
  · rw [d, n] at hp
    obtain rfl := List.mem_singleton.1 hp
    exact hn
/-- what stands in the raw attributes: whose it is. -/
theorem raws_from {p : List UInt8 × List UInt8} : ∀ {l : List Att} {i : Nat}, p ∈ rawsFrom i l → ∃ (j : Nat) (h : j < l.length), p ∈ rawAtt (i + j) l[j]
  | [], _, h => by cases h
  | a :: l, i, h => by
    rcases List.mem_append.1 h with h | h
    · exact ⟨0, by simp, h⟩
    · obtain ⟨j, hj, hp⟩ := raws_from h
      exact ⟨j + 1, by simpa using hj, by rw [show i + (j + 1) = i + 1 + j by omega]; exact hp⟩
/-- What the names of an attribute's raw ones say. -/
inductive Says (i : Nat) (a : Att) (x : List UInt8) : Prop where
  | xml (h : a.space = P.xmlS) (e : P.split (str x) = some (P.xml, a.name))
  | decl (h : a.space ≠ P.xmlS) (h2 : a.space ≠ ByteArray.empty) (e : P.split (str x) = some (P.xmlns, str (nI i)))
  | own (h : a.space ≠ P.xmlS) (h2 : a.space ≠ ByteArray.empty) (e : P.split (str x) = some (str (nI i), a.name))
  | bare (h : a.space = ByteArray.empty) (e : P.split (str x) = some (ByteArray.empty, a.name))
theorem split_xml {a : Att} (h : Fit a) : P.split (str ([120, 109, 108] ++ 58 :: a.name.data.toList)) = some (P.xml, a.name) := by
  rw [split_colon (by decide +kernel) h.plain, str_lst]; rfl
theorem split_decl {i : Nat} (hi : i < 24) : P.split (str ([120, 109, 108, 110, 115] ++ 58 :: nI i)) = some (P.xmlns, str (nI i)) := by
  rw [split_colon (by decide +kernel) (nI_plain i hi)]; rfl
theorem split_own {i : Nat} {a : Att} (hi : i < 24) (h : Fit a) : P.split (str (nI i ++ 58 :: a.name.data.toList)) = some (str (nI i), a.name) := by
  rw [split_colon (nI_plain i hi) h.plain, str_lst]
theorem split_bare {a : Att} (h : Fit a) : P.split (str a.name.data.toList) = some (ByteArray.empty, a.name) := by
  rw [split_lone h.plain, str_lst]
theorem says {i : Nat} {a : Att} (hi : i < 24) (h : Fit a) : ∀ p ∈ rawAtt i a, Says i a p.1 := by
  intro p hp
  unfold rawAtt at hp
  rcases sort3 i a with ⟨h1, d, n⟩ | ⟨h1, h2, d, n⟩ | ⟨h1, h2, d, n⟩
  · rw [d, n] at hp
    obtain rfl := List.mem_singleton.1 hp
    exact .xml h1 (split_xml h)
  · rw [d, n] at hp
    rcases List.mem_cons.1 hp with rfl | hp
    · exact .decl h1 h2 (split_decl hi)
    · obtain rfl := List.mem_singleton.1 hp
      exact .own h1 h2 (split_own hi h)
  · rw [d, n] at hp
    obtain rfl := List.mem_singleton.1 hp
    exact .bare h1 (split_bare h)
theorem str_inj {a b : List UInt8} (h : str a = str b) : a = b := by
  have := congrArg (fun x => x.data.toList) h
  simpa only [Gv.str_list] using this
theorem nI_str {i : Nat} (hi : i < 24) : str (nI i) ≠ P.xml ∧ str (nI i) ≠ P.xmlns ∧ str (nI i) ≠ ByteArray.empty := by
  obtain ⟨h1, h2⟩ := nI_other i hi
  refine ⟨fun e => h1 (str_inj (b := [120, 109, 108]) e), fun e => h2 (str_inj (b := [120, 109, 108, 110, 115]) e), fun e => ?_⟩
  have := str_inj (b := []) e
  cases this
/-- unlike attributes have unlike raw names. -/
theorem says_apart {i j : Nat} {a b : Att} {x y : List UInt8} (hi : i < 24) (hj : j < 24) (hij : i ≠ j) (hab : ¬ (a.space = b.space ∧ a.name = b.name)) (ha : Says i a x) (hb : Says j b y) : x ≠ y := by
  rintro rfl
  obtain ⟨i1, i2, i3⟩ := nI_str hi
  obtain ⟨j1, j2, j3⟩ := nI_str hj
  have hne : ∀ {u v : ByteArray × ByteArray}, P.split (str x) = some u → P.split (str x) = some v → u = v := fun hu hv => by rw [hu] at hv; exact Option.some.inj hv
  have hnij : str (nI i) ≠ str (nI j) := fun e => hij (nI_apart i hi j hj (str_inj e))
  have x1 : P.xml ≠ P.xmlns := by decide
  have x2 : P.xml ≠ ByteArray.empty := by decide
  have x3 : P.xmlns ≠ ByteArray.empty := by decide
  rcases ha with ⟨h, e⟩ | ⟨h, h2, e⟩ | ⟨h, h2, e⟩ | ⟨h, e⟩ <;> rcases hb with ⟨k, e'⟩ | ⟨k, k2, e'⟩ | ⟨k, k2, e'⟩ | ⟨k, e'⟩ <;> have q := hne e e' <;> simp only [Prod.mk.injEq] at q
  · exact hab ⟨h.trans k.symm, q.2⟩
  · exact x1 q.1
  · exact j1 q.1.symm
  · exact x2 q.1
  · exact x1 q.1.symm
  · exact hnij q.2
  · exact j2 q.1.symm
  · exact x3 q.1
  · exact i1 q.1
  · exact i2 q.1
  · exact hnij q.1
  · exact i3 q.1
  · exact x2 q.1.symm
  · exact x3 q.1.symm
  · exact j3 q.1.symm
  · exact hab ⟨h.trans k.symm, q.2⟩
theorem xmlns_apart {i : Nat} {a : Att} {x : List UInt8} (hi : i < 24) (hf : Fit a) (ha : Says i a x) : x ≠ [120, 109, 108, 110, 115] := by
  rintro rfl
  have hs : P.split (str [120, 109, 108, 110, 115]) = some (ByteArray.empty, P.xmlns) := by decide +kernel
  obtain ⟨i1, i2, i3⟩ := nI_str hi
  rcases ha with ⟨h, e⟩ | ⟨h, h2, e⟩ | ⟨h, h2, e⟩ | ⟨h, e⟩ <;> rw [hs] at e <;> simp only [Option.some.injEq, Prod.mk.injEq] at e
  · exact absurd e.1 (by decide)
  · exact absurd e.1 (by decide)
  · exact i3 e.1.symm
  · exact hf.decl h e.2.symm
/-- attributes that may be told. -/
theorem atts_of : ∀ {l seen : List Att}, attsGo seen l = true → (∀ a ∈ l, Fit a) ∧ (∀ a ∈ l, ∀ x ∈ seen, ¬ (x.space = a.space ∧ x.name = a.name)) ∧ l.Pairwise (fun x a => ¬ (x.space = a.space ∧ x.name = a.name))
  | [], _, _ => ⟨fun _ h => (by cases h), fun _ h => (by cases h), List.Pairwise.nil⟩
  | a :: l, seen, h => by
    unfold attsGo at h
    simp only [Bool.and_eq_true, Bool.not_eq_true'] at h
    obtain ⟨⟨h1, h2⟩, h3⟩ := h
    obtain ⟨q1, q2, q3⟩ := atts_of h3
    rw [List.any_eq_false] at h2
    simp only [decide_eq_true_eq] at h2
    refine ⟨fun b hb => ?_, fun b hb x hx => ?_, List.Pairwise.cons (fun b hb => q2 b hb a (by simp)) q3⟩
    · rcases List.mem_cons.1 hb with rfl | hb
      · exact fit_of h1
      · exact q1 b hb
    · rcases List.mem_cons.1 hb with rfl | hb
      · exact h2 x hx
      · exact q2 b hb x (by simp [hx])
theorem decl_name {i : Nat} {a : Att} : (rawAtt i a).Pairwise (fun p q => p.1 ≠ q.1) ∨ ¬ (i < 24 ∧ Fit a) := by
  by_cases h : i < 24 ∧ Fit a
  · left
    unfold rawAtt
    rcases sort3 i a with ⟨h1, d, n⟩ | ⟨h1, h2, d, n⟩ | ⟨h1, h2, d, n⟩
    · rw [d, n]; exact List.pairwise_singleton _ _
    · rw [d, n]
      refine List.Pairwise.cons (l := [_]) (fun q hq => ?_) (List.pairwise_singleton _ _)
      obtain rfl := List.mem_singleton.1 hq
      intro e
      have e1 := split_decl h.1
      simp only at e
      rw [e, split_own h.1 h.2] at e1
      simp only [Option.some.injEq, Prod.mk.injEq] at e1
      exact (nI_str h.1).2.1 e1.1
    · rw [d, n]; exact List.pairwise_singleton _ _
  · exact .inr h
theorem raws_pairwise : ∀ {l : List Att} {i : Nat}, i + l.length ≤ 24 → (∀ a ∈ l, Fit a) → l.Pairwise (fun x a => ¬ (x.space = a.space ∧ x.name = a.name)) → (rawsFrom i l).Pairwise (fun p q => p.1 ≠ q.1)
  | [], _, _, _, _ => .nil
  | a :: l, i, hi, hf, hp => by
    rw [List.length_cons] at hi
    cases hp with
    | cons h1 h2 =>
      unfold rawsFrom
      rw [List.pairwise_append]
      refine ⟨(decl_name).resolve_right (fun c => c ⟨by omega, hf a (by simp)⟩), raws_pairwise (by omega) (fun x hx => hf x (by simp [hx])) h2, fun p hp q hq => ?_⟩
      obtain ⟨j, hj, hq⟩ := raws_from hq
      exact says_apart (by omega) (by omega) (by omega) (h1 l[j] (List.getElem_mem hj)) (says (by omega) (hf a (by simp)) p hp) (says (by omega) (hf l[j] (by simp [List.getElem_mem hj])) q hq)
/-- THE RAW ATTRIBUTES of an element that may be told. -/
theorem raws_good {up sp : ByteArray} {l : List Att} (hl : l.length ≤ 24) (h : attsGo [] l = true) : (∀ p ∈ raws up sp l, NameOk p.1) ∧ (raws up sp l).Pairwise (fun p q => p.1 ≠ q.1) := by
  obtain ⟨q1, _, q3⟩ := atts_of h
  have hok : ∀ p ∈ rawsFrom 0 l, NameOk p.1 ∧ p.1 ≠ [120, 109, 108, 110, 115] := by
    intro p hp
    obtain ⟨j, hj, hp⟩ := raws_from hp
    exact ⟨raw_ok (by omega) (q1 _ (List.getElem_mem hj)) p hp, xmlns_apart (by omega) (q1 _ (List.getElem_mem hj)) (says (by omega) (q1 _ (List.getElem_mem hj)) p hp)⟩
  unfold raws
  split
  · refine ⟨fun p hp => ?_, List.Pairwise.cons (fun q hq e => (hok q hq).2 e.symm) (raws_pairwise (by omega) q1 q3)⟩
    rcases List.mem_cons.1 hp with rfl | hp
    · exact ok_xmlns
    · exact (hok p hp).1
  · exact ⟨fun p hp => (hok p hp).1, raws_pairwise (by omega) q1 q3⟩

/-! ### a start-tag -/
theorem openGo_alone {f : Nat} {n : List UInt8} {ps : List (List UInt8 × List UInt8)} {r : List UInt8} : T.openGo (f + 1) n ps (47 :: 62 :: r) = .ok (⟨0, n, ps, true, []⟩, r) := by
  rw [T.openGo, T.skip_head]
  rfl
theorem openGo_all {n u tail : List UInt8} {alone : Bool} (ht : tail = if alone then 47 :: 62 :: u else 62 :: u) : ∀ (rs ps : List (List UInt8 × List UInt8)) (f : Nat), rs.length < f → (∀ p ∈ rs, NameOk p.1) → (∀ p ∈ ps, ∀ q ∈ rs, p.1 ≠ q.1) → rs.Pairwise (fun p q => p.1 ≠ q.1) →
    T.openGo f n ps (rs.flatMap one ++ tail) = .ok (⟨0, n, ps ++ rs, alone, []⟩, u)
  | _, _, 0, h, _, _, _ => by omega
  | [], ps, f + 1, _, _, _, _ => by
    subst ht
    rw [List.flatMap_nil, List.nil_append, List.append_nil]
    cases alone with
    | true => exact openGo_alone
    | false => exact T.openGo_end
  | p :: rs, ps, f + 1, hf, hok, hps, hpw => by
    have hn := hok p (by simp)
    obtain ⟨c, t, hc⟩ := name_cons hn
    obtain ⟨k1, k2, k3, k4, k5, k6, k7⟩ := name_byte (hc ▸ hn)
    have ha := T.attr_escaped (nm := p.1) (name_at hn (c := 61) (by decide) (by decide) []) p.2 (rs.flatMap one ++ tail)
    have e1 : (p :: rs).flatMap one ++ tail = 32 :: (p.1 ++ 61 :: 34 :: (E.escape true p.2 ++ 34 :: (rs.flatMap one ++ tail))) := by
      rw [List.flatMap_cons, one]
      simp only [List.cons_append, List.append_assoc, List.nil_append]
    rw [e1]
    rw [hc, List.cons_append] at ha ⊢
    cases hpw with
    | cons h1 h2 =>
      rw [T.openGo_one k4 k3 k7 ha (by
        rw [List.any_eq_false]
        intro x hx
        simp only [decide_eq_true_eq]
        rw [← hc]
        exact hps x hx p (by simp))]
      rw [← hc]
      rw [openGo_all ht rs (ps ++ [(p.1, p.2)]) f (by rw [List.length_cons] at hf; omega) (fun q hq => hok q (by simp [hq])) (fun x hx q hq => by
        rcases List.mem_append.1 hx with hx | hx
        · exact hps x hx q (by simp [hq])
        · obtain rfl := List.mem_singleton.1 hx
          exact h1 q hq) h2]
      simp
theorem one_long (rs : List (List UInt8 × List UInt8)) : rs.length ≤ (rs.flatMap one).length := by
  induction rs with
  | nil => exact Nat.le_refl _
  | cons p rs ih =>
    rw [List.flatMap_cons, List.length_append, List.length_cons]
    have : 1 ≤ (one p).length := by unfold one; simp
    omega
/-- A START-TAG's token. -/
theorem next_start {first : Bool} {nm u : List UInt8} {rs : List (List UInt8 × List UInt8)} {alone : Bool} (hn : NameOk nm) (hok : ∀ p ∈ rs, NameOk p.1) (hpw : rs.Pairwise (fun p q => p.1 ≠ q.1)) :
    T.next first (60 :: (nm ++ (rs.flatMap one ++ (if alone then 47 :: 62 :: u else 62 :: u)))) = .ok (⟨0, nm, rs, alone, []⟩, u) := by
  obtain ⟨c, t, hc⟩ := name_cons hn
  obtain ⟨k1, k2, k3, k4, k5, k6, k7⟩ := name_byte (hc ▸ hn)
  have e : ∀ x, T.next first (60 :: (nm ++ x)) = T.opened (nm ++ x) := fun x => by rw [hc]; exact T.next_open k1 k2 k3
  rw [e]
  have ha : ∃ d y, rs.flatMap one ++ (if alone then 47 :: 62 :: u else 62 :: u) = d :: y ∧ d.toNat < 128 ∧ G.part (d.toNat : Int) = false := by
    cases rs with
    | nil =>
      cases alone with
      | true => exact ⟨47, 62 :: u, rfl, by decide, by decide⟩
      | false => exact ⟨62, u, rfl, by decide, by decide⟩
    | cons p rs =>
      refine ⟨32, p.1 ++ 61 :: 34 :: (E.escape true p.2 ++ [34]) ++ (rs.flatMap one ++ (if alone then 47 :: 62 :: u else 62 :: u)), ?_, by decide, by decide⟩
      rw [List.flatMap_cons, one, List.append_assoc]
      rfl
  obtain ⟨d, y, hd, hd1, hd2⟩ := ha
  unfold T.opened
  rw [hd, name_at hn hd1 hd2 y, ← hd]
  simp only
  rw [openGo_all (n := nm) (u := u) (alone := alone) rfl rs [] _ (by
    have := one_long rs
    rw [List.length_append]; omega) hok (fun p hp => by cases hp) hpw, List.nil_append]

/-! ### the other tokens -/
theorem next_excl (l : List UInt8) : T.next false (60 :: 33 :: 45 :: 45 :: l) = T.comment l := rfl
theorem next_shut (l : List UInt8) : T.next false (60 :: 47 :: l) = T.shut l := rfl
theorem next_pi (l : List UInt8) : T.next false (60 :: 63 :: l) = T.pi l := rfl
theorem next_text {c : UInt8} (y : List UInt8) (h : c ≠ 60) : T.next false (c :: y) = T.text (c :: y) := by
  have hc' : (60 : UInt8) ≠ c := Ne.symm h
  simp [T.next, T.declares, T.begins, List.isPrefixOf, hc']
theorem hasIn_cons {p : List UInt8} {b : UInt8} {t : List UInt8} (h : hasIn p (b :: t) = false) : T.begins p (b :: t) = false ∧ hasIn p t = false := by
  unfold hasIn at *
  unfold T.cutAt at h
  cases hb : T.begins p (b :: t) with
  | true => rw [hb] at h; cases h
  | false =>
    rw [hb] at h
    refine ⟨rfl, ?_⟩
    cases hc : T.cutAt p t with
    | none => rfl
    | some x => rw [hc] at h; cases h
theorem cut_dashes : ∀ {d : List UInt8} (r : List UInt8), hasIn [45, 45] d = false → d.getLast? ≠ some 45 → T.cutAt [45, 45] (d ++ 45 :: 45 :: r) = some (d, r)
  | [], r, _, _ => rfl
  | b :: t, r, h, hl => by
    obtain ⟨h1, h2⟩ := hasIn_cons h
    have hb : T.begins [45, 45] (b :: (t ++ 45 :: 45 :: r)) = false := by
      cases t with
      | nil =>
        have : b ≠ 45 := fun e => hl (by rw [e]; rfl)
        simp [T.begins, List.isPrefixOf, Ne.symm this]
      | cons c t => exact h1
    have hl2 : t.getLast? ≠ some 45 := by
      cases t with
      | nil => simp
      | cons c t => rwa [List.getLast?_cons_cons] at hl
    rw [List.cons_append]
    unfold T.cutAt
    rw [hb, cut_dashes r h2 hl2]
    rfl
theorem cut_ask : ∀ {d : List UInt8} (r : List UInt8), hasIn [63, 62] d = false → T.cutAt [63, 62] (d ++ 63 :: 62 :: r) = some (d, r)
  | [], r, _ => rfl
  | b :: t, r, h => by
    obtain ⟨h1, h2⟩ := hasIn_cons h
    have hb : T.begins [63, 62] (b :: (t ++ 63 :: 62 :: r)) = false := by
      cases t with
      | nil => simp [T.begins, List.isPrefixOf]
      | cons c t => exact h1
    rw [List.cons_append]
    unfold T.cutAt
    rw [hb, cut_ask r h2]
    rfl
theorem cut_byte {p l a r : List UInt8} (h : T.cutAt p l = some (a, r)) : ∀ b ∈ p, b ∈ l := by
  intro b hb
  rw [T.cutAt_eq h]
  simp [hb]
theorem take_all {l : List UInt8} (h : ∀ b ∈ l, b ≠ 60) : l.takeWhile (· ≠ (60 : UInt8)) = l ∧ l.dropWhile (· ≠ (60 : UInt8)) = [] := by
  induction l with
  | nil => exact ⟨rfl, rfl⟩
  | cons b t ih =>
    have hb : b ≠ 60 := h b (by simp)
    obtain ⟨i1, i2⟩ := ih fun x hx => h x (by simp [hx])
    rw [List.takeWhile_cons_of_pos (by simpa using hb), List.dropWhile_cons_of_pos (by simpa using hb), i1, i2]
    exact ⟨rfl, rfl⟩
theorem escape_ne {d : List UInt8} (h : d ≠ []) : E.escape false d ≠ [] := by
  cases d with
  | nil => exact absurd rfl h
  | cons b t =>
    unfold E.escape
    rw [List.flatMap_cons]
    have : E.esc false b ≠ [] := by unfold E.esc; (repeat' split) <;> simp
    intro e
    exact this (List.append_eq_nil_iff.1 e).1
/-- a leaf that may be told. -/
theorem next_leaf {n : Gv.Node} (h : leafOk n = true) (u : List UInt8) (hu : n.kind = 1 → u.head? = some 60) : T.next false (leafText n ++ u) = .ok (leafTok n, u) ∧ leafText n ≠ [] ∧ (n.kind ≠ 1 → (leafText n).head? = some 60) := by
  unfold leafOk leafData at h
  simp only [Bool.and_eq_true, decide_eq_true_eq] at h
  obtain ⟨⟨⟨_, _⟩, hch⟩, h⟩ := h
  by_cases k1 : n.kind = 1
  · rw [if_pos k1] at h
    simp only [Bool.and_eq_true, decide_eq_true_eq] at h
    have hne := escape_ne (ne_list.1 h.2)
    have he : leafText n = E.escape false n.data.data.toList := by unfold leafText; rw [if_pos k1]
    have hb := fun b hb => E.escape_bytes false n.data.data.toList b hb
    refine ⟨?_, by rw [he]; exact hne, fun c => absurd k1 c⟩
    rw [he]
    unfold leafTok
    rw [if_pos k1]
    have h60 := take_all fun b hx => (hb b hx).1
    have ht := T.takeWhile_append_stop h60.2 (u := u) (.inr (hu k1))
    have hcd : T.cutAt [93, 93, 62] (E.escape false n.data.data.toList) = none := by
      cases hc : T.cutAt [93, 93, 62] (E.escape false n.data.data.toList) with
      | none => rfl
      | some x => exact absurd rfl (hb 62 (cut_byte (a := x.1) (r := x.2) hc 62 (by simp))).2.1
    have hnt : T.next false (E.escape false n.data.data.toList ++ u) = T.text (E.escape false n.data.data.toList ++ u) := by
      cases hx : E.escape false n.data.data.toList with
      | nil => exact absurd hx hne
      | cons c y => exact next_text _ (hb c (by rw [hx]; simp)).1
    rw [hnt]
    unfold T.text
    rw [ht.1, ht.2, h60.1, hcd, if_neg (by simp), E.expand_escape false false _ (fun c => c)]
  · rw [if_neg k1] at h
    by_cases k2 : n.kind = 2
    · rw [if_pos k2] at h
      simp only [Bool.and_eq_true, decide_eq_true_eq, Bool.not_eq_true'] at h
      obtain ⟨⟨⟨_, h1⟩, h2⟩, _⟩ := h
      have he : leafText n = 60 :: 33 :: 45 :: 45 :: (n.data.data.toList ++ [45, 45, 62]) := by unfold leafText; rw [if_neg k1, if_pos k2]
      have htk : leafTok n = ⟨3, [], [], false, n.data.data.toList⟩ := by unfold leafTok; rw [if_neg k1, if_pos k2]
      rw [he, htk]
      refine ⟨?_, by simp, fun _ => rfl⟩
      have e2 : 60 :: 33 :: 45 :: 45 :: (n.data.data.toList ++ [45, 45, 62]) ++ u = 60 :: 33 :: 45 :: 45 :: (n.data.data.toList ++ 45 :: 45 :: 62 :: u) := by simp
      rw [e2, next_excl]
      unfold T.comment
      rw [cut_dashes (62 :: u) h1 h2]
      rfl
    · rw [if_neg k2] at h
      by_cases k3 : n.kind = 3
      · rw [if_pos k3] at h
        simp only [Bool.and_eq_true, decide_eq_true_eq, Bool.not_eq_true'] at h
        obtain ⟨⟨⟨⟨hp, hx⟩, hq⟩, hs⟩, _⟩ := h
        have he : leafText n = 60 :: 63 :: (n.name.data.toList ++ ((if n.data = ByteArray.empty then [] else 32 :: n.data.data.toList) ++ [63, 62])) := by unfold leafText; rw [if_neg k1, if_neg k2]
        have htk : leafTok n = ⟨4, n.name.data.toList, [], false, n.data.data.toList⟩ := by unfold leafTok; rw [if_neg k1, if_neg k2]
        rw [he, htk]
        refine ⟨?_, by simp, fun _ => rfl⟩
        have hn := name_of_plain hp
        have e2 : 60 :: 63 :: (n.name.data.toList ++ ((if n.data = ByteArray.empty then [] else 32 :: n.data.data.toList) ++ [63, 62])) ++ u = 60 :: 63 :: (n.name.data.toList ++ ((if n.data = ByteArray.empty then [] else 32 :: n.data.data.toList) ++ 63 :: 62 :: u)) := by simp
        rw [e2, next_pi]
        unfold T.pi
        by_cases hd : n.data = ByteArray.empty
        · rw [if_pos hd, List.nil_append, name_at hn (c := 63) (by decide) (by decide)]
          simp only
          rw [if_neg hx, show T.cutAt [63, 62] (63 :: 62 :: u) = some ([], u) from rfl]
          simp only
          rw [if_pos (show T.spaced [] = true from rfl), hd]
          rfl
        · rw [if_neg hd, List.cons_append, name_at hn (c := 32) (by decide) (by decide)]
          have h32 : hasIn [63, 62] (32 :: n.data.data.toList) = false := by
            unfold hasIn at hq ⊢
            unfold T.cutAt
            rw [show T.begins [63, 62] (32 :: n.data.data.toList) = false from rfl, if_neg (by simp)]
            cases hc : T.cutAt [63, 62] n.data.data.toList with
            | none => rfl
            | some x => rw [hc] at hq; cases hq
          simp only
          rw [if_neg hx, ← List.cons_append, cut_ask u h32]
          simp only
          rw [if_pos (show T.spaced (32 :: n.data.data.toList) = true from rfl), show T.skip (32 :: n.data.data.toList) = T.skip n.data.data.toList from rfl, hs]
      · rw [if_neg k3] at h; cases h

/-! ### THE TOKENS of a node's text -/
theorem run_of {l r : List UInt8} {t : Tok} (hl : l ≠ []) (h : T.next false l = .ok (t, r)) : T.run false l = match T.run false r with | .error e => .error e | .ok ts => .ok (t :: ts) := by
  rw [T.run_step hl, h]
  rfl
/-- an element that may be told. -/
structure Elem (n : Gv.Node) : Prop where
  kind : n.kind = 0
  many : n.attrs.length ≤ 24
  data : n.data = ByteArray.empty
  plain : G.plain n.name.data.toList = true
  space : G.check n.space.data.toList = true
  xmlns : n.space ≠ P.xmlnsS
  xml : n.space ≠ P.xmlS
  atts : attsGo [] n.attrs = true
theorem may_elem {f : Nat} {n : Gv.Node} (h : may f n = true) (h0 : n.kind = 0) : ∃ g, f = g + 1 ∧ Elem n ∧ kidsGo (may g) none n.kids = true := by
  cases f with
  | zero => unfold may at h; rw [if_pos h0] at h; cases h
  | succ g =>
    unfold may at h
    rw [if_pos h0] at h
    unfold elemOk spaceOk P.plainB at h
    simp only [Bool.and_eq_true, decide_eq_true_eq] at h
    obtain ⟨⟨⟨⟨⟨⟨h1, h2⟩, h3⟩, h4, h5⟩, h6⟩, h7⟩, h8⟩ := h
    exact ⟨g, rfl, ⟨h0, h1, h2, h3, h4, h5, h6, h7⟩, h8⟩
theorem may_leaf {f : Nat} {n : Gv.Node} (h : may f n = true) (h0 : n.kind ≠ 0) : leafOk n = true ∧ (∀ up, spell f up n = leafText n) ∧ ∀ up, toks f up n = [leafTok n] := by
  cases f with
  | zero =>
    unfold may at h
    rw [if_neg h0] at h
    exact ⟨h, fun up => by unfold spell; rw [if_neg h0], fun up => by unfold toks; rw [if_neg h0]⟩
  | succ g =>
    unfold may at h
    rw [if_neg h0] at h
    exact ⟨h, fun up => by unfold spell; rw [if_neg h0], fun up => by unfold toks; rw [if_neg h0]⟩
theorem spell_head {f : Nat} {up : ByteArray} {n : Gv.Node} (h : may f n = true) (h1 : n.kind ≠ 1) : (spell f up n).head? = some 60 := by
  by_cases h0 : n.kind = 0
  · obtain ⟨g, rfl, _, _⟩ := may_elem h h0
    unfold spell
    rw [if_pos h0]
    rfl
  · obtain ⟨q1, q2, _⟩ := may_leaf h h0
    rw [q2 up]
    exact (next_leaf q1 [] (fun c => absurd c h1)).2.2 h1
theorem head_append {a b : List UInt8} (h : a.head? = some 60) : (a ++ b).head? = some 60 := by
  cases a with
  | nil => cases h
  | cons c t => exact h
/-- kids' text, with what stands behind them: what is behind a text begins with a tag. -/
theorem kids_head {m : Gv.Node → Bool} {sp : Gv.Node → List UInt8} (hsp : ∀ n, m n = true → n.kind ≠ 1 → (sp n).head? = some 60) {l : List Gv.Node} {p : Option Int} {u : List UInt8} (h : kidsGo m p l = true) (hp : p = some 1) (hu : u.head? = some 60) : (l.flatMap sp ++ u).head? = some 60 := by
  cases l with
  | nil => exact hu
  | cons n l =>
    unfold kidsGo at h
    simp only [Bool.and_eq_true, Bool.not_eq_true', Bool.and_eq_false_iff, decide_eq_false_iff_not] at h
    rw [List.flatMap_cons, List.append_assoc]
    exact head_append (hsp n h.1.1 (h.1.2.resolve_right (fun c => c hp)))
theorem run_kids {m : Gv.Node → Bool} {sp : Gv.Node → List UInt8} {tk : Gv.Node → List Tok} (hsp : ∀ n, m n = true → n.kind ≠ 1 → (sp n).head? = some 60)
    (hrun : ∀ n, m n = true → ∀ u, (n.kind = 1 → u.head? = some 60) → T.run false (sp n ++ u) = match T.run false u with | .error e => .error e | .ok ts => .ok (tk n ++ ts)) :
    ∀ (l : List Gv.Node) (p : Option Int) (u : List UInt8), kidsGo m p l = true → u.head? = some 60 → T.run false (l.flatMap sp ++ u) = match T.run false u with | .error e => .error e | .ok ts => .ok (l.flatMap tk ++ ts)
  | [], _, u, _, _ => by
    simp only [List.flatMap_nil, List.nil_append]
    cases T.run false u <;> rfl
  | n :: l, p, u, h, hu => by
    unfold kidsGo at h
    simp only [Bool.and_eq_true] at h
    rw [List.flatMap_cons, List.append_assoc, hrun n h.1.1 _ (fun k => kids_head hsp h.2 (by rw [k]) hu), run_kids hsp hrun l (some n.kind) u h.2 hu]
    cases T.run false u with
    | error e => rfl
    | ok ts => simp
theorem run_spell : ∀ (f : Nat) (up : ByteArray) (n : Gv.Node), may f n = true → ∀ u, (n.kind = 1 → u.head? = some 60) → T.run false (spell f up n ++ u) = match T.run false u with | .error e => .error e | .ok ts => .ok (toks f up n ++ ts) := by
  intro f
  induction f with
  | zero =>
    intro up n h u hu
    by_cases h0 : n.kind = 0
    · obtain ⟨g, e, _⟩ := may_elem h h0; cases e
    · obtain ⟨q1, q2, q3⟩ := may_leaf h h0
      obtain ⟨n1, n2, _⟩ := next_leaf q1 u hu
      rw [q2, q3, run_of (by simp [n2]) n1]
      rfl
  | succ g ih =>
    intro up n h u hu
    by_cases h0 : n.kind = 0
    · obtain ⟨g', e, he, hk⟩ := may_elem h h0
      cases e
      obtain ⟨r1, r2⟩ := raws_good (up := up) (sp := n.space) he.many he.atts
      have hn := name_of_plain he.plain
      by_cases hz : n.kids.length = 0
      · have e1 : spell (g + 1) up n ++ u = 60 :: (n.name.data.toList ++ ((raws up n.space n.attrs).flatMap one ++ (if true = true then 47 :: 62 :: u else 62 :: u))) := by
          unfold spell headText
          rw [if_pos h0, if_pos hz, if_pos rfl]
          simp
        have e2 : toks (g + 1) up n = [startTok up n true] := by unfold toks; rw [if_pos h0, if_pos hz]
        rw [e1, e2, run_of (by simp) (next_start hn r1 r2)]
        rfl
      · have e1 : spell (g + 1) up n ++ u = 60 :: (n.name.data.toList ++ ((raws up n.space n.attrs).flatMap one ++ (if false = true then 47 :: 62 :: (n.kids.flatMap (spell g n.space) ++ 60 :: 47 :: (n.name.data.toList ++ 62 :: u)) else 62 :: (n.kids.flatMap (spell g n.space) ++ 60 :: 47 :: (n.name.data.toList ++ 62 :: u))))) := by
          unfold spell headText
          rw [if_pos h0, if_neg hz, if_neg (by simp)]
          simp
        have e2 : toks (g + 1) up n = startTok up n false :: (n.kids.flatMap (toks g n.space) ++ [⟨1, n.name.data.toList, [], false, []⟩]) := by unfold toks; rw [if_pos h0, if_neg hz]
        have hs : T.next false (60 :: 47 :: (n.name.data.toList ++ 62 :: u)) = .ok (⟨1, n.name.data.toList, [], false, []⟩, u) := by
          rw [next_shut]
          unfold T.shut
          rw [name_at hn (c := 62) (by decide) (by decide)]
          rfl
        rw [e1, e2, run_of (by simp) (next_start hn r1 r2), run_kids (tk := toks g n.space) (fun x hx k => spell_head hx k) (fun x hx u' hu' => ih n.space x hx u' hu') n.kids none _ hk rfl, run_of (by simp) hs]
        cases T.run false u with
        | error e => rfl
        | ok ts => simp [startTok]
    · obtain ⟨q1, q2, q3⟩ := may_leaf h h0
      obtain ⟨n1, n2, _⟩ := next_leaf q1 u hu
      rw [q2, q3, run_of (by simp [n2]) n1]
      rfl
end Sc
end Go.Proofs.YtegaidfmkfnbnaaGreatDoor
