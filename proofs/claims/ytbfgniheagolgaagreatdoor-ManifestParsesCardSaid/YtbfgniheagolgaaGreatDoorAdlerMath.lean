/-
  Plain mathematics of the sums of bytes: no program text. What the sum of a list of bytes is, of two lists one behind the other, and of a list in which one byte is another one.
-/
namespace Go.Proofs.YtbfgniheagolgaaGreatDoor.M

def step (p : Int × Int) (c : UInt8) : Int × Int :=
  ((p.1 + (c.toNat : Int)) % 65521, (p.2 + (p.1 + (c.toNat : Int)) % 65521) % 65521)
def stt (l : List UInt8) : Int × Int := l.foldl step (1, 0)
def adl (l : List UInt8) : Int := (stt l).2 * 65536 + (stt l).1

theorem stt_snoc (l : List UInt8) (c : UInt8) : stt (l ++ [c]) = step (stt l) c := by
  unfold stt; rw [List.foldl_append]; rfl
theorem stt_nil : stt [] = (1, 0) := rfl

theorem snoc_ind {P : List UInt8 → Prop} (h0 : P []) (h1 : ∀ l c, P l → P (l ++ [c])) (l : List UInt8) : P l := by
  rw [← List.reverse_reverse l]
  induction l.reverse with
  | nil => exact h0
  | cons c r ih => rw [List.reverse_cons]; exact h1 _ _ ih

theorem stt_bd (l : List UInt8) : 0 ≤ (stt l).1 ∧ (stt l).1 < 65521 ∧ 0 ≤ (stt l).2 ∧ (stt l).2 < 65521 := by
  refine snoc_ind (P := fun l => 0 ≤ (stt l).1 ∧ (stt l).1 < 65521 ∧ 0 ≤ (stt l).2 ∧ (stt l).2 < 65521) ?_ ?_ l
  · rw [stt_nil]; decide
  · intro l c _
    rw [stt_snoc]
    unfold step
    exact ⟨Int.emod_nonneg _ (by decide), Int.emod_lt_of_pos _ (by decide), Int.emod_nonneg _ (by decide), Int.emod_lt_of_pos _ (by decide)⟩

theorem adl_bd (l : List UInt8) : 0 ≤ adl l ∧ adl l < 4294967296 := by
  have := stt_bd l; unfold adl; omega

/-- What Join answers, in the document's words. -/
def joinA (x y : Int) : Int := (x % 65536 + y % 65536 - 1) % 65521
def joinB (x y n : Int) : Int := (x / 65536 + y / 65536 + n * (x % 65536 - 1)) % 65521
def join (x y n : Int) : Int := joinB x y n * 65536 + joinA x y

theorem adl_lo (l : List UInt8) : adl l % 65536 = (stt l).1 := by
  have := stt_bd l; unfold adl; omega
theorem adl_hi (l : List UInt8) : adl l / 65536 = (stt l).2 := by
  have := stt_bd l; unfold adl; omega

theorem stt_append (s t : List UInt8) :
    (stt (s ++ t)).1 = ((stt s).1 + (stt t).1 - 1) % 65521 ∧
    (stt (s ++ t)).2 = ((stt s).2 + (stt t).2 + (t.length : Int) * ((stt s).1 - 1)) % 65521 := by
  refine snoc_ind (P := fun t => (stt (s ++ t)).1 = ((stt s).1 + (stt t).1 - 1) % 65521 ∧
    (stt (s ++ t)).2 = ((stt s).2 + (stt t).2 + (t.length : Int) * ((stt s).1 - 1)) % 65521) ?_ ?_ t
  · have := stt_bd s
    simp only [List.append_nil, stt_nil, List.length_nil]
    constructor <;> omega
  · intro t c ⟨h1, h2⟩
    rw [← List.append_assoc, stt_snoc, stt_snoc]
    unfold step
    simp only [h1, h2, List.length_append, List.length_cons, List.length_nil]
    have e : (((t.length + (0 + 1) : Nat)) : Int) * ((stt s).1 - 1) = (t.length : Int) * ((stt s).1 - 1) + ((stt s).1 - 1) := by
      rw [show (((t.length + (0 + 1) : Nat)) : Int) = (t.length : Int) + 1 by omega, Int.add_mul]; omega
    rw [e]
    generalize (t.length : Int) * ((stt s).1 - 1) = m
    constructor <;> omega

theorem adl_append (s t : List UInt8) : adl (s ++ t) = join (adl s) (adl t) t.length := by
  have h := stt_append s t
  unfold join joinA joinB
  rw [adl_lo, adl_lo, adl_hi, adl_hi, ← h.1, ← h.2]; rfl

/-- Of texts whose byte k is unlike and whose other bytes are alike the sums are unlike. -/
theorem fst_cons (a : Int) (p q : Int × Int) (l : List UInt8) (h : q.1 = (p.1 + a) % 65521) (hp : 0 ≤ p.1 ∧ p.1 < 65521) :
    (l.foldl step q).1 = ((l.foldl step p).1 + a) % 65521 := by
  induction l generalizing p q with
  | nil => exact h
  | cons c l ih =>
    simp only [List.foldl_cons]
    refine ih (step p c) (step q c) ?_ ?_
    · unfold step; simp only [h]; omega
    · unfold step; exact ⟨Int.emod_nonneg _ (by decide), Int.emod_lt_of_pos _ (by decide)⟩

theorem adl_other (l r : List UInt8) (c d : UInt8) (h : c ≠ d) : adl (l ++ c :: r) ≠ adl (l ++ d :: r) := by
  intro e
  have hl := congrArg (· % 65536) e
  simp only [adl_lo] at hl
  have b1 := stt_bd (l ++ c :: r)
  have bl := stt_bd l
  have hc : (c.toNat : Int) < 256 := by have := c.toNat_lt; omega
  have hd : (d.toNat : Int) < 256 := by have := d.toNat_lt; omega
  have hne : (c.toNat : Int) ≠ d.toNat := fun x => h (UInt8.toNat_inj.1 (by omega))
  have k := fst_cons ((d.toNat : Int) - c.toNat) (step (stt l) c) (step (stt l) d) r
    (by unfold step; simp only []; omega)
    (by unfold step; exact ⟨Int.emod_nonneg _ (by decide), Int.emod_lt_of_pos _ (by decide)⟩)
  have f : ∀ x : UInt8, stt (l ++ x :: r) = r.foldl step (step (stt l) x) := fun x => by
    unfold stt; rw [List.foldl_append]; rfl
  rw [f, f, k] at hl
  rw [f] at b1
  omega

theorem take_snoc (l : List UInt8) (k : Nat) (h : k < l.length) : l.take (k + 1) = l.take k ++ [l[k]] := by
  rw [List.take_succ_eq_append_getElem h]
theorem stt_take (l : List UInt8) (k : Nat) (h : k < l.length) :
    (stt (l.take (k + 1))).1 = ((stt (l.take k)).1 + (l[k].toNat : Int)) % 65521 ∧
    (stt (l.take (k + 1))).2 = ((stt (l.take k)).2 + ((stt (l.take k)).1 + (l[k].toNat : Int)) % 65521) % 65521 := by
  rw [take_snoc l k h, stt_snoc]; exact ⟨rfl, rfl⟩

theorem wiki : adl [87, 105, 107, 105, 112, 101, 100, 105, 97] = 300286872 := by decide
theorem empt : adl [] = 1 := by decide
end Go.Proofs.YtbfgniheagolgaaGreatDoor.M
