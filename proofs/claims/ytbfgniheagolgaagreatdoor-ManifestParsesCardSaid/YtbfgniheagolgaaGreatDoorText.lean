/-
  What each call on lines comes to: contracts of addLine, areRows, Print, number, row, read, Parse, Same, few.
-/
import Derived.Test.YtbfgniheagolgaaGreatDoorPlate2
import Derived.Test.YtbfgniheagolgaaGreatDoorMath
import Derived.Test.YtbfgniheagolgaaGreatDoorShelf
import Derived.Lib.AppendStr
import Derived.Lib.OthersKept
import Derived.Lib.ItoaLen
import Derived.Maps.AppendAt
import Derived.Laws.IdiomStrings
namespace Go.Proofs.YtbfgniheagolgaaGreatDoor
open Go.RowKit

/-- WHAT THE PACKAGES' VARIABLES HOLD that the library's functions read. -/
structure EnvAt (w : World) : Prop where
  most : ∃ m, w.cell? ⟨1, 0, none⟩ = some (.int .i64 m)
  tab : Lib.TabIs Tryz.prog w "internal/strconv.uint64pow10" .u64 Lib.pow10Tab
  syn : ∃ tp p, w.var? Tryz.prog "strconv.ErrSyntax" = some #[.iface tp p]
  ran : ∃ tp p, w.var? Tryz.prog "strconv.ErrRange" = some #[.iface tp p]

/-- .. and go on holding whatever is done from block B on. -/
def Env (B : Nat) (w : World) : Prop := ∀ w', Below B w w' → EnvAt w'
theorem Env.at {B : Nat} {w : World} (h : Env B w) : EnvAt w := h w (Below.refl _ _)
theorem Env.on {B B' : Nat} {w w1 : World} (h : Env B w) (b : Below B w w1) (hB : B ≤ B') : Env B' w1 := fun w' h' => h w' (b.trans (h'.mono hB))
theorem Env.tabs {B : Nat} {w : World} (h : Env B w) : Lib.TabBelow Tryz.prog B w "internal/strconv.uint64pow10" .u64 Lib.pow10Tab := fun w' h' => (h w' h').tab

theorem infoByte : (Tryz.prog.info? 5).map (fun i => (i.zero, i.size, i.bytes)) = some (some (.int .u8 0), 1, 1) := by kernel_rfl

theorem cells_app (a b : List UInt8) : Lib.byteCells a ++ Lib.byteCells b = Lib.byteCells (a ++ b) := by simp [Lib.byteCells]
theorem cells_len (a : List UInt8) : (Lib.byteCells a).length = a.length := by simp [Lib.byteCells]
theorem strCells_eq (s : ByteArray) : Lib.strCells s = Lib.byteCells s.data.toList := rfl

/-- The call owns a row of these bytes. -/
def Owns (B : Nat) (v : Value) (l : List UInt8) (w : World) : Prop := w.ownsRow B 5 1 v l.length (Lib.byteCells l)

theorem Owns.block {B : Nat} {v : Value} {l : List UInt8} {w w' : World} (h : Owns B v l w) (hg : w.grownBy w' v.ownBlock) : Lib.OthersKept 5 none w w' :=
  (Lib.OthersKept.refl _ _ _).grown hg (fun g e => by
    obtain ⟨_, ⟨rfl, _⟩ | ⟨g', cap, cur, rfl, _, hh, _⟩⟩ := h
    · cases e
    · cases e; exact ⟨_, _, hh⟩)

theorem Owns.below {B : Nat} {v : Value} {l : List UInt8} {w w' : World} (h : Owns B v l w) (hg : w.grownBy w' v.ownBlock) (hB : B ≤ w.heap.size) : Below B w w' :=
  (Below.refl _ _).grown hg hB (fun j e => (World.ownsRow.lt h j e).1)

theorem Owns.row {B : Nat} {v : Value} {l : List UInt8} {w : World} (h : Owns B v l w) : w.ownsRow B 5 1 v l.length (Lib.byteCells l) := h

theorem owns_of {B n : Nat} {v : Value} {l : List UInt8} {xs : List Value} {w : World} (h : w.ownsRow B 5 1 v n xs) (hn : n = l.length) (hx : xs = Lib.byteCells l) : Owns B v l w := by
  subst hn; subst hx; exact h

theorem spread_step (l s : List UInt8) (ns : List Int) (k : Nat) (h : k < ns.length) :
    (l ++ s ++ (ns.take k).flatMap (fun n => 32 :: Lib.itoa n)) ++ [32] ++ Lib.itoa ns[k] = l ++ s ++ (ns.take (k + 1)).flatMap (fun n => 32 :: Lib.itoa n) := by
  rw [List.take_succ_eq_append_getElem h, List.flatMap_append]; simp

theorem spread_len : ∀ (ns : List Int) (k : Nat), (∀ n ∈ ns, 0 ≤ n ∧ n ≤ 9223372036854775807) → ((ns.take k).flatMap (fun n => 32 :: Lib.itoa n)).length ≤ 22 * ns.length
  | [], k, _ => by simp
  | n :: ns, 0, _ => by simp
  | n :: ns, k + 1, hr => by
    have := spread_len ns k (fun m hm => hr m (by simp [hm]))
    have hn := hr n (by simp)
    have h := Lib.itoa_length_le n (by omega) (by omega)
    rw [List.take_succ_cons, List.flatMap_cons, List.length_append, List.length_cons, List.length_cons]
    omega

set_option maxRecDepth 100000 in
set_option maxHeartbeats 1600000 in
theorem addLine_any {B nb c : Nat} {sv : Value} {l : List UInt8} (s : ByteArray) (ns : List Int) (w : World) (hown : Owns B sv l w) (hBw : B ≤ w.heap.size) (hE : Env B w) (hc : ns.length = c)
    (hcell : ∀ j (h : j < ns.length), w.cell? ⟨nb, j, none⟩ = some (.int .i64 ns[j])) (hnb : ∃ cs fr, w.heap[nb]? = some (.cells cs 3 fr)) (hr : ∀ n ∈ ns, 0 ≤ n ∧ n ≤ 9223372036854775807)
    (hlim : l.length + s.size + 22 * ns.length + 1 ≤ 70368744177664) :
    Calls Tryz.prog 14 #[sv, .string s, .slice (some ⟨nb, 0, none⟩) c c] w fun e w' => ∃ v', e = .returned v' ∧ Owns B v' (l ++ M.line s.data.toList ns) w' ∧ Below B w w' := by
  obtain ⟨i0, hi, hz0, hz1, hz2⟩ := info_parts infoByte
  have hsl : s.data.toList.length = s.size := by simp
  go_enter Tryz.func14, Tryz.ntmps14
  go_wp2_with (at_builtin; refine Lib.wpList_append_own_string _ rfl _ _ 36 9 rfl B 5 i0 Tryz.underlying36 Tryz.underlying9 hi hz0 hz1 hz2 _ _ _ rfl hown s rfl (by unfold maxLen; omega) (by omega) hBw ?_)
  intro v1 w1 hown1 hg1 _
  have ho1 : Owns B v1 (l ++ s.data.toList) w1 := owns_of hown1 (by simp) (by rw [strCells_eq, cells_app])
  have k1 := hown.block hg1
  have b1 := hown.below hg1 hBw
  have hsl := Lib.hid hsl
  clear hown1
  go_wp2_with fail
  go_loopw [0, 14] (fun v i wr => ∃ k : Nat, k ≤ c ∧ i = .int .i64 k ∧ Owns B v (l ++ s.data.toList ++ (ns.take k).flatMap (fun n => 32 :: Lib.itoa n)) wr ∧ Below B w wr ∧ Lib.OthersKept 5 none w wr) (fun _ i _ => c - (intOf i).toNat)
  case atStart => exact ⟨0, Nat.zero_le _, rfl, by simpa using ho1, b1, k1⟩
  case round =>
    obtain ⟨k, hk, rfl, ho, bw, kw⟩ := hrel
    have hlen := spread_len ns k hr
    have hsz := bw.size
    have hT : (l ++ s.data.toList ++ (ns.take k).flatMap (fun n => 32 :: Lib.itoa n)).length + 30 ≤ 140737488355328 := by
      have := hsl.out
      simp only [List.length_append]; omega
    have hT := Lib.hid hT
    by_cases hlt : k < c
    · have hb : wr.heap[nb]? = w.heap[nb]? := by
        obtain ⟨cs, fr, hh⟩ := hnb
        rw [hh]; exact kw nb _ hh (by simp) (fun c' fz e => by cases e)
      have hck : wr.cell? ⟨nb, k, none⟩ = some (.int .i64 (ns[k]'(by omega))) := (World.cell?_of_block (a := ⟨nb, k, none⟩) hb).trans (hcell k (by omega))
      have hst := Lib.hid (spread_step l s.data.toList ns k (by omega))
      obtain ⟨hn0, hn1⟩ := hr (ns[k]'(by omega)) (List.getElem_mem _)
      generalize hx : ns[k]'(by omega) = x at hck hst hn0 hn1
      generalize hL : l ++ s.data.toList ++ (ns.take k).flatMap (fun n => 32 :: Lib.itoa n) = L at ho hst hT
      clear hx hcell hL
      go_wp2_with (at_builtin; refine wpList_append_own _ rfl _ _ 36 rfl B 5 i0 (.int .u8 0) 1 1 Tryz.underlying36 hi hz0 hz1 hz2 rfl (by decide) _ _ _ rfl (World.ownsRow.alloc ho _) ⟨wr.heap.size, 0, none⟩ 1 1 [.int .u8 32] rfl rfl (cell_one_new _ _ _) (fun u hu => by simp at hu; subst hu; rfl) (by have := hT.out; unfold maxLen; omega) (by have := hT.out; omega) (by simp; omega) ?_)
      intro v2 w2 hown2 hg2 hnil2
      have ho2 : Owns B v2 (L ++ [32]) w2 := owns_of hown2 (by simp) (by simp [Lib.byteCells])
      have hga : wr.grownBy w2 u0.ownBlock := (World.grownBy_alloc wr _ _).trans hg2
      have b2 := ho.below hga (by omega)
      have k2 := ho.block hga
      clear hown2
      go_wp2_with fail
      (with_reducible refine (Tryz.strconv_AppendInt_10 B _ x (by omega) (by omega) v2 _ w2 ho2.row (by have := b2.size; omega) (by have := hT.out; simp; omega) ((hE.on (bw.trans b2) (Nat.le_refl _)).tabs)).mono ?_)
      rintro e w3 ⟨v3, rfl, hown3, b3, k3⟩
      have ho3 : Owns B v3 (L ++ [32] ++ Lib.itoa x) w3 := owns_of hown3 (by simp; try omega) (by rw [cells_app])
      clear hown3
      go_wp2_with fail
      go_round
      case rel => exact ⟨k + 1, by omega, by go_num, by rw [← hst.out]; exact ho3, (bw.trans b2).trans b3, (kw.trans k2).trans k3⟩
      case measure => simp [intOf]; omega
    · have hkc : k = ns.length := by omega
      have hfull : (ns.take k).flatMap (fun n => 32 :: Lib.itoa n) = ns.flatMap (fun n => 32 :: Lib.itoa n) := by rw [hkc, List.take_length]
      rw [hfull] at ho hT
      clear hfull hcell
      go_wp2_with (at_builtin; refine wpList_append_own _ rfl _ _ 36 rfl B 5 i0 (.int .u8 0) 1 1 Tryz.underlying36 hi hz0 hz1 hz2 rfl (by decide) _ _ _ rfl (World.ownsRow.alloc ho _) ⟨wr.heap.size, 0, none⟩ 1 1 [.int .u8 10] rfl rfl (cell_one_new _ _ _) (fun u hu => by simp at hu; subst hu; rfl) (by have := hT.out; unfold maxLen; omega) (by have := hT.out; omega) (by simp; omega) ?_)
      intro v2 w2 hown2 hg2 hnil2
      have hga : wr.grownBy w2 u0.ownBlock := (World.grownBy_alloc wr _ _).trans hg2
      have b2 := ho.below hga (by omega)
      go_wp2_with fail
      go_ret
      exact ⟨_, rfl, owns_of hown2 (by simp [M.line]; omega) (by simp [M.line, Lib.byteCells]), bw.trans b2⟩
end Go.Proofs.YtbfgniheagolgaaGreatDoor
