/-
  Parts of a document as the document's own words hand them on: a token, what stands behind it, an error.
  What the document's own words of references come to: contracts of Escape, expand, Expand, Value.
  What the document's own words of references come to: contracts of expand, Expand, Value.
-/
import Derived.Test.YtegaidfmkfnbnaaGreatDoorP22
import Derived.Test.YtegaidfmkfnbnaaGreatDoorP08
import Derived.Test.YtegaidfmkfnbnaaGreatDoorQ01
import Derived.Test.YtegaidfmkfnbnaaGreatDoorP06
namespace Go.Proofs.YtegaidfmkfnbnaaGreatDoor
open Go.RowKit

/-- The seven cells of a part. -/
def partCells (k : Int) (n : ByteArray) (v : Value) (al : Bool) (d r : ByteArray) (e : Int) : Array Value := #[.int .i64 k, .string n, v, .bool al, .string d, .string r, .int .i64 e]
def partAgg (k : Int) (n : ByteArray) (v : Value) (al : Bool) (d r : ByteArray) (e : Int) : Value := .agg (partCells k n v al d r e)
/-- What is handed on. -/
def partVal (g : T.Got) (v : Value) : Value := match g with
  | .ok x => partAgg (x.1.kind : Int) ⟨x.1.name.toArray⟩ v x.1.alone ⟨x.1.data.toArray⟩ ⟨x.2.toArray⟩ 0
  | .error e => partAgg 0 ⟨#[]⟩ (.slice none 0 0) false ⟨#[]⟩ ⟨#[]⟩ (e : Int)
theorem partVal_err {g : T.Got} {e : Nat} (v : Value) (h : g = .error e) : partVal g v = partAgg 0 ⟨#[]⟩ (.slice none 0 0) false ⟨#[]⟩ ⟨#[]⟩ (e : Int) := by rw [h]; rfl

theorem partVal_ok {g : T.Got} {t : T.Tok} {r : List UInt8} {k : Int} {n d rb : ByteArray} {al : Bool} (v : Value) (h : g = .ok (t, r)) (hk : k = (t.kind : Int)) (hn : n.data.toList = t.name) (ha : al = t.alone) (hd : d.data.toList = t.data) (hr : rb.data.toList = r) :
    partAgg k n v al d rb 0 = partVal g v := by
  have e1 : (⟨t.name.toArray⟩ : ByteArray) = n := bytes_eq hn.symm
  have e2 : (⟨t.data.toArray⟩ : ByteArray) = d := bytes_eq hd.symm
  have e3 : (⟨r.toArray⟩ : ByteArray) = rb := bytes_eq hr.symm
  rw [h]
  unfold partVal
  simp only
  rw [e1, e2, e3, hk, ha]

theorem part_end {F : Func} {R : Ending → World → Prop} {tmps : Array Value} {w : World} {rb : Nat} {k e : Int} {n d r : ByteArray} {al : Bool} {ao : Option Addr} {m cap i : Nat} (hres : F.results = #[ResultVar.cell i 70])
    (h2 : tmps[i]? = some (.pointer (some ⟨rb, 0, none⟩))) (hc : Cells w rb 70 (partCells k n (.slice ao m cap) al d r e))
    (hR : R (.returned (partAgg k n (.slice ao m cap) al d r e)) w) : bodyPost Tryz.prog F R .ret { tmps := tmps, defers := [] } w := by
  refine ⟨rfl, _, ?_, hR⟩
  have l2 : i < tmps.size := (Array.getElem?_eq_some_iff.1 h2).1
  have g2 : tmps[i] = .pointer (some ⟨rb, 0, none⟩) := (Array.getElem?_eq_some_iff.1 h2).2
  have c0 := hc.cell (i := 0) rfl
  have c1 := hc.cell (i := 1) rfl
  have c2 := hc.cell (i := 2) rfl
  have c3 := hc.cell (i := 3) rfl
  have c4 := hc.cell (i := 4) rfl
  have c5 := hc.cell (i := 5) rfl
  have c6 := hc.cell (i := 6) rfl
  unfold partAgg
  simp [results, hres, go_sem, l2, g2, c0, c1, c2, c3, c4, c5, c6]
  rfl

/-- Seven cells set anew. -/
theorem part_set {w : World} {b : Nat} {k k' e e' : Int} {n n' d d' r r' : ByteArray} {v v' : Value} {al al' : Bool} (h : Cells w b 70 (partCells k n v al d r e)) :
    Cells (((((((w.setCell ⟨b, 0, none⟩ (.int .i64 k')).setCell ⟨b, 1, none⟩ (.string n')).setCell ⟨b, 2, none⟩ v').setCell ⟨b, 3, none⟩ (.bool al')).setCell ⟨b, 4, none⟩ (.string d')).setCell ⟨b, 5, none⟩ (.string r')).setCell ⟨b, 6, none⟩ (.int .i64 e')) b 70 (partCells k' n' v' al' d' r' e') := by
  have := ((((((h.set 0 (.int .i64 k')).set 1 (.string n')).set 2 v').set 3 (.bool al')).set 4 (.string d')).set 5 (.string r')).set 6 (.int .i64 e')
  simpa [partCells] using this
theorem part_below {B : Nat} {w0 w : World} {b : Nat} (h : Below B w0 w) (hb : B ≤ b) (x0 x1 x2 x3 x4 x5 x6 : Value) :
    Below B w0 (((((((w.setCell ⟨b, 0, none⟩ x0).setCell ⟨b, 1, none⟩ x1).setCell ⟨b, 2, none⟩ x2).setCell ⟨b, 3, none⟩ x3).setCell ⟨b, 4, none⟩ x4).setCell ⟨b, 5, none⟩ x5).setCell ⟨b, 6, none⟩ x6) :=
  ((((((h.setCell (p := ⟨b, 0, none⟩) hb x0).setCell (p := ⟨b, 1, none⟩) hb x1).setCell (p := ⟨b, 2, none⟩) hb x2).setCell (p := ⟨b, 3, none⟩) hb x3).setCell (p := ⟨b, 4, none⟩) hb x4).setCell (p := ⟨b, 5, none⟩) hb x5).setCell (p := ⟨b, 6, none⟩) hb x6

theorem part_open {w : World} {b : Nat} {k e : Int} {n d r : ByteArray} {v : Value} {al : Bool} (h : Cells w b 70 (partCells k n v al d r e)) :
    w.cell? ⟨b, 0, none⟩ = some (.int .i64 k) ∧ w.cell? ⟨b, 1, none⟩ = some (.string n) ∧ w.cell? ⟨b, 2, none⟩ = some v ∧ w.cell? ⟨b, 3, none⟩ = some (.bool al) ∧ w.cell? ⟨b, 4, none⟩ = some (.string d) ∧ w.cell? ⟨b, 5, none⟩ = some (.string r) ∧ w.cell? ⟨b, 6, none⟩ = some (.int .i64 e) :=
  ⟨h.cell rfl, h.cell rfl, h.cell rfl, h.cell rfl, h.cell rfl, h.cell rfl, h.cell rfl⟩
theorem part_free {w : World} {b : Nat} {cs : Array Value} (h : Cells w b 70 cs) :
    w.frozen? ⟨b, 0, none⟩ = false ∧ w.frozen? ⟨b, 1, none⟩ = false ∧ w.frozen? ⟨b, 2, none⟩ = false ∧ w.frozen? ⟨b, 3, none⟩ = false ∧ w.frozen? ⟨b, 4, none⟩ = false ∧ w.frozen? ⟨b, 5, none⟩ = false ∧ w.frozen? ⟨b, 6, none⟩ = false :=
  ⟨h.free 0, h.free 1, h.free 2, h.free 3, h.free 4, h.free 5, h.free 6⟩

set_option maxRecDepth 100000 in
set_option maxHeartbeats 800000 in
theorem refFailed_any (e : Int) (w : World) :
    Calls Tryz.prog 72 #[.int .i64 e] w fun x w' => x = .returned (partAgg 0 ⟨#[]⟩ (.slice none 0 0) false ⟨#[]⟩ ⟨#[]⟩ e) ∧ Below w.heap.size w w' := by
  go_enter Tryz.func72, Tryz.ntmps72
  go_wp2_with fail
  exact part_end (rb := w.heap.size) rfl rfl (Cells.new w _ (partCells 0 ⟨#[]⟩ (.slice none 0 0) false ⟨#[]⟩ ⟨#[]⟩ e)) ⟨rfl, (Below.refl _ _).alloc (Nat.le_refl _) _⟩

theorem cut_bytes {p : List UInt8} {s : ByteArray} {a r : List UInt8} (h : T.cutAt p s.data.toList = some (a, r)) :
    (s.extract 0 a.length).data.toList = a ∧ (s.extract (a.length + p.length) s.size).data.toList = r ∧ a.length + p.length ≤ s.size := by
  have e := T.cutAt_eq h
  have hl := congrArg List.length e
  rw [list_len] at hl
  simp only [List.length_append] at hl
  refine ⟨by rw [take_list, e, List.append_assoc, List.take_left], ?_, by omega⟩
  rw [drop_list, e, show a.length + p.length = (a ++ p).length by simp, List.drop_left]

set_option maxRecDepth 100000 in
set_option maxHeartbeats 1600000 in
theorem refCdata_any (s : ByteArray) (w : World) (hs : s.size ≤ 1000000) :
    Calls Tryz.prog 71 #[.string s] w fun x w' => x = .returned (partVal (T.cdata s.data.toList) (.slice none 0 0)) ∧ Below w.heap.size w w' := by
  go_enter Tryz.func71, Tryz.ntmps71
  have b0 := (Below.refl w.heap.size w).alloc (Nat.le_refl _) (.cells (partCells 0 ⟨#[]⟩ (.slice none 0 0) false ⟨#[]⟩ ⟨#[]⟩ 0) 70)
  have k0 := Cells.new w 70 (partCells 0 ⟨#[]⟩ (.slice none 0 0) false ⟨#[]⟩ ⟨#[]⟩ 0)
  go_wp2_with fail
  (with_reducible refine (refFind_any s ⟨#[93, 93, 62]⟩ _ hs (by decide) (by decide)).mono ?_); rintro e w1 ⟨rfl, rfl⟩
  cases hc : T.cutAt [93, 93, 62] s.data.toList with
  | none =>
    have hg : T.cdata s.data.toList = .error 70 := by unfold T.cdata; rw [hc]
    rw [T.findI_none hc]
    replace hg := Lib.hid hg
    clear hc
    go_wp2_with fail
    (with_reducible refine (refFailed_any 70 _).mono ?_); rintro e w2 ⟨rfl, b2⟩
    have k2 := k0.on b2
    have c2 := b0.trans (b2.mono b0.size)
    obtain ⟨q0, q1, q2, q3, q4, q5, q6⟩ := part_open k2
    obtain ⟨f0, f1, f2, f3, f4, f5, f6⟩ := part_free k2
    replace k2 := Lib.hid k2
    unfold partAgg partCells
    go_wp2_with fail
    exact part_end (rb := w.heap.size) rfl rfl (part_set k2.out) ⟨by rw [partVal_err _ hg.out]; rfl, part_below c2 (Nat.le_refl _) _ _ _ _ _ _ _⟩
  | some x =>
    obtain ⟨a, r⟩ := x
    have hg : T.cdata s.data.toList = .ok (⟨2, [], [], true, a⟩, r) := by unfold T.cdata; rw [hc]
    obtain ⟨ea, er, hle⟩ := cut_bytes hc
    rw [T.findI_some hc]
    clear hc
    generalize a.length = j at *
    replace hg := Lib.hid hg
    replace ea := Lib.hid ea
    replace er := Lib.hid er
    simp only [List.length_cons, List.length_nil, Nat.reduceAdd] at hle
    obtain ⟨q0, q1, q2, q3, q4, q5, q6⟩ := part_open k0
    obtain ⟨f0, f1, f2, f3, f4, f5, f6⟩ := part_free k0
    replace k0 := Lib.hid k0
    have hj0 : (0 : Int) ≤ (j : Int) := by omega
    have hj1 : (j : Int) ≤ (s.size : Int) := by omega
    have hj2 : (j : Int) + 3 ≤ (s.size : Int) := by omega
    go_wp2_with fail
    go_region
    go_wp2_with fail
    exact part_end (rb := w.heap.size) rfl rfl (Cells.new w _ (partCells 2 ⟨#[]⟩ (.slice none 0 0) true (s.extract 0 j) (s.extract (j + 3) s.size) 0)) ⟨congrArg Ending.returned (partVal_ok _ hg.out rfl rfl rfl ea.out er.out), ((Below.refl _ _).alloc (Nat.le_refl _) _).drew⟩
end Go.Proofs.YtegaidfmkfnbnaaGreatDoor
namespace Go.Proofs.YtegaidfmkfnbnaaGreatDoor
open Go.RowKit

namespace E
theorem escape_take (attr : Bool) (s : ByteArray) (k : Nat) (h : k < s.size) : escape attr (s.data.toList.take (k + 1)) = escape attr (s.data.toList.take k) ++ esc attr s[k] := by
  have h1 : k < s.data.toList.length := by rw [list_len]; exact h
  unfold escape
  rw [List.take_succ_eq_append_getElem h1, List.flatMap_append, List.flatMap_cons, List.flatMap_nil, List.append_nil]
  rfl
theorem acc_esc {attr : Bool} {s t u : ByteArray} {k : Nat} (h : k < s.size) (ht : t.data.toList = escape attr (s.data.toList.take k)) (hu : u.data.toList = esc attr s[k]) : (t ++ u).data.toList = escape attr (s.data.toList.take (k + 1)) := by
  rw [ByteArray.toList_data_append, ht, hu, escape_take attr s k h]
theorem six {t u : ByteArray} {k : Nat} (hu : u.size ≤ 6) (ht : t.size ≤ 6 * k) : (t ++ u).size ≤ 6 * (k + 1) := by
  rw [ByteArray.size_append]; omega
theorem one_byte (s : ByteArray) (k : Nat) (h : k < s.size) : (s.extract k (k + 1)).data.toList = [s[k]] := by
  rw [extract_list, List.drop_take, Nat.add_sub_cancel_left, drop_cons s k h]
  rfl
end E

set_option maxRecDepth 100000 in
set_option maxHeartbeats 6400000 in
theorem refEscape_any (s : ByteArray) (attr : Bool) (w : World) (hs : s.size ≤ 1000000) :
    Calls Tryz.prog 38 #[.string s, .bool attr] w fun e w' => e = .returned (.string ⟨(E.escape attr s.data.toList).toArray⟩) ∧ w = w' := by
  go_enter Tryz.func38, Tryz.ntmps38
  go_wp2_with fail
  go_loop [5, 6, 7] (fun v i c => ∃ (k : Nat) (t : ByteArray), k ≤ s.size ∧ i = .int .i64 k ∧ v = .string t ∧ t.size ≤ 6 * k ∧ Hid (t.data.toList = E.escape attr (s.data.toList.take k))) (fun _ i _ => s.size - (intOf i).toNat)
  case atStart => exact ⟨0, ⟨#[]⟩, Nat.zero_le _, rfl, rfl, by decide, Lib.hid rfl⟩
  case round =>
    obtain ⟨k, t, hk, rfl, rfl, ht, hT⟩ := hrel
    by_cases hlt : k < s.size
    · have hb := (s[k]).toNat_lt
      have hone := E.one_byte s k hlt
      have key : ∀ u : ByteArray, u.data.toList = E.esc attr s[k] → Hid ((t ++ u).data.toList = E.escape attr (s.data.toList.take (k + 1))) := fun u hu => Lib.hid (E.acc_esc hlt hT.out hu)
      have key := Lib.hid key
      generalize hx : s[k] = x at *
      have hxn : (s[k]).toNat = x.toNat := by rw [hx]
      by_cases h38 : x.toNat = 38
      · obtain rfl : x = 38 := byte_is h38
        replace hxn : ((s[k]).toNat : Int) = 38 := by rw [hxn]; rfl
        have hr := key.out ⟨#[38, 97, 109, 112, 59]⟩ (by cases attr <;> rfl)
        clear key hx
        go_wp2
        go_round
        case rel => exact ⟨k + 1, _, by omega, by go_num, rfl, E.six (by decide) ht, hr⟩
        case measure => simp [intOf]; omega
      have n38 : ¬ (x.toNat : Int) = 38 := by omega
      by_cases h60 : x.toNat = 60
      · obtain rfl : x = 60 := byte_is h60
        replace hxn : ((s[k]).toNat : Int) = 60 := by rw [hxn]; rfl
        have hr := key.out ⟨#[38, 108, 116, 59]⟩ (by cases attr <;> rfl)
        clear key hx
        go_wp2
        go_round
        case rel => exact ⟨k + 1, _, by omega, by go_num, rfl, E.six (by decide) ht, hr⟩
        case measure => simp [intOf]; omega
      have n60 : ¬ (x.toNat : Int) = 60 := by omega
      by_cases h62 : x.toNat = 62
      · obtain rfl : x = 62 := byte_is h62
        replace hxn : ((s[k]).toNat : Int) = 62 := by rw [hxn]; rfl
        have hr := key.out ⟨#[38, 103, 116, 59]⟩ (by cases attr <;> rfl)
        clear key hx
        go_wp2
        go_round
        case rel => exact ⟨k + 1, _, by omega, by go_num, rfl, E.six (by decide) ht, hr⟩
        case measure => simp [intOf]; omega
      have n62 : ¬ (x.toNat : Int) = 62 := by omega
      by_cases h13 : x.toNat = 13
      · obtain rfl : x = 13 := byte_is h13
        replace hxn : ((s[k]).toNat : Int) = 13 := by rw [hxn]; rfl
        have hr := key.out ⟨#[38, 35, 120, 68, 59]⟩ (by cases attr <;> rfl)
        clear key hx
        go_wp2
        go_round
        case rel => exact ⟨k + 1, _, by omega, by go_num, rfl, E.six (by decide) ht, hr⟩
        case measure => simp [intOf]; omega
      have n13 : ¬ (x.toNat : Int) = 13 := by omega
      have e0 : x ≠ 38 ∧ x ≠ 60 ∧ x ≠ 62 ∧ x ≠ 13 := ⟨fun e => h38 (by rw [e]; rfl), fun e => h60 (by rw [e]; rfl), fun e => h62 (by rw [e]; rfl), fun e => h13 (by rw [e]; rfl)⟩
      replace hxn : ((s[k]).toNat : Int) = (x.toNat : Int) := by rw [hxn]
      cases attr
      · have hu : E.esc false x = [x] := by unfold E.esc; rw [if_neg e0.1, if_neg e0.2.1, if_neg e0.2.2.1, if_neg e0.2.2.2]; simp
        have hr := key.out (s.extract k (k + 1)) (by rw [hone, hu])
        clear key hx
        go_wp2
        go_round
        case rel => exact ⟨k + 1, _, by omega, by go_num, rfl, by simp; omega, hr⟩
        case measure => simp [intOf]; omega
      · by_cases h34 : x.toNat = 34
        · obtain rfl : x = 34 := byte_is h34
          replace hxn : ((s[k]).toNat : Int) = 34 := by rw [hxn]; rfl
          have hr := key.out ⟨#[38, 113, 117, 111, 116, 59]⟩ (rfl)
          clear key hx
          go_wp2
          go_round
          case rel => exact ⟨k + 1, _, by omega, by go_num, rfl, E.six (by decide) ht, hr⟩
          case measure => simp [intOf]; omega
        have n34 : ¬ (x.toNat : Int) = 34 := by omega
        by_cases h9 : x.toNat = 9
        · obtain rfl : x = 9 := byte_is h9
          replace hxn : ((s[k]).toNat : Int) = 9 := by rw [hxn]; rfl
          have hr := key.out ⟨#[38, 35, 120, 57, 59]⟩ (rfl)
          clear key hx
          go_wp2
          go_round
          case rel => exact ⟨k + 1, _, by omega, by go_num, rfl, E.six (by decide) ht, hr⟩
          case measure => simp [intOf]; omega
        have n9 : ¬ (x.toNat : Int) = 9 := by omega
        by_cases h10 : x.toNat = 10
        · obtain rfl : x = 10 := byte_is h10
          replace hxn : ((s[k]).toNat : Int) = 10 := by rw [hxn]; rfl
          have hr := key.out ⟨#[38, 35, 120, 65, 59]⟩ (rfl)
          clear key hx
          go_wp2
          go_round
          case rel => exact ⟨k + 1, _, by omega, by go_num, rfl, E.six (by decide) ht, hr⟩
          case measure => simp [intOf]; omega
        have n10 : ¬ (x.toNat : Int) = 10 := by omega
        have hu : E.esc true x = [x] := by
          unfold E.esc
          rw [if_neg e0.1, if_neg e0.2.1, if_neg e0.2.2.1, if_neg e0.2.2.2, if_neg (fun e => h34 (by rw [e.2]; rfl)), if_neg (fun e => h9 (by rw [e.2]; rfl)), if_neg (fun e => h10 (by rw [e.2]; rfl))]
        have hr := key.out (s.extract k (k + 1)) (by rw [hone, hu])
        clear key hx
        go_wp2
        go_round
        case rel => exact ⟨k + 1, _, by omega, by go_num, rfl, by simp; omega, hr⟩
        case measure => simp [intOf]; omega
    · have hfull : s.data.toList.take k = s.data.toList := List.take_of_length_le (by rw [list_len]; omega)
      rw [hfull] at hT
      clear hfull
      go_wp2
      go_ret
      exact ⟨ret_str (bytes_eq hT.out), rfl⟩
end Go.Proofs.YtegaidfmkfnbnaaGreatDoor
namespace Go.Proofs.YtegaidfmkfnbnaaGreatDoor
open Go.RowKit

namespace E
theorem semi_none {t : List UInt8} (h : ∀ b ∈ t, b ≠ 59) : semi t = none := by
  have e : t.takeWhile (· ≠ 59) = t := by
    induction t with
    | nil => rfl
    | cons b t ih =>
      rw [List.takeWhile_cons, if_pos (by simpa using h b (by simp)), ih (fun x hx => h x (by simp [hx]))]
  unfold semi
  rw [e, List.drop_length]

theorem semi_at (s : ByteArray) (a k : Nat) (ha : a ≤ k) (hk : k < s.size) (h : (s[k]).toNat = 59) (hall : ∀ j (hj : j < s.size), a ≤ j → j < k → (s[j]).toNat ≠ 59) :
    semi (s.data.toList.drop a) = some ((s.extract a k).data.toList, s.data.toList.drop (k + 1)) := by
  have e : s.data.toList.drop a = (s.extract a k).data.toList ++ 59 :: s.data.toList.drop (k + 1) := by
    have h1 : 59 :: s.data.toList.drop (k + 1) = s.data.toList.drop k := by rw [drop_cons s k hk, byte_is (b := s[k]) (c := 59) h]
    rw [h1, extract_list]
    have h2 : s.data.toList.drop k = (s.data.toList.drop a).drop (k - a) := by rw [List.drop_drop]; congr 1; omega
    rw [h2, List.drop_take]
    exact (List.take_append_drop _ _).symm
  rw [e]
  refine semi_mk _ _ fun b hb => ?_
  obtain ⟨j, hj, hjb⟩ := List.mem_iff_getElem.1 hb
  have hz : (s.extract a k).data.toList.length = k - a := by rw [list_len]; simp; omega
  have hj2 : j < k - a := by rw [← hz]; exact hj
  have h3 := hall (a + j) (by omega) (by omega) (by omega)
  intro e2
  apply h3
  have h4 : (s.extract a k).data.toList[j] = s[a + j] := by
    have : (s.extract a k).data.toList[j]? = some (s[a + j]'(by omega)) := by
      rw [extract_list, List.drop_take, List.getElem?_take_of_lt hj2, List.getElem?_drop, List.getElem?_eq_getElem (by rw [list_len]; omega)]
      rfl
    rw [List.getElem?_eq_getElem hj] at this
    exact Option.some.inj this
  rw [← h4, hjb, e2]; rfl

theorem semi_end (s : ByteArray) (a : Nat) (hall : ∀ j (hj : j < s.size), a ≤ j → (s[j]).toNat ≠ 59) : semi (s.data.toList.drop a) = none := by
  refine semi_none fun b hb => ?_
  obtain ⟨j, hj, hjb⟩ := List.mem_iff_getElem.1 hb
  have hj2 : a + j < s.size := by rw [List.length_drop, list_len] at hj; omega
  have h3 := hall (a + j) hj2 (by omega)
  intro e2
  apply h3
  rw [List.getElem_drop] at hjb
  have h4 : s[a + j] = b := hjb
  rw [h4, e2]; rfl

/-- Expand's answers. -/
def expA (attr : Bool) (s : ByteArray) : ByteArray := match expand attr s.data.toList with | some u => ⟨u.toArray⟩ | none => ByteArray.empty
def expE (attr : Bool) (s : ByteArray) : Int := match expand attr s.data.toList with | some _ => 0 | none => 60
theorem exp_none {attr : Bool} {s : ByteArray} (h : expand attr s.data.toList = none) : expA attr s = ByteArray.empty ∧ expE attr s = 60 := by unfold expA expE; rw [h]; exact ⟨rfl, rfl⟩
theorem exp_some {attr : Bool} {s : ByteArray} {u : List UInt8} (h : expand attr s.data.toList = some u) : expA attr s = ⟨u.toArray⟩ ∧ expE attr s = 0 := by unfold expA expE; rw [h]; exact ⟨rfl, rfl⟩

/-- how far expand has come. -/
def At (attr : Bool) (s t : ByteArray) (k : Nat) : Prop := expand attr s.data.toList = (expand attr (s.data.toList.drop k)).map fun r => t.data.toList ++ r
theorem at_start (attr : Bool) (s : ByteArray) : At attr s ⟨#[]⟩ 0 := by
  unfold At
  rw [List.drop_zero]
  cases expand attr s.data.toList <;> simp
theorem at_byte {attr : Bool} {s t u : ByteArray} {k : Nat} (h : At attr s t k) (hk : k < s.size) (hb : (s[k]).toNat ≠ 38) (hu : u.data.toList = [blank attr s[k]]) : At attr s (t ++ u) (k + 1) := by
  unfold At at *
  rw [drop_cons s k hk, expand_byte attr _ _ (fun e => hb (by rw [e]; rfl))] at h
  rw [h]
  cases expand attr (s.data.toList.drop (k + 1)) with
  | none => rfl
  | some r => simp [hu]
theorem at_ref {attr : Bool} {s t u : ByteArray} {k j : Nat} {n v : List UInt8} (h : At attr s t k) (hk : k < s.size) (hb : (s[k]).toNat = 38) (hs : semi (s.data.toList.drop (k + 1)) = some (n, s.data.toList.drop (j + 1))) (hn : named n = some v) (hu : u.data.toList = v) :
    At attr s (t ++ u) (j + 1) := by
  unfold At at *
  rw [drop_cons s k hk, byte_is (b := s[k]) (c := 38) hb, expand_ref, hs] at h
  simp only [Option.bind_some] at h
  rw [hn] at h
  simp only [Option.bind_some] at h
  rw [h]
  cases expand attr (s.data.toList.drop (j + 1)) with
  | none => rfl
  | some r => simp [hu]
theorem at_bad {attr : Bool} {s t : ByteArray} {k : Nat} (h : At attr s t k) (hk : k < s.size) (hb : (s[k]).toNat = 38) (hs : semi (s.data.toList.drop (k + 1)) = none) : expand attr s.data.toList = none := by
  unfold At at h
  rw [drop_cons s k hk, byte_is (b := s[k]) (c := 38) hb, expand_ref, hs] at h
  rw [h]; rfl
theorem at_no {attr : Bool} {s t : ByteArray} {k : Nat} {n r : List UInt8} (h : At attr s t k) (hk : k < s.size) (hb : (s[k]).toNat = 38) (hs : semi (s.data.toList.drop (k + 1)) = some (n, r)) (hn : named n = none) : expand attr s.data.toList = none := by
  unfold At at h
  rw [drop_cons s k hk, byte_is (b := s[k]) (c := 38) hb, expand_ref, hs] at h
  simp only [Option.bind_some] at h
  rw [hn] at h
  rw [h]; rfl
theorem at_end {attr : Bool} {s t : ByteArray} {k : Nat} (h : At attr s t k) (hk : ¬ k < s.size) : expand attr s.data.toList = some t.data.toList := by
  unfold At at h
  rw [List.drop_of_length_le (by rw [list_len]; omega), expand_nil] at h
  rw [h]; simp
theorem named_len {n u : List UInt8} (h : named n = some u) : 1 ≤ u.length ∧ u.length ≤ 4 := by
  have hE : ∀ c : Int, 1 ≤ (Lib.encodeRune c).length ∧ (Lib.encodeRune c).length ≤ 4 := fun c => by
    have := Lib.encodeRuneZ_length c
    unfold Lib.encodeRune
    rw [List.length_map]; exact this
  unfold named at h
  repeat' split at h
  all_goals first
    | (cases h; decide)
    | (cases h)
    | (obtain ⟨c, _, hc⟩ := Option.map_eq_some_iff.1 h
       rw [← hc]
       exact hE _)
end E

theorem ret_pair {a b : ByteArray} {e f : Int} (ha : a = b) (he : e = f) : Ending.returned (.tuple #[.string a, .int .i64 e]) = .returned (.tuple #[.string b, .int .i64 f]) := by rw [ha, he]

set_option maxRecDepth 100000 in
set_option maxHeartbeats 6400000 in
theorem refExpand_any (s : ByteArray) (attr : Bool) (w : World) (hs : s.size ≤ 1000000) :
    Calls Tryz.prog 119 #[.string s, .bool attr] w fun e w' => e = .returned (.tuple #[.string (E.expA attr s), .int .i64 (E.expE attr s)]) ∧ Below w.heap.size w w' := by
  go_enter Tryz.func119, Tryz.ntmps119
  go_wp2_with fail
  go_loopw [6, 7, 8, 9] (fun v i _ _ wr => ∃ (k : Nat) (t : ByteArray), k ≤ s.size ∧ i = .int .i64 k ∧ v = .string t ∧ t.size ≤ 4 * k ∧ Hid (E.At attr s t k) ∧ Below w.heap.size w wr) (fun _ i _ _ _ => s.size - (intOf i).toNat)
  case atStart => exact ⟨0, ⟨#[]⟩, Nat.zero_le _, rfl, rfl, by decide, Lib.hid (E.at_start attr s), Below.refl _ _⟩
  case round =>
    obtain ⟨k, t, hk, rfl, rfl, ht, hA, bw⟩ := hrel
    by_cases hlt : k < s.size
    · by_cases h38 : (s[k]).toNat = 38
      · have h38i : ((s[k]).toNat : Int) = 38 := by omega
        go_wp2_with fail
        go_loop [8] (fun j => ∃ q : Nat, k + 1 ≤ q ∧ q ≤ s.size ∧ j = .int .i64 q ∧ Hid (∀ j (hj : j < s.size), k + 1 ≤ j → j < q → (s[j]).toNat ≠ 59)) (fun j => s.size - (intOf j).toNat)
        case atStart => exact ⟨k + 1, by omega, by omega, by go_num, Lib.hid (fun j _ h1 h2 => by omega)⟩
        case round =>
          obtain ⟨q, hq1, hq2, rfl, hall⟩ := hrel
          by_cases hqs : q < s.size
          · by_cases h59 : (s[q]).toNat = 59
            · have h59i : ((s[q]).toNat : Int) = 59 := by omega
              have hsemi := Lib.hid (E.semi_at s (k + 1) q hq1 hqs h59 hall.out)
              have hz : (s.extract (k + 1) q).size ≤ maxLen := by simp; unfold maxLen; omega
              have hqe : ¬ q = s.size := by omega
              clear hall h59
              go_wp2_with fail
              (with_reducible refine (refNamed_any (s.extract (k + 1) q) _ hz).mono ?_); rintro e w1 ⟨rfl, b1⟩
              have b2 := bw.trans (b1.mono bw.size)
              cases hn : E.named (s.extract (k + 1) q).data.toList with
              | none =>
                obtain ⟨r1, r2⟩ := E.exp_none (E.at_no hA.out hlt h38 hsemi.out hn)
                rw [E.namedB_no hn]
                clear hn
                have n0 : ByteArray.empty.toList.isEmpty = true := by rw [ByteArray.toList_eq]; rfl
                replace r1 := Lib.hid r1
                replace r2 := Lib.hid r2
                go_wp2
                go_ret2
                exact ⟨ret_pair r1.out.symm r2.out.symm, b2⟩
              | some u =>
                have hul := E.named_len hn
                have hr := E.at_ref (u := ⟨u.toArray⟩) hA.out hlt h38 hsemi.out hn (by simp)
                rw [E.namedB_of hn]
                clear hn
                obtain ⟨U, hU⟩ : ∃ U : ByteArray, U = ⟨u.toArray⟩ := ⟨_, rfl⟩
                have hUz : U.size = u.length := by rw [hU]; simp [ByteArray.size]
                rw [← hU] at hr ⊢
                clear hU
                have n0 := ne_empty (s := U) (by omega)
                have hr := Lib.hid hr
                clear hsemi
                go_wp2_with fail
                go_roundw
                case rel => exact ⟨q + 1, _, by omega, by go_num, rfl, by rw [ByteArray.size_append]; omega, hr, b2⟩
                case measure => simp [intOf]; omega
            · have h59i : ¬ ((s[q]).toNat : Int) = 59 := by omega
              have hall' : Hid (∀ j (hj : j < s.size), k + 1 ≤ j → j < q + 1 → (s[j]).toNat ≠ 59) := Lib.hid (fun j hj h1 h2 => by
                by_cases hjq : j = q
                · subst hjq; exact h59
                · exact hall.out j hj h1 (by omega))
              clear hall h59
              go_wp2_with fail
              go_round
              case rel => exact ⟨q + 1, by omega, by omega, by go_num, hall'⟩
              case measure => simp [intOf]; omega
          · have hqe : q = s.size := by omega
            subst hqe
            obtain ⟨r1, r2⟩ := E.exp_none (E.at_bad hA.out hlt h38 (E.semi_end s (k + 1) (fun j hj h1 => hall.out j hj h1 hj)))
            replace r1 := Lib.hid r1
            replace r2 := Lib.hid r2
            clear hall
            go_wp2
            go_ret2
            exact ⟨ret_pair r1.out.symm r2.out.symm, bw⟩
      · have h38i : ¬ ((s[k]).toNat : Int) = 38 := by omega
        have hone := E.one_byte s k hlt
        cases attr
        · have hr := Lib.hid (E.at_byte hA.out hlt h38 (u := s.extract k (k + 1)) (by rw [hone]; rfl))
          clear hone h38
          go_wp2_with fail
          go_roundw
          case rel => exact ⟨k + 1, _, by omega, by go_num, rfl, by simp; omega, hr, bw⟩
          case measure => simp [intOf]; omega
        · have hbt : ((s[k]).toNat : Int) < 256 := by have := (s[k]).toNat_lt; omega
          cases hsp : G.space ((s[k]).toNat : Int)
          · have hr := Lib.hid (E.at_byte hA.out hlt h38 (u := s.extract k (k + 1)) (by rw [hone]; unfold E.blank; rw [hsp]; rfl))
            clear hone h38
            go_wp2_with fail
            (with_reducible refine (refSpace_any _ _).mono ?_); rintro e w1 ⟨rfl, rfl⟩
            rw [hsp]
            clear hsp
            go_wp2_with fail
            go_roundw
            case rel => exact ⟨k + 1, _, by omega, by go_num, rfl, by simp; omega, hr, bw⟩
            case measure => simp [intOf]; omega
          · have hr := Lib.hid (E.at_byte hA.out hlt h38 (u := ⟨#[32]⟩) (by unfold E.blank; rw [hsp]; rfl))
            clear hone h38
            go_wp2_with fail
            (with_reducible refine (refSpace_any _ _).mono ?_); rintro e w1 ⟨rfl, rfl⟩
            rw [hsp]
            clear hsp
            go_wp2_with fail
            go_roundw
            case rel => exact ⟨k + 1, _, by omega, by go_num, rfl, by have hz : (⟨#[32]⟩ : ByteArray).size = 1 := rfl
                                                                      rw [ByteArray.size_append]; omega, hr, bw⟩
            case measure => simp [intOf]; omega
    · obtain ⟨r1, r2⟩ := E.exp_some (E.at_end hA.out hlt)
      replace r1 := Lib.hid r1
      replace r2 := Lib.hid r2
      go_wp2
      go_ret2
      exact ⟨ret_pair (by rw [r1.out]) r2.out.symm, bw⟩

theorem refExpandT_any (s : ByteArray) (w : World) (hs : s.size ≤ 1000000) :
    Calls Tryz.prog 100 #[.string s] w fun e w' => e = .returned (.tuple #[.string (E.expA false s), .int .i64 (E.expE false s)]) ∧ Below w.heap.size w w' := by
  go_enter Tryz.func100, Tryz.ntmps100
  go_wp2_with fail
  (with_reducible refine (refExpand_any s _ _ hs).mono ?_); rintro e w1 ⟨rfl, b1⟩
  go_wp2
  go_ret2
  exact ⟨rfl, b1⟩

theorem refValue_any (s : ByteArray) (w : World) (hs : s.size ≤ 1000000) :
    Calls Tryz.prog 118 #[.string s] w fun e w' => e = .returned (.tuple #[.string (E.expA true s), .int .i64 (E.expE true s)]) ∧ Below w.heap.size w w' := by
  go_enter Tryz.func118, Tryz.ntmps118
  go_wp2_with fail
  (with_reducible refine (refExpand_any s _ _ hs).mono ?_); rintro e w1 ⟨rfl, b1⟩
  go_wp2
  go_ret2
  exact ⟨rfl, b1⟩
end Go.Proofs.YtegaidfmkfnbnaaGreatDoor
