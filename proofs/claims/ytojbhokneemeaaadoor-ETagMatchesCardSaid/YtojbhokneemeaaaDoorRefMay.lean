/-
  What the document's own Print, Has and May come to.
-/
import Derived.Test.YtojbhokneemeaaaDoorRefList
namespace Go.Proofs.YtojbhokneemeaaaDoor
open Go.RowKit

/-- Print's answers. -/
def plA (t : Tag) : ByteArray := if Et.may t = true then ⟨(Et.tell t).toArray⟩ else ⟨#[]⟩
def plE (t : Tag) : Int := if Et.may t = true then 0 else 170
theorem pl_yes {t : Tag} (h : Et.may t = true) : plA t = ⟨(Et.tell t).toArray⟩ ∧ plE t = 0 := by unfold plA plE; rw [if_pos h, if_pos h]; exact ⟨rfl, rfl⟩
theorem pl_no {t : Tag} (h : Et.may t = false) : plA t = ⟨#[]⟩ ∧ plE t = 170 := by unfold plA plE; rw [if_neg (by rw [h]; simp), if_neg (by rw [h]; simp)]; exact ⟨rfl, rfl⟩
theorem tell_strong (v : ByteArray) : (⟨(Et.tell ⟨false, v⟩).toArray⟩ : ByteArray) = (⟨#[34]⟩ : ByteArray) ++ v ++ ⟨#[34]⟩ := bytes_eq (by rw [mk_list]; simp [Et.tell])
theorem tell_weak (v : ByteArray) : (⟨(Et.tell ⟨true, v⟩).toArray⟩ : ByteArray) = (⟨#[87, 47, 34]⟩ : ByteArray) ++ v ++ ⟨#[34]⟩ := bytes_eq (by rw [mk_list]; simp [Et.tell])
theorem tell_size (t : Tag) : (Et.tell t).length ≤ t.value.size + 4 := by
  unfold Et.tell
  cases t.weak <;> simp
theorem pl_size (t : Tag) : (plA t).size ≤ t.value.size + 4 := by
  unfold plA
  split
  · rw [← list_len, mk_list]; exact tell_size t
  · exact Nat.zero_le _

set_option maxRecDepth 100000 in
set_option maxHeartbeats 3200000 in
theorem refPrint_any (t : Tag) (w : World) (hz : t.value.size ≤ 140737488355328) :
    Calls Tryd.prog 12 #[.agg #[.bool t.weak, .string t.value]] w fun e w' => e = .returned (.tuple #[.string (plA t), .int .i64 (plE t)]) ∧ Below w.heap.size w w' := by
  have hyes := Lib.hid (@pl_yes t)
  have hno := Lib.hid (@pl_no t)
  generalize plA t = A at *
  generalize plE t = E at *
  obtain ⟨wk, v⟩ := t
  dsimp only at *
  have hall := Lib.hid (show Et.may ⟨wk, v⟩ = v.data.toList.all Et.inner from rfl)
  have bA := (Below.refl w.heap.size w).alloc (Nat.le_refl _) (.cells #[.bool wk, .string v] 23)
  have k0 := Cells.new w 23 #[.bool wk, .string v]
  have c0 := k0.cell (i := 0) (v := .bool wk) rfl
  have c1 := k0.cell (i := 1) (v := .string v) rfl
  have hlen := Lib.hid (list_len v)
  go_enter Tryd.func12, Tryd.ntmps12
  go_upto_region 1 with fail
  clear k0
  generalize w.alloc (.cells #[.bool wk, .string v] 23) = W at *
  replace bA := Lib.hid bA
  go_wp2_with fail
  go_loop [4] (fun i => ∃ k : Nat, k ≤ v.size ∧ i = .int .i64 (k : Int) ∧ Hid ((v.data.toList.take k).all Et.inner = true)) (fun i => v.size - (intOf i).toNat)
  case atStart => exact ⟨0, Nat.zero_le _, rfl, Lib.hid (by simp)⟩
  case round =>
    obtain ⟨k, hk, rfl, ha⟩ := hrel
    by_cases hlt : k < v.size
    · go_wp2_with fail
      (with_reducible refine (refInner_any v[k] _).mono ?_); rintro e w1 ⟨rfl, rfl⟩
      cases hb : Et.inner v[k]
      · obtain ⟨rfl, rfl⟩ := hno.out (by rw [hall.out]; exact all_not _ _ k (by rw [hlen.out]; exact hlt) hb)
        replace hb := Lib.hid hb
        clear hyes hno
        go_wp2_with fail
        go_ret2
        exact ⟨rfl, bA.out⟩
      · have hst := all_take Et.inner v.data.toList k (by rw [hlen.out]; exact hlt)
        have hr := Lib.hid (hst.trans (show _ = true by rw [ha.out]; exact hb))
        replace hb := Lib.hid hb
        clear hst
        go_wp2_with fail
        go_round
        case rel => exact ⟨k + 1, by omega, by go_num, hr⟩
        case measure => simp [intOf]; omega
    · have hke : k = v.size := by omega
      obtain ⟨rfl, rfl⟩ := hyes.out (by rw [hall.out]; have := ha.out; rwa [hke, ← hlen.out, List.take_length] at this)
      replace hke := Lib.hid hke
      clear hyes hno
      have q1 : ¬ 9223372036854775807 < 1 + v.size := by omega
      have q2 : ¬ 9223372036854775807 < 1 + v.size + 1 := by omega
      have q3 : ¬ 9223372036854775807 < 3 + v.size := by omega
      have q4 : ¬ 9223372036854775807 < 3 + v.size + 1 := by omega
      cases wk
      · have hx := Lib.hid (tell_strong v)
        go_wp2_with fail
        go_ret2
        exact ⟨by rw [hx.out]; rfl, bA.out⟩
      · have hx := Lib.hid (tell_weak v)
        go_wp2_with fail
        go_ret2
        exact ⟨by rw [hx.out]; rfl, bA.out⟩

theorem any_more {l : List Tag} {p : Tag → Bool} {k : Nat} (h : k < l.length) (h0 : (l.take k).any p = false) (h1 : p l[k] = false) : (l.take (k + 1)).any p = false := by
  rw [List.take_succ_eq_append_getElem h, List.any_append, h0, List.any_cons, h1]; rfl
theorem any_hit {l : List Tag} {p : Tag → Bool} {k : Nat} (h : k < l.length) (h1 : p l[k] = true) : l.any p = true := List.any_eq_true.2 ⟨l[k], List.getElem_mem h, h1⟩

set_option maxRecDepth 100000 in
set_option maxHeartbeats 3200000 in
theorem refHas_any {ao : Option Addr} {cap n : Nat} (l : List Tag) (star : Bool) (t : Tag) (there weak : Bool) (w : World) (hl : TagsIn w ao l) (hn : l.length = n) (hz : n ≤ maxLen) :
    Calls Tryd.prog 15 #[.slice ao n cap, .bool star, .agg #[.bool t.weak, .string t.value], .bool there, .bool weak] w fun e w' => e = .returned (.bool (Et.has l star t there weak)) ∧ Below w.heap.size w w' := by
  unfold maxLen at hz
  subst hn
  have hh : Hid (Et.has l star t there weak = (there && (star || l.any fun x => Et.alike x t weak))) := Lib.hid rfl
  generalize Et.has l star t there weak = H at *
  obtain ⟨tw, tv⟩ := t
  dsimp only at *
  have bA := (Below.refl w.heap.size w).alloc (Nat.le_refl _) (.cells #[.bool tw, .string tv] 23)
  have k0 := Cells.new w 23 #[.bool tw, .string tv]
  have c0 := k0.cell (i := 0) (v := .bool tw) rfl
  have c1 := k0.cell (i := 1) (v := .string tv) rfl
  have hl2 := hl.below bA
  go_enter Tryd.func15, Tryd.ntmps15
  go_upto_region 1 with fail
  clear hl
  have k0 := Lib.hid k0
  generalize w.alloc (.cells #[.bool tw, .string tv] 23) = W at *
  replace bA := Lib.hid bA
  cases there
  · obtain rfl : H = false := by rw [hh.out]; rfl
    go_wp2_with fail
    go_ret
    exact ⟨rfl, bA.out⟩
  cases star
  case true =>
    obtain rfl : H = true := by rw [hh.out]; rfl
    go_wp2_with fail
    go_ret
    exact ⟨rfl, bA.out⟩
  case false =>
    replace hh : Hid (H = l.any fun x => Et.alike x ⟨tw, tv⟩ weak) := Lib.hid (by rw [hh.out]; rfl)
    go_wp2_with fail
    go_loopw [11] (fun i wr => ∃ k : Nat, k ≤ l.length ∧ i = .int .i64 (k : Int) ∧ Hid ((l.take k).any (fun x => Et.alike x ⟨tw, tv⟩ weak) = false) ∧ Below W.heap.size W wr) (fun i _ => l.length - (intOf i).toNat)
    case atStart => exact ⟨0, Nat.zero_le _, rfl, Lib.hid (by simp), Below.refl _ _⟩
    case round =>
      obtain ⟨k, hk, rfl, ha, bw⟩ := hrel
      by_cases hlt : k < l.length
      · obtain ⟨b, off, rfl, d0, d1⟩ := (hl2.below bw) k hlt
        have hlz : W.heap.size ≤ wr.heap.size := bw.size
        have x0 := (k0.out.on bw).cell (i := 0) (v := .bool tw) rfl
        have x1 := (k0.out.on bw).cell (i := 1) (v := .string tv) rfl
        have hmore := Lib.hid (fun h => any_more (p := fun x => Et.alike x ⟨tw, tv⟩ weak) hlt ha.out h)
        have hhit := Lib.hid (fun h => hh.out.trans (any_hit (p := fun x => Et.alike x ⟨tw, tv⟩ weak) hlt h))
        have hdef : Hid (∀ r, r = Et.alike l[k] ⟨tw, tv⟩ weak ↔ r = (decide (l[k].value = tv) && (weak || (!l[k].weak && !tw)))) := Lib.hid (fun r => Iff.rfl)
        have g3 : (k : Int) < (l.length : Int) := by omega
        generalize l[k] = x at *
        obtain ⟨xw, xv⟩ := x
        dsimp only at *
        replace c0 := Lib.hid c0
        replace c1 := Lib.hid c1
        replace hl2 := Lib.hid hl2
        by_cases e1 : xv = tv
        case neg =>
          have f1 := str_differ e1
          have hr := hmore.out ((hdef.out _).2 (by rw [decide_eq_false e1]; rfl)).symm
          replace hr := Lib.hid hr
          clear hmore hhit hdef
          replace e1 := Lib.hid e1
          go_wp2_with fail
          go_quiet (fail)
          go_wp2_with fail
          go_round
          case rel => exact ⟨k + 1, by omega, by go_num, hr, bw.trans (drewN_below _ _)⟩
          case measure => simp [intOf]; omega
        case pos =>
          subst e1
          have f1 : (xv.toList == xv.toList) = true := beq_self_eq_true _
          cases weak
          case true =>
            obtain rfl : H = true := hhit.out ((hdef.out _).2 (by simp)).symm
            clear hmore hhit hdef hh
            go_wp2_with fail
            go_quiet (fail)
            go_wp2_with fail
            go_ret
            exact ⟨rfl, bA.out.trans ((bw.trans (drewN_below _ _)).mono bA.out.size)⟩
          case false =>
            cases xw
            case true =>
              have hr := hmore.out ((hdef.out _).2 (by simp)).symm
              replace hr := Lib.hid hr
              clear hmore hhit hdef
              go_wp2_with fail
              go_quiet (fail)
              go_wp2_with fail
              go_round
              case rel => exact ⟨k + 1, by omega, by go_num, hr, bw.trans (drewN_below _ _)⟩
              case measure => simp [intOf]; omega
            case false =>
              cases tw
              case true =>
                have hr := hmore.out ((hdef.out _).2 (by simp)).symm
                replace hr := Lib.hid hr
                clear hmore hhit hdef
                go_wp2_with fail
                go_quiet (fail)
                go_wp2_with fail
                go_round
                case rel => exact ⟨k + 1, by omega, by go_num, hr, bw.trans (drewN_below _ _)⟩
                case measure => simp [intOf]; omega
              case false =>
                obtain rfl : H = true := hhit.out ((hdef.out _).2 (by simp)).symm
                clear hmore hhit hdef hh
                go_wp2_with fail
                go_quiet (fail)
                go_wp2_with fail
                go_ret
                exact ⟨rfl, bA.out.trans ((bw.trans (drewN_below _ _)).mono bA.out.size)⟩
      · have hke : k = l.length := by omega
        obtain rfl : H = false := by rw [hh.out]; have := ha.out; rwa [hke, List.take_length] at this
        clear hh ha hl2
        go_wp2_with fail
        go_ret
        exact ⟨rfl, bA.out.trans (bw.mono bA.out.size)⟩

namespace Et
theorem upon_nil (t : Tag) (there weak : Bool) (a b : Int) : upon [] t there weak a b = 0 := by unfold upon; rw [if_pos rfl]
theorem upon_bad {s : List UInt8} (h0 : s ≠ []) (h : list s = none) (t : Tag) (there weak : Bool) (a b : Int) : upon s t there weak a b = 400 := by unfold upon asks; rw [if_neg h0, h]; rfl
theorem upon_some {s : List UInt8} (h0 : s ≠ []) {l : List Tag} {st : Bool} (h : list s = some (l, st)) (t : Tag) (there weak : Bool) (a b : Int) : upon s t there weak a b = if has l st t there weak = true then b else a := by
  unfold upon asks; rw [if_neg h0, h, Option.map_some]
  cases has l st t there weak <;> rfl
theorem may_bad {m n : List UInt8} (h0 : m ≠ []) (h : list m = none) (t : Tag) (there get : Bool) : mayQ m n t there get = 400 := by
  unfold mayQ; rw [upon_bad h0 h]; rfl
theorem may_fail {m n : List UInt8} (h0 : m ≠ []) {l : List Tag} {st : Bool} (h : list m = some (l, st)) (t : Tag) (there get : Bool) (hh : has l st t there false = false) : mayQ m n t there get = 412 := by
  unfold mayQ; rw [upon_some h0 h, hh]; rfl
theorem may_on {m n : List UInt8} (h0 : m ≠ []) {l : List Tag} {st : Bool} (h : list m = some (l, st)) (t : Tag) (there get : Bool) (hh : has l st t there false = true) : mayQ m n t there get = mayN n t there get := by
  unfold mayQ; rw [upon_some h0 h, hh]; rfl
theorem may_nil (n : List UInt8) (t : Tag) (there get : Bool) : mayQ [] n t there get = mayN n t there get := by
  unfold mayQ; rw [upon_nil]; rfl
theorem mayN_nil (t : Tag) (there get : Bool) : mayN [] t there get = 0 := upon_nil _ _ _ _ _
theorem mayN_bad {n : List UInt8} (h0 : n ≠ []) (h : list n = none) (t : Tag) (there get : Bool) : mayN n t there get = 400 := upon_bad h0 h _ _ _ _ _
theorem mayN_has {n : List UInt8} (h0 : n ≠ []) {l : List Tag} {st : Bool} (h : list n = some (l, st)) (t : Tag) (there get : Bool) (hh : has l st t there true = true) : mayN n t there get = if get = true then 304 else 412 := by
  unfold mayN; rw [upon_some h0 h, hh]; rfl
theorem mayN_not {n : List UInt8} (h0 : n ≠ []) {l : List Tag} {st : Bool} (h : list n = some (l, st)) (t : Tag) (there get : Bool) (hh : has l st t there true = false) : mayN n t there get = 0 := by
  unfold mayN; rw [upon_some h0 h, hh]; rfl
end Et
/-- A list's answers, either way. -/
theorem li_cases (s : ByteArray) : (Et.list s.data.toList = none ∧ liT s = [] ∧ liS s = false ∧ liE s = 170) ∨ (Et.list s.data.toList = some (liT s, liS s) ∧ liE s = 0) := by
  cases h : Et.list s.data.toList with
  | none => exact .inl ⟨rfl, li_none h⟩
  | some x =>
    obtain ⟨l, b⟩ := x
    obtain ⟨r1, r2, r3⟩ := li_some h
    exact .inr ⟨by rw [r1, r2], r3⟩
/-- A tag's box. -/
def TagBox (w : World) (b : Nat) (t : Tag) : Prop := Cells w b 23 #[.bool t.weak, .string t.value]
theorem TagBox.on {w w' : World} {b : Nat} {t : Tag} (h : TagBox w b t) (hb : Below w.heap.size w w') : TagBox w' b t := Cells.on h hb
theorem TagBox.c0 {w : World} {b : Nat} {t : Tag} (h : TagBox w b t) : w.cell? ⟨b, 0, none⟩ = some (.bool t.weak) := Cells.cell h rfl
theorem TagBox.c1 {w : World} {b : Nat} {t : Tag} (h : TagBox w b t) : w.cell? ⟨b, 1, none⟩ = some (.string t.value) := Cells.cell h rfl
theorem TagBox.new (w : World) (t : Tag) : TagBox (w.alloc (.cells #[.bool t.weak, .string t.value] 23)) w.heap.size t := Cells.new w _ _

set_option maxRecDepth 100000 in
set_option maxHeartbeats 12800000 in
theorem refMay_any (m n : ByteArray) (t : Tag) (there get : Bool) (w : World) (hm : m.size ≤ 1000000) (hn : n.size ≤ 1000000) :
    Calls Tryd.prog 17 #[.string m, .string n, .agg #[.bool t.weak, .string t.value], .bool there, .bool get] w fun e w' => e = .returned (.int .i64 (Et.mayQ m.data.toList n.data.toList t there get)) ∧ Below w.heap.size w w' := by
  have m1 := Lib.hid (fun h0 h => @Et.may_bad m.data.toList n.data.toList h0 h t there get)
  have m2 := Lib.hid (fun h0 l st h => @Et.may_fail m.data.toList n.data.toList h0 l st h t there get)
  have m3 := Lib.hid (fun h0 l st h => @Et.may_on m.data.toList n.data.toList h0 l st h t there get)
  have m0 := Lib.hid (fun (h : m.data.toList = []) => show Et.mayQ m.data.toList n.data.toList t there get = Et.mayN n.data.toList t there get by rw [h]; exact Et.may_nil _ _ _ _)
  generalize Et.mayQ m.data.toList n.data.toList t there get = Q at *
  have n0 := Lib.hid (fun (h : n.data.toList = []) => show Et.mayN n.data.toList t there get = 0 by rw [h]; exact Et.mayN_nil _ _ _)
  have n1 := Lib.hid (fun h0 h => @Et.mayN_bad n.data.toList h0 h t there get)
  have n2 := Lib.hid (fun h0 l st h => @Et.mayN_has n.data.toList h0 l st h t there get)
  have n3 := Lib.hid (fun h0 l st h => @Et.mayN_not n.data.toList h0 l st h t there get)
  generalize Et.mayN n.data.toList t there get = N at *
  have bA := (Below.refl w.heap.size w).alloc (Nat.le_refl _) (.cells #[.bool t.weak, .string t.value] 23)
  have k0 := TagBox.new w t
  go_enter Tryd.func17, Tryd.ntmps17
  go_upto_region 1 with fail
  generalize w.alloc (.cells #[.bool t.weak, .string t.value] 23) = W at *
  replace bA := Lib.hid bA
  replace k0 := Lib.hid k0
  by_cases h0 : m.size = 0
  case' pos =>
    have hQ := Lib.hid (m0.out (nil_of_size h0))
    obtain rfl : m = ByteArray.empty := ByteArray.size_eq_zero_iff.1 h0
    clear m0 m1 m2 m3 h0 hm
    go_upto_region 7 with fail
    have hV := bA
    have kV := k0
    clear bA k0
    obtain ⟨V, rfl⟩ : ∃ V, V = W := ⟨_, rfl⟩
  case' neg =>
    have h1 : 0 < m.size := by omega
    have hne3 : ¬ m.toList = [] := by rw [ByteArray.toList_eq]; exact lst_ne h1
    have hne2 : (m.toList != []) = true := bne_iff_ne.2 hne3
    have hne := ne_empty h1
    have hml := Lib.hid (lst_ne h1)
    go_wp2_with fail
    (with_reducible refine (refList_any m _ hm).mono ?_); rintro e w1 ⟨v, rfl, ho, b1⟩
    have hV := Lib.hid (bA.out.trans (b1.mono bA.out.size))
    have kV := Lib.hid (k0.out.on b1)
    have hlz := li_size m
    have hc := li_cases m
    obtain ⟨ao, cap, rfl, hti⟩ := tags_of_owns ho
    clear ho b1 bA k0
    generalize liT m = L at *
    generalize liS m = st at *
    generalize liE m = E at *
    rcases hc with ⟨hl, rfl, rfl, rfl⟩ | ⟨hl, rfl⟩
  case' inl =>
    obtain rfl := m1.out hml.out hl
    clear m0 m1 m2 m3 n0 n1 n2 n3 hti hlz
    replace hl := Lib.hid hl
    go_wp2_with fail
    go_ret
    exact ⟨rfl, hV.out⟩
  case' inr =>
    have ch := Lib.hid (refHas_any (cap := cap) L st t there false w1 hti rfl (by unfold maxLen; omega))
    have m2' := Lib.hid (m2.out hml.out L st hl)
    have m3' := Lib.hid (m3.out hml.out L st hl)
    have x0 := kV.out.c0
    have x1 := kV.out.c1
    clear m0 m1 m2 m3 hti hl
    go_wp2_with fail
    (with_reducible refine (ch.out).mono ?_); rintro e w2 ⟨rfl, b2⟩
    generalize Et.has L st t there false = H at *
    replace hV := Lib.hid (hV.out.trans (b2.mono hV.out.size))
    replace kV := Lib.hid (kV.out.on b2)
    clear ch b2 x0 x1
    cases H
  case' false =>
    obtain rfl := m2'.out rfl
    clear m2' m3' n0 n1 n2 n3
    go_wp2_with fail
    go_ret
    exact ⟨rfl, hV.out⟩
  case' true =>
    have hQ := Lib.hid (m3'.out rfl)
    clear m2' m3' hne hne2 hne3 hml h1 h0 hm
    go_upto_region 7 with fail
    obtain ⟨V, rfl⟩ : ∃ V, V = w2 := ⟨_, rfl⟩
  all_goals
    obtain rfl := hQ.out
    by_cases g0 : n.size = 0
    · obtain rfl := n0.out (nil_of_size g0)
      obtain rfl : n = ByteArray.empty := ByteArray.size_eq_zero_iff.1 g0
      clear n0 n1 n2 n3 g0 hn
      go_wp2_with fail
      go_ret
      exact ⟨rfl, hV.out⟩
    have g1 : 0 < n.size := by omega
    have gne3 : ¬ n.toList = [] := by rw [ByteArray.toList_eq]; exact lst_ne g1
    have gne2 : (n.toList != []) = true := bne_iff_ne.2 gne3
    have gne := ne_empty g1
    have gml := Lib.hid (lst_ne g1)
    go_wp2_with fail
    (with_reducible refine (refList_any n _ hn).mono ?_); rintro e w4 ⟨v, rfl, ho, b4⟩
    replace hV := Lib.hid (hV.out.trans (b4.mono hV.out.size))
    replace kV := Lib.hid (kV.out.on b4)
    have hlz := li_size n
    have hc := li_cases n
    obtain ⟨ao, cap, rfl, hti⟩ := tags_of_owns ho
    clear ho b4
    generalize liT n = L at *
    generalize liS n = st at *
    generalize liE n = E at *
    rcases hc with ⟨hl, rfl, rfl, rfl⟩ | ⟨hl, rfl⟩
    · obtain rfl := n1.out gml.out hl
      clear n0 n1 n2 n3 hti hlz
      replace hl := Lib.hid hl
      go_wp2_with fail
      go_ret
      exact ⟨rfl, hV.out⟩
    · have ch := Lib.hid (refHas_any (cap := cap) L st t there true w4 hti rfl (by unfold maxLen; omega))
      have n2' := Lib.hid (n2.out gml.out L st hl)
      have n3' := Lib.hid (n3.out gml.out L st hl)
      have x0 := kV.out.c0
      have x1 := kV.out.c1
      clear n0 n1 n2 n3 hti hl
      go_wp2_with fail
      (with_reducible refine (ch.out).mono ?_); rintro e w5 ⟨rfl, b5⟩
      generalize Et.has L st t there true = H at *
      replace hV := Lib.hid (hV.out.trans (b5.mono hV.out.size))
      clear ch b5 x0 x1 kV
      cases H
      · obtain rfl := n3'.out rfl
        clear n2' n3'
        go_wp2_with fail
        go_ret
        exact ⟨rfl, hV.out⟩
      · obtain rfl := n2'.out rfl
        clear n2' n3'
        cases get
        · go_wp2_with fail
          go_ret
          exact ⟨rfl, hV.out⟩
        · go_wp2_with fail
          go_ret
          exact ⟨rfl, hV.out⟩
end Go.Proofs.YtojbhokneemeaaaDoor
