/-
  Proved: what both functions that compare two perceptrons return.
  Conditions: none.
-/
import Derived.Test.YtimkochgnjggdaaPerW
namespace Go.Proofs.Ytimkochgnjggdaa.per
open Go.ChangeShapes Go.WideShapes Go.ChangeAt Go.RowKit Go.Joins
open Go.Proofs.Ytimkochgnjggdaa.core Go.Proofs.Ytimkochgnjggdaa.rown Go.Proofs.Ytimkochgnjggdaa.stk Go.Proofs.Ytimkochgnjggdaa.boxed Go.Proofs.Ytimkochgnjggdaa.ft Go.Proofs.Ytimkochgnjggdaa.one1 Go.Proofs.Ytimkochgnjggdaa.lab
set_option linter.unusedVariables false
set_option linter.unusedSimpArgs false
def NEq (n m : Nat) (f h : Nat → Int) : Prop := n = m ∧ ∀ i, i < n → f i = h i
def SEq (n m : Nat) (s t : Nat → ByteArray) : Prop := n = m ∧ ∀ i, i < n → s i = t i
def WEq (n m : Nat) (ln ln' : Nat → Nat) (lf lf' : Nat → Nat → Int) : Prop := n = m ∧ ∀ i, i < n → NEq (ln i) (ln' i) (lf i) (lf' i)
theorem not_t {r : Bool} {P : Prop} (h : r = true ↔ P) (hp : ¬ P) : r = false := by cases r with | false => rfl | true => exact absurd (h.1 rfl) hp
theorem str_ne {s t : ByteArray} (h : s ≠ t) : (s.toList == t.toList) = false := by
  rw [beq_eq_false_iff_ne]
  intro e
  rw [ByteArray.toList_eq, ByteArray.toList_eq] at e
  apply h
  have : s.data = t.data := Array.toList_inj.1 e
  cases s; cases t; simp at this; rw [this]
theorem mixedR : Try.prog.follows .mixedOrders = true := by kernel_rfl
set_option maxRecDepth 100000 in
set_option maxHeartbeats 4000000 in
theorem sameNS {c c' : Nat} (A B : Option Addr) (n m : Nat) (f h : Nat → Int) (r : Bool) (w : World) (hn : n ≤ 1048576) (hm : m ≤ 1048576) (hr : r = true ↔ NEq n m f h) (hp : NumAt w A n f) (hq : NumAt w B m h) :
    Calls Try.prog 76 #[.slice A n c, .slice B m c'] w fun e w' => e = .returned (.bool r) ∧ Below w.heap.size w w' := by
  have hmix := mixedR
  by_cases hnm : n = m
  rotate_left
  · obtain rfl := not_t hr (fun h => hnm h.1)
    have hd2 : ((n : Int) != (m : Int)) = true := by simp; omega
    have hd3 : ¬ ((n : Int) = (m : Int)) := by omega
    clear hp hq hr hnm
    go_enter Try.func76, Try.ntmps76
    go_wp2
    go_ret
    exact ⟨rfl, Below.refl _ _⟩
  subst hnm
  have HP := Lib.hid hp
  have HQ := Lib.hid hq
  have HR := Lib.hid hr
  clear hp hq hr
  go_enter Try.func76, Try.ntmps76
  go_wp2
  go_loopw [5] (fun i w' => ∃ k : Nat, k ≤ n ∧ i = .int .i64 (k : Int) ∧ Hid (∀ j, j < k → f j = h j) ∧ Hid (Below w.heap.size w w')) (fun i _ => n - (intOf i).toNat)
  case atStart => exact ⟨0, Nat.zero_le _, rfl, Lib.hid (fun j hj => absurd hj (by omega)), Lib.hid (Below.refl _ _)⟩
  case round =>
    obtain ⟨k, hk, rfl, HE, HB⟩ := hrel
    by_cases hlt : k < n
    · obtain ⟨b1, o1, rfl, hl1, q0⟩ := (HP.out.kept HB.out) k hlt
      obtain ⟨b2, o2, rfl, hl2, p0⟩ := (HQ.out.kept HB.out) k hlt
      have hli : (k : Int) < (n : Int) := by omega
      replace q0 := cell_kept hl1 q0
      replace p0 := cell_kept hl2 p0
      have HN := Lib.hid (fun (e : f k = h k) => all_next (P := fun j => f j = h j) HE.out e)
      have HF := Lib.hid (fun (e : ¬ f k = h k) => not_t HR.out (fun h' => e (h'.2 k hlt)))
      obtain ⟨x, hx⟩ : ∃ x, f k = x := ⟨_, rfl⟩
      obtain ⟨y, hy⟩ : ∃ y, h k = y := ⟨_, rfl⟩
      rw [hx] at q0 HN HF
      rw [hy] at p0 HN HF
      clear hx hy
      by_cases hxy : x = y
      · subst hxy
        have HE2 := Lib.hid (HN.out rfl)
        clear HN HF HE
        have hne2 : (x != x) = false := by simp
        have hne3 : (x == x) = true := by simp
        go_wp2
        refine wp_region_quiet_kept (by assumption) (by kernel_rfl) ?_
        repeat (first | go_big_quiet_step (fail) | quiet_step (fail))
        refine wpQuiet_nil ?_
        intro w2 hw'
        have hB : Below wr.heap.size wr w2 := by obtain ⟨⟨wk, hb0⟩, hw''⟩ := hw'; rw [hw'']; exact hb0
        have HB2 := Lib.hid (HB.out.trans (hB.mono HB.out.size))
        clear hw' hB q0 p0 hne2
        go_wp2
        go_roundw
        case rel => exact ⟨k + 1, by omega, by go_num, HE2, HB2⟩
        case measure => simp [intOf]; omega
      · have HR2 := Lib.hid (HF.out hxy)
        have hne2 : (x != y) = true := by simp; exact hxy
        have hne3 : (x == y) = false := by simp; exact hxy
        clear hxy HN HF HE
        go_wp2
        refine wp_region_quiet_kept (by assumption) (by kernel_rfl) ?_
        repeat (first | go_big_quiet_step (fail) | quiet_step (fail))
        refine wpQuiet_nil ?_
        intro w2 hw'
        have hB : Below wr.heap.size wr w2 := by obtain ⟨⟨wk, hb0⟩, hw''⟩ := hw'; rw [hw'']; exact hb0
        have HB2 := Lib.hid (HB.out.trans (hB.mono HB.out.size))
        clear hw' hB q0 p0 hne2
        go_wp2
        go_ret
        exact ⟨by rw [HR2.out]; rfl, HB2.out⟩
    · obtain rfl : k = n := by omega
      have HR2 := Lib.hid (HR.out.2 ⟨rfl, HE.out⟩)
      go_wp2
      go_ret
      exact ⟨by rw [HR2.out]; rfl, HB.out⟩
set_option maxRecDepth 100000 in
set_option maxHeartbeats 4000000 in
theorem equalNI {c c' : Nat} (A B : Option Addr) (n m : Nat) (f h : Nat → Int) (r : Bool) (w : World) (hn : n ≤ 1048576) (hm : m ≤ 1048576) (hr : r = true ↔ NEq n m f h) (hp : NumAt w A n f) (hq : NumAt w B m h) :
    Calls Try.prog 79 #[.slice A n c, .slice B m c'] w fun e w' => e = .returned (.bool r) ∧ Below w.heap.size w w' := by
  have hmix := mixedR
  by_cases hnm : n = m
  rotate_left
  · obtain rfl := not_t hr (fun h => hnm h.1)
    have hd2 : ((n : Int) != (m : Int)) = true := by simp; omega
    have hd3 : ¬ ((n : Int) = (m : Int)) := by omega
    clear hp hq hr hnm
    go_enter Try.func79, Try.ntmps79
    go_wp2
    go_ret
    exact ⟨rfl, Below.refl _ _⟩
  subst hnm
  have HP := Lib.hid hp
  have HQ := Lib.hid hq
  have HR := Lib.hid hr
  clear hp hq hr
  go_enter Try.func79, Try.ntmps79
  go_wp2
  go_loopw [13] (fun i w' => ∃ k : Nat, k ≤ n ∧ i = .int .i64 (k : Int) ∧ Hid (∀ j, j < k → f j = h j) ∧ Hid (Below w.heap.size w w')) (fun i _ => n - (intOf i).toNat)
  case atStart => exact ⟨0, Nat.zero_le _, rfl, Lib.hid (fun j hj => absurd hj (by omega)), Lib.hid (Below.refl _ _)⟩
  case round =>
    obtain ⟨k, hk, rfl, HE, HB⟩ := hrel
    by_cases hlt : k < n
    · obtain ⟨b1, o1, rfl, hl1, q0⟩ := (HP.out.kept HB.out) k hlt
      obtain ⟨b2, o2, rfl, hl2, p0⟩ := (HQ.out.kept HB.out) k hlt
      have hli : (k : Int) < (n : Int) := by omega
      replace q0 := cell_kept hl1 q0
      replace p0 := cell_kept hl2 p0
      have HN := Lib.hid (fun (e : f k = h k) => all_next (P := fun j => f j = h j) HE.out e)
      have HF := Lib.hid (fun (e : ¬ f k = h k) => not_t HR.out (fun h' => e (h'.2 k hlt)))
      obtain ⟨x, hx⟩ : ∃ x, f k = x := ⟨_, rfl⟩
      obtain ⟨y, hy⟩ : ∃ y, h k = y := ⟨_, rfl⟩
      rw [hx] at q0 HN HF
      rw [hy] at p0 HN HF
      clear hx hy
      by_cases hxy : x = y
      · subst hxy
        have HE2 := Lib.hid (HN.out rfl)
        clear HN HF HE
        have hne2 : (x != x) = false := by simp
        have hne3 : (x == x) = true := by simp
        go_wp2
        refine wp_region_quiet_kept (by assumption) (by kernel_rfl) ?_
        repeat (first | go_big_quiet_step (fail) | quiet_step (fail))
        refine wpQuiet_nil ?_
        intro w2 hw'
        have hB : Below wr.heap.size wr w2 := by obtain ⟨⟨wk, hb0⟩, hw''⟩ := hw'; rw [hw'']; exact hb0
        have HB2 := Lib.hid (HB.out.trans (hB.mono HB.out.size))
        clear hw' hB q0 p0 hne2
        go_wp2
        go_roundw
        case rel => exact ⟨k + 1, by omega, by go_num, HE2, HB2⟩
        case measure => simp [intOf]; omega
      · have HR2 := Lib.hid (HF.out hxy)
        have hne2 : (x != y) = true := by simp; exact hxy
        have hne3 : (x == y) = false := by simp; exact hxy
        clear hxy HN HF HE
        go_wp2
        refine wp_region_quiet_kept (by assumption) (by kernel_rfl) ?_
        repeat (first | go_big_quiet_step (fail) | quiet_step (fail))
        refine wpQuiet_nil ?_
        intro w2 hw'
        have hB : Below wr.heap.size wr w2 := by obtain ⟨⟨wk, hb0⟩, hw''⟩ := hw'; rw [hw'']; exact hb0
        have HB2 := Lib.hid (HB.out.trans (hB.mono HB.out.size))
        clear hw' hB q0 p0 hne2
        go_wp2
        go_ret
        exact ⟨by rw [HR2.out]; rfl, HB2.out⟩
    · obtain rfl : k = n := by omega
      have HR2 := Lib.hid (HR.out.2 ⟨rfl, HE.out⟩)
      go_wp2
      go_ret
      exact ⟨by rw [HR2.out]; rfl, HB.out⟩
set_option maxRecDepth 100000 in
set_option maxHeartbeats 4000000 in
theorem equalSI {c c' : Nat} (A B : Option Addr) (n m : Nat) (f h : Nat → ByteArray) (r : Bool) (w : World) (hn : n ≤ 1048576) (hm : m ≤ 1048576) (hr : r = true ↔ SEq n m f h) (hp : SsAt w A n f) (hq : SsAt w B m h) :
    Calls Try.prog 77 #[.slice A n c, .slice B m c'] w fun e w' => e = .returned (.bool r) ∧ Below w.heap.size w w' := by
  have hmix := mixedR
  by_cases hnm : n = m
  rotate_left
  · obtain rfl := not_t hr (fun h => hnm h.1)
    have hd2 : ((n : Int) != (m : Int)) = true := by simp; omega
    have hd3 : ¬ ((n : Int) = (m : Int)) := by omega
    clear hp hq hr hnm
    go_enter Try.func77, Try.ntmps77
    go_wp2
    go_ret
    exact ⟨rfl, Below.refl _ _⟩
  subst hnm
  have HP := Lib.hid hp
  have HQ := Lib.hid hq
  have HR := Lib.hid hr
  clear hp hq hr
  go_enter Try.func77, Try.ntmps77
  go_wp2
  go_loopw [13] (fun i w' => ∃ k : Nat, k ≤ n ∧ i = .int .i64 (k : Int) ∧ Hid (∀ j, j < k → f j = h j) ∧ Hid (Below w.heap.size w w')) (fun i _ => n - (intOf i).toNat)
  case atStart => exact ⟨0, Nat.zero_le _, rfl, Lib.hid (fun j hj => absurd hj (by omega)), Lib.hid (Below.refl _ _)⟩
  case round =>
    obtain ⟨k, hk, rfl, HE, HB⟩ := hrel
    by_cases hlt : k < n
    · obtain ⟨b1, o1, rfl, hl1, q0⟩ := (HP.out.kept HB.out) k hlt
      obtain ⟨b2, o2, rfl, hl2, p0⟩ := (HQ.out.kept HB.out) k hlt
      have hli : (k : Int) < (n : Int) := by omega
      replace q0 := cell_kept hl1 q0
      replace p0 := cell_kept hl2 p0
      have HN := Lib.hid (fun (e : f k = h k) => all_next (P := fun j => f j = h j) HE.out e)
      have HF := Lib.hid (fun (e : ¬ f k = h k) => not_t HR.out (fun h' => e (h'.2 k hlt)))
      obtain ⟨x, hx⟩ : ∃ x, f k = x := ⟨_, rfl⟩
      obtain ⟨y, hy⟩ : ∃ y, h k = y := ⟨_, rfl⟩
      rw [hx] at q0 HN HF
      rw [hy] at p0 HN HF
      clear hx hy
      by_cases hxy : x = y
      · subst hxy
        have HE2 := Lib.hid (HN.out rfl)
        clear HN HF HE
        have hne2 : (x.toList == x.toList) = true := by simp
        have hund : undef = Value.tuple #[] := rfl
        go_wp2
        refine wp_region_quiet_kept (by assumption) (by kernel_rfl) ?_
        repeat (first | go_big_quiet_step (fail) | quiet_step (fail))
        refine wpQuiet_nil ?_
        intro w2 hw'
        have hB : Below wr.heap.size wr w2 := by obtain ⟨⟨wk, hb0⟩, hw''⟩ := hw'; rw [hw'']; exact hb0
        have HB2 := Lib.hid (HB.out.trans (hB.mono HB.out.size))
        clear hw' hB q0 p0 hne2
        go_wp2
        go_roundw
        case rel => exact ⟨k + 1, by omega, by go_num, HE2, HB2⟩
        case measure => simp [intOf]; omega
      · have HR2 := Lib.hid (HF.out hxy)
        have hne2 := str_ne hxy
        have hund : undef = Value.tuple #[] := rfl
        clear hxy HN HF HE
        go_wp2
        refine wp_region_quiet_kept (by assumption) (by kernel_rfl) ?_
        repeat (first | go_big_quiet_step (fail) | quiet_step (fail))
        refine wpQuiet_nil ?_
        intro w2 hw'
        have hB : Below wr.heap.size wr w2 := by obtain ⟨⟨wk, hb0⟩, hw''⟩ := hw'; rw [hw'']; exact hb0
        have HB2 := Lib.hid (HB.out.trans (hB.mono HB.out.size))
        clear hw' hB q0 p0 hne2
        go_wp2
        go_ret
        exact ⟨by rw [HR2.out]; rfl, HB2.out⟩
    · obtain rfl : k = n := by omega
      have HR2 := Lib.hid (HR.out.2 ⟨rfl, HE.out⟩)
      go_wp2
      go_ret
      exact ⟨by rw [HR2.out]; rfl, HB.out⟩
set_option maxRecDepth 100000 in
set_option maxHeartbeats 4000000 in
theorem equalWI {c c' : Nat} (A B : Option Addr) (n m : Nat) (ln ln' : Nat → Nat) (lf lf' : Nat → Nat → Int) (r : Bool) (w : World) (hn : n ≤ 1048576) (hm : m ≤ 1048576) (hl : ∀ i, i < n → ln i ≤ 1048576) (hl' : ∀ i, i < m → ln' i ≤ 1048576) (hr : r = true ↔ WEq n m ln ln' lf lf') (hp : WsAt w A n ln lf) (hq : WsAt w B m ln' lf') :
    Calls Try.prog 78 #[.slice A n c, .slice B m c', .func (.func 79) #[] #[]] w fun e w' => e = .returned (.bool r) ∧ Below w.heap.size w w' := by
  by_cases hnm : n = m
  rotate_left
  · obtain rfl := not_t hr (fun h => hnm h.1)
    have hd3 : ¬ ((n : Int) = (m : Int)) := by omega
    clear hp hq hl hl' hr hnm
    go_enter Try.func78, Try.ntmps78
    go_wp2
    go_ret
    exact ⟨rfl, Below.refl _ _⟩
  subst hnm
  have HP := Lib.hid hp
  have HQ := Lib.hid hq
  have HR := Lib.hid hr
  have HL := Lib.hid hl
  have HL' := Lib.hid hl'
  clear hp hq hr hl hl'
  go_enter Try.func78, Try.ntmps78
  go_wp2
  go_loopw [17] (fun i w' => ∃ k : Nat, k ≤ n ∧ i = .int .i64 (k : Int) ∧ Hid (∀ j, j < k → NEq (ln j) (ln' j) (lf j) (lf' j)) ∧ Hid (Below w.heap.size w w')) (fun i _ => n - (intOf i).toNat)
  case atStart => exact ⟨0, Nat.zero_le _, rfl, Lib.hid (fun j hj => absurd hj (by omega)), Lib.hid (Below.refl _ _)⟩
  case round =>
    obtain ⟨k, hk, rfl, HE, HB⟩ := hrel
    by_cases hlt : k < n
    · obtain ⟨g, og, Ai, ci, rfl, hg, p0, hpk⟩ := (HP.out.kept HB.out) k hlt
      obtain ⟨g', og', Bi, ci', rfl, hg', q0, hqk⟩ := (HQ.out.kept HB.out) k hlt
      have hli : (k : Int) < (n : Int) := by omega
      obtain ⟨v, hv⟩ : ∃ v : Bool, v = true ↔ NEq (ln k) (ln' k) (lf k) (lf' k) := ⟨@decide _ (Classical.propDecidable _), @decide_eq_true_iff _ (Classical.propDecidable _)⟩
      have HV := Lib.hid (equalNI (c := ci) (c' := ci') Ai Bi (ln k) (ln' k) (lf k) (lf' k) v wr (HL.out k hlt) (HL'.out k hlt) hv hpk hqk)
      have HN2 := Lib.hid (fun (e : v = true) => all_next (P := fun j => NEq (ln j) (ln' j) (lf j) (lf' j)) HE.out (hv.1 e))
      have HF2 := Lib.hid (fun (e : v = false) => not_t HR.out (fun h => by have := hv.2 (h.2 k hlt); rw [e] at this; cases this))
      clear hpk hqk hv
      generalize ln k = x1 at *
      generalize ln' k = x2 at *
      go_wp2_with fail
      refine HV.out.mono ?_
      rintro e w2 ⟨rfl, hb⟩
      have HB2 := Lib.hid (HB.out.trans (hb.mono HB.out.size))
      clear hb p0 q0 hg hg' HV
      cases v with
      | true =>
        have HE2 := Lib.hid (HN2.out rfl)
        go_wp2
        go_roundw
        case rel => exact ⟨k + 1, by omega, by go_num, HE2, HB2⟩
        case measure => simp [intOf]; omega
      | false =>
        have HR2 := Lib.hid (HF2.out rfl)
        go_wp2
        go_ret
        exact ⟨by rw [HR2.out]; rfl, HB2.out⟩
    · obtain rfl : k = n := by omega
      have HR2 := Lib.hid (HR.out.2 ⟨rfl, HE.out⟩)
      go_wp2
      go_ret
      exact ⟨by rw [HR2.out]; rfl, HB.out⟩
def PEq (n m n' m' : Nat) (s s' : Nat → ByteArray) (wn wn' : Nat → Nat) (wf wf' : Nat → Nat → Int) : Prop := SEq n n' s s' ∧ WEq m m' wn wn' wf wf'
theorem two_box {w : World} {a b c d : Value} {T : Nat} {V : World} (hV : Below ((w.alloc (.cells #[a, b] T)).alloc (.cells #[c, d] T)).heap.size ((w.alloc (.cells #[a, b] T)).alloc (.cells #[c, d] T)) V) :
    V.cell? ⟨w.heap.size, 0, none⟩ = some a ∧ V.cell? ⟨w.heap.size, 1, none⟩ = some b ∧ V.cell? ⟨w.heap.size + 1, 0, none⟩ = some c ∧ V.cell? ⟨w.heap.size + 1, 1, none⟩ = some d ∧ w.heap.size < V.heap.size ∧ w.heap.size + 1 < V.heap.size := by
  have h1 := heap_alloc_new w (.cells #[a, b] T)
  have h2 := heap_alloc_new (w.alloc (.cells #[a, b] T)) (.cells #[c, d] T)
  have B2 := below_alloc1 (w.alloc (.cells #[a, b] T)) (.cells #[c, d] T)
  have e1 : (w.alloc (.cells #[a, b] T)).heap.size = w.heap.size + 1 := by simp
  have e2 : ((w.alloc (.cells #[a, b] T)).alloc (.cells #[c, d] T)).heap.size = w.heap.size + 2 := by simp
  rw [e1] at h2 B2
  have h1' := (B2.block w.heap.size (by omega)).trans h1
  have z1 := (hV.block w.heap.size (by omega)).trans h1'
  have z2 := (hV.block (w.heap.size + 1) (by omega)).trans h2
  have hs := hV.size
  exact ⟨by rw [cell_of_block z1]; rfl, by rw [cell_of_block z1]; rfl, by rw [cell_of_block z2]; rfl, by rw [cell_of_block z2]; rfl, by omega, by omega⟩
set_option maxRecDepth 100000 in
set_option maxHeartbeats 4000000 in
theorem samePI {c d c' d' : Nat} (A B A' B' : Option Addr) (n m n' m' : Nat) (s s' : Nat → ByteArray) (wn wn' : Nat → Nat) (wf wf' : Nat → Nat → Int) (r : Bool) (w : World) (hl : PeL n m s wn) (hl' : PeL n' m' s' wn') (hr : r = true ↔ PEq n m n' m' s s' wn wn' wf wf') (hp : SsAt w A n s) (hq : WsAt w B m wn wf) (hp' : SsAt w A' n' s') (hq' : WsAt w B' m' wn' wf') :
    Calls Try.prog 36 #[.agg #[.slice A n c, .slice B m d], .agg #[.slice A' n' c', .slice B' m' d']] w fun e w' => e = .returned (.bool r) ∧ Below w.heap.size w w' := by
  have BL := below_alloc2 w (.cells #[.slice A n c, .slice B m d] 38) (.cells #[.slice A' n' c', .slice B' m' d'] 38)
  have hund : undef = Value.tuple #[] := rfl
  have hcx := fun V (hV : Below _ _ V) => two_box (w := w) (a := .slice A n c) (b := .slice B m d) (c := .slice A' n' c') (d := .slice B' m' d') (T := 38) (V := V) hV
  obtain ⟨v, hv⟩ : ∃ v : Bool, v = true ↔ SEq n n' s s' := ⟨@decide _ (Classical.propDecidable _), @decide_eq_true_iff _ (Classical.propDecidable _)⟩
  have HV := Lib.hid (equalSI (c := c) (c' := c') A A' n n' s s' v _ hl.hn hl'.hn hv (hp.kept BL) (hp'.kept BL))
  have HBL := Lib.hid BL
  cases v with
  | false =>
    obtain rfl := not_t hr (fun h => by have := hv.2 h.1; cases this)
    clear hl hl' hr hp hq hp' hq' BL hv hcx
    go_enter Try.func36, Try.ntmps36
    go_wp2_with fail
    refine HV.out.mono ?_
    rintro e w1 ⟨rfl, hb⟩
    have HB := Lib.hid (HBL.out.trans (hb.mono HBL.out.size))
    clear hb
    go_wp2
    go_ret
    exact ⟨rfl, HB.out⟩
  | true =>
    have HW := Lib.hid (fun (W : World) (hW : Below w.heap.size w W) => equalWI (c := d) (c' := d') B B' m m' wn wn' wf wf' r W hl.hm hl'.hm hl.hw hl'.hw (by rw [hr]; exact ⟨fun h => h.2, fun h => ⟨hv.1 rfl, h⟩⟩) (hq.kept hW) (hq'.kept hW))
    have HCX := Lib.hid hcx
    clear hl hl' hr hp hq hp' hq' BL hv hcx
    go_enter Try.func36, Try.ntmps36
    go_wp2_with fail
    refine HV.out.mono ?_
    rintro e w1 ⟨rfl, hb⟩
    obtain ⟨q0, q1, q2, q3, z0, z1⟩ := HCX.out _ hb
    have HB := Lib.hid (HBL.out.trans (hb.mono HBL.out.size))
    clear hb HBL HV
    go_wp2_with fail
    refine (HW.out _ HB.out).mono ?_
    rintro e w2 ⟨rfl, hb⟩
    have HB2 := Lib.hid (HB.out.trans (hb.mono HB.out.size))
    clear hb
    go_wp2
    go_ret
    exact ⟨rfl, HB2.out⟩
set_option maxRecDepth 100000 in
set_option maxHeartbeats 4000000 in
theorem samePS {c d c' d' : Nat} (A B A' B' : Option Addr) (n m n' m' : Nat) (s s' : Nat → ByteArray) (wn wn' : Nat → Nat) (wf wf' : Nat → Nat → Int) (r : Bool) (w : World) (hl : PeL n m s wn) (hl' : PeL n' m' s' wn') (hr : r = true ↔ PEq n m n' m' s s' wn wn' wf wf') (hp : SsAt w A n s) (hq : WsAt w B m wn wf) (hp' : SsAt w A' n' s') (hq' : WsAt w B' m' wn' wf') :
    Calls Try.prog 35 #[.agg #[.slice A n c, .slice B m d], .agg #[.slice A' n' c', .slice B' m' d']] w fun e w' => e = .returned (.bool r) ∧ Below w.heap.size w w' := by
  have BL := below_alloc2 w (.cells #[.slice A n c, .slice B m d] 38) (.cells #[.slice A' n' c', .slice B' m' d'] 38)
  have hcx := fun V (hV : Below _ _ V) => two_box (w := w) (a := .slice A n c) (b := .slice B m d) (c := .slice A' n' c') (d := .slice B' m' d') (T := 38) (V := V) hV
  have hmix := mixedR
  have h1 := hl.hn
  have h2 := hl'.hn
  have h3 := hl.hm
  have h4 := hl'.hm
  have HBL := Lib.hid BL
  obtain ⟨q0, q1, q2, q3, z0, z1⟩ := hcx _ (Below.refl _ _)
  by_cases hnn : n = n'
  rotate_left
  · obtain rfl := not_t hr (fun h => hnn h.1.1)
    have e1 : ((n : Int) != (n' : Int)) = true := by simp; omega
    have e2 : ¬ (n : Int) = (n' : Int) := by omega
    have hund : undef = Value.tuple #[] := rfl
    clear hl hl' hr hp hq hp' hq' BL hcx hnn
    go_enter Try.func35, Try.ntmps35
    go_wp2
    go_ret
    exact ⟨rfl, HBL.out⟩
  subst hnn
  by_cases hmm : m = m'
  rotate_left
  · obtain rfl := not_t hr (fun h => hmm h.2.1)
    have e1 : ((m : Int) != (m' : Int)) = true := by simp; omega
    have e2 : ¬ (m : Int) = (m' : Int) := by omega
    clear hl hl' hr hp hq hp' hq' BL hcx hmm
    go_enter Try.func35, Try.ntmps35
    go_wp2
    go_ret
    exact ⟨rfl, HBL.out⟩
  subst hmm
  have HP := Lib.hid (hp.kept BL)
  have HP' := Lib.hid (hp'.kept BL)
  have HQ := Lib.hid (hq.kept BL)
  have HQ' := Lib.hid (hq'.kept BL)
  have HR := Lib.hid hr
  have HCX := Lib.hid hcx
  have HLW := Lib.hid hl.hw
  have HLW' := Lib.hid hl'.hw
  obtain ⟨W2, hW2⟩ : ∃ W2, ((w.alloc (.cells #[.slice A n c, .slice B m d] 38)).alloc (.cells #[.slice A' n c', .slice B' m d'] 38)) = W2 := ⟨_, rfl⟩
  have HW2 := Lib.hid hW2
  rw [hW2] at HP HP' HQ HQ' HCX HBL
  clear hl hl' hr hp hq hp' hq' BL hcx hW2
  go_enter Try.func35, Try.ntmps35
  go_wp2
  clear q0 q1 q2 q3 z0 z1
  rw [HW2.out]
  go_loopw [5] (fun i w' => ∃ k : Nat, k ≤ n ∧ i = .int .i64 (k : Int) ∧ Hid (∀ j, j < k → s j = s' j) ∧ Hid (Below W2.heap.size W2 w')) (fun i _ => n - (intOf i).toNat)
  case atStart => exact ⟨0, Nat.zero_le _, rfl, Lib.hid (fun j hj => absurd hj (by omega)), Lib.hid (Below.refl _ _)⟩
  case round =>
    obtain ⟨k, hk, rfl, HE, HB⟩ := hrel
    obtain ⟨q0, q1, q2, q3, z0, z1⟩ := HCX.out _ HB.out
    by_cases hlt : k < n
    · obtain ⟨g, og, rfl, hg, p0⟩ := (HP.out.kept HB.out) k hlt
      obtain ⟨g', og', rfl, hg', p1⟩ := (HP'.out.kept HB.out) k hlt
      have hli : (k : Int) < (n : Int) := by omega
      have HN := Lib.hid (fun (e : s k = s' k) => all_next (P := fun j => s j = s' j) HE.out e)
      have HF := Lib.hid (fun (e : ¬ s k = s' k) => not_t HR.out (fun h' => e (h'.1.2 k hlt)))
      obtain ⟨x, hx⟩ : ∃ x, s k = x := ⟨_, rfl⟩
      obtain ⟨y, hy⟩ : ∃ y, s' k = y := ⟨_, rfl⟩
      rw [hx] at p0 HN HF
      rw [hy] at p1 HN HF
      clear hx hy
      have q0k := cell_kept z0 q0
      have q2k := cell_kept z1 q2
      replace p0 := cell_kept hg p0
      replace p1 := cell_kept hg' p1
      by_cases hxy : x = y
      · subst hxy
        have HE2 := Lib.hid (HN.out rfl)
        have hne2 : (x.toList == x.toList) = true := by simp
        clear HN HF HE
        go_wp2
        refine wp_region_quiet_kept (by assumption) (by kernel_rfl) ?_
        repeat (first | go_big_quiet_step (fail) | quiet_step (fail))
        refine wpQuiet_nil ?_
        intro w2 hw'
        have hB : Below wr.heap.size wr w2 := by obtain ⟨⟨wk, hb0⟩, hw''⟩ := hw'; rw [hw'']; exact hb0
        have HB2 := Lib.hid (HB.out.trans (hB.mono HB.out.size))
        clear hw' hB p0 p1 hne2 q0 q1 q2 q3 q0k q2k
        go_wp2
        go_roundw
        case rel => exact ⟨k + 1, by omega, by go_num, HE2, HB2⟩
        case measure => simp [intOf]; omega
      · have HR2 := Lib.hid (HF.out hxy)
        have hne2 := str_ne hxy
        clear hxy HN HF HE
        go_wp2
        refine wp_region_quiet_kept (by assumption) (by kernel_rfl) ?_
        repeat (first | go_big_quiet_step (fail) | quiet_step (fail))
        refine wpQuiet_nil ?_
        intro w2 hw'
        have hB : Below wr.heap.size wr w2 := by obtain ⟨⟨wk, hb0⟩, hw''⟩ := hw'; rw [hw'']; exact hb0
        have HB2 := Lib.hid (HBL.out.trans ((HB.out.trans (hB.mono HB.out.size)).mono HBL.out.size))
        clear hw' hB p0 p1 hne2 q0 q1 q2 q3 q0k q2k
        go_wp2
        go_ret
        exact ⟨by rw [HR2.out]; rfl, HB2.out⟩
    · obtain rfl : k = n := by omega
      have HS := HE
      have HB1 := HB
      go_wp2
      clear q0 q1 q2 q3 z0 z1 HE HB
      go_loopw [6] (fun i w' => ∃ k : Nat, k ≤ m ∧ i = .int .i64 (k : Int) ∧ Hid (∀ j, j < k → NEq (wn j) (wn' j) (wf j) (wf' j)) ∧ Hid (Below W2.heap.size W2 w')) (fun i _ => m - (intOf i).toNat)
      case atStart => exact ⟨0, Nat.zero_le _, rfl, Lib.hid (fun j hj => absurd hj (by omega)), HB1⟩
      case round =>
        obtain ⟨q, hq, rfl, HE, HB⟩ := hrel
        obtain ⟨q0, q1, q2, q3, z0, z1⟩ := HCX.out _ HB.out
        by_cases hlt2 : q < m
        · obtain ⟨g, og, Ai, ci, rfl, hg, p0, hpk⟩ := (HQ.out.kept HB.out) q hlt2
          obtain ⟨g', og', Bi, ci', rfl, hg', p1, hqk⟩ := (HQ'.out.kept HB.out) q hlt2
          have hli : (q : Int) < (m : Int) := by omega
          obtain ⟨v, hv⟩ : ∃ v : Bool, v = true ↔ NEq (wn q) (wn' q) (wf q) (wf' q) := ⟨@decide _ (Classical.propDecidable _), @decide_eq_true_iff _ (Classical.propDecidable _)⟩
          have zl := HLW.out q hlt2
          have zl' := HLW'.out q hlt2
          have HV := Lib.hid (fun (W : World) (hW : Below wr.heap.size wr W) => sameNS (c := ci) (c' := ci') Ai Bi (wn q) (wn' q) (wf q) (wf' q) v W zl zl' hv (hpk.kept hW) (hqk.kept hW))
          have HN2 := Lib.hid (fun (e : v = true) => all_next (P := fun j => NEq (wn j) (wn' j) (wf j) (wf' j)) HE.out (hv.1 e))
          have HF2 := Lib.hid (fun (e : v = false) => not_t HR.out (fun h => by have := hv.2 (h.2.2 q hlt2); rw [e] at this; cases this))
          clear hpk hqk hv zl zl'
          generalize wn q = x1 at *
          generalize wn' q = x2 at *
          have q1k := cell_kept z0 q1
          have q3k := cell_kept z1 q3
          replace p0 := cell_kept hg p0
          replace p1 := cell_kept hg' p1
          go_wp2
          refine wp_region_quiet_kept (by assumption) (by kernel_rfl) ?_
          repeat (first | go_big_quiet_step ((go_at_call 76; exact Calls.kept_of (HV.out _ (Kept.below _)))) | quiet_step ((go_at_call 76; exact Calls.kept_of (HV.out _ (Kept.below _)))))
          refine wpQuiet_nil ?_
          intro w2 hw'
          have hB : Below wr.heap.size wr w2 := by obtain ⟨⟨wk, hb0⟩, hw''⟩ := hw'; rw [hw'']; exact hb0
          have HB2 := Lib.hid (HB.out.trans (hB.mono HB.out.size))
          clear hw' hB p0 p1 q0 q1 q2 q3 q1k q3k
          cases v with
          | true =>
            have HE2 := Lib.hid (HN2.out rfl)
            go_wp2
            go_roundw
            case rel => exact ⟨q + 1, by omega, by go_num, HE2, HB2⟩
            case measure => simp [intOf]; omega
          | false =>
            have HR2 := Lib.hid (HF2.out rfl)
            go_wp2
            go_ret
            exact ⟨by rw [HR2.out]; rfl, HBL.out.trans (HB2.out.mono HBL.out.size)⟩
        · obtain rfl : q = m := by omega
          have HR2 := Lib.hid (HR.out.2 ⟨⟨rfl, HS.out⟩, ⟨rfl, HE.out⟩⟩)
          go_wp2
          go_ret
          exact ⟨by rw [HR2.out]; rfl, HBL.out.trans (HB.out.mono HBL.out.size)⟩
end Go.Proofs.Ytimkochgnjggdaa.per
