/-
  Proved: what the program's order of labels with costs returns; the library's sorting by it leaves the list in order.
  Conditions: the labels are not long, and the list isn't.
-/
import Derived.Test.YtofgdgdmmlgmnaaHyI
import Derived.Sort.WalkA
import Derived.Sort.LotA
import Derived.Shelf.SlSortCmp.InsertionK
namespace Go.Proofs.Ytofgdgdmmlgmnaa.hyp
open Go.ChangeShapes Go.WideShapes Go.ChangeAt Go.RowKit Go.Joins
open Go.Proofs.Ytofgdgdmmlgmnaa.core Go.Proofs.Ytofgdgdmmlgmnaa.rown Go.Proofs.Ytofgdgdmmlgmnaa.stk Go.Proofs.Ytofgdgdmmlgmnaa.boxed Go.Proofs.Ytofgdgdmmlgmnaa.ft Go.Proofs.Ytofgdgdmmlgmnaa.lab
set_option linter.unusedVariables false
set_option linter.unusedSimpArgs false
theorem nanI (n : Int) (w : World) : Calls Try.prog 125 #[.int .i64 n] w fun e w' => e = .returned (.bool false) ∧ w = w' := by
  go_enter Try.func125, Try.ntmps125
  go_wp2
  go_ret
  exact ⟨congrArg (fun b => Ending.returned (Value.bool b)) (by simp), rfl⟩
def cmpV (x y : Int) : Int := if x < y then -1 else if y < x then 1 else 0
set_option maxHeartbeats 1000000 in
theorem cmpI (x y : Int) (w : World) : Calls Try.prog 107 #[.int .i64 x, .int .i64 y] w fun e w' => e = .returned (.int .i64 (cmpV x y)) ∧ w = w' := by
  have H := Lib.hid (fun v W => nanI v W)
  have HV := Lib.hid (show cmpV x y = if x < y then -1 else if y < x then 1 else 0 from rfl)
  rw [HV.out]
  clear HV
  by_cases h1 : x < y
  · rw [if_pos h1]
    go_enter Try.func107, Try.ntmps107
    go_wp2_with fail
    with_reducible refine (H.out _ _).mono ?_
    rintro e _ ⟨rfl, rfl⟩
    go_wp2_with fail
    with_reducible refine (H.out _ _).mono ?_
    rintro e _ ⟨rfl, rfl⟩
    go_wp2
    go_ret
    exact ⟨rfl, rfl⟩
  · rw [if_neg h1]
    by_cases h2 : y < x
    · rw [if_pos h2]
      have h3 : y < x ∨ False := .inl h2
      go_enter Try.func107, Try.ntmps107
      go_wp2_with fail
      with_reducible refine (H.out _ _).mono ?_
      rintro e _ ⟨rfl, rfl⟩
      go_wp2_with fail
      with_reducible refine (H.out _ _).mono ?_
      rintro e _ ⟨rfl, rfl⟩
      go_wp2
      go_ret
      exact ⟨rfl, rfl⟩
    · rw [if_neg h2]
      go_enter Try.func107, Try.ntmps107
      go_wp2_with fail
      with_reducible refine (H.out _ _).mono ?_
      rintro e _ ⟨rfl, rfl⟩
      go_wp2_with fail
      with_reducible refine (H.out _ _).mono ?_
      rintro e _ ⟨rfl, rfl⟩
      go_wp2
      go_ret
      exact ⟨rfl, rfl⟩
theorem nanT (s : ByteArray) (w : World) : Calls Try.prog 126 #[.string s] w fun e w' => e = .returned (.bool false) ∧ w = w' := by
  go_enter Try.func126, Try.ntmps126
  go_wp2
  go_ret
  exact ⟨congrArg (fun b => Ending.returned (Value.bool b)) (by simp), rfl⟩
theorem str_gtr {sa sb : ByteArray} {r : Bool} (h : (!(Op.bytesLess sa.toList sb.toList || sa.toList == sb.toList)) = r) (W : World) : (binOp .gtr 9 (.string sa) (.string sb)).run Try.prog W = .ok (.bool r) W := by
  subst h
  kernel_rfl
def cmpS (s t : ByteArray) : Int := if ltS s t = true then -1 else if ltS t s = true then 1 else 0
set_option maxHeartbeats 1000000 in
theorem cmpT (s t : ByteArray) (w : World) : Calls Try.prog 108 #[.string s, .string t] w fun e w' => e = .returned (.int .i64 (cmpS s t)) ∧ w = w' := by
  have H := Lib.hid (fun v W => nanT v W)
  cases h1 : ltS s t with
  | true =>
    have HF := Lib.hid (show cmpS s t = -1 by unfold cmpS; rw [if_pos h1])
    unfold ltS at h1
    go_enter Try.func108, Try.ntmps108
    go_wp2_with fail
    with_reducible refine (H.out _ _).mono ?_
    rintro e _ ⟨rfl, rfl⟩
    go_wp2_with fail
    with_reducible refine (H.out _ _).mono ?_
    rintro e _ ⟨rfl, rfl⟩
    go_wp2
    go_ret
    exact ⟨by rw [HF.out]; rfl, rfl⟩
  | false =>
    cases h2 : ltS t s with
    | true =>
      have HF := Lib.hid (show cmpS s t = 1 by unfold cmpS; rw [if_neg (by rw [h1]; exact fun h => by cases h), if_pos h2])
      have hg := str_gtr (sa := s) (sb := t) (r := true) (by
        have e : (s.toList == t.toList) = false := by
          rw [beq_eq_false_iff_ne]
          intro e
          rw [toList_inj e, ltS_irr] at h2
          cases h2
        unfold ltS at h1
        rw [h1, e]; rfl)
      unfold ltS at h1 h2
      go_enter Try.func108, Try.ntmps108
      go_wp2_with fail
      with_reducible refine (H.out _ _).mono ?_
      rintro e _ ⟨rfl, rfl⟩
      go_wp2_with fail
      with_reducible refine (H.out _ _).mono ?_
      rintro e _ ⟨rfl, rfl⟩
      go_wp2
      go_ret
      exact ⟨by rw [HF.out]; rfl, rfl⟩
    | false =>
      have HF := Lib.hid (show cmpS s t = 0 by unfold cmpS; rw [if_neg (by rw [h1]; exact fun h => by cases h), if_neg (by rw [h2]; exact fun h => by cases h)])
      have hg := str_gtr (sa := s) (sb := t) (r := false) (by
        have e : (s.toList == t.toList) = true := by rw [ltS_tot h1 h2]; simp
        rw [e, Bool.or_true]; rfl)
      unfold ltS at h1 h2
      go_enter Try.func108, Try.ntmps108
      go_wp2_with fail
      with_reducible refine (H.out _ _).mono ?_
      rintro e _ ⟨rfl, rfl⟩
      go_wp2_with fail
      with_reducible refine (H.out _ _).mono ?_
      rintro e _ ⟨rfl, rfl⟩
      go_wp2
      go_ret
      exact ⟨by rw [HF.out]; rfl, rfl⟩
def orV (x y : Int) : Int := if x = 0 then y else x
set_option maxRecDepth 100000 in
set_option maxHeartbeats 2000000 in
theorem orI {d : Nat} (b : Nat) (x y : Int) (w : World) (hb : b < w.heap.size) (c0 : w.cell? ⟨b, 0, none⟩ = some (.int .i64 x)) (c1 : w.cell? ⟨b, 1, none⟩ = some (.int .i64 y)) :
    Calls Try.prog 106 #[.slice (some ⟨b, 0, none⟩) 2 d] w fun e w' => e = .returned (.int .i64 (orV x y)) ∧ w = w' := by
  have HV := Lib.hid (show orV x y = if x = 0 then y else x from rfl)
  generalize orV x y = r at *
  go_enter Try.func106, Try.ntmps106
  go_wp2
  go_loopw [8] (fun i w' => ∃ k : Nat, k ≤ 2 ∧ i = .int .i64 (k : Int) ∧ w = w' ∧ Hid ((1 ≤ k → x = 0) ∧ (2 ≤ k → y = 0))) (fun i _ => 2 - (intOf i).toNat)
  case atStart => exact ⟨0, by omega, rfl, rfl, Lib.hid ⟨fun h => absurd h (by omega), fun h => absurd h (by omega)⟩⟩
  case round =>
    obtain ⟨k, hk, rfl, rfl, HK⟩ := hrel
    rcases (by omega : k = 0 ∨ k = 1 ∨ k = 2) with rfl | rfl | rfl
    · by_cases hx : x = 0
      · have HN := Lib.hid (show (1 ≤ 1 → x = 0) ∧ (2 ≤ 1 → y = 0) from ⟨fun _ => hx, fun h => absurd h (by omega)⟩)
        have hne : (x != 0) = false := by simpa using hx
        clear HK
        go_wp2
        go_roundw
        case rel => exact ⟨1, by omega, by go_num, by trivial, HN⟩
        case measure => simp [intOf]
      · have HR := Lib.hid (HV.out.trans (if_neg hx))
        have hne : (x != 0) = true := by simpa using hx
        go_wp2
        go_ret
        exact ⟨by rw [HR.out]; rfl, rfl⟩
    · have hx := HK.out.1 (by omega)
      by_cases hy : y = 0
      · have HN := Lib.hid (show (1 ≤ 2 → x = 0) ∧ (2 ≤ 2 → y = 0) from ⟨fun _ => hx, fun _ => hy⟩)
        have hne : (y != 0) = false := by simpa using hy
        clear HK hx
        go_wp2
        go_roundw
        case rel => exact ⟨2, by omega, by go_num, by trivial, HN⟩
        case measure => simp [intOf]
      · have HR := Lib.hid (HV.out.trans (if_pos hx))
        have hne : (y != 0) = true := by simpa using hy
        clear hx HK
        go_wp2
        go_ret
        exact ⟨by rw [HR.out]; rfl, rfl⟩
    · have HR := Lib.hid (show r = 0 by rw [HV.out, if_pos (HK.out.1 (by omega)), HK.out.2 (by omega)])
      clear HK
      go_wp2
      go_ret
      exact ⟨by rw [HR.out]; rfl, rfl⟩
def cfH (p q : Hy) : Int := orV (cmpV p.2 q.2) (cmpS p.1 q.1)
theorem cf_lt (p q : Hy) : Go.Proofs.ltOf cfH p q = bef p q := by
  unfold Go.Proofs.ltOf
  rw [Bool.eq_iff_iff, decide_eq_true_eq, bef_iff]
  unfold cfH orV cmpV cmpS
  constructor
  · intro h
    repeat' split at h
    all_goals first | omega | (rename_i h1 h2 h3; exact .inr ⟨by omega, by assumption⟩) | (exact .inr ⟨by omega, by assumption⟩) | (exfalso; omega)
  · rintro (h | ⟨h, h2⟩)
    · rw [if_pos h]; simp
    · have e1 : ¬ p.2 < q.2 := by omega
      have e2 : ¬ q.2 < p.2 := by omega
      simp [e1, e2, h2]
theorem cf_swo_n {x y z : Hy} (h1 : bef y x = false) (h2 : bef z y = false) : bef z x = false := by
  cases h : bef z x with
  | false => rfl
  | true =>
    cases h3 : bef x y with
    | true => have := bef_trans h h3; rw [this] at h2; cases h2
    | false =>
      have := bef_tot h1 h3
      subst this
      rw [h] at h2; cases h2
theorem cf_swo : Sort.SWO (Go.Proofs.ltOf cfH) where
  irrefl x := by rw [cf_lt]; exact bef_irr x
  trans x y z h1 h2 := by rw [cf_lt] at *; exact bef_trans h1 h2
  ntrans x y z h1 h2 := by
    rw [cf_lt] at *
    cases h : bef x z with
    | false => rfl
    | true =>
      cases h3 : bef y x with
      | true => have := bef_trans h3 h; rw [this] at h2; cases h2
      | false =>
        have := bef_tot h1 h3
        subst this
        rw [h] at h2; cases h2
/-- A world in which blocks have been laid, and orders drawn. -/
def GK (w W : World) : Prop := ∃ (k : Nat) (os : Array Obj), W = Sort.grow (w.drewN k) os
theorem GK.refl (w : World) : GK w w := ⟨0, #[], by rw [Sort.grow_empty]; rfl⟩
theorem GK.alloc {w W : World} (h : GK w W) (o : Obj) : GK w (W.alloc o) := by
  obtain ⟨k, os, rfl⟩ := h
  exact ⟨k, os ++ #[o], by rw [Sort.alloc_eq_grow, Sort.grow_grow]⟩
theorem GK.drew {w W : World} (h : GK w W) : GK w W.drew := by
  obtain ⟨k, os, rfl⟩ := h
  exact ⟨k + 1, os, rfl⟩
theorem pair0 {W : World} {a b : Value} {E H : Nat} (h : W.heap.size = H) : (W.alloc (.cells #[a, b] E)).cell? ⟨H, 0, none⟩ = some a := by subst h; rw [cell_of_block (heap_alloc_new _ _)]; rfl
theorem pair1 {W : World} {a b : Value} {E H : Nat} (h : W.heap.size = H) : (W.alloc (.cells #[a, b] E)).cell? ⟨H, 1, none⟩ = some b := by subst h; rw [cell_of_block (heap_alloc_new _ _)]; rfl
theorem lt3 (w : World) (o1 o2 o3 : Obj) : w.heap.size + 1 + 1 < (((w.alloc o1).alloc o2).alloc o3).drew.heap.size := by
  show _ < (((w.alloc o1).alloc o2).alloc o3).heap.size
  simp
theorem pair0d (w : World) (o1 o2 : Obj) {a b : Value} {E : Nat} : (((w.alloc o1).alloc o2).alloc (.cells #[a, b] E)).drew.cell? ⟨w.heap.size + 1 + 1, 0, none⟩ = some a := pair0 (W := (w.alloc o1).alloc o2) (by simp)
theorem pair1d (w : World) (o1 o2 : Obj) {a b : Value} {E : Nat} : (((w.alloc o1).alloc o2).alloc (.cells #[a, b] E)).drew.cell? ⟨w.heap.size + 1 + 1, 1, none⟩ = some b := pair1 (W := (w.alloc o1).alloc o2) (by simp)
/-- The cells of both that are compared. -/
abbrev SC (w0 : World) (B : Nat) (s : ByteArray) (c : Int) (t : ByteArray) (d : Int) (W : World) : Prop :=
  W.cell? ⟨B, 0, none⟩ = some (.string s) ∧ W.cell? ⟨B, 1, none⟩ = some (.int .i64 c) ∧ W.cell? ⟨B + 1, 0, none⟩ = some (.string t) ∧ W.cell? ⟨B + 1, 1, none⟩ = some (.int .i64 d) ∧ B + 1 < W.heap.size ∧ GK w0 W
theorem SC_drew {w0 W : World} {B : Nat} {s t : ByteArray} {c d : Int} (h : SC w0 B s c t d W) : SC w0 B s c t d W.drew := ⟨h.1, h.2.1, h.2.2.1, h.2.2.2.1, h.2.2.2.2.1, h.2.2.2.2.2.drew⟩
theorem SC_alloc {w0 W : World} {B : Nat} {s t : ByteArray} {c d : Int} (o : Obj) (h : SC w0 B s c t d W) : SC w0 B s c t d (W.alloc o) := by
  obtain ⟨h0, h1, h2, h3, hz, hg⟩ := h
  have hb := below_alloc1 W o
  exact ⟨(hb.cell (p := ⟨B, 0, none⟩) (by show B < _; omega)).trans h0, (hb.cell (p := ⟨B, 1, none⟩) (by show B < _; omega)).trans h1, (hb.cell (p := ⟨B + 1, 0, none⟩) hz).trans h2, (hb.cell (p := ⟨B + 1, 1, none⟩) hz).trans h3, Nat.lt_of_lt_of_le hz hb.size, hg.alloc o⟩
theorem SC_start (w : World) (s t : ByteArray) (c d : Int) (E : Nat) : SC w w.heap.size s c t d ((w.alloc (.cells #[.string s, .int .i64 c] E)).alloc (.cells #[.string t, .int .i64 d] E)) :=
  ⟨by simp, by simp, by simp, by simp, by simp, ((GK.refl w).alloc _).alloc _⟩
set_option maxRecDepth 100000 in
set_option maxHeartbeats 4000000 in
theorem compareI (p q : Hy) (w : World) :
    Calls Try.prog 81 #[.agg #[.string p.1, .int .i64 p.2], .agg #[.string q.1, .int .i64 q.2]] w fun e w' => e = .returned (.int .i64 (cfH p q)) ∧ GK w w' := by
  obtain ⟨s, c⟩ := p
  obtain ⟨t, d⟩ := q
  dsimp only
  have HR := Lib.hid (show orV (cmpV c d) (cmpS s t) = cfH (s, c) (t, d) from rfl)
  have HC1 := Lib.hid (fun W => cmpI c d W)
  have HC2 := Lib.hid (fun W => cmpT s t W)
  have HO := Lib.hid (fun b W hb h0 h1 => orI (d := 2) b (cmpV c d) (cmpS s t) W hb h0 h1)
  generalize cfH (s, c) (t, d) = r at *
  generalize cmpV c d = x at *
  generalize cmpS s t = y at *
  generalize orV x y = z at *
  have hk : SC w w.heap.size s c t d ((w.alloc (.cells #[.string s, .int .i64 c] 40)).alloc (.cells #[.string t, .int .i64 d] 40)).drew := SC_drew (SC_start w s t c d _)
  go_enter Try.func81, Try.ntmps81
  go_wp2
  go_region_held3 (fun W => W.cell? ⟨w.heap.size, 0, none⟩ = some (.string s) ∧ W.cell? ⟨w.heap.size, 1, none⟩ = some (.int .i64 c) ∧ W.cell? ⟨w.heap.size + 1, 0, none⟩ = some (.string t) ∧ W.cell? ⟨w.heap.size + 1, 1, none⟩ = some (.int .i64 d) ∧ w.heap.size + 1 < W.heap.size ∧ GK w W) (first | assumption | exact hk | exact SC_alloc _ hk | go_keep)
    (first
      | (go_at_call 107; (with_reducible refine (HC1.out _).mono ?_); rintro e wc ⟨rfl, rfl⟩)
      | (go_at_call 108; (with_reducible refine (HC2.out _).mono ?_); rintro e wc ⟨rfl, rfl⟩)
      | (go_at_call 106; refine (HO.out _ _ (by first | exact lt3 _ _ _ _ | simp) (by first | exact pair0d _ _ _ | exact pair0 (by simp)) (by first | exact pair1d _ _ _ | exact pair1 (by simp))).mono ?_; rintro e wd ⟨rfl, rfl⟩))
  all_goals
    rename_i hh
    have HB := Lib.hid hh.2.2.2.2.2
    clear hh hk
    go_wp2
    go_ret
    exact ⟨by rw [← HR.out]; rfl, HB.out⟩
end Go.Proofs.Ytofgdgdmmlgmnaa.hyp
