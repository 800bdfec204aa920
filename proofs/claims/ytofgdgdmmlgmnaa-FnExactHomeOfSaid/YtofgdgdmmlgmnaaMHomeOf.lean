/-
  Proved: both functions return the same home of a stroke.
  Conditions: none.
-/
import Derived.Test.YtofgdgdmmlgmnaaHomS
import Derived.Test.YtofgdgdmmlgmnaaFt
namespace Go.Proofs.Ytofgdgdmmlgmnaa.wHomeOf
open Go.ChangeShapes Go.WideShapes Go.ChangeAt Go.RowKit Go.Joins
open Go.Proofs.Ytofgdgdmmlgmnaa.core Go.Proofs.Ytofgdgdmmlgmnaa.rown Go.Proofs.Ytofgdgdmmlgmnaa.stk Go.Proofs.Ytofgdgdmmlgmnaa.boxed Go.Proofs.Ytofgdgdmmlgmnaa.ft Go.Proofs.Ytofgdgdmmlgmnaa.box Go.Proofs.Ytofgdgdmmlgmnaa.bxs Go.Proofs.Ytofgdgdmmlgmnaa.ink Go.Proofs.Ytofgdgdmmlgmnaa.inkV Go.Proofs.Ytofgdgdmmlgmnaa.lyt
set_option linter.unusedVariables false
set_option linter.unusedSimpArgs false
set_option maxRecDepth 100000 in
theorem hasS (b n C : Nat) (A : Option Addr) (a : Int) (r : Bool) (w : World) (h16 : n ≤ 16) (hbz : b < w.heap.size) (hc : w.cell? ⟨b, 0, none⟩ = some (.slice A n C)) (hr : r = decide (0 ≤ a ∧ a < (n : Int))) :
    Calls Try.prog 67 #[.pointer (some ⟨b, 0, none⟩), .int .i64 a] w fun e w' => e = .returned (.bool r) ∧ w = w' := by
  obtain ⟨m, hm⟩ : ∃ m, (n : Int) - 1 = m := ⟨_, rfl⟩
  have hw : IntKind.i64.wrap ((n : Int) - 1) = m := (wIsDot.w64 (x := (n : Int) - 1) (by omega)).1.trans hm
  have hw2 : wrap64 ((n : Int) - 1) = m := (wIsDot.w64 (x := (n : Int) - 1) (by omega)).2.trans hm
  by_cases h : 0 ≤ a ∧ a ≤ m
  · have hr' : r = true := by rw [hr]; exact decide_eq_true (by omega)
    have HC := Lib.hid (fun W => in_t a 0 m h W)
    subst hr'
    clear hr h hm
    go_enter Try.func67, Try.ntmps67
    go_wp2_with fail
    refine (HC.out _).mono ?_
    rintro e _ ⟨rfl, rfl⟩
    go_wp2
    go_ret
    exact ⟨rfl, rfl⟩
  · have hr' : r = false := by rw [hr]; exact decide_eq_false (by omega)
    have HC := Lib.hid (fun W => in_f a 0 m h W)
    subst hr'
    clear hr h hm
    go_enter Try.func67, Try.ntmps67
    go_wp2_with fail
    refine (HC.out _).mono ?_
    rintro e _ ⟨rfl, rfl⟩
    go_wp2
    go_ret
    exact ⟨rfl, rfl⟩
def res (v : Bool) (n : Nat) (ns : Nat → Nat) (ps : Nat → Nat → P3) (a : Int) : Int × Int :=
  if v = true then (if 0 ≤ a ∧ a < (n : Int) then (homeV ns ps a.toNat, 0) else (0, 2)) else (0, 1)
set_option maxRecDepth 100000 in
set_option maxHeartbeats 4000000 in
theorem specH {C : Nat} (A : Option Addr) (n : Nat) (ns : Nat → Nat) (ps : Nat → Nat → P3) (a : Int) (w : World) (hcap : n ≤ 1048576) (hsm : ∀ i, i < n → ns i ≤ 1048576) (hp : InkAt w A n ns ps) :
    Calls Try.prog 39 #[.agg #[.slice A n C], .int .i64 a] w fun e w' => e = .returned (.tuple #[.int .i64 (res (vI n ns ps) n ns ps a).1, .int .i64 (res (vI n ns ps) n ns ps a).2]) ∧ Below w.heap.size w w' := by
  have BL := Lib.hid (below_alloc1 w (.cells #[.slice A n C] 68))
  have KB := heap_alloc_new w (.cells #[.slice A n C] 68)
  have hc0 : (w.alloc (.cells #[.slice A n C] 68)).cell? ⟨w.heap.size, 0, none⟩ = some (.slice A n C) := by rw [cell_of_block KB]; rfl
  have HP := Lib.hid (hp.kept BL.out)
  have HV := Lib.hid (l02Ok_calls (C := C) (o := 0) A w.heap.size n ns ps _ hcap hsm (by simp) hc0 HP.out)
  have HK := Lib.hid (fun W (hb : Below (w.alloc (.cells #[.slice A n C] 68)).heap.size (w.alloc (.cells #[.slice A n C] 68)) W) => (show w.heap.size < W.heap.size ∧ W.cell? ⟨w.heap.size, 0, none⟩ = some (.slice A n C) ∧ InkAt W A n ns ps from ⟨Nat.lt_of_lt_of_le (by simp) hb.size, (hb.cell (p := ⟨w.heap.size, 0, none⟩) (by simp)).trans hc0, HP.out.kept hb⟩))
  clear KB hc0 HP hp hsm
  cases hv : vI n ns ps with
  | false =>
    rw [hv] at HV
    clear HK hv
    go_enter Try.func39, Try.ntmps39
    go_wp2_with fail
    refine HV.out.mono ?_
    rintro e w1 ⟨rfl, hb⟩
    have HB := Lib.hid (BL.out.trans (hb.mono BL.out.size))
    clear hb HV BL
    go_wp2
    exact bodyPost_ret (v := .tuple #[.int .i64 0, .int .i64 1]) (by simp [results, Try.results39, go_sem]) rfl ⟨rfl, HB.out⟩
  | true =>
    obtain ⟨h16, hall⟩ := vI_of hv
    have hvs := fun i (hi : i < n) => (hall i hi).1
    rw [hv] at HV
    by_cases hin : 0 ≤ a ∧ a < (n : Int)
    · obtain ⟨x, rfl⟩ : ∃ x : Nat, a = (x : Int) := ⟨a.toNat, by omega⟩
      have hx : x < n := by omega
      have HR := Lib.hid (show res true n ns ps (x : Int) = (homeV ns ps x, 0) by unfold res; rw [if_pos rfl, if_pos hin]; rfl)
      have HHS := Lib.hid (fun W (h : w.heap.size < W.heap.size ∧ W.cell? ⟨w.heap.size, 0, none⟩ = some (.slice A n C) ∧ InkAt W A n ns ps) => hasS w.heap.size n C A (x : Int) true W h16 h.1 h.2.1 (decide_eq_true hin).symm)
      have HHM := Lib.hid (fun W (h : w.heap.size < W.heap.size ∧ W.cell? ⟨w.heap.size, 0, none⟩ = some (.slice A n C) ∧ InkAt W A n ns ps) => homeS w.heap.size n C x A ns ps W h16 h.1 h.2.1 h.2.2 hvs hx)
      clear hvs hall hv hin
      rw [HR.out]
      generalize homeV ns ps x = r at *
      go_enter Try.func39, Try.ntmps39
      go_wp2_with fail
      refine HV.out.mono ?_
      rintro e w1 ⟨rfl, hb⟩
      have HK1 := Lib.hid (HK.out _ hb)
      have HB := Lib.hid (BL.out.trans (hb.mono BL.out.size))
      clear hb HV BL HK
      go_wp2_with fail
      refine (HHS.out _ HK1.out).mono ?_
      rintro e _ ⟨rfl, rfl⟩
      go_wp2_with fail
      refine (HHM.out _ HK1.out).mono ?_
      rintro e w3 ⟨rfl, hb⟩
      have HB3 := Lib.hid (HB.out.trans (hb.mono HB.out.size))
      clear hb HHS HHM HB HK1
      go_wp2
      exact bodyPost_ret (v := .tuple #[.int .i64 r, .int .i64 0]) (by simp [results, Try.results39, go_sem]) rfl ⟨rfl, HB3.out⟩
    · have HR := Lib.hid (show res true n ns ps a = (0, 2) by unfold res; rw [if_pos rfl, if_neg hin])
      have HHS := Lib.hid (fun W (h : w.heap.size < W.heap.size ∧ W.cell? ⟨w.heap.size, 0, none⟩ = some (.slice A n C) ∧ InkAt W A n ns ps) => hasS w.heap.size n C A a false W h16 h.1 h.2.1 (decide_eq_false hin).symm)
      clear hvs hall hv hin
      rw [HR.out]
      go_enter Try.func39, Try.ntmps39
      go_wp2_with fail
      refine HV.out.mono ?_
      rintro e w1 ⟨rfl, hb⟩
      have HK1 := Lib.hid (HK.out _ hb)
      have HB := Lib.hid (BL.out.trans (hb.mono BL.out.size))
      clear hb HV BL HK
      go_wp2_with fail
      refine (HHS.out _ HK1.out).mono ?_
      rintro e _ ⟨rfl, rfl⟩
      clear HHS HK1
      go_wp2
      exact bodyPost_ret (v := .tuple #[.int .i64 0, .int .i64 2]) (by simp [results, Try.results39, go_sem]) rfl ⟨rfl, HB.out⟩
theorem layoutI {C : Nat} (A : Option Addr) (n : Nat) (w : World) : Calls Try.prog 71 #[.agg #[.slice A n C]] w fun e w' => e = .returned (.pointer (some ⟨w.heap.size + 1, 0, none⟩)) ∧ w' = (w.alloc (.cells #[.slice A n C] 68)).alloc (.cells #[.slice A n C, .int .u32 0, .int .i32 0, .int .u32 0, .slice none 0 0] 145) := by
  go_enter Try.func71, Try.ntmps71
  go_wp2
  go_ret
  exact ⟨rfl, rfl⟩
theorem lay_start {C : Nat} (A : Option Addr) (n : Nat) (W : World) {row : Nat → List Value} : LyB ((W.alloc (.cells #[.slice A n C] 68)).alloc (.cells #[.slice A n C, .int .u32 0, .int .i32 0, .int .u32 0, .slice none 0 0] 145)).heap.size (W.heap.size + 1) n A C 0 0 none 0 0 row ((W.alloc (.cells #[.slice A n C] 68)).alloc (.cells #[.slice A n C, .int .u32 0, .int .i32 0, .int .u32 0, .slice none 0 0] 145)) := by
  refine ⟨by simp, Nat.le_refl _, ?_, World.ownsRow_nil _ _ _ _⟩
  have h := heap_alloc_new (W.alloc (.cells #[.slice A n C] 68)) (.cells #[.slice A n C, .int .u32 0, .int .i32 0, .int .u32 0, .slice none 0 0] 145)
  have e : (W.alloc (.cells #[.slice A n C] 68)).heap.size = W.heap.size + 1 := by simp
  rw [e] at h
  exact h
set_option maxRecDepth 100000 in
set_option maxHeartbeats 4000000 in
theorem implH {C : Nat} (A : Option Addr) (n : Nat) (ns : Nat → Nat) (ps : Nat → Nat → P3) (a : Int) (w : World) (hcap : n ≤ 1048576) (hsm : ∀ i, i < n → ns i ≤ 1048576) (hp : InkAt w A n ns ps) :
    Calls Try.prog 41 #[.agg #[.slice A n C], .int .i64 a] w fun e w' => e = .returned (.tuple #[.int .i64 (res (vI n ns ps) n ns ps a).1, .int .i64 (res (vI n ns ps) n ns ps a).2]) ∧ Below w.heap.size w w' := by
  have hund : undef = Value.tuple #[] := rfl
  have BL := Lib.hid (below_alloc1 w (.cells #[.slice A n C] 68))
  have KB := heap_alloc_new w (.cells #[.slice A n C] 68)
  have hc0 : (w.alloc (.cells #[.slice A n C] 68)).cell? ⟨w.heap.size, 0, none⟩ = some (.slice A n C) := by rw [cell_of_block KB]; rfl
  have HV := Lib.hid (implValidInk_calls (C := C) A n ns ps _ hcap hsm (hp.kept BL.out))
  have HK := Lib.hid (fun W (hb : Below (w.alloc (.cells #[.slice A n C] 68)).heap.size (w.alloc (.cells #[.slice A n C] 68)) W) => (hb.cell (p := ⟨w.heap.size, 0, none⟩) (by simp)).trans hc0)
  clear KB hc0 hsm
  cases hv : vI n ns ps with
  | false =>
    rw [hv] at HV
    clear HK hv hp
    go_enter Try.func41, Try.ntmps41
    go_wp2_with fail
    refine HV.out.mono ?_
    rintro e w1 ⟨rfl, hb⟩
    have HB := Lib.hid (BL.out.trans (hb.mono BL.out.size))
    clear hb HV BL
    go_wp2
    exact bodyPost_ret (v := .tuple #[.int .i64 0, .int .i64 1]) (by simp [results, Try.results41, go_sem]) rfl ⟨rfl, HB.out⟩
  | true =>
    obtain ⟨h16, hall⟩ := vI_of hv
    have hvs := fun i (hi : i < n) => (hall i hi).1
    rw [hv] at HV
    by_cases hneg : a < 0
    · have HR := Lib.hid (show res true n ns ps a = (0, 2) by unfold res; rw [if_pos rfl, if_neg (by omega)])
      have dn : decide (a < 0) = true := decide_eq_true hneg
      clear hvs hall hv hp
      rw [HR.out]
      go_enter Try.func41, Try.ntmps41
      go_wp2_with fail
      refine HV.out.mono ?_
      rintro e w1 ⟨rfl, hb⟩
      have HB := Lib.hid (BL.out.trans (hb.mono BL.out.size))
      have c0 := HK.out _ hb
      clear hb HV BL HK
      go_wp2
      exact bodyPost_ret (v := .tuple #[.int .i64 0, .int .i64 2]) (by simp [results, Try.results41, go_sem]) rfl ⟨rfl, HB.out⟩
    · have dn : decide (a < 0) = false := decide_eq_false hneg
      by_cases hhi : (n : Int) ≤ a
      · have HR := Lib.hid (show res true n ns ps a = (0, 2) by unfold res; rw [if_pos rfl, if_neg (by omega)])
        have dh : decide ((n : Int) ≤ a) = true := decide_eq_true hhi
        clear hvs hall hv hp
        rw [HR.out]
        go_enter Try.func41, Try.ntmps41
        go_wp2_with fail
        refine HV.out.mono ?_
        rintro e w1 ⟨rfl, hb⟩
        have HB := Lib.hid (BL.out.trans (hb.mono BL.out.size))
        have c0 := HK.out _ hb
        clear hb HV BL HK
        go_wp2
        exact bodyPost_ret (v := .tuple #[.int .i64 0, .int .i64 2]) (by simp [results, Try.results41, go_sem]) rfl ⟨rfl, HB.out⟩
      · have dh : decide ((n : Int) ≤ a) = false := decide_eq_false hhi
        obtain ⟨x, rfl⟩ : ∃ x : Nat, a = (x : Int) := ⟨a.toNat, by omega⟩
        have hx : x < n := by omega
        have HR := Lib.hid (show res true n ns ps (x : Int) = (homeV ns ps x, 0) by unfold res; rw [if_pos rfl, if_pos (by omega)]; rfl)
        have HLI := Lib.hid (fun W => layoutI (C := C) A n W)
        have HHM := Lib.hid (fun W (hb : Below w.heap.size w W) => homeI (W.heap.size + 1) n C x A ns ps w ((W.alloc (.cells #[.slice A n C] 68)).alloc (.cells #[.slice A n C, .int .u32 0, .int .i32 0, .int .u32 0, .slice none 0 0] 145)) h16 (Nat.le_trans hb.size (Nat.le_succ _)) (hb.trans ((below_alloc2 W _ _).mono hb.size)) hp hvs (lay_start _ _ _) hx)
        clear hvs hall hv hp
        rw [HR.out]
        generalize homeV ns ps x = r at *
        go_enter Try.func41, Try.ntmps41
        go_wp2_with fail
        refine HV.out.mono ?_
        rintro e w1 ⟨rfl, hb⟩
        have HB := Lib.hid (BL.out.trans (hb.mono BL.out.size))
        have c0 := HK.out _ hb
        clear hb HV BL HK
        go_wp2_with fail
        refine (HLI.out _).mono ?_
        rintro e w2 ⟨rfl, rfl⟩
        clear HLI
        go_wp2_with fail
        refine (HHM.out _ HB.out).mono ?_
        rintro e w3 ⟨rfl, hb3⟩
        have HB3 := Lib.hid ((HB.out.trans ((below_alloc2 w1 (.cells #[.slice A n C] 68) (.cells #[.slice A n C, .int .u32 0, .int .i32 0, .int .u32 0, .slice none 0 0] 145)).mono HB.out.size)).trans (hb3.mono (Nat.le_trans HB.out.size (Nat.le_succ _))))
        clear hb3 HHM c0
        go_wp2
        exact bodyPost_ret (v := .tuple #[.int .i64 r, .int .i64 0]) (by simp [results, Try.results41, go_sem]) rfl ⟨rfl, HB3.out⟩
theorem meat (vs0 : Nat → Value) (g0 : Nat → Dat) (a1 : Int) (ht0 : tyrInk g0) (hi1 : inI64 a1) :
    costRec 1 g0 ≤ 1048576 → ∃ (r0 : Int) (r1 : Int), (∀ (W : World) (us0 : Nat → Value), ReadsRec W 1 us0 g0 → Calls Try.prog 39 #[.agg #[us0 0], .int .i64 a1] W fun e W' => e = .returned (.tuple #[.int .i64 r0, .int .i64 r1]) ∧ Below W.heap.size W W') ∧ (∀ (W : World) (us0 : Nat → Value), ReadsRec W 1 us0 g0 → Calls Try.prog 41 #[.agg #[us0 0], .int .i64 a1] W fun e W' => e = .returned (.tuple #[.int .i64 r0, .int .i64 r1]) ∧ Below W.heap.size W W') := by
  intro hq
  refine ⟨(res (vI (inkN g0) (inkS g0) (inkP g0)) (inkN g0) (inkS g0) (inkP g0) a1).1, (res (vI (inkN g0) (inkS g0) (inkP g0)) (inkN g0) (inkS g0) (inkP g0) a1).2, fun W us0 h0 => ?_, fun W us0 h0 => ?_⟩
  · obtain ⟨A, c, e, hn, hs, hp⟩ := reads_ink h0 ht0 hq
    rw [e]
    exact specH A _ _ _ a1 W hn hs hp
  · obtain ⟨A, c, e, hn, hs, hp⟩ := reads_ink h0 ht0 hq
    rw [e]
    exact implH A _ _ _ a1 W hn hs hp
end Go.Proofs.Ytofgdgdmmlgmnaa.wHomeOf
