/-
  Proved: both functions return the same groups, in memory of their own.
  Conditions: none.
-/
import Derived.Test.YtofgdgdmmlgmnabGrpS
namespace Go.Proofs.Ytofgdgdmmlgmnab.wGroupsOf
open Go.ChangeShapes Go.WideShapes Go.ChangeAt Go.RowKit Go.Joins
open Go.Proofs.Ytofgdgdmmlgmnab.core Go.Proofs.Ytofgdgdmmlgmnab.rown Go.Proofs.Ytofgdgdmmlgmnab.stk Go.Proofs.Ytofgdgdmmlgmnab.boxed Go.Proofs.Ytofgdgdmmlgmnab.ft Go.Proofs.Ytofgdgdmmlgmnab.ink Go.Proofs.Ytofgdgdmmlgmnab.inkV Go.Proofs.Ytofgdgdmmlgmnab.grp
set_option linter.unusedVariables false
set_option linter.unusedSimpArgs false
theorem run_min2 {P : Program} (w : World) (ts : Array TypeId) (t : TypeId) (x y : Int) : (Builtin.min_ ts t #[.int .i64 x, .int .i64 y]).run P w = .ok (.int .i64 (min x y)) w := by
  have e : ∀ p q : Int, (if q < p then q else p) = min p q := fun p q => by
    rw [Int.min_def]
    split <;> split <;> omega
  simp [Builtin.min_, Builtin.min2, e, go_sem]
set_option maxRecDepth 100000 in
set_option maxHeartbeats 4000000 in
theorem specG_no {C : Nat} (A : Option Addr) (n : Nat) (ns : Nat → Nat) (ps : Nat → Nat → P3) (w : World) (hcap : n ≤ 1048576) (hsm : ∀ i, i < n → ns i ≤ 1048576) (hp : InkAt w A n ns ps) (hv : vI n ns ps = false) :
    Calls Try.prog 16 #[.agg #[.slice A n C]] w fun e w' => e = .returned (.tuple #[.slice none 0 0, .int .i64 1]) ∧ Below w.heap.size w w' := by
  have BL := Lib.hid (below_alloc1 w (.cells #[.slice A n C] 31))
  have KB := Lib.hid (heap_alloc_new w (.cells #[.slice A n C] 31))
  have hc0 : (w.alloc (.cells #[.slice A n C] 31)).cell? ⟨w.heap.size, 0, none⟩ = some (.slice A n C) := by rw [cell_of_block KB.out]; rfl
  have HV := Lib.hid (l02Ok_calls (C := C) (o := 0) A w.heap.size n ns ps _ hcap hsm (by simp) hc0 (hp.kept BL.out))
  rw [hv] at HV
  clear hc0 KB hp hv hsm
  go_enter Try.func16, Try.ntmps16
  go_wp2_with fail
  refine HV.out.mono ?_
  rintro e w1 ⟨rfl, hb⟩
  have HB := Lib.hid (BL.out.trans (hb.mono BL.out.size))
  clear hb HV BL
  go_wp2
  exact bodyPost_ret (v := .tuple #[.slice none 0 0, .int .i64 1]) (by simp [results, Try.results16, go_sem]) rfl ⟨rfl, HB.out⟩
set_option maxRecDepth 100000 in
set_option maxHeartbeats 4000000 in
theorem specG_yes {C : Nat} (A : Option Addr) (n : Nat) (ns : Nat → Nat) (ps : Nat → Nat → P3) (w : World) (hcap : n ≤ 1048576) (hsm : ∀ i, i < n → ns i ≤ 1048576) (hp : InkAt w A n ns ps) (hv : vI n ns ps = true) :
    Calls Try.prog 16 #[.agg #[.slice A n C]] w fun e w' => ∃ v, e = .returned (.tuple #[v, .int .i64 0]) ∧ w'.ownsRow w.heap.size 60 2 v (gO n n).1 (rws (sp2 (gO n n).2) (gO n n).1) ∧ Below w.heap.size w w' := by
  have BL := Lib.hid (below_alloc1 w (.cells #[.slice A n C] 31))
  have KB := Lib.hid (heap_alloc_new w (.cells #[.slice A n C] 31))
  have hc0 : (w.alloc (.cells #[.slice A n C] 31)).cell? ⟨w.heap.size, 0, none⟩ = some (.slice A n C) := by rw [cell_of_block KB.out]; rfl
  have HV := Lib.hid (l02Ok_calls (C := C) (o := 0) A w.heap.size n ns ps _ hcap hsm (by simp) hc0 (hp.kept BL.out))
  have HC := Lib.hid (fun W (hb : Below (w.alloc (.cells #[.slice A n C] 31)).heap.size (w.alloc (.cells #[.slice A n C] 31)) W) => (hb.cell (p := ⟨w.heap.size, 0, none⟩) (by simp)).trans hc0)
  rw [hv] at HV
  have HS := Lib.hid (fun W => groupsS n (vI_of hv).1 W)
  clear hc0 KB hp hv hsm
  obtain ⟨G, hG⟩ : ∃ G, gO n n = G := ⟨_, rfl⟩
  rw [hG] at HS ⊢
  clear hG
  go_enter Try.func16, Try.ntmps16
  go_wp2_with fail
  refine HV.out.mono ?_
  rintro e w1 ⟨rfl, hb⟩
  have HB := Lib.hid (BL.out.trans (hb.mono BL.out.size))
  have c0 := HC.out _ hb
  clear hb HV BL HC
  go_wp2_with fail
  refine (HS.out _).mono ?_
  rintro e w2 ⟨g, d, rfl, hown, hb⟩
  have HO := Lib.hid (row_low hown HB.out.size)
  have HB2 := Lib.hid (HB.out.trans (hb.mono HB.out.size))
  clear hb hown HS
  go_wp2
  exact bodyPost_ret (v := .tuple #[.slice (some ⟨g, 0, none⟩) G.1 d, .int .i64 0]) (by simp [results, Try.results16, go_sem]) rfl ⟨_, rfl, HO.out, HB2.out⟩
set_option maxRecDepth 100000 in
set_option maxHeartbeats 4000000 in
theorem implG_no {C : Nat} (A : Option Addr) (n : Nat) (ns : Nat → Nat) (ps : Nat → Nat → P3) (w : World) (hcap : n ≤ 1048576) (hsm : ∀ i, i < n → ns i ≤ 1048576) (hp : InkAt w A n ns ps) (hv : vI n ns ps = false) :
    Calls Try.prog 17 #[.agg #[.slice A n C]] w fun e w' => e = .returned (.tuple #[.slice none 0 0, .int .i64 1]) ∧ Below w.heap.size w w' := by
  have BL := Lib.hid (below_alloc1 w (.cells #[.slice A n C] 31))
  have HV := Lib.hid (implValidInk_calls (C := C) A n ns ps _ hcap hsm (hp.kept BL.out))
  rw [hv] at HV
  clear hp hv hsm
  go_enter Try.func17, Try.ntmps17
  go_wp2_with fail
  refine HV.out.mono ?_
  rintro e w1 ⟨rfl, hb⟩
  have HB := Lib.hid (BL.out.trans (hb.mono BL.out.size))
  clear hb HV BL
  go_wp2
  exact bodyPost_ret (v := .tuple #[.slice none 0 0, .int .i64 1]) (by simp [results, Try.results17, go_sem]) rfl ⟨rfl, HB.out⟩
set_option maxRecDepth 100000 in
set_option maxHeartbeats 8000000 in
theorem implG_yes {C : Nat} (A : Option Addr) (n : Nat) (ns : Nat → Nat) (ps : Nat → Nat → P3) (w : World) (hcap : n ≤ 1048576) (hsm : ∀ i, i < n → ns i ≤ 1048576) (hp : InkAt w A n ns ps) (hv : vI n ns ps = true) :
    Calls Try.prog 17 #[.agg #[.slice A n C]] w fun e w' => ∃ v, e = .returned (.tuple #[v, .int .i64 0]) ∧ w'.ownsRow w.heap.size 60 2 v (gO n n).1 (rws (sp2 (gO n n).2) (gO n n).1) ∧ Below w.heap.size w w' := by
  obtain ⟨i0, hi0, hz0, hz1, hz2⟩ := rown.info_get infoG
  have hn := (vI_of hv).1
  have BL := Lib.hid (below_alloc1 w (.cells #[.slice A n C] 31))
  have KB := Lib.hid (heap_alloc_new w (.cells #[.slice A n C] 31))
  have hc0 : (w.alloc (.cells #[.slice A n C] 31)).cell? ⟨w.heap.size, 0, none⟩ = some (.slice A n C) := by rw [cell_of_block KB.out]; rfl
  have HV := Lib.hid (implValidInk_calls (C := C) A n ns ps _ hcap hsm (hp.kept BL.out))
  have HC := Lib.hid (fun W (hb : Below (w.alloc (.cells #[.slice A n C] 31)).heap.size (w.alloc (.cells #[.slice A n C] 31)) W) => (hb.cell (p := ⟨w.heap.size, 0, none⟩) (by simp)).trans hc0)
  rw [hv] at HV
  clear hc0 KB hp hv hsm
  have HLE := Lib.hid (gO_le n)
  obtain ⟨G, hG⟩ : ∃ G, gO n = G := ⟨_, rfl⟩
  have HG := Lib.hid (show G 0 = (0, fun _ => (0, 0)) ∧ ∀ i, G (i + 1) = gI (G i) i (min 3 (n - i)) by rw [← hG]; exact ⟨rfl, fun _ => rfl⟩)
  rw [hG] at HLE ⊢
  clear hG
  have HN16 := Lib.hid hn
  clear hn
  go_enter Try.func17, Try.ntmps17
  go_wp2_with fail
  refine HV.out.mono ?_
  rintro e w1 ⟨rfl, hb⟩
  have HB0 := Lib.hid (BL.out.trans (hb.mono BL.out.size))
  have c0 := HC.out _ hb
  clear hb HV BL HC
  go_wp2
  clear c0
  go_loopw [5, 15] (fun out i w' => ∃ (x L : Nat) (D : Option Addr) (d : Nat), x ≤ n ∧ i = .int .i64 (x : Int) ∧ out = .slice D L d ∧ Hid ((G x).1 = L) ∧ Hid (w'.ownsRow w.heap.size 60 2 (.slice D L d) L (rws (sp2 (G x).2) L)) ∧ Hid (Below w.heap.size w w')) (fun _ i _ => n - (intOf i).toNat)
  case atStart => exact ⟨0, 0, none, 0, Nat.zero_le _, rfl, rfl, Lib.hid (by rw [HG.out.1]), Lib.hid (World.ownsRow_nil _ _ _ _), HB0⟩
  case round =>
    obtain ⟨x, L, D, d, hx, rfl, rfl, HLL, HO, HB⟩ := hrel
    by_cases hlt : x < n
    · have hli : (x : Int) < (n : Int) := by omega
      have hx1 : x + 1 ≤ n := by omega
      have hms : n - (x + 1) < n - x := by omega
      have HGX := Lib.hid (HG.out.2 x)
      have HLX := Lib.hid (gI_len (G x) x)
      have HL48 := Lib.hid (show L + 3 ≤ 60 by have := HLL.out; have := HLE.out x; have := HN16.out; omega)
      obtain ⟨y0, hy0⟩ : ∃ y, y = x + 1 := ⟨_, rfl⟩
      obtain ⟨z, hz⟩ : ∃ z, z = x + 3 := ⟨_, rfl⟩
      obtain ⟨M, hM⟩ : ∃ M, M = min z n := ⟨_, rfl⟩
      have w1' : IntKind.i64.wrap ((x : Int) + 1) = (y0 : Int) := wrp (by omega) (by have := HN16.out; omega)
      have w3 : IntKind.i64.wrap ((x : Int) + 3) = (z : Int) := wrp (by omega) (by have := HN16.out; omega)
      have hmn : ∀ W ts t, (Builtin.min_ ts t #[.int .i64 (z : Int), .int .i64 (n : Int)]).run Try.prog W = .ok (.int .i64 (M : Int)) W := fun W ts t => by
        have e : min (z : Int) (n : Int) = (M : Int) := by omega
        rw [← e]; exact run_min2 W ts t z n
      have HY0 := Lib.hid hy0
      have HZ := Lib.hid hz
      have HMM := Lib.hid hM
      have HLT := Lib.hid hlt
      clear hy0 hz hM hlt
      go_wp2
      go_loopw [5, 7] (fun out t w' => ∃ (k y L1 : Nat) (D : Option Addr) (d : Nat), t = .int .i64 (y : Int) ∧ out = .slice D L1 d ∧ Hid (y = x + 1 + k ∧ k ≤ min 3 (n - x)) ∧ Hid (L1 = L + k) ∧ Hid (w'.ownsRow w.heap.size 60 2 (.slice D L1 d) L1 (rws (sp2 (gI (G x) x k).2) L1)) ∧ Hid (Below w.heap.size w w')) (fun _ t _ => n + 1 - (intOf t).toNat)
      case atStart => exact ⟨0, y0, L, D, d, rfl, rfl, Lib.hid ⟨HY0.out, Nat.zero_le _⟩, Lib.hid rfl, HO, HB⟩
      case round =>
        obtain ⟨k, y, L1, D, d, rfl, rfl, HYK, HL1, HO1, HB1⟩ := hrel
        by_cases hy1 : y ≤ M
        · have hyi : (y : Int) ≤ (M : Int) := by omega
          obtain ⟨y', hy'⟩ : ∃ t, t = y + 1 := ⟨_, rfl⟩
          have w4 : IntKind.i64.wrap ((y : Int) + 1) = (y' : Int) := wrp (by omega) (by have := HN16.out; have := HMM.out; omega)
          have HYN := Lib.hid (show y' = x + 1 + (k + 1) ∧ k + 1 ≤ min 3 (n - x) by have := HYK.out; have := HZ.out; have := HMM.out; omega)
          have HMS := Lib.hid (show n + 1 - y' < n + 1 - y by have := HMM.out; omega)
          have HLN := Lib.hid (show L1 + 1 = L + (k + 1) by have := HL1.out; omega)
          have HNR := Lib.hid (show rws (sp2 (gI (G x) x (k + 1)).2) (L1 + 1) = rws (sp2 (gI (G x) x k).2) L1 ++ [.int .i64 (x : Int), .int .i64 (y : Int)] by
            have h := rws_apd (gI (G x) x k) ((x : Int), ((x + 1 + k : Nat) : Int))
            have e1 := HLX.out k
            rw [HLL.out, ← HL1.out] at e1
            rw [← HYK.out.1] at h
            show rws (sp2 (apd (gI (G x) x k) ((x : Int), ((x + 1 + k : Nat) : Int))).2) (L1 + 1) = _
            rw [← HYK.out.1]
            have e2 : (apd (gI (G x) x k) ((x : Int), (y : Int))).1 = L1 + 1 := by show (gI (G x) x k).1 + 1 = _; rw [e1]
            rw [e2, e1] at h
            exact h)
          have Z3 := Lib.hid (show L1 + 1 ≤ maxLen by have := HL1.out; have := HYN.out; have := HL48.out; simp only [maxLen]; omega)
          have Z4 := Lib.hid (show (L1 + 1) * 16 ≤ 140737488355328 by have := HL1.out; have := HYN.out; have := HL48.out; omega)
          have hzw : w.heap.size ≤ wr.heap.size := HB1.out.size
          clear hy1 hy'
          go_wp2_with (first
            | (at_builtin
               refine wpList_append_lies (wr.alloc (.cells #[.int .i64 (x : Int), .int .i64 (y : Int)] 60)) rfl _ _ 38 rfl w.heap.size 60 i0 _ 2 16 Try.underlying38 hi0 hz0 hz1 hz2 rfl (by decide) (.slice D L1 d) L1 _ rfl (rown.ownsRow_kept HO1.out (below_alloc1 _ _)) ⟨wr.heap.size, 0, none⟩ 1 1 [.int .i64 (x : Int), .int .i64 (y : Int)] rfl rfl (two_new rfl) (by simp [Value.oneCell']) (by decide) Z3.out Z4.out (Nat.le_trans hzw (by simp)) _ rfl ?_
               intro g3 cap3 w5 hown hgr hat hlt3
               have HO5 := Lib.hid hown
               have HB5 := Lib.hid (HB1.out.trans (rown.under HO1.out hzw hgr))
               clear hown hgr hat))
          go_wp2
          go_roundw
          case rel => exact ⟨k + 1, y', L1 + 1, some ⟨g3, 0, none⟩, cap3, rfl, rfl, HYN, HLN, Lib.hid (by rw [HNR.out]; exact HO5.out), HB5⟩
          case measure => simp [intOf]; exact HMS.out
        · have hyi : ¬ (y : Int) ≤ (M : Int) := by omega
          have dz : decide ((y : Int) ≤ (M : Int)) = false := decide_eq_false hyi
          have HKE := Lib.hid (show min 3 (n - x) = k by have := HYK.out; have := HZ.out; have := HMM.out; omega)
          have HNL := Lib.hid (show (G (x + 1)).1 = L1 by rw [HGX.out, HKE.out, HLX.out, HLL.out, HL1.out])
          have HO2 := Lib.hid (show wr.ownsRow w.heap.size 60 2 (.slice D L1 d) L1 (rws (sp2 (G (x + 1)).2) L1) by rw [HGX.out, HKE.out]; exact HO1.out)
          clear hy1
          go_wp2
          go_roundw
          case rel => exact ⟨x + 1, L1, D, d, hx1, by first | rfl | go_num | (rw [HY0.out]), rfl, HNL, HO2, HB1⟩
          case measure => simp [intOf]; have := HY0.out; have := HLT.out; omega
    · have hxe : x = n := by omega
      have hxn : ¬ (x : Int) < (n : Int) := by omega
      clear hlt
      subst hxe
      go_wp2
      exact bodyPost_ret (v := .tuple #[.slice D L d, .int .i64 0]) (by simp [results, Try.results17, go_sem]) rfl ⟨.slice D L d, rfl, by rw [HLL.out]; exact HO.out, HB.out⟩
theorem ty_of (n : Nat) (f : Nat → Nat → Int) : tyrGroupS (datRows n 2 f) := ⟨n, _, rfl, fun i _ => ⟨⟨_, rfl⟩, ⟨_, rfl⟩⟩⟩
def fi2 (F : Nat → P2) (i j : Nat) : Int := if j = 0 then (F i).1 else (F i).2
theorem twoAt (F : Nat → P2) : ∀ i j, j < 2 → (sp2 F i)[j]? = some (.int .i64 (fi2 F i j)) := fun i j hj => by
  rcases (by omega : j = 0 ∨ j = 1) with rfl | rfl <;> rfl
theorem meat (vs0 : Nat → Value) (g0 : Nat → Dat) (ht0 : tyrInk g0) :
    costRec 1 g0 ≤ 1048576 → ∃ (R : Nat → Dat) (r1 : Int), tyrGroupS R ∧ cntRec 1 R ≤ 100000000000 ∧ (∀ (W : World) (us0 : Nat → Value), ReadsRec W 1 us0 g0 → Calls Try.prog 16 #[.agg #[us0 0]] W fun e W' => ∃ xs : Nat → Value, e = .returned (.tuple #[xs 0, .int .i64 r1]) ∧ OwnRec W' 1 xs R (iv W.heap.size W'.heap.size) ∧ Below W.heap.size W W') ∧ (∀ (W : World) (us0 : Nat → Value), ReadsRec W 1 us0 g0 → Calls Try.prog 17 #[.agg #[us0 0]] W fun e W' => ∃ xs : Nat → Value, e = .returned (.tuple #[xs 0, .int .i64 r1]) ∧ OwnRec W' 1 xs R (iv W.heap.size W'.heap.size) ∧ Below W.heap.size W W') := by
  intro hq
  cases hv : vI (inkN g0) (inkS g0) (inkP g0) with
  | true =>
    have h16 := (vI_of hv).1
    have hle := gO_le (inkN g0) (inkN g0)
    have hin := in_gO (inkN g0) (inkN g0) (Nat.le_refl _)
    have hin' : ∀ i j, i < (gO (inkN g0) (inkN g0)).1 → j < 2 → inI64 (fi2 (gO (inkN g0) (inkN g0)).2 i j) := fun i j hi hj => by
      have := hin i hi
      unfold inI64 fi2
      split <;> omega
    refine ⟨datRows (gO (inkN g0) (inkN g0)).1 2 (fi2 (gO (inkN g0) (inkN g0)).2), 0, ty_of _ _, Nat.le_trans (datRows_cnt _ _ _) (by omega), fun W us0 h0 => ?_, fun W us0 h0 => ?_⟩
    · obtain ⟨A, c, e, hn, hs, hp⟩ := reads_ink h0 ht0 hq
      rw [e]
      exact fin (T := fun v => .tuple #[v, .int .i64 0]) (sp2_len _) (twoAt _) hin' (specG_yes A _ _ _ W hn hs hp hv)
    · obtain ⟨A, c, e, hn, hs, hp⟩ := reads_ink h0 ht0 hq
      rw [e]
      exact fin (T := fun v => .tuple #[v, .int .i64 0]) (sp2_len _) (twoAt _) hin' (implG_yes A _ _ _ W hn hs hp hv)
  | false =>
    refine ⟨datRows 0 2 (fi2 fun _ => (0, 0)), 1, ty_of _ _, Nat.le_trans (datRows_cnt _ _ _) (by omega), fun W us0 h0 => ?_, fun W us0 h0 => ?_⟩
    · obtain ⟨A, c, e, hn, hs, hp⟩ := reads_ink h0 ht0 hq
      rw [e]
      exact fin (E := 60) (T := fun v => .tuple #[v, .int .i64 1]) (sp2_len _) (twoAt _) (fun i j hi _ => absurd hi (by omega)) ((specG_no A _ _ _ W hn hs hp hv).mono fun e W' ⟨he, hb⟩ => ⟨_, he, World.ownsRow_nil _ _ _ _, hb⟩)
    · obtain ⟨A, c, e, hn, hs, hp⟩ := reads_ink h0 ht0 hq
      rw [e]
      exact fin (E := 60) (T := fun v => .tuple #[v, .int .i64 1]) (sp2_len _) (twoAt _) (fun i j hi _ => absurd hi (by omega)) ((implG_no A _ _ _ W hn hs hp hv).mono fun e W' ⟨he, hb⟩ => ⟨_, he, World.ownsRow_nil _ _ _ _, hb⟩)
end Go.Proofs.Ytofgdgdmmlgmnab.wGroupsOf
