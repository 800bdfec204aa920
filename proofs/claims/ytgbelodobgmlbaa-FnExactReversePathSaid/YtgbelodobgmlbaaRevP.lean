/-
  Proved: what the document's function that turns a path round returns.
  Conditions: none.
-/
import Derived.Test.YtgbelodobgmlbaaPathV
namespace Go.Proofs.Ytgbelodobgmlbaa.path
open Go.ChangeShapes Go.WideShapes Go.ChangeAt Go.RowKit Go.Joins
open Go.Proofs.Ytgbelodobgmlbaa.core Go.Proofs.Ytgbelodobgmlbaa.rown Go.Proofs.Ytgbelodobgmlbaa.stk Go.Proofs.Ytgbelodobgmlbaa.boxed Go.Proofs.Ytgbelodobgmlbaa.ft Go.Proofs.Ytgbelodobgmlbaa.seq
set_option linter.unusedVariables false
set_option linter.unusedSimpArgs false
theorem infoPair : (Try.prog.info? 76).map (fun i => (i.zero, i.size, i.bytes)) = some (some (.agg #[.int .i64 0, .int .i64 0]), 2, 16) := by kernel_rfl
/-- The path can be turned round: its last pair tells the sizes of both lists. -/
noncomputable def revOk (k : Nat) (f : Nat → P2) : Bool := @decide (0 < k ∧ (0 ≤ (f (k - 1)).1 ∧ (f (k - 1)).1 ≤ 71) ∧ (0 ≤ (f (k - 1)).2 ∧ (f (k - 1)).2 ≤ 71) ∧ okPath k f ((f (k - 1)).1 + 1) ((f (k - 1)).2 + 1) 72 = true) (Classical.propDecidable _)
theorem revOk_of {k : Nat} {f : Nat → P2} (h : revOk k f = true) : 0 < k ∧ (0 ≤ (f (k - 1)).1 ∧ (f (k - 1)).1 ≤ 71) ∧ (0 ≤ (f (k - 1)).2 ∧ (f (k - 1)).2 ≤ 71) ∧ okPath k f ((f (k - 1)).1 + 1) ((f (k - 1)).2 + 1) 72 = true := by
  unfold revOk at h; exact @of_decide_eq_true _ (Classical.propDecidable _) h
theorem revOk_true {k : Nat} {f : Nat → P2} (h : 0 < k ∧ (0 ≤ (f (k - 1)).1 ∧ (f (k - 1)).1 ≤ 71) ∧ (0 ≤ (f (k - 1)).2 ∧ (f (k - 1)).2 ≤ 71) ∧ okPath k f ((f (k - 1)).1 + 1) ((f (k - 1)).2 + 1) 72 = true) : revOk k f = true := by
  unfold revOk; exact @decide_eq_true _ (Classical.propDecidable _) h
/-- The pair that stands at a place of the path that is turned round. -/
def revAt (k : Nat) (f : Nat → P2) (j : Nat) : P2 := ((f (k - 1)).1 - (f (k - 1 - j)).1, (f (k - 1)).2 - (f (k - 1 - j)).2)
set_option maxRecDepth 100000 in
set_option maxHeartbeats 4000000 in
theorem revS_no {c : Nat} (A : Option Addr) (k : Nat) (f : Nat → P2) (w : World) (hk : k ≤ 1048576) (hp : SpAt w A k f) (hv : revOk k f = false) :
    Calls Try.prog 32 #[.slice A k c] w fun e w' => ∃ v, e = .returned (.tuple #[v, .int .i64 1]) ∧ w'.ownsRow w.heap.size 76 2 v 0 (rws (sp2 fun _ => (0, 0)) 0) ∧ Below w.heap.size w w' := by
  by_cases hk0 : k = 0
  · subst hk0
    clear hp hv
    go_enter Try.func32, Try.ntmps32
    go_wp2
    go_ret2
    exact ⟨.slice none 0 0, rfl, World.ownsRow_nil _ _ _ _, Below.refl _ _⟩
  have hno : ¬ (0 < k ∧ (0 ≤ (f (k - 1)).1 ∧ (f (k - 1)).1 ≤ 71) ∧ (0 ≤ (f (k - 1)).2 ∧ (f (k - 1)).2 ≤ 71) ∧ okPath k f ((f (k - 1)).1 + 1) ((f (k - 1)).2 + 1) 72 = true) := fun h => by have := revOk_true (k := k) (f := f) h; rw [hv] at this; cases this
  obtain ⟨K, rfl⟩ : ∃ K, k = K + 1 := ⟨k - 1, by omega⟩
  simp only [Nat.add_sub_cancel] at hno
  have hki0 : (((K + 1 : Nat) : Int) == 0) = false := by simp; omega
  have hkd : decide ((K : Int) + 1 = 0) = false := decide_eq_false (by omega)
  have hKi : (K : Int) < (K : Int) + 1 := by omega
  have hKn : K < K + 1 := by omega
  have HP := Lib.hid hp
  obtain ⟨g0, o0, rfl, hg0, l0, l1⟩ := hp K hKn
  clear hp hv hk0
  obtain ⟨L, hL⟩ : ∃ v, f K = v := ⟨_, rfl⟩
  rw [hL] at hno l0 l1
  have BA := Lib.hid (below_alloc1 w (.cells #[.int .i64 L.1, .int .i64 L.2] 76))
  go_enter Try.func32, Try.ntmps32
  by_cases c1 : 0 ≤ L.1 ∧ L.1 ≤ 71
  rotate_left
  · go_wp2_with fail
    refine (in_f _ _ _ c1 _).mono ?_
    rintro e w2 ⟨rfl, rfl⟩
    clear l0 l1
    go_wp2
    go_ret2
    exact ⟨.slice none 0 0, rfl, World.ownsRow_nil _ _ _ _, BA.out⟩
  by_cases c2 : 0 ≤ L.2 ∧ L.2 ≤ 71
  rotate_left
  · go_wp2_with fail
    refine (in_t _ _ _ c1 _).mono ?_
    rintro e w2 ⟨rfl, rfl⟩
    go_wp2_with fail
    refine (in_f _ _ _ c2 _).mono ?_
    rintro e w2 ⟨rfl, rfl⟩
    clear l0 l1
    go_wp2
    go_ret2
    exact ⟨.slice none 0 0, rfl, World.ownsRow_nil _ _ _ _, BA.out⟩
  have hpf : okPath (K + 1) f (L.1 + 1) (L.2 + 1) 72 = false := by
    cases h : okPath (K + 1) f (L.1 + 1) (L.2 + 1) 72 with
    | false => rfl
    | true => exact (hno ⟨by omega, c1, c2, h⟩).elim
  have HC := Lib.hid (fun W hW => pathS (c := c) (some ⟨g0, o0, none⟩) (K + 1) f (L.1 + 1) (L.2 + 1) 72 W hk (by omega) (by omega) hW)
  rw [hpf] at HC
  have HC2 := Lib.hid (HC.out _ (HP.out.kept BA.out))
  clear hno hpf HC HP hL
  go_wp2_with fail
  refine (in_t _ _ _ c1 _).mono ?_
  rintro e w2 ⟨rfl, rfl⟩
  go_wp2_with fail
  refine (in_t _ _ _ c2 _).mono ?_
  rintro e w2 ⟨rfl, rfl⟩
  clear l0 l1
  go_wp2_with fail
  refine HC2.out.mono ?_
  rintro e w3 ⟨rfl, hb⟩
  have B3 := Lib.hid (BA.out.trans (hb.mono BA.out.size))
  clear hb
  go_wp2
  go_ret2
  exact ⟨.slice none 0 0, rfl, World.ownsRow_nil _ _ _ _, B3.out⟩
set_option maxRecDepth 100000 in
set_option maxHeartbeats 4000000 in
theorem revS_yes {c : Nat} (A : Option Addr) (k : Nat) (f : Nat → P2) (w : World) (hk : k ≤ 1048576) (hp : SpAt w A k f) (hv : revOk k f = true) :
    Calls Try.prog 32 #[.slice A k c] w fun e w' => ∃ v, e = .returned (.tuple #[v, .int .i64 0]) ∧ w'.ownsRow w.heap.size 76 2 v k (rws (sp2 (revAt k f)) k) ∧ Below w.heap.size w w' := by
  obtain ⟨i0, hi0, hz0, hz1, hz2⟩ := rown.info_get infoPair
  obtain ⟨hk0, c1, c2, hpf⟩ := revOk_of hv
  have hall := (okPath_of hpf).2.2.2
  obtain ⟨K, rfl⟩ : ∃ K, k = K + 1 := ⟨k - 1, by omega⟩
  simp only [Nat.add_sub_cancel] at c1 c2 hpf hall
  obtain ⟨F, hF⟩ : ∃ F : Nat → P2, F = revAt (K + 1) f := ⟨_, rfl⟩
  have HFA := Lib.hid (show ∀ j, F j = ((f K).1 - (f (K - j)).1, (f K).2 - (f (K - j)).2) from fun j => by rw [hF]; rfl)
  rw [← hF]
  clear hF hv
  have hki0 : (((K + 1 : Nat) : Int) == 0) = false := by simp; omega
  have hkd : decide ((K : Int) + 1 = 0) = false := decide_eq_false (by omega)
  have hKi : (K : Int) < (K : Int) + 1 := by omega
  have hKn : K < K + 1 := by omega
  have HP := Lib.hid hp
  obtain ⟨g0, o0, rfl, hg0, l0, l1⟩ := hp K hKn
  have HIN := Lib.hid (show ∀ x, x < K + 1 → (0 ≤ (f x).1 ∧ (f x).1 ≤ (f K).1) ∧ (0 ≤ (f x).2 ∧ (f x).2 ≤ (f K).2) from fun x hx => by
    obtain ⟨⟨a, b, -⟩, -⟩ := hall x hx
    omega)
  clear hp hall
  obtain ⟨L, hL⟩ : ∃ v, f K = v := ⟨_, rfl⟩
  rw [hL] at c1 c2 hpf l0 l1 HFA HIN
  clear hL
  have BA := Lib.hid (below_alloc1 w (.cells #[.int .i64 L.1, .int .i64 L.2] 76))
  have BK := Lib.hid (heap_alloc_new w (.cells #[.int .i64 L.1, .int .i64 L.2] 76))
  have HC := Lib.hid (fun W hW => pathS (c := c) (some ⟨g0, o0, none⟩) (K + 1) f (L.1 + 1) (L.2 + 1) 72 W hk (by omega) (by omega) hW)
  rw [hpf] at HC
  have HC2 := Lib.hid (HC.out _ (HP.out.kept BA.out))
  clear hpf HC
  go_enter Try.func32, Try.ntmps32
  go_wp2_with fail
  refine (in_t _ _ _ c1 _).mono ?_
  rintro e w2 ⟨rfl, rfl⟩
  go_wp2_with fail
  refine (in_t _ _ _ c2 _).mono ?_
  rintro e w2 ⟨rfl, rfl⟩
  clear l0 l1
  go_wp2_with fail
  refine HC2.out.mono ?_
  rintro e w3 ⟨rfl, hb⟩
  have B3 := Lib.hid (BA.out.trans (hb.mono BA.out.size))
  have K3 := Lib.hid ((hb.block _ (block_size BK.out)).trans BK.out)
  have HP3 := Lib.hid (HP.out.kept B3.out)
  clear hb HC2 BA BK HP hg0
  go_wp2
  go_loopw [6, 7] (fun o i w' => ∃ (x m d : Nat) (z : Int) (B : Option Addr), x + m = K + 1 ∧ i = .int .i64 z ∧ z + 1 = (m : Int) ∧ o = .slice B x d ∧ Hid (w'.ownsRow w3.heap.size 76 2 (.slice B x d) x (rws (sp2 F) x)) ∧ Hid (Below w3.heap.size w3 w')) (fun _ i _ => (intOf i + 1).toNat)
  case atStart => exact ⟨0, K + 1, 0, _, _, by omega, rfl, by omega, rfl, Lib.hid (empty_row w3 _ _), Lib.hid (below_alloc1 _ _)⟩
  case round =>
    obtain ⟨x, m, d, z, B, hxm, rfl, hz, rfl, HO, HB⟩ := hrel
    by_cases hlt : 0 < m
    · obtain ⟨i, rfl⟩ : ∃ i, m = i + 1 := ⟨m - 1, by omega⟩
      obtain rfl : z = (i : Int) := by omega
      have hiK : i < K + 1 := by omega
      obtain ⟨g1, o1, e1, hg, p0, p1⟩ := (HP3.out.kept HB.out) i hiK
      injection e1 with e1
      injection e1 with e1 e2
      subst e1 e2
      have KR := (HB.out.block _ (block_size K3.out)).trans K3.out
      have hgs := block_size KR
      have L0 : wr.cell? ⟨w.heap.size, 0, none⟩ = some (.int .i64 L.1) := by rw [cell_of_block KR]; rfl
      have L1 : wr.cell? ⟨w.heap.size, 1, none⟩ = some (.int .i64 L.2) := by rw [cell_of_block KR]; rfl
      have hin := HIN.out i hiK
      have HE := Lib.hid (show rws (sp2 F) (x + 1) = rws (sp2 F) x ++ [.int .i64 (L.1 - (f i).1), .int .i64 (L.2 - (f i).2)] by rw [rws_succ]; unfold sp2; rw [HFA.out x, show K - x = i by omega])
      have hxn : x < K + 1 := by omega
      have hli : (i : Int) < (K : Int) + 1 := by omega
      have hli0 : (0 : Int) ≤ (i : Int) := by omega
      have HKM := Lib.hid hxm
      clear KR hxm hz hlt
      obtain ⟨p, hpk⟩ : ∃ p, f i = p := ⟨_, rfl⟩
      rw [hpk] at p0 p1 hin HE
      clear hpk
      obtain ⟨X, hX⟩ : ∃ v, L.1 - p.1 = v := ⟨_, rfl⟩
      obtain ⟨Y, hY⟩ : ∃ v, L.2 - p.2 = v := ⟨_, rfl⟩
      have E1 : IntKind.i64.wrap (L.1 - p.1) = X := by rw [hX]; exact IntWalk.i64_in _ (by omega)
      have E2 : IntKind.i64.wrap (L.2 - p.2) = Y := by rw [hY]; exact IntWalk.i64_in _ (by omega)
      have F1 : wrap64 (L.1 - p.1) = X := by rw [← IntWalk.i64_left]; exact E1
      have F2 : wrap64 (L.2 - p.2) = Y := by rw [← IntWalk.i64_left]; exact E2
      rw [hX, hY] at HE
      clear hX hY hin
      have hzr := HB.out.size
      have HOD := Lib.hid (show wr.drew.ownsRow w3.heap.size 76 2 (.slice B x d) x (rws (sp2 F) x) from rown.ownsRow_kept HO.out (Below.refl _ _).drew)
      go_wp2
      go_region_law (refine step_append_lies _ rfl (.tmp 45) (.tmp 63) _ rfl w3.heap.size 76 i0 _ 2 16 Try.underlying38 hi0 hz0 hz1 hz2 rfl (by omega) (.slice B x d) x _ (by simp [Act.eval]) (rown.ownsRow_kept HOD.out (below_alloc1 _ _)) ⟨wr.heap.size, 0, none⟩ 1 1 [.int .i64 X, .int .i64 Y] (by simp [Act.eval]) (by simp) (two_new rfl) (by simp [Value.oneCell']) (by omega) (by simp only [maxLen]; omega) (by omega) (Nat.le_trans hzr (by simp)) _ rfl ?_; intro g3 cap3 w5 hown hgr hat hlt3; have HO3 := Lib.hid hown; have HB4 := Lib.hid (HB.out.trans ((Below.refl _ _).drew.trans (rown.under HOD.out hzr hgr))); clear hown hgr hat)
      all_goals
        clear p0 p1 L0 L1 E1 E2 F1 F2
        go_wp2
        go_roundw
        case rel => exact ⟨x + 1, i, cap3, (i : Int) - 1, some ⟨g3, 0, none⟩, by have := HKM.out; omega, by go_num, by omega, rfl, Lib.hid (by rw [HE.out]; exact HO3.out), HB4⟩
        case measure => first | (simp [intOf]; done) | (simp [intOf]; omega)
    · obtain rfl : m = 0 := by omega
      obtain rfl : z = -1 := by omega
      obtain rfl : x = K + 1 := by omega
      go_wp2
      go_ret2
      exact ⟨_, rfl, row_low HO.out B3.out.size, B3.out.trans (HB.out.mono B3.out.size)⟩
end Go.Proofs.Ytgbelodobgmlbaa.path
