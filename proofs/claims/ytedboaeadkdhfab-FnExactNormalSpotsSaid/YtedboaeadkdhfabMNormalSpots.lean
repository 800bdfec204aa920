/-
  Proved: both functions that scale places into a square return the same places, in memory of their own.
  Conditions: none.
-/
import Derived.Test.YtedboaeadkdhfabNormS
import Derived.Test.YtedboaeadkdhfabNormI
import Derived.Test.YtedboaeadkdhfabWid
import Derived.Deep.AppendLies
namespace Go.Proofs.Ytedboaeadkdhfab.wNormalSpots
open Go.ChangeShapes Go.WideShapes Go.ChangeAt Go.RowKit Go.Joins
open Go.Proofs.Ytedboaeadkdhfab.core Go.Proofs.Ytedboaeadkdhfab.rown Go.Proofs.Ytedboaeadkdhfab.stk Go.Proofs.Ytedboaeadkdhfab.boxed Go.Proofs.Ytedboaeadkdhfab.near Go.Proofs.Ytedboaeadkdhfab.norm
set_option linter.unusedVariables false
set_option linter.unusedSimpArgs false
/-- A place in the square. -/
def nm (a b c d : Int) (p : P2) : P2 := (mg (c - a) (sd a b c d) + nr ((p.1 - a) * 255) (sd a b c d), mg (d - b) (sd a b c d) + nr ((p.2 - b) * 255) (sd a b c d))
def sp2 (f : Nat → P2) (i : Nat) : List Value := [.int .i64 (f i).1, .int .i64 (f i).2]
def fi2 (f : Nat → P2) (i j : Nat) : Int := if j = 0 then (f i).1 else (f i).2
theorem sp2_len (f : Nat → P2) : ∀ i, (sp2 f i).length = 2 := fun i => rfl
theorem sp2_get (f : Nat → P2) : ∀ i j, j < 2 → (sp2 f i)[j]? = some (.int .i64 (fi2 f i j)) := fun i j hj => by
  rcases (by omega : j = 0 ∨ j = 1) with rfl | rfl <;> rfl
theorem two_new {w : World} {a b : Value} {E H : Nat} (h : w.heap.size = H) : ∀ j u, [a, b][j]? = some u → (w.alloc (.cells #[a, b] E)).cell? ((⟨H, 0, none⟩ : Addr).add j) = some u := by
  subst h
  exact new_cells (l := [a, b])
theorem infoSpot : (Try.prog.info? 87).map (fun i => (i.zero, i.size, i.bytes)) = some (some (.agg #[.int .i64 0, .int .i64 0]), 2, 16) := by kernel_rfl
theorem make2 (w : World) (E n : Nat) (cur : Array Value) (hc : cur.size = n * 2) (hn : n ≤ maxLen) : (w.alloc (.cells cur E)).ownsRow w.heap.size E 2 (.slice (some ⟨w.heap.size, 0, none⟩) 0 n) 0 [] :=
  ⟨by simp, .inr ⟨w.heap.size, n, _, rfl, Nat.le_refl _, heap_alloc_new _ _, Nat.zero_le _, hn, hc, by simp⟩⟩
theorem make0 (n : Nat) (hn : n ≤ 1048576) (w : World) : ∃ cur : Array Value, cur.size = n * 2 ∧
    (Instr.makeSlice 26 (.int .i64 0) (.int .i64 (n : Int))).run Try.prog w = .ok (.slice (some ⟨w.heap.size, 0, none⟩) 0 n) (w.alloc (.cells cur 87)) := by
  obtain ⟨i0, hi, hz0, hz1, hz2⟩ := rown.info_get infoSpot
  have hr := run_make (P := Try.prog) w 26 87 i0 _ Try.underlying26 hi hz0 .i64 .i64 0 n (by omega) (by omega) (by rw [hz2]; omega) (by omega)
  simp only [Int.toNat_natCast] at hr
  refine ⟨_, ?_, hr⟩
  rw [hz1]
  simp [madeCells]
theorem still_b {P : Program} {f : FuncId} {args : Array Value} {w : World} {v : Value} (h : Calls P f args w fun e w' => e = .returned v ∧ w = w') : Calls P f args w fun e w' => e = .returned v ∧ Below w.heap.size w w' :=
  h.mono fun _ _ ⟨he, hw⟩ => ⟨he, by rw [← hw]; exact Below.refl _ _⟩
abbrev BXT (a b c d : Int) : Obj := .cells #[.int .i64 a, .int .i64 b, .int .i64 c, .int .i64 d] 30
set_option maxRecDepth 100000 in
set_option maxHeartbeats 4000000 in
theorem spec_no {cc : Nat} (A : Option Addr) (n : Nat) (f : Nat → P2) (a b c d : Int) (w : World) (hcap : n ≤ 1048576) (hp : SpAt w A n f) (hv : okB a b c d = false) :
    Calls Try.prog 13 #[.slice A n cc, bxv a b c d] w fun e w' => ∃ v, e = .returned (.tuple #[v, .int .i64 1]) ∧ w'.ownsRow w.heap.size 87 2 v 0 (rws (sp2 fun _ => (0, 0)) 0) ∧ Below w.heap.size w w' := by
  have HS := Lib.hid (fun W => boxS a b c d false hv W)
  clear hv hp
  go_enter Try.func13, Try.ntmps13
  go_wp2_with fail
  refine (HS.out _).mono ?_
  rintro e w1 ⟨rfl, hb⟩
  have B1 := Lib.hid ((below_alloc1 w (BXT a b c d)).trans (hb.mono (below_alloc1 w (BXT a b c d)).size))
  clear hb
  go_wp2
  go_ret2
  exact ⟨.slice none 0 0, rfl, World.ownsRow_nil _ _ _ _, B1.out⟩
set_option maxRecDepth 100000 in
set_option maxHeartbeats 4000000 in
theorem impl_no {cc : Nat} (A : Option Addr) (n : Nat) (f : Nat → P2) (a b c d : Int) (w : World) (hcap : n ≤ 1048576) (hp : SpAt w A n f) (hv : okB a b c d = false) :
    Calls Try.prog 16 #[.slice A n cc, bxv a b c d] w fun e w' => ∃ v, e = .returned (.tuple #[v, .int .i64 1]) ∧ w'.ownsRow w.heap.size 87 2 v 0 (rws (sp2 fun _ => (0, 0)) 0) ∧ Below w.heap.size w w' := by
  have HS := Lib.hid (fun W => boxI a b c d false hv W)
  clear hv hp
  go_enter Try.func16, Try.ntmps16
  go_wp2_with fail
  refine (HS.out _).mono ?_
  rintro e w1 ⟨rfl, hb⟩
  have B1 := Lib.hid ((below_alloc1 w (BXT a b c d)).trans (hb.mono (below_alloc1 w (BXT a b c d)).size))
  clear hb
  go_wp2
  go_ret2
  exact ⟨.slice none 0 0, rfl, World.ownsRow_nil _ _ _ _, B1.out⟩
set_option maxRecDepth 100000 in
set_option maxHeartbeats 4000000 in
theorem impl_out {cc : Nat} (A : Option Addr) (n : Nat) (f : Nat → P2) (a b c d : Int) (w : World) (hcap : n ≤ 1048576) (hp : SpAt w A n f) (hv : okB a b c d = true) (ho : ¬ ∀ i, i < n → inb a b c d (f i) = true) :
    Calls Try.prog 16 #[.slice A n cc, bxv a b c d] w fun e w' => ∃ v, e = .returned (.tuple #[v, .int .i64 2]) ∧ w'.ownsRow w.heap.size 87 2 v 0 (rws (sp2 fun _ => (0, 0)) 0) ∧ Below w.heap.size w w' := by
  have HS := Lib.hid (fun W => boxI a b c d true hv W)
  have HC := Lib.hid (fun W hW => containsI (cc := cc) a b c d A n f false W hcap (by simpa using ho) hW)
  have HP := Lib.hid hp
  have K0 := SB_new w a b c d 30
  have HK := Lib.hid K0
  clear hv hp ho K0
  go_enter Try.func16, Try.ntmps16
  go_wp2_with fail
  refine (HS.out _).mono ?_
  rintro e w1 ⟨rfl, hb⟩
  obtain ⟨k0, k1, k2, k3, kz, kb⟩ := SB_kept hb HK.out
  have B1 := Lib.hid kb
  clear hb kb
  have HCC := Lib.hid (HC.out w1 (HP.out.kept B1.out))
  go_wp2_with fail
  refine HCC.out.mono ?_
  rintro e w2 ⟨rfl, hb⟩
  have B2 := Lib.hid (B1.out.trans (hb.mono B1.out.size))
  clear hb
  go_wp2
  go_ret2
  exact ⟨.slice none 0 0, rfl, World.ownsRow_nil _ _ _ _, B2.out⟩
set_option maxRecDepth 100000 in
set_option maxHeartbeats 4000000 in
theorem impl_yes {cc : Nat} (A : Option Addr) (n : Nat) (f : Nat → P2) (a b c d : Int) (w : World) (hcap : n ≤ 1048576) (hp : SpAt w A n f) (hv : okB a b c d = true) (ho : ∀ i, i < n → inb a b c d (f i) = true) :
    Calls Try.prog 16 #[.slice A n cc, bxv a b c d] w fun e w' => ∃ v, e = .returned (.tuple #[v, .int .i64 0]) ∧ w'.ownsRow w.heap.size 87 2 v n (rws (sp2 fun j => nm a b c d (f j)) n) ∧ Below w.heap.size w w' := by
  obtain ⟨i0, hi0, hz0, hz1, hz2⟩ := rown.info_get infoSpot
  have HS := Lib.hid (fun W => boxI a b c d true hv W)
  have HC := Lib.hid (fun W hW => containsI (cc := cc) a b c d A n f true W hcap (by simpa using ho) hW)
  have HP := Lib.hid hp
  have HO := Lib.hid ho
  have HV := Lib.hid hv
  have hd := sd_in hv
  have hb := okB_of hv
  have HW := Lib.hid (fun W => widthI a b c d hv W)
  have HH := Lib.hid (fun W => heightI a b c d hv W)
  have HSD := Lib.hid (fun W => sideI a b c d hv W)
  have HM1 := Lib.hid (fun W => marginI (c - a) (sd a b c d) (by omega) hd.2.2.1 hd.1 hd.2.1 W)
  have HM2 := Lib.hid (fun W => marginI (d - b) (sd a b c d) (by omega) hd.2.2.2 hd.1 hd.2.1 W)
  have hl1 := mg_in (x := c - a) (s := sd a b c d) (by omega) hd.2.2.1 hd.1
  have hl2 := mg_in (x := d - b) (s := sd a b c d) (by omega) hd.2.2.2 hd.1
  have HSC := Lib.hid (fun x y W hx hy => scaledI a b c d x y 255 hv hx hy (by omega) W)
  have K0 := SB_new w a b c d 30
  have HK := Lib.hid K0
  obtain ⟨F, hF⟩ : ∃ F : Nat → P2, F = fun j => nm a b c d (f j) := ⟨_, rfl⟩
  have HF := Lib.hid (show ∀ j, nm a b c d (f j) = F j from fun j => by rw [hF])
  have HNR := Lib.hid (fun (u : Int) (h0 : 0 ≤ u) (h1 : u ≤ 4095) => nr_le (m := u * 255) (D := sd a b c d) (by omega) (by omega) hd.1 hd.2.1)
  have HNM := Lib.hid (show ∀ p : P2, nm a b c d p = (mg (c - a) (sd a b c d) + nr ((p.1 - a) * 255) (sd a b c d), mg (d - b) (sd a b c d) + nr ((p.2 - b) * 255) (sd a b c d)) from fun p => rfl)
  rw [← hF]
  clear hp ho K0 hF hv
  obtain ⟨D, hD⟩ : ∃ D, sd a b c d = D := ⟨_, rfl⟩
  rw [hD] at hd HSD HM1 HM2 hl1 hl2 HSC HNM HNR
  obtain ⟨L1, hL1⟩ : ∃ L, mg (c - a) D = L := ⟨_, rfl⟩
  obtain ⟨L2, hL2⟩ : ∃ L, mg (d - b) D = L := ⟨_, rfl⟩
  rw [hL1] at HM1 hl1 HNM
  rw [hL2] at HM2 hl2 HNM
  clear hD hL1 hL2
  go_enter Try.func16, Try.ntmps16
  go_wp2_with fail
  refine (HS.out _).mono ?_
  rintro e w1 ⟨rfl, hb1⟩
  have hk1 := SB_kept hb1 HK.out
  have HK1 := Lib.hid hk1
  obtain ⟨k0, k1, k2, k3, kz, kb⟩ := hk1
  have B1 := Lib.hid kb
  clear hb1 kb
  have HCC := Lib.hid (HC.out w1 (HP.out.kept B1.out))
  go_wp2_with fail
  refine HCC.out.mono ?_
  rintro e w2 ⟨rfl, hb2⟩
  have HK2 := Lib.hid (SB_kept hb2 HK1.out)
  clear hb2 k0 k1 k2 k3 kz B1 HCC HC HS HK
  obtain ⟨k0, k1, k2, k3, kz, kb⟩ := HK2.out
  have B2 := Lib.hid kb
  clear kb
  have hmx := norm.mixed
  go_wp2
  replace k0 := cell_kept (w := w2) (a := ⟨w.heap.size, 0, none⟩) kz k0
  replace k1 := cell_kept (w := w2) (a := ⟨w.heap.size, 1, none⟩) kz k1
  replace k2 := cell_kept (w := w2) (a := ⟨w.heap.size, 2, none⟩) kz k2
  replace k3 := cell_kept (w := w2) (a := ⟨w.heap.size, 3, none⟩) kz k3
  refine wp_region_quiet_kept (by assumption) (by kernel_rfl) ?_
  repeat (first | go_big_quiet_step ((first | (go_at_call 87; with_reducible exact Calls.kept_of (HW.out _)) | (go_at_call 89; with_reducible exact Calls.kept_of (HH.out _)) | (go_at_call 88; with_reducible exact Calls.kept_of (HSD.out _)) | (go_at_call 86; first | with_reducible exact Calls.kept_of (still_b (HM1.out _)) | with_reducible exact Calls.kept_of (still_b (HM2.out _))))) | quiet_step ((first | (go_at_call 87; with_reducible exact Calls.kept_of (HW.out _)) | (go_at_call 89; with_reducible exact Calls.kept_of (HH.out _)) | (go_at_call 88; with_reducible exact Calls.kept_of (HSD.out _)) | (go_at_call 86; first | with_reducible exact Calls.kept_of (still_b (HM1.out _)) | with_reducible exact Calls.kept_of (still_b (HM2.out _))))))
  refine wpQuiet_nil ?_
  intro w3 hw'
  have hB : Below w2.heap.size w2 w3 := by obtain ⟨⟨wk, hb0⟩, hw''⟩ := hw'; rw [hw'']; exact hb0
  have HK3 := Lib.hid (SB_kept hB HK2.out)
  clear hw' hB k0 k1 k2 k3
  have B3 := Lib.hid HK3.out.2.2.2.2.2
  have HP3 := Lib.hid (HP.out.kept B3.out)
  obtain ⟨cur, hcu, hmk⟩ := make0 n hcap w3
  have HCU := Lib.hid hcu
  clear hcu hmx HM1 HM2 HW HH HSD HK2 HK1 B2 HP
  go_wp2
  clear hmk
  go_loopw [8, 34] (fun o i w' => ∃ (k e : Nat) (B : Option Addr), k ≤ n ∧ i = .int .i64 (k : Int) ∧ o = .slice B k e ∧ Hid (w'.ownsRow w3.heap.size 87 2 (.slice B k e) k (rws (sp2 F) k)) ∧ Hid (Below w3.heap.size w3 w')) (fun _ i _ => n - (intOf i).toNat)
  case atStart => exact ⟨0, n, _, Nat.zero_le _, rfl, rfl, Lib.hid (make2 _ _ _ _ HCU.out (by simp only [maxLen]; omega)), Lib.hid (below_alloc1 _ _)⟩
  case round =>
    obtain ⟨k, e, B, hk, rfl, rfl, HOW, HB⟩ := hrel
    by_cases hlt : k < n
    · obtain ⟨g, o', rfl, hg, p0, p1⟩ := (HP3.out.kept HB.out) k hlt
      have hin := inb_of (HO.out k hlt)
      have HCL := Lib.hid (fun W => HSC.out (f k).1 (f k).2 W hin.1 hin.2)
      have hn1 := HNR.out ((f k).1 - a) (by omega) (by omega)
      have hn2 := HNR.out ((f k).2 - b) (by omega) (by omega)
      have HE := Lib.hid (show rws (sp2 F) (k + 1) = rws (sp2 F) k ++ [.int .i64 (L1 + nr (((f k).1 - a) * 255) D), .int .i64 (L2 + nr (((f k).2 - b) * 255) D)] by rw [rws_succ]; unfold sp2; rw [← HF.out k, HNM.out])
      obtain ⟨p, hpk⟩ : ∃ p, f k = p := ⟨_, rfl⟩
      rw [hpk] at p0 p1 HCL HE hn1 hn2
      obtain ⟨N1, hN1⟩ : ∃ N, nr ((p.1 - a) * 255) D = N := ⟨_, rfl⟩
      obtain ⟨N2, hN2⟩ : ∃ N, nr ((p.2 - b) * 255) D = N := ⟨_, rfl⟩
      rw [hN1] at HCL HE hn1
      rw [hN2] at HCL HE hn2
      obtain ⟨k0, k1, k2, k3, kz, -⟩ := SB_kept HB.out HK3.out
      have hli : (k : Int) < (n : Int) := by omega
      clear hpk hN1 hN2 hin
      go_wp2_with (first
        | (go_at_call 90; (with_reducible refine (HCL.out _).mono ?_); rintro e w4 ⟨rfl, hb⟩; have HKK := Lib.hid (((below_alloc1 wr (.cells #[.int .i64 p.1, .int .i64 p.2] 87)).trans (hb.mono (below_alloc1 wr _).size))); clear hb; have HB4 := Lib.hid ((HB.out.trans (HKK.out.mono HB.out.size)).trans ((below_alloc1 w4 (.cells #[.int .i64 N1, .int .i64 N2] 87)).mono (HB.out.trans (HKK.out.mono HB.out.size)).size)); have HO4 := Lib.hid (rown.ownsRow_kept (rown.ownsRow_kept HOW.out HKK.out) (below_alloc1 w4 (.cells #[.int .i64 N1, .int .i64 N2] 87))); clear k0 k1 k2 k3 kz p0 p1 hg)
        | (at_builtin
           have z0 := rown.ownsRow_kept HO4.out (below_alloc1 (w4.alloc (.cells #[.int .i64 N1, .int .i64 N2] 87)) (.cells #[.int .i64 (L1 + N1), .int .i64 (L2 + N2)] 87))
           have z2 : ∀ u ∈ [Value.int .i64 (L1 + N1), Value.int .i64 (L2 + N2)], u.oneCell' = true := (by simp [Value.oneCell'])
           have z3 : k + 1 ≤ maxLen := (by simp only [maxLen]; omega)
           have z4 : (k + 1) * 16 ≤ 140737488355328 := (by omega)
           have z5 : w3.heap.size ≤ ((w4.alloc (.cells #[.int .i64 N1, .int .i64 N2] 87)).alloc (.cells #[.int .i64 (L1 + N1), .int .i64 (L2 + N2)] 87)).heap.size := (Nat.le_trans HB4.out.size (by simp))
           refine wpList_append_lies ((w4.alloc (.cells #[.int .i64 N1, .int .i64 N2] 87)).alloc (.cells #[.int .i64 (L1 + N1), .int .i64 (L2 + N2)] 87)) rfl _ _ 26 rfl w3.heap.size 87 i0 _ 2 16 Try.underlying26 hi0 hz0 hz1 hz2 rfl (by decide) (.slice B k e) k _ rfl z0 ⟨w4.heap.size + 1, 0, none⟩ 1 1 [.int .i64 (L1 + N1), .int .i64 (L2 + N2)] rfl rfl (two_new (by simp)) z2 (by decide) z3 z4 z5 _ rfl ?_
           intro g3 cap3 w5 hown hgr hat hlt3
           have HO5 := Lib.hid hown
           have HB5 := Lib.hid (HB4.out.trans (rown.under HO4.out HB4.out.size hgr))
           clear hown hgr hat z0 z2 z3 z4 z5))
      go_roundw
      case rel => exact ⟨k + 1, cap3, some ⟨g3, 0, none⟩, by omega, by go_num, rfl, Lib.hid (by rw [HE.out]; exact HO5.out), HB5⟩
      case measure => simp [intOf]; omega
    · obtain rfl : k = n := by omega
      go_wp2
      go_ret2
      exact ⟨_, rfl, row_low HOW.out B3.out.size, B3.out.trans (HB.out.mono B3.out.size)⟩
/-! spec -/
set_option maxRecDepth 100000 in
set_option maxHeartbeats 4000000 in
theorem spec_yes {cc : Nat} (A : Option Addr) (n : Nat) (f : Nat → P2) (a b c d : Int) (w : World) (hcap : n ≤ 1048576) (hp : SpAt w A n f) (hv : okB a b c d = true) (ho : ∀ i, i < n → inb a b c d (f i) = true) :
    Calls Try.prog 13 #[.slice A n cc, bxv a b c d] w fun e w' => ∃ v, e = .returned (.tuple #[v, .int .i64 0]) ∧ w'.ownsRow w.heap.size 87 2 v n (rws (sp2 fun j => nm a b c d (f j)) n) ∧ Below w.heap.size w w' := by
  obtain ⟨i0, hi0, hz0, hz1, hz2⟩ := rown.info_get infoSpot
  have HS := Lib.hid (fun W => boxS a b c d true hv W)
  have HP := Lib.hid hp
  have HO := Lib.hid ho
  have HNS := Lib.hid (fun (q : P2) W hx hy => normalS a b c d q.1 q.2 hv hx hy W)
  have K0 := SB_new w a b c d 30
  have HK := Lib.hid K0
  obtain ⟨F, hF⟩ : ∃ F : Nat → P2, F = fun j => nm a b c d (f j) := ⟨_, rfl⟩
  have HF := Lib.hid (show ∀ j, nm a b c d (f j) = F j from fun j => by rw [hF])
  have HNM := Lib.hid (show ∀ p : P2, nm a b c d p = (mg (c - a) (sd a b c d) + nr ((p.1 - a) * 255) (sd a b c d), mg (d - b) (sd a b c d) + nr ((p.2 - b) * 255) (sd a b c d)) from fun p => rfl)
  rw [← hF]
  clear hp ho K0 hF hv
  go_enter Try.func13, Try.ntmps13
  go_wp2_with fail
  refine (HS.out _).mono ?_
  rintro e w1 ⟨rfl, hb1⟩
  have HK1 := Lib.hid (SB_kept hb1 HK.out)
  have B1 := Lib.hid HK1.out.2.2.2.2.2
  have HP1 := Lib.hid (HP.out.kept B1.out)
  clear hb1 HK HP HS
  go_wp2
  go_loopw [6, 7] (fun o i w' => ∃ (k e : Nat) (B : Option Addr), k ≤ n ∧ i = .int .i64 (k : Int) ∧ o = .slice B k e ∧ Hid (∀ j, j < k → inb a b c d (f j) = true) ∧ Hid (w'.ownsRow w1.heap.size 87 2 (.slice B k e) k (rws (sp2 F) k)) ∧ Hid (Below w1.heap.size w1 w')) (fun _ i _ => n - (intOf i).toNat)
  case atStart => exact ⟨0, 0, _, Nat.zero_le _, rfl, rfl, Lib.hid (fun j hj => absurd hj (by omega)), Lib.hid (empty_row w1 _ _), Lib.hid (below_alloc1 _ _)⟩
  case round =>
    obtain ⟨k, e, B, hk, rfl, rfl, HA, HOW, HB⟩ := hrel
    by_cases hlt : k < n
    · obtain ⟨g, o', rfl, hg, p0, p1⟩ := (HP1.out.kept HB.out) k hlt
      obtain ⟨k0, k1, k2, k3, kz, -⟩ := SB_kept HB.out HK1.out
      have hli : (k : Int) < (n : Int) := by omega
      have hli0 : (0 : Int) ≤ (k : Int) := by omega
      have hwk : IntKind.i64.wrap (k : Int) = (k : Int) := IntWalk.i64_in _ (by omega)
      have HQ := Lib.hid (And.intro hg (And.intro p0 (And.intro p1 (And.intro k0 (And.intro k1 (And.intro k2 (And.intro k3 kz)))))))
      have hmx := norm.mixed
      have hu : undef = Value.tuple #[] := rfl
      by_cases hxx : a ≤ (f k).1 ∧ (f k).1 ≤ c
      · by_cases hyy : b ≤ (f k).2 ∧ (f k).2 ≤ d
        · have HCL := Lib.hid (fun W => HNS.out (f k) W hxx hyy)
          have HA2 := Lib.hid (show ∀ j, j < k + 1 → inb a b c d (f j) = true from fun j hj => by
            rcases Nat.lt_or_ge j k with h' | h'
            · exact HA.out j h'
            · obtain rfl : j = k := by omega
              exact decide_eq_true ⟨hxx, hyy⟩)
          have HE := Lib.hid (show rws (sp2 F) (k + 1) = rws (sp2 F) k ++ [.int .i64 (mg (c - a) (sd a b c d) + nr (((f k).1 - a) * 255) (sd a b c d)), .int .i64 (mg (d - b) (sd a b c d) + nr (((f k).2 - b) * 255) (sd a b c d))] by rw [rws_succ]; unfold sp2; rw [← HF.out k, HNM.out])
          have HX := Lib.hid (fun W => in_t (f k).1 a c hxx W)
          have HY := Lib.hid (fun W => in_t (f k).2 b d hyy W)
          clear hxx hyy
          obtain ⟨p, hpk⟩ : ∃ p, f k = p := ⟨_, rfl⟩
          rw [hpk] at p0 p1 HX HY HCL HE HQ
          clear hpk
          go_wp2
          replace p0 := cell_kept (w := wr) (a := ⟨g, o' + k * 2, none⟩) hg p0
          replace p1 := cell_kept (w := wr) (a := ⟨g, o' + k * 2 + 1, none⟩) hg p1
          replace k0 := cell_kept (w := wr) (a := ⟨w.heap.size, 0, none⟩) kz k0
          replace k1 := cell_kept (w := wr) (a := ⟨w.heap.size, 1, none⟩) kz k1
          replace k2 := cell_kept (w := wr) (a := ⟨w.heap.size, 2, none⟩) kz k2
          replace k3 := cell_kept (w := wr) (a := ⟨w.heap.size, 3, none⟩) kz k3
          refine wp_region_quiet_kept (by assumption) (by kernel_rfl) ?_
          repeat (first | go_big_quiet_step ((first | (go_at_call 80; first | with_reducible exact Calls.kept_of (still_b (HX.out _)) | with_reducible exact Calls.kept_of (still_b (HY.out _))))) | quiet_step ((first | (go_at_call 80; first | with_reducible exact Calls.kept_of (still_b (HX.out _)) | with_reducible exact Calls.kept_of (still_b (HY.out _))))))
          refine wpQuiet_nil ?_
          intro w7 hw'
          have hB7 : Below wr.heap.size wr w7 := by obtain ⟨⟨wk, hb0⟩, hw''⟩ := hw'; rw [hw'']; exact hb0
          clear hw' p0 p1 k0 k1 k2 k3 hu
          obtain ⟨X, hX⟩ : ∃ N, mg (c - a) (sd a b c d) + nr ((p.1 - a) * 255) (sd a b c d) = N := ⟨_, rfl⟩
          obtain ⟨Y, hY⟩ : ∃ N, mg (d - b) (sd a b c d) + nr ((p.2 - b) * 255) (sd a b c d) = N := ⟨_, rfl⟩
          rw [hX, hY] at HCL HE
          have HB7 := Lib.hid (HB.out.trans (hB7.mono HB.out.size))
          have HO7 := Lib.hid (rown.ownsRow_kept HOW.out hB7)
          have hg7 : g < w7.heap.size := Nat.lt_of_lt_of_le HQ.out.1 hB7.size
          have q0 := (hB7.cell (p := ⟨g, o' + k * 2, none⟩) HQ.out.1).trans HQ.out.2.1
          have q1 := (hB7.cell (p := ⟨g, o' + k * 2 + 1, none⟩) HQ.out.1).trans HQ.out.2.2.1
          have kz' := HQ.out.2.2.2.2.2.2.2
          have k0 := (hB7.cell (p := ⟨w.heap.size, 0, none⟩) kz').trans HQ.out.2.2.2.1
          have k1 := (hB7.cell (p := ⟨w.heap.size, 1, none⟩) kz').trans HQ.out.2.2.2.2.1
          have k2 := (hB7.cell (p := ⟨w.heap.size, 2, none⟩) kz').trans HQ.out.2.2.2.2.2.1
          have k3 := (hB7.cell (p := ⟨w.heap.size, 3, none⟩) kz').trans HQ.out.2.2.2.2.2.2.1
          have kz7 : w.heap.size < w7.heap.size := Nat.lt_of_lt_of_le kz' hB7.size
          clear hX hY hB7 kz' kz hg HX HY
          go_wp2
          go_region_law (first
            | (refine step_append_lies _ rfl (.tmp 42) (.tmp 49) _ rfl w1.heap.size 87 i0 _ 2 16 Try.underlying26 hi0 hz0 hz1 hz2 rfl (by omega) (.slice B k e) k _ (by simp [Act.eval]) (rown.ownsRow_kept HO4.out (below_alloc1 _ _)) ⟨w4.heap.size, 0, none⟩ 1 1 [.int .i64 X, .int .i64 Y] (by simp [Act.eval]) (by simp) (two_new rfl) (by simp [Value.oneCell']) (by omega) (by simp only [maxLen]; omega) (by omega) (Nat.le_trans HB4.out.size (by simp)) _ rfl ?_; intro g3 cap3 w5 hown hgr hat hlt3; have HO5 := Lib.hid hown; have HB5 := Lib.hid (HB4.out.trans (rown.under HO4.out HB4.out.size hgr)); clear hown hgr hat)
            | (go_simp; go_at_call 81; (with_reducible refine (HCL.out _).mono ?_); rintro e w4 ⟨rfl, hb⟩; have hb' := (Below.refl w7.heap.size w7).drew.trans hb; have HB4 := Lib.hid (HB7.out.trans (hb'.mono HB7.out.size)); have HO4 := Lib.hid (rown.ownsRow_kept HO7.out hb'); clear hb hb'))
          all_goals
            clear q0 q1 k0 k1 k2 k3 hg7 kz7
            go_wp2
            go_roundw
            case rel => exact ⟨k + 1, cap3, some ⟨g3, 0, none⟩, by omega, by go_num, rfl, HA2, Lib.hid (by rw [HE.out]; exact HO5.out), HB5⟩
            case measure => simp [intOf]; omega
        · exact absurd (inb_of (HO.out k hlt)) (fun h => hyy h.2)
      · exact absurd (inb_of (HO.out k hlt)) (fun h => hxx h.1)
    · obtain rfl : k = n := by omega
      go_wp2
      go_ret2
      exact ⟨_, rfl, row_low HOW.out B1.out.size, B1.out.trans (HB.out.mono B1.out.size)⟩
set_option maxRecDepth 100000 in
set_option maxHeartbeats 4000000 in
theorem spec_out {cc : Nat} (A : Option Addr) (n : Nat) (f : Nat → P2) (a b c d : Int) (w : World) (hcap : n ≤ 1048576) (hp : SpAt w A n f) (hv : okB a b c d = true) (ho : ¬ ∀ i, i < n → inb a b c d (f i) = true) :
    Calls Try.prog 13 #[.slice A n cc, bxv a b c d] w fun e w' => ∃ v, e = .returned (.tuple #[v, .int .i64 2]) ∧ w'.ownsRow w.heap.size 87 2 v 0 (rws (sp2 fun _ => (0, 0)) 0) ∧ Below w.heap.size w w' := by
  obtain ⟨i0, hi0, hz0, hz1, hz2⟩ := rown.info_get infoSpot
  have HS := Lib.hid (fun W => boxS a b c d true hv W)
  have HP := Lib.hid hp
  have HO := Lib.hid ho
  have HNS := Lib.hid (fun (q : P2) W hx hy => normalS a b c d q.1 q.2 hv hx hy W)
  have K0 := SB_new w a b c d 30
  have HK := Lib.hid K0
  obtain ⟨F, hF⟩ : ∃ F : Nat → P2, F = fun j => nm a b c d (f j) := ⟨_, rfl⟩
  have HF := Lib.hid (show ∀ j, nm a b c d (f j) = F j from fun j => by rw [hF])
  have HNM := Lib.hid (show ∀ p : P2, nm a b c d p = (mg (c - a) (sd a b c d) + nr ((p.1 - a) * 255) (sd a b c d), mg (d - b) (sd a b c d) + nr ((p.2 - b) * 255) (sd a b c d)) from fun p => rfl)

  clear hp ho K0 hF hv
  go_enter Try.func13, Try.ntmps13
  go_wp2_with fail
  refine (HS.out _).mono ?_
  rintro e w1 ⟨rfl, hb1⟩
  have HK1 := Lib.hid (SB_kept hb1 HK.out)
  have B1 := Lib.hid HK1.out.2.2.2.2.2
  have HP1 := Lib.hid (HP.out.kept B1.out)
  clear hb1 HK HP HS
  go_wp2
  go_loopw [6, 7] (fun o i w' => ∃ (k e : Nat) (B : Option Addr), k ≤ n ∧ i = .int .i64 (k : Int) ∧ o = .slice B k e ∧ Hid (∀ j, j < k → inb a b c d (f j) = true) ∧ Hid (w'.ownsRow w1.heap.size 87 2 (.slice B k e) k (rws (sp2 F) k)) ∧ Hid (Below w1.heap.size w1 w')) (fun _ i _ => n - (intOf i).toNat)
  case atStart => exact ⟨0, 0, _, Nat.zero_le _, rfl, rfl, Lib.hid (fun j hj => absurd hj (by omega)), Lib.hid (empty_row w1 _ _), Lib.hid (below_alloc1 _ _)⟩
  case round =>
    obtain ⟨k, e, B, hk, rfl, rfl, HA, HOW, HB⟩ := hrel
    by_cases hlt : k < n
    · obtain ⟨g, o', rfl, hg, p0, p1⟩ := (HP1.out.kept HB.out) k hlt
      obtain ⟨k0, k1, k2, k3, kz, -⟩ := SB_kept HB.out HK1.out
      have hli : (k : Int) < (n : Int) := by omega
      have hli0 : (0 : Int) ≤ (k : Int) := by omega
      have hwk : IntKind.i64.wrap (k : Int) = (k : Int) := IntWalk.i64_in _ (by omega)
      have HQ := Lib.hid (And.intro hg (And.intro p0 (And.intro p1 (And.intro k0 (And.intro k1 (And.intro k2 (And.intro k3 kz)))))))
      have hmx := norm.mixed
      have hu : undef = Value.tuple #[] := rfl
      by_cases hxx : a ≤ (f k).1 ∧ (f k).1 ≤ c
      · by_cases hyy : b ≤ (f k).2 ∧ (f k).2 ≤ d
        · have HCL := Lib.hid (fun W => HNS.out (f k) W hxx hyy)
          have HA2 := Lib.hid (show ∀ j, j < k + 1 → inb a b c d (f j) = true from fun j hj => by
            rcases Nat.lt_or_ge j k with h' | h'
            · exact HA.out j h'
            · obtain rfl : j = k := by omega
              exact decide_eq_true ⟨hxx, hyy⟩)
          have HE := Lib.hid (show rws (sp2 F) (k + 1) = rws (sp2 F) k ++ [.int .i64 (mg (c - a) (sd a b c d) + nr (((f k).1 - a) * 255) (sd a b c d)), .int .i64 (mg (d - b) (sd a b c d) + nr (((f k).2 - b) * 255) (sd a b c d))] by rw [rws_succ]; unfold sp2; rw [← HF.out k, HNM.out])
          have HX := Lib.hid (fun W => in_t (f k).1 a c hxx W)
          have HY := Lib.hid (fun W => in_t (f k).2 b d hyy W)
          clear hxx hyy
          obtain ⟨p, hpk⟩ : ∃ p, f k = p := ⟨_, rfl⟩
          rw [hpk] at p0 p1 HX HY HCL HE HQ
          clear hpk
          go_wp2
          replace p0 := cell_kept (w := wr) (a := ⟨g, o' + k * 2, none⟩) hg p0
          replace p1 := cell_kept (w := wr) (a := ⟨g, o' + k * 2 + 1, none⟩) hg p1
          replace k0 := cell_kept (w := wr) (a := ⟨w.heap.size, 0, none⟩) kz k0
          replace k1 := cell_kept (w := wr) (a := ⟨w.heap.size, 1, none⟩) kz k1
          replace k2 := cell_kept (w := wr) (a := ⟨w.heap.size, 2, none⟩) kz k2
          replace k3 := cell_kept (w := wr) (a := ⟨w.heap.size, 3, none⟩) kz k3
          refine wp_region_quiet_kept (by assumption) (by kernel_rfl) ?_
          repeat (first | go_big_quiet_step ((first | (go_at_call 80; first | with_reducible exact Calls.kept_of (still_b (HX.out _)) | with_reducible exact Calls.kept_of (still_b (HY.out _))))) | quiet_step ((first | (go_at_call 80; first | with_reducible exact Calls.kept_of (still_b (HX.out _)) | with_reducible exact Calls.kept_of (still_b (HY.out _))))))
          refine wpQuiet_nil ?_
          intro w7 hw'
          have hB7 : Below wr.heap.size wr w7 := by obtain ⟨⟨wk, hb0⟩, hw''⟩ := hw'; rw [hw'']; exact hb0
          clear hw' p0 p1 k0 k1 k2 k3 hu
          obtain ⟨X, hX⟩ : ∃ N, mg (c - a) (sd a b c d) + nr ((p.1 - a) * 255) (sd a b c d) = N := ⟨_, rfl⟩
          obtain ⟨Y, hY⟩ : ∃ N, mg (d - b) (sd a b c d) + nr ((p.2 - b) * 255) (sd a b c d) = N := ⟨_, rfl⟩
          rw [hX, hY] at HCL HE
          have HB7 := Lib.hid (HB.out.trans (hB7.mono HB.out.size))
          have HO7 := Lib.hid (rown.ownsRow_kept HOW.out hB7)
          have hg7 : g < w7.heap.size := Nat.lt_of_lt_of_le HQ.out.1 hB7.size
          have q0 := (hB7.cell (p := ⟨g, o' + k * 2, none⟩) HQ.out.1).trans HQ.out.2.1
          have q1 := (hB7.cell (p := ⟨g, o' + k * 2 + 1, none⟩) HQ.out.1).trans HQ.out.2.2.1
          have kz' := HQ.out.2.2.2.2.2.2.2
          have k0 := (hB7.cell (p := ⟨w.heap.size, 0, none⟩) kz').trans HQ.out.2.2.2.1
          have k1 := (hB7.cell (p := ⟨w.heap.size, 1, none⟩) kz').trans HQ.out.2.2.2.2.1
          have k2 := (hB7.cell (p := ⟨w.heap.size, 2, none⟩) kz').trans HQ.out.2.2.2.2.2.1
          have k3 := (hB7.cell (p := ⟨w.heap.size, 3, none⟩) kz').trans HQ.out.2.2.2.2.2.2.1
          have kz7 : w.heap.size < w7.heap.size := Nat.lt_of_lt_of_le kz' hB7.size
          clear hX hY hB7 kz' kz hg HX HY
          go_wp2
          go_region_law (first
            | (refine step_append_lies _ rfl (.tmp 42) (.tmp 49) _ rfl w1.heap.size 87 i0 _ 2 16 Try.underlying26 hi0 hz0 hz1 hz2 rfl (by omega) (.slice B k e) k _ (by simp [Act.eval]) (rown.ownsRow_kept HO4.out (below_alloc1 _ _)) ⟨w4.heap.size, 0, none⟩ 1 1 [.int .i64 X, .int .i64 Y] (by simp [Act.eval]) (by simp) (two_new rfl) (by simp [Value.oneCell']) (by omega) (by simp only [maxLen]; omega) (by omega) (Nat.le_trans HB4.out.size (by simp)) _ rfl ?_; intro g3 cap3 w5 hown hgr hat hlt3; have HO5 := Lib.hid hown; have HB5 := Lib.hid (HB4.out.trans (rown.under HO4.out HB4.out.size hgr)); clear hown hgr hat)
            | (go_simp; go_at_call 81; (with_reducible refine (HCL.out _).mono ?_); rintro e w4 ⟨rfl, hb⟩; have hb' := (Below.refl w7.heap.size w7).drew.trans hb; have HB4 := Lib.hid (HB7.out.trans (hb'.mono HB7.out.size)); have HO4 := Lib.hid (rown.ownsRow_kept HO7.out hb'); clear hb hb'))
          all_goals
            clear q0 q1 k0 k1 k2 k3 hg7 kz7
            go_wp2
            go_roundw
            case rel => exact ⟨k + 1, cap3, some ⟨g3, 0, none⟩, by omega, by go_num, rfl, HA2, Lib.hid (by rw [HE.out]; exact HO5.out), HB5⟩
            case measure => simp [intOf]; omega
        · have HX := Lib.hid (fun W => in_t (f k).1 a c hxx W)
          have HY := Lib.hid (fun W => in_f (f k).2 b d hyy W)
          clear hxx hyy
          obtain ⟨p, hpk⟩ : ∃ p, f k = p := ⟨_, rfl⟩
          rw [hpk] at p0 p1 HX HY
          clear hpk
          go_wp2
          replace p0 := cell_kept (w := wr) (a := ⟨g, o' + k * 2, none⟩) hg p0
          replace p1 := cell_kept (w := wr) (a := ⟨g, o' + k * 2 + 1, none⟩) hg p1
          replace k0 := cell_kept (w := wr) (a := ⟨w.heap.size, 0, none⟩) kz k0
          replace k1 := cell_kept (w := wr) (a := ⟨w.heap.size, 1, none⟩) kz k1
          replace k2 := cell_kept (w := wr) (a := ⟨w.heap.size, 2, none⟩) kz k2
          replace k3 := cell_kept (w := wr) (a := ⟨w.heap.size, 3, none⟩) kz k3
          refine wp_region_quiet_kept (by assumption) (by kernel_rfl) ?_
          repeat (first | go_big_quiet_step ((first | (go_at_call 80; first | with_reducible exact Calls.kept_of (still_b (HX.out _)) | with_reducible exact Calls.kept_of (still_b (HY.out _))))) | quiet_step ((first | (go_at_call 80; first | with_reducible exact Calls.kept_of (still_b (HX.out _)) | with_reducible exact Calls.kept_of (still_b (HY.out _))))))
          refine wpQuiet_nil ?_
          intro w7 hw'
          have hB7 : Below wr.heap.size wr w7 := by obtain ⟨⟨wk, hb0⟩, hw''⟩ := hw'; rw [hw'']; exact hb0
          clear hw' p0 p1 k0 k1 k2 k3 hu
          have BE := Lib.hid (B1.out.trans ((HB.out.trans (hB7.mono HB.out.size)).mono B1.out.size))
          clear hB7
          go_wp2
          go_ret2
          exact ⟨.slice none 0 0, rfl, World.ownsRow_nil _ _ _ _, BE.out⟩
      · have HX := Lib.hid (fun W => in_f (f k).1 a c hxx W)
        clear hxx
        obtain ⟨p, hpk⟩ : ∃ p, f k = p := ⟨_, rfl⟩
        rw [hpk] at p0 p1 HX
        clear hpk
        go_wp2
        replace p0 := cell_kept (w := wr) (a := ⟨g, o' + k * 2, none⟩) hg p0
        replace p1 := cell_kept (w := wr) (a := ⟨g, o' + k * 2 + 1, none⟩) hg p1
        replace k0 := cell_kept (w := wr) (a := ⟨w.heap.size, 0, none⟩) kz k0
        replace k1 := cell_kept (w := wr) (a := ⟨w.heap.size, 1, none⟩) kz k1
        replace k2 := cell_kept (w := wr) (a := ⟨w.heap.size, 2, none⟩) kz k2
        replace k3 := cell_kept (w := wr) (a := ⟨w.heap.size, 3, none⟩) kz k3
        refine wp_region_quiet_kept (by assumption) (by kernel_rfl) ?_
        repeat (first | go_big_quiet_step ((first | (go_at_call 80; first | with_reducible exact Calls.kept_of (still_b (HX.out _))))) | quiet_step ((first | (go_at_call 80; first | with_reducible exact Calls.kept_of (still_b (HX.out _))))))
        refine wpQuiet_nil ?_
        intro w7 hw'
        have hB7 : Below wr.heap.size wr w7 := by obtain ⟨⟨wk, hb0⟩, hw''⟩ := hw'; rw [hw'']; exact hb0
        clear hw' p0 p1 k0 k1 k2 k3 hu
        have BE := Lib.hid (B1.out.trans ((HB.out.trans (hB7.mono HB.out.size)).mono B1.out.size))
        clear hB7
        go_wp2
        go_ret2
        exact ⟨.slice none 0 0, rfl, World.ownsRow_nil _ _ _ _, BE.out⟩
    · obtain rfl : k = n := by omega
      exact absurd HA.out HO.out
def bq (g : Nat → Dat) (q : Nat) : Int := dInt (g q)
theorem reads_box {W : World} {us : Nat → Value} {g : Nat → Dat} (h : ReadsRec W 4 us g) (ht : tyrBox g) : (.agg #[us 0, us 1, us 2, us 3] : Value) = bxv (bq g 0) (bq g 1) (bq g 2) (bq g 3) := by
  obtain ⟨⟨x, hx⟩, ⟨y, hy⟩, ⟨z, hz⟩, ⟨t, htt⟩⟩ := ht
  have h0 := h 0 (by omega)
  have h1 := h 1 (by omega)
  have h2 := h 2 (by omega)
  have h3 := h 3 (by omega)
  rw [hx] at h0
  rw [hy] at h1
  rw [hz] at h2
  rw [htt] at h3
  rw [h0.int_inv.1, h1.int_inv.1, h2.int_inv.1, h3.int_inv.1]
  simp [bq, hx, hy, hz, htt, dInt]
theorem le_cost (n k : Nat) (f : Nat → Nat → Dat) : n ≤ cost (.sl n k f) := by
  simp only [cost]
  omega
def spN (g : Nat → Dat) : Nat := dLen (g 0)
def spF (g : Nat → Dat) : Nat → P2 := fun i => (dInt (dFun (g 0) i 0), dInt (dFun (g 0) i 1))
theorem reads_sps {W : World} {us : Nat → Value} {g : Nat → Dat} (h : ReadsRec W 1 us g) (ht : tyrSpotS g) (hq : costRec 1 g ≤ 1048576) :
    ∃ A c, us 0 = .slice A (spN g) c ∧ spN g ≤ 1048576 ∧ SpAt W A (spN g) (spF g) := by
  have ht' := ht
  obtain ⟨n, f, hg, hf⟩ := ht
  have h0 := h 0 (by omega)
  rw [hg] at h0
  obtain ⟨A, c, hv, hn, hR⟩ := h0.sl_inv
  have hT : tySpotS (.sl n 2 f) := ⟨n, f, rfl, hf⟩
  have e1 : spN g = n := by simp [spN, hg, dLen]
  have hc := le_cost n 2 f
  have hq' : cost (.sl n 2 f) ≤ 1048576 := by
    have e : costRec 1 g = cost (.sl n 2 f) := by simp [costRec, sumTo, hg]
    rw [← e]; exact hq
  refine ⟨A, c, by rw [hv, e1], by omega, fun i hi => ?_⟩
  rw [e1] at hi
  obtain ⟨b, o, e, hb, ⟨c0, -⟩, ⟨c1, -⟩⟩ := viewSpotS hR hT i hi
  refine ⟨b, o, e, hb, ?_, ?_⟩
  · rw [c0]; simp [spF, hg, dFun]
  · rw [c1]; simp [spF, hg, dFun]
theorem in_all {n : Nat} {f : Nat → P2} {a b c d : Int} (hv : okB a b c d = true) (ho : ∀ i, i < n → inb a b c d (f i) = true) : ∀ i j, i < n → j < 2 → inI64 (fi2 (fun j => nm a b c d (f j)) i j) := fun i j hi hj => by
  have h := inb_of (ho i hi)
  have hd := sd_in hv
  have hb := okB_of hv
  have l1 := mg_in (x := c - a) (s := sd a b c d) (by omega) hd.2.2.1 hd.1
  have l2 := mg_in (x := d - b) (s := sd a b c d) (by omega) hd.2.2.2 hd.1
  have n1 := nr_le (m := ((f i).1 - a) * 255) (D := sd a b c d) (by omega) (by omega) hd.1 hd.2.1
  have n2 := nr_le (m := ((f i).2 - b) * 255) (D := sd a b c d) (by omega) (by omega) hd.1 hd.2.1
  unfold fi2 inI64 nm
  split <;> (simp only; omega)
theorem ty_of (n : Nat) (f : Nat → Nat → Int) : tyrSpotS (datRows n 2 f) := ⟨n, _, rfl, fun i _ => ⟨⟨_, rfl⟩, ⟨_, rfl⟩⟩⟩
theorem meat (vs0 : Nat → Value) (g0 : Nat → Dat) (vs1 : Nat → Value) (g1 : Nat → Dat) (ht0 : tyrSpotS g0) (ht1 : tyrBox g1) :
    costRec 1 g0 ≤ 1048576 → ∃ (R : Nat → Dat) (r1 : Int), tyrSpotS R ∧ cntRec 1 R ≤ 100000000000 ∧ (∀ (W : World) (us0 : Nat → Value) (us1 : Nat → Value), ReadsRec W 1 us0 g0 → (∃ (A : Option Addr) (n c : Nat), us0 0 = .slice A n c ∧ n ≤ c) → ReadsRec W 4 us1 g1 → Calls Try.prog 13 #[us0 0, .agg #[us1 0, us1 1, us1 2, us1 3]] W fun e W' => ∃ xs : Nat → Value, e = .returned (.tuple #[xs 0, .int .i64 r1]) ∧ OwnRec W' 1 xs R (iv W.heap.size W'.heap.size) ∧ Below W.heap.size W W') ∧ (∀ (W : World) (us0 : Nat → Value) (us1 : Nat → Value), ReadsRec W 1 us0 g0 → (∃ (A : Option Addr) (n c : Nat), us0 0 = .slice A n c ∧ n ≤ c) → ReadsRec W 4 us1 g1 → Calls Try.prog 16 #[us0 0, .agg #[us1 0, us1 1, us1 2, us1 3]] W fun e W' => ∃ xs : Nat → Value, e = .returned (.tuple #[xs 0, .int .i64 r1]) ∧ OwnRec W' 1 xs R (iv W.heap.size W'.heap.size) ∧ Below W.heap.size W W') := by
  intro hq
  have hcn : spN g0 ≤ 1048576 := by
    obtain ⟨n, f, hg, hf⟩ := ht0
    have e1 : spN g0 = n := by simp [spN, hg, dLen]
    have hc := le_cost n 2 f
    have e : costRec 1 g0 = cost (.sl n 2 f) := by simp [costRec, sumTo, hg]
    omega
  cases hv : okB (bq g1 0) (bq g1 1) (bq g1 2) (bq g1 3) with
  | true =>
    by_cases ho : ∀ i, i < spN g0 → inb (bq g1 0) (bq g1 1) (bq g1 2) (bq g1 3) (spF g0 i) = true
    · have hin := in_all hv ho
      exact ⟨datRows (spN g0) 2 (fi2 (fun j => nm (bq g1 0) (bq g1 1) (bq g1 2) (bq g1 3) (spF g0 j))), 0, ty_of _ _, Nat.le_trans (datRows_cnt _ _ _) (by omega), fun W us0 us1 h0 _ h1 => by
        obtain ⟨A, cc, e, hn, hp⟩ := reads_sps h0 ht0 hq
        rw [e, reads_box h1 ht1]; exact fin (T := fun v => .tuple #[v, .int .i64 0]) (sp2_len _) (sp2_get _) (hin) (spec_yes A _ _ _ _ _ _ W hn hp hv ho), fun W us0 us1 h0 _ h1 => by
        obtain ⟨A, cc, e, hn, hp⟩ := reads_sps h0 ht0 hq
        rw [e, reads_box h1 ht1]; exact fin (T := fun v => .tuple #[v, .int .i64 0]) (sp2_len _) (sp2_get _) (hin) (impl_yes A _ _ _ _ _ _ W hn hp hv ho)⟩
    · exact ⟨datRows 0 2 (fi2 (fun _ => (0, 0))), 2, ty_of _ _, Nat.le_trans (datRows_cnt _ _ _) (by omega), fun W us0 us1 h0 _ h1 => by
        obtain ⟨A, cc, e, hn, hp⟩ := reads_sps h0 ht0 hq
        rw [e, reads_box h1 ht1]; exact fin (T := fun v => .tuple #[v, .int .i64 2]) (sp2_len _) (sp2_get _) (fun i j hi _ => absurd hi (by omega)) (spec_out A _ _ _ _ _ _ W hn hp hv ho), fun W us0 us1 h0 _ h1 => by
        obtain ⟨A, cc, e, hn, hp⟩ := reads_sps h0 ht0 hq
        rw [e, reads_box h1 ht1]; exact fin (T := fun v => .tuple #[v, .int .i64 2]) (sp2_len _) (sp2_get _) (fun i j hi _ => absurd hi (by omega)) (impl_out A _ _ _ _ _ _ W hn hp hv ho)⟩
  | false =>
    exact ⟨datRows 0 2 (fi2 (fun _ => (0, 0))), 1, ty_of _ _, Nat.le_trans (datRows_cnt _ _ _) (by omega), fun W us0 us1 h0 _ h1 => by
        obtain ⟨A, cc, e, hn, hp⟩ := reads_sps h0 ht0 hq
        rw [e, reads_box h1 ht1]; exact fin (T := fun v => .tuple #[v, .int .i64 1]) (sp2_len _) (sp2_get _) (fun i j hi _ => absurd hi (by omega)) (spec_no A _ _ _ _ _ _ W hn hp hv), fun W us0 us1 h0 _ h1 => by
        obtain ⟨A, cc, e, hn, hp⟩ := reads_sps h0 ht0 hq
        rw [e, reads_box h1 ht1]; exact fin (T := fun v => .tuple #[v, .int .i64 1]) (sp2_len _) (sp2_get _) (fun i j hi _ => absurd hi (by omega)) (impl_no A _ _ _ _ _ _ W hn hp hv)⟩
end Go.Proofs.Ytedboaeadkdhfab.wNormalSpots
