/-
  Proved: both functions that merge two lists of hypotheses return the same, in memory of their own.
  Conditions: none.
-/
import Derived.Test.YtofgdgdmmlgmnaaHyN
import Derived.Test.YtofgdgdmmlgmnaaHyH
namespace Go.Proofs.Ytofgdgdmmlgmnaa.wMergeHyps
open Go.ChangeShapes Go.WideShapes Go.ChangeAt Go.RowKit Go.Joins
open Go.Proofs.Ytofgdgdmmlgmnaa.core Go.Proofs.Ytofgdgdmmlgmnaa.rown Go.Proofs.Ytofgdgdmmlgmnaa.stk Go.Proofs.Ytofgdgdmmlgmnaa.boxed Go.Proofs.Ytofgdgdmmlgmnaa.ft Go.Proofs.Ytofgdgdmmlgmnaa.lab Go.Proofs.Ytofgdgdmmlgmnaa.hyp
set_option linter.unusedVariables false
set_option linter.unusedSimpArgs false
/-- The hypotheses of the second list put into the first one. -/
noncomputable def mL (na : Nat) (fa fb : Nat → Hy) : Nat → List Hy
  | 0 => lst na fa
  | k + 1 => ins (mL na fa fb k) (fb k)
theorem mL_least {na : Nat} {fa fb : Nat → Hy} (h : HyOk na fa) : ∀ k, Least (lst na fa ++ lst k fb) (mL na fa fb k)
  | 0 => by
    have := ok_least h
    show Least (lst na fa ++ []) (lst na fa)
    rwa [List.append_nil]
  | k + 1 => by
    rw [lst_succ, ← List.append_assoc]
    exact ins_least (mL_least h k)
theorem mL_le (na : Nat) (fa fb : Nat → Hy) : ∀ k, (mL na fa fb k).length ≤ na + k
  | 0 => by show (lst na fa).length ≤ _; rw [lst_len]; omega
  | k + 1 => by
    have := mL_le na fa fb k
    have := ins_le (mL na fa fb k) (fb k)
    show (ins _ _).length ≤ _
    omega
theorem cls_lst (n : Nat) (f : Nat → Hy) : cls (lst n f) = rws (hyR f) n := cls_of _ f n (lst_len n f) fun i hi => by
  unfold atH
  rw [List.getD_eq_getElem?_getD, lst_get hi]
  rfl
theorem hy_news {w : World} {A : Option Addr} {n : Nat} {f : Nat → Hy} (h : HyAt w A n f) (hn : 0 < n) : ∃ ad, A = some ad ∧ ad.block < w.heap.size ∧ ∀ j u, (rws (hyR f) n)[j]? = some u → w.cell? (ad.add j) = some u := by
  obtain ⟨b, o, rfl, hb, -, -⟩ := h 0 hn
  refine ⟨⟨b, o, none⟩, rfl, hb, fun j u hu => ?_⟩
  have hlen := rws_len (hyR_len f) n
  have hj : j < n * 2 := by
    have := (List.getElem?_eq_some_iff.1 hu).1
    omega
  have h2 := rws_get (hyR_len f) (j / 2) (j % 2) (by omega) n (by omega)
  rw [show j / 2 * 2 + j % 2 = j by omega, hu] at h2
  obtain ⟨b', o', e, -, c0, c1⟩ := h (j / 2) (by omega)
  injection e with e
  injection e with e1 e2
  subst e1 e2
  have e1 : (⟨b, o, none⟩ : Addr).add j = ⟨b, o + j, none⟩ := by unfold Addr.add; split <;> simp_all
  rw [e1]
  rcases (by omega : j % 2 = 0 ∨ j % 2 = 1) with e | e
  · rw [e] at h2
    obtain rfl : u = .string (f (j / 2)).1 := by simpa [hyR] using h2
    rw [show o + j = o + j / 2 * 2 by omega]
    exact c0
  · rw [e] at h2
    obtain rfl : u = .int .i64 (f (j / 2)).2 := by simpa [hyR] using h2
    rw [show o + j = o + j / 2 * 2 + 1 by omega]
    exact c1
theorem hy_cells {w : World} {A : Option Addr} {n : Nat} {f : Nat → Hy} (h : HyAt w A n f) : gro.Cells w A n (rws (hyR f) n) :=
  ⟨rws_len (hyR_len f) n, hy_ones f n, fun hn => hy_news h hn⟩
def cnB (q : Int) : Bool := decide (1 ≤ q ∧ q ≤ 8)
theorem countI (q : Int) (w : World) : Calls Try.prog 44 #[.int .i64 q] w fun e w' => e = .returned (.bool (cnB q)) ∧ w = w' := by
  have hund : undef = Value.tuple #[] := rfl
  by_cases h0 : 1 ≤ q
  · by_cases h1 : q ≤ 8
    · have HF := Lib.hid (show cnB q = true from decide_eq_true (show 1 ≤ q ∧ q ≤ 8 from ⟨h0, h1⟩))
      have d1 : decide (q ≤ 8) = true := decide_eq_true h1
      go_enter Try.func44, Try.ntmps44
      go_wp2
      go_ret
      exact ⟨by rw [HF.out]; rfl, rfl⟩
    · have HF := Lib.hid (show cnB q = false from decide_eq_false (show ¬ (1 ≤ q ∧ q ≤ 8) from fun h => h1 h.2))
      have d1 : decide (q ≤ 8) = false := decide_eq_false h1
      go_enter Try.func44, Try.ntmps44
      go_wp2
      go_ret
      exact ⟨by rw [HF.out]; rfl, rfl⟩
  · have HF := Lib.hid (show cnB q = false from decide_eq_false (show ¬ (1 ≤ q ∧ q ≤ 8) from fun h => h0 h.1))
    go_enter Try.func44, Try.ntmps44
    go_wp2
    go_ret
    exact ⟨by rw [HF.out]; rfl, rfl⟩
theorem minS (x y : Int) (w : World) : Calls Try.prog 82 #[.int .i64 x, .int .i64 y] w fun e w' => e = .returned (.int .i64 (min x y)) ∧ w = w' := by
  obtain ⟨z, hz⟩ : ∃ z, min x y = z := ⟨_, rfl⟩
  rw [hz]
  by_cases h : x < y
  · obtain rfl : x = z := by omega
    clear hz
    go_enter Try.func82, Try.ntmps82
    go_wp2
    go_ret
    exact ⟨rfl, rfl⟩
  · obtain rfl : y = z := by omega
    have d : decide (x < y) = false := decide_eq_false h
    clear hz
    go_enter Try.func82, Try.ntmps82
    go_wp2
    go_ret
    exact ⟨rfl, rfl⟩
set_option maxRecDepth 100000 in
set_option maxHeartbeats 4000000 in
theorem firstS {base c : Nat} (l : List Hy) (g q : Nat) (w : World) (hn : l.length ≤ 1000) (hq : q ≤ 1000) (hrow : w.ownsRow base 40 2 (.slice (some ⟨g, 0, none⟩) l.length c) l.length (cls l)) :
    Calls Try.prog 54 #[.slice (some ⟨g, 0, none⟩) l.length c, .int .i64 (q : Int)] w fun e w' => ∃ A' c', e = .returned (.slice A' (min l.length q) c') ∧ w'.ownsRow w.heap.size 40 2 (.slice A' (min l.length q) c') (min l.length q) (rws (hyR (atH l)) (min l.length q)) ∧ Below w.heap.size w w' := by
  obtain ⟨i0, hi0, hz0, hz1, hz2⟩ := rown.info_get infoH
  have HM := Lib.hid (fun W => minS (q : Int) (l.length : Int) W)
  obtain ⟨n, hln⟩ : ∃ n, l.length = n := ⟨_, rfl⟩
  obtain ⟨m, hm⟩ : ∃ m, min n q = m := ⟨_, rfl⟩
  unfold cls at hrow
  rw [hln] at hrow hn HM ⊢
  rw [show min (q : Int) (n : Int) = (m : Int) by omega] at HM
  have hmn : m ≤ n := by omega
  have hnc := own_cap hrow
  have hm0 : (0 : Int) ≤ (m : Int) := by omega
  have hmc : (m : Int) ≤ (c : Int) := by omega
  have hmc2 : ¬ (c : Int) < (m : Int) := by omega
  have hm1000 : m ≤ 1000 := by omega
  have HBZ := Lib.hid (below_alloc1 w (.cells #[] 40))
  have HE0 := Lib.hid (rown.empty_row w 40 2)
  have HRP := Lib.hid (row_pre (rown.ownsRow_kept hrow HBZ.out) (hyR_len _) hmn)
  have hszZ : w.heap.size ≤ (w.alloc (.cells #[] 40)).heap.size := HBZ.out.size
  rw [hm]
  clear hrow hm
  go_enter Try.func54, Try.ntmps54
  go_wp2_with fail
  refine (HM.out _).mono ?_
  rintro e _ ⟨rfl, rfl⟩
  go_wp2_with (first
    | (at_builtin
       refine gro.wpList_append_all (w.alloc (.cells #[] 40)) rfl _ _ 31 rfl w.heap.size 40 i0 _ 2 24 Try.underlying31 hi0 hz0 hz1 hz2 rfl (by decide) (some ⟨w.heap.size, 0, none⟩) 0 0 [] rfl HE0.out (some ⟨g, 0, none⟩) m c (rws (hyR (atH l)) m) rfl (rws_len (hyR_len _) m) (fun _ => ⟨⟨g, 0, none⟩, rfl, HRP.out.cells (g := g) rfl⟩) (hy_ones _ _) (by unfold maxLen; omega) (by omega) hszZ ?_
       intro A2 cap2 w5 hown2 hb2
       have HO5 := Lib.hid (show w5.ownsRow w.heap.size 40 2 (.slice A2 m cap2) m (rws (hyR (atH l)) m) by simpa using hown2)
       have HB5 := Lib.hid (HBZ.out.trans hb2)
       rw [Nat.zero_add]
       clear hown2 hb2))
  go_wp2
  go_ret
  exact ⟨A2, cap2, rfl, HO5.out, HB5.out⟩
set_option maxRecDepth 100000 in
set_option maxHeartbeats 2000000 in
theorem firstS_nil (l : List Hy) (q : Nat) (w : World) (hl : l.length = 0) : Calls Try.prog 54 #[.slice none 0 0, .int .i64 (q : Int)] w fun e w' => ∃ A' c', e = .returned (.slice A' (min l.length q) c') ∧ w'.ownsRow w.heap.size 40 2 (.slice A' (min l.length q) c') (min l.length q) (rws (hyR (atH l)) (min l.length q)) ∧ Below w.heap.size w w' := by
  have HM := Lib.hid (fun W => minS (q : Int) 0 W)
  rw [show min (q : Int) 0 = 0 by omega] at HM
  have HBZ := Lib.hid (below_alloc1 w (.cells #[] 40))
  have HE0 := Lib.hid (rown.empty_row w 40 2)
  rw [show min l.length q = 0 by omega]
  clear hl
  go_enter Try.func54, Try.ntmps54
  go_wp2_with fail
  refine (HM.out _).mono ?_
  rintro e _ ⟨rfl, rfl⟩
  go_wp2
  go_ret
  exact ⟨_, _, rfl, HE0.out, HBZ.out⟩
theorem firstS_any {base c : Nat} (A : Option Addr) (l : List Hy) (q : Nat) (w : World) (hn : l.length ≤ 1000) (hq : q ≤ 1000) (hrow : w.ownsRow base 40 2 (.slice A l.length c) l.length (cls l)) :
    Calls Try.prog 54 #[.slice A l.length c, .int .i64 (q : Int)] w fun e w' => ∃ A' c', e = .returned (.slice A' (min l.length q) c') ∧ w'.ownsRow w.heap.size 40 2 (.slice A' (min l.length q) c') (min l.length q) (rws (hyR (atH l)) (min l.length q)) ∧ Below w.heap.size w w' := by
  rcases hrow.2 with ⟨he, -⟩ | ⟨g, cap, cur, he, -⟩
  · injection he with e1 e2 e3
    rw [e1, e2, e3]
    have h := firstS_nil l q w e2
    rw [e2] at h
    exact h
  · injection he with e1 e2 e3
    subst e1
    exact firstS l g q w hn hq hrow
noncomputable def meC (na nb : Nat) (fa fb : Nat → Hy) (d : Int) : Int := @ite _ (hyB na fa = true ∧ hyB nb fb = true) (Classical.propDecidable _) (if 1 ≤ d ∧ d ≤ 8 then 0 else 2) 1
theorem me_inv {na nb : Nat} {fa fb : Nat → Hy} {d : Int} (h : ¬ (hyB na fa = true ∧ hyB nb fb = true)) : meC na nb fa fb d = 1 := by unfold meC; rw [@if_neg _ _ h]
theorem me_rng {na nb : Nat} {fa fb : Nat → Hy} {d : Int} (h : hyB na fa = true ∧ hyB nb fb = true) (h2 : ¬ (1 ≤ d ∧ d ≤ 8)) : meC na nb fa fb d = 2 := by unfold meC; rw [@if_pos _ _ h, if_neg h2]
theorem me_ok {na nb : Nat} {fa fb : Nat → Hy} {d : Int} (h : hyB na fa = true ∧ hyB nb fb = true) (h2 : 1 ≤ d ∧ d ≤ 8) : meC na nb fa fb d = 0 := by unfold meC; rw [@if_pos _ _ h, if_pos h2]
theorem inD (d : Int) (w : World) : Calls Try.prog 52 #[.int .i64 d, .int .i64 1, .int .i64 8] w fun e w' => e = .returned (.bool (cnB d)) ∧ Below w.heap.size w w' := by
  by_cases h : 1 ≤ d ∧ d ≤ 8
  · rw [show cnB d = true from decide_eq_true h]; exact toB (in_t d 1 8 h w)
  · rw [show cnB d = false from decide_eq_false h]; exact toB (in_f d 1 8 h w)
set_option maxRecDepth 100000 in
set_option maxHeartbeats 4000000 in
theorem spec_no {ca cb : Nat} (A B : Option Addr) (na nb : Nat) (fa fb : Nat → Hy) (d : Int) (w : World) (hla : HyL na fa) (hlb : HyL nb fb) (hpa : HyAt w A na fa) (hpb : HyAt w B nb fb) (h0 : meC na nb fa fb d ≠ 0) :
    Calls Try.prog 20 #[.slice A na ca, .slice B nb cb, .int .i64 d] w fun e w' => e = .returned (.tuple #[.slice none 0 0, .int .i64 (meC na nb fa fb d)]) ∧ Below w.heap.size w w' := by
  have HA := Lib.hid (hyOkS (c := ca) A na fa w hla hpa)
  have HB := Lib.hid (fun W (hW : Below w.heap.size w W) => hyOkS (c := cb) B nb fb W hlb (hpb.kept hW))
  have HI := Lib.hid (fun W => inD d W)
  have hund : undef = Value.tuple #[] := rfl
  have hna := hla.hn
  have hnb := hlb.hn
  clear hpa hpb hla hlb
  cases hva : hyB na fa with
  | false =>
    have HC := Lib.hid (me_inv (d := d) (fun h : hyB na fa = true ∧ hyB nb fb = true => by rw [hva] at h; cases h.1))
    rw [hva] at HA
    clear hva h0 HI HB
    go_enter Try.func20, Try.ntmps20
    go_wp2_with fail
    refine HA.out.mono ?_
    rintro e w1 ⟨rfl, hb⟩
    have HB1 := Lib.hid hb
    clear hb HA
    go_wp2
    go_ret2
    exact ⟨by rw [HC.out]; rfl, HB1.out⟩
  | true =>
    rw [hva] at HA
    cases hvb : hyB nb fb with
    | false =>
      have HC := Lib.hid (me_inv (d := d) (fun h : hyB na fa = true ∧ hyB nb fb = true => by rw [hvb] at h; cases h.2))
      rw [hvb] at HB
      clear hva hvb h0 HI
      go_enter Try.func20, Try.ntmps20
      go_wp2_with fail
      refine HA.out.mono ?_
      rintro e w1 ⟨rfl, hb⟩
      have HB1 := Lib.hid hb
      have HBX := Lib.hid (HB.out w1 hb)
      clear hb HA HB
      go_wp2_with fail
      refine HBX.out.mono ?_
      rintro e w2 ⟨rfl, hb⟩
      have HB2 := Lib.hid (HB1.out.trans (hb.mono HB1.out.size))
      clear hb HBX
      go_wp2
      go_ret2
      exact ⟨by rw [HC.out]; rfl, HB2.out⟩
    | true =>
      have hd : ¬ (1 ≤ d ∧ d ≤ 8) := fun h => h0 (me_ok ⟨hva, hvb⟩ h)
      have HC := Lib.hid (me_rng (d := d) (show hyB na fa = true ∧ hyB nb fb = true from ⟨hva, hvb⟩) hd)
      have HII := Lib.hid (fun W => (show Calls Try.prog 52 #[.int .i64 d, .int .i64 1, .int .i64 8] W _ from HI.out W))
      rw [show cnB d = false from decide_eq_false hd] at HII
      rw [hvb] at HB
      clear hva hvb h0 HI hd
      go_enter Try.func20, Try.ntmps20
      go_wp2_with fail
      refine HA.out.mono ?_
      rintro e w1 ⟨rfl, hb⟩
      have HB1 := Lib.hid hb
      have HBX := Lib.hid (HB.out w1 hb)
      clear hb HA HB
      go_wp2_with fail
      refine HBX.out.mono ?_
      rintro e w2 ⟨rfl, hb⟩
      have HB2 := Lib.hid (HB1.out.trans (hb.mono HB1.out.size))
      clear hb HBX
      go_wp2_with fail
      refine (HII.out _).mono ?_
      rintro e w3 ⟨rfl, hb⟩
      have HB3 := Lib.hid (HB2.out.trans (hb.mono HB2.out.size))
      clear hb HII
      go_wp2
      go_ret2
      exact ⟨by rw [HC.out]; rfl, HB3.out⟩
set_option maxRecDepth 100000 in
set_option maxHeartbeats 4000000 in
theorem impl_no {ca cb : Nat} (A B : Option Addr) (na nb : Nat) (fa fb : Nat → Hy) (d : Int) (w : World) (hla : HyL na fa) (hlb : HyL nb fb) (hpa : HyAt w A na fa) (hpb : HyAt w B nb fb) (h0 : meC na nb fa fb d ≠ 0) :
    Calls Try.prog 21 #[.slice A na ca, .slice B nb cb, .int .i64 d] w fun e w' => e = .returned (.tuple #[.slice none 0 0, .int .i64 (meC na nb fa fb d)]) ∧ Below w.heap.size w w' := by
  have HA := Lib.hid (validHI (c := ca) A na fa w hla hpa)
  have HB := Lib.hid (fun W (hW : Below w.heap.size w W) => validHI (c := cb) B nb fb W hlb (hpb.kept hW))
  have HI := Lib.hid (fun W => toB (countI d W))
  have hund : undef = Value.tuple #[] := rfl
  have hna := hla.hn
  have hnb := hlb.hn
  clear hpa hpb hla hlb
  cases hva : hyB na fa with
  | false =>
    have HC := Lib.hid (me_inv (d := d) (fun h : hyB na fa = true ∧ hyB nb fb = true => by rw [hva] at h; cases h.1))
    rw [hva] at HA
    clear hva h0 HI HB
    go_enter Try.func21, Try.ntmps21
    go_wp2_with fail
    refine HA.out.mono ?_
    rintro e w1 ⟨rfl, hb⟩
    have HB1 := Lib.hid hb
    clear hb HA
    go_wp2
    go_ret2
    exact ⟨by rw [HC.out]; rfl, HB1.out⟩
  | true =>
    rw [hva] at HA
    cases hvb : hyB nb fb with
    | false =>
      have HC := Lib.hid (me_inv (d := d) (fun h : hyB na fa = true ∧ hyB nb fb = true => by rw [hvb] at h; cases h.2))
      rw [hvb] at HB
      clear hva hvb h0 HI
      go_enter Try.func21, Try.ntmps21
      go_wp2_with fail
      refine HA.out.mono ?_
      rintro e w1 ⟨rfl, hb⟩
      have HB1 := Lib.hid hb
      have HBX := Lib.hid (HB.out w1 hb)
      clear hb HA HB
      go_wp2_with fail
      refine HBX.out.mono ?_
      rintro e w2 ⟨rfl, hb⟩
      have HB2 := Lib.hid (HB1.out.trans (hb.mono HB1.out.size))
      clear hb HBX
      go_wp2
      go_ret2
      exact ⟨by rw [HC.out]; rfl, HB2.out⟩
    | true =>
      have hd : ¬ (1 ≤ d ∧ d ≤ 8) := fun h => h0 (me_ok ⟨hva, hvb⟩ h)
      have HC := Lib.hid (me_rng (d := d) (show hyB na fa = true ∧ hyB nb fb = true from ⟨hva, hvb⟩) hd)
      have HII := Lib.hid (fun W => (show Calls Try.prog 44 #[.int .i64 d] W _ from HI.out W))
      rw [show cnB d = false from decide_eq_false hd] at HII
      rw [hvb] at HB
      clear hva hvb h0 HI hd
      go_enter Try.func21, Try.ntmps21
      go_wp2_with fail
      refine HA.out.mono ?_
      rintro e w1 ⟨rfl, hb⟩
      have HB1 := Lib.hid hb
      have HBX := Lib.hid (HB.out w1 hb)
      clear hb HA HB
      go_wp2_with fail
      refine HBX.out.mono ?_
      rintro e w2 ⟨rfl, hb⟩
      have HB2 := Lib.hid (HB1.out.trans (hb.mono HB1.out.size))
      clear hb HBX
      go_wp2_with fail
      refine (HII.out _).mono ?_
      rintro e w3 ⟨rfl, hb⟩
      have HB3 := Lib.hid (HB2.out.trans (hb.mono HB2.out.size))
      clear hb HII
      go_wp2
      go_ret2
      exact ⟨by rw [HC.out]; rfl, HB3.out⟩
set_option maxRecDepth 100000 in
set_option maxHeartbeats 8000000 in
theorem spec_yes {ca cb : Nat} (A B : Option Addr) (na nb q : Nat) (fa fb : Nat → Hy) (w : World) (hla : HyL na fa) (hlb : HyL nb fb) (hpa : HyAt w A na fa) (hpb : HyAt w B nb fb) (hva : hyB na fa = true) (hvb : hyB nb fb = true) (hq : 1 ≤ q ∧ q ≤ 8) :
    Calls Try.prog 20 #[.slice A na ca, .slice B nb cb, .int .i64 (q : Int)] w fun e w' => ∃ v, e = .returned (.tuple #[v, .int .i64 0]) ∧ w'.ownsRow w.heap.size 40 2 v (min (mL na fa fb nb).length q) (rws (hyR (atH (mL na fa fb nb))) (min (mL na fa fb nb).length q)) ∧ Below w.heap.size w w' := by
  obtain ⟨i0, hi0, hz0, hz1, hz2⟩ := rown.info_get infoH
  have HA := Lib.hid (hyOkS (c := ca) A na fa w hla hpa)
  have HB := Lib.hid (fun W (hW : Below w.heap.size w W) => hyOkS (c := cb) B nb fb W hlb (hpb.kept hW))
  have HI := Lib.hid (fun W => inD (q : Int) W)
  rw [show cnB (q : Int) = true from decide_eq_true (by omega)] at HI
  rw [hva] at HA
  rw [hvb] at HB
  have hna : na ≤ 8 := (hy_iff.1 hva).1
  have hnb : nb ≤ 8 := (hy_iff.1 hvb).1
  have HPA := Lib.hid (fun W (hW : Below w.heap.size w W) => hpa.kept hW)
  have HPB := Lib.hid hpb
  have HLE := Lib.hid (mL_le na fa fb)
  have hq8 : q ≤ 1000 := by omega
  have HCL := Lib.hid (show cls (mL na fa fb 0) = rws (hyR fa) na from cls_lst na fa)
  have HL0 := Lib.hid (show (mL na fa fb 0).length = na from lst_len na fa)
  have HSTEP := Lib.hid (show ∀ k, mL na fa fb (k + 1) = ins (mL na fa fb k) (fb k) from fun _ => rfl)
  obtain ⟨M, hM⟩ : ∃ M, mL na fa fb = M := ⟨_, rfl⟩
  rw [hM] at HLE HCL HL0 HSTEP ⊢
  clear hva hvb hpa hpb hla hlb hM
  go_enter Try.func20, Try.ntmps20
  go_wp2_with fail
  refine HA.out.mono ?_
  rintro e w1 ⟨rfl, hb⟩
  have HB1 := Lib.hid hb
  have HBX := Lib.hid (HB.out w1 hb)
  clear hb HA HB
  go_wp2_with fail
  refine HBX.out.mono ?_
  rintro e w2 ⟨rfl, hb⟩
  have HB2 := Lib.hid (HB1.out.trans (hb.mono HB1.out.size))
  clear hb HBX
  go_wp2_with fail
  refine (HI.out _).mono ?_
  rintro e w3 ⟨rfl, hb⟩
  have HB3 := Lib.hid (HB2.out.trans (hb.mono HB2.out.size))
  clear hb HI
  have HBZ := Lib.hid (below_alloc1 w3 (.cells #[] 40))
  have HE0 := Lib.hid (rown.empty_row w3 40 2)
  have HB4 := Lib.hid (HB3.out.trans (HBZ.out.mono HB3.out.size))
  have hszZ : w3.heap.size ≤ (w3.alloc (.cells #[] 40)).heap.size := HBZ.out.size
  have HNW := Lib.hid (fun (h0 : 0 < na) => (show ∃ ad, A = some ad ∧ ∀ j u, (rws (hyR fa) na)[j]? = some u → (w3.alloc (.cells #[] 40)).cell? (ad.add j) = some u from by
    obtain ⟨ad, e1, -, e3⟩ := hy_news (HPA.out _ HB4.out) h0
    exact ⟨ad, e1, e3⟩))
  have hz : True := trivial
  go_wp2_with (first
    | (at_builtin
       refine gro.wpList_append_all (w3.alloc (.cells #[] 40)) rfl _ _ 31 rfl w3.heap.size 40 i0 _ 2 24 Try.underlying31 hi0 hz0 hz1 hz2 rfl (by decide) (some ⟨w3.heap.size, 0, none⟩) 0 0 [] rfl HE0.out A na ca (rws (hyR fa) na) rfl (rws_len (hyR_len _) na) HNW.out (hy_ones _ _) (by unfold maxLen; omega) (by omega) hszZ ?_
       intro A2 cap2 w5 hown2 hb2
       have R0 := Lib.hid (show w5.ownsRow w.heap.size 40 2 (.slice A2 na cap2) na (cls (M 0)) by rw [HCL.out]; exact row_low (by simpa using hown2) HB3.out.size)
       have HB5 := Lib.hid (HB3.out.trans ((HBZ.out.trans hb2).mono HB3.out.size))
       rw [Nat.zero_add]
       clear hown2 hb2))
  go_wp2
  go_loopw [8, 9] (fun out i w' => ∃ (k L : Nat) (A' : Option Addr) (c' : Nat), k ≤ nb ∧ i = .int .i64 (k : Int) ∧ out = .slice A' L c' ∧ Hid ((M k).length = L) ∧ Hid (w'.ownsRow w.heap.size 40 2 (.slice A' L c') L (cls (M k))) ∧ Hid (Below w.heap.size w w')) (fun _ i _ => nb - (intOf i).toNat)
  case atStart => exact ⟨0, na, A2, cap2, Nat.zero_le _, rfl, rfl, HL0, R0, HB5⟩
  case round =>
    obtain ⟨k, L, A', c', hk, rfl, rfl, HLL, HR, HB⟩ := hrel
    by_cases hlt : k < nb
    · obtain ⟨b1, o1, rfl, hb1, c0, c1⟩ := (HPB.out.kept HB.out) k hlt
      have hli : (k : Int) < (nb : Int) := by omega
      have hML := HLE.out k
      have HN := Lib.hid (insS (c := c') (M k) (fb k) A' wr (by omega) HB.out.size (by rw [HLL.out]; exact HR.out))
      rw [← HSTEP.out k, HLL.out] at HN
      obtain ⟨x, hx⟩ : ∃ x, fb k = x := ⟨_, rfl⟩
      rw [hx] at c0 c1 HN
      obtain ⟨L2, hL2⟩ : ∃ L2, (M (k + 1)).length = L2 := ⟨_, rfl⟩
      rw [hL2] at HN
      have HLL2 := Lib.hid hL2
      clear hx hL2 hML
      go_wp2_with fail
      refine HN.out.mono ?_
      rintro e w6 ⟨A6, c6, rfl, hrow6, hb6⟩
      have HR6 := Lib.hid hrow6
      have HB6 := Lib.hid (HB.out.trans (hb6.mono HB.out.size))
      clear hrow6 hb6 HN c0 c1
      go_wp2
      go_roundw
      case rel => exact ⟨k + 1, L2, A6, c6, by omega, by go_num, rfl, HLL2, HR6, HB6⟩
      case measure => simp [intOf]; omega
    · obtain rfl : k = nb := by omega
      have hML := HLE.out k
      have HF := Lib.hid (firstS_any (c := c') A' (M k) q wr (by omega) hq8 (by rw [HLL.out]; exact HR.out))
      obtain ⟨mm, hmm⟩ : ∃ mm, min (M k).length q = mm := ⟨_, rfl⟩
      rw [hmm, HLL.out] at HF
      have HMM := Lib.hid hmm
      clear hmm hML
      go_wp2_with fail
      refine HF.out.mono ?_
      rintro e w6 ⟨A6, c6, rfl, hrow6, hb6⟩
      have HR6 := Lib.hid (row_low hrow6 HB.out.size)
      have HB6 := Lib.hid (HB.out.trans (hb6.mono HB.out.size))
      clear hrow6 hb6 HF
      go_wp2
      go_ret2
      exact ⟨_, rfl, by rw [HMM.out]; exact HR6.out, HB6.out⟩
/-- Both lists, one behind the other. -/
def two (na : Nat) (fa fb : Nat → Hy) (i : Nat) : Hy := if i < na then fa i else fb (i - na)
theorem two_lst (na : Nat) (fa fb : Nat → Hy) : ∀ nb, lst (na + nb) (two na fa fb) = lst na fa ++ lst nb fb
  | 0 => by
    rw [Nat.add_zero]
    have : lst 0 fb = [] := rfl
    rw [this, List.append_nil]
    unfold lst
    exact List.map_congr_left fun i hi => by unfold two; rw [if_pos (List.mem_range.1 hi)]
  | nb + 1 => by
    rw [← Nat.add_assoc, lst_succ, two_lst na fa fb nb, lst_succ, List.append_assoc]
    congr 2
    unfold two
    rw [if_neg (by omega), show na + nb - na = nb by omega]
theorem two_rws (na : Nat) (fa fb : Nat → Hy) (nb : Nat) : rws (hyR fa) na ++ rws (hyR fb) nb = rws (hyR (two na fa fb)) (na + nb) := by
  rw [← cls_lst na fa, ← cls_lst nb fb, ← cls_app, ← two_lst, cls_lst]
set_option maxRecDepth 100000 in
set_option maxHeartbeats 8000000 in
theorem impl_yes {ca cb : Nat} (A B : Option Addr) (na nb q : Nat) (fa fb : Nat → Hy) (w : World) (hla : HyL na fa) (hlb : HyL nb fb) (hpa : HyAt w A na fa) (hpb : HyAt w B nb fb) (hva : hyB na fa = true) (hvb : hyB nb fb = true) (hq : 1 ≤ q ∧ q ≤ 8) :
    Calls Try.prog 21 #[.slice A na ca, .slice B nb cb, .int .i64 (q : Int)] w fun e w' => ∃ v, e = .returned (.tuple #[v, .int .i64 0]) ∧ w'.ownsRow w.heap.size 40 2 v (min (mL na fa fb nb).length q) (rws (hyR (atH (mL na fa fb nb))) (min (mL na fa fb nb).length q)) ∧ Below w.heap.size w w' := by
  have HA := Lib.hid (validHI (c := ca) A na fa w hla hpa)
  have HB := Lib.hid (fun W (hW : Below w.heap.size w W) => validHI (c := cb) B nb fb W hlb (hpb.kept hW))
  have HI := Lib.hid (fun W => countI (q : Int) W)
  rw [show cnB (q : Int) = true from decide_eq_true (by omega)] at HI
  rw [hva] at HA
  rw [hvb] at HB
  have hoa := hy_iff.1 hva
  have hob := hy_iff.1 hvb
  have hna : na ≤ 8 := hoa.1
  have hnb : nb ≤ 8 := hob.1
  have HPA := Lib.hid (fun W (hW : Below w.heap.size w W) => hpa.kept hW)
  have HPB := Lib.hid (fun W (hW : Below w.heap.size w W) => hpb.kept hW)
  have HLAB := Lib.hid (show ∀ i, i < na + nb → (two na fa fb i).1.size ≤ maxLen ∧ labB (two na fa fb i).1 = true from fun i hi => by
    unfold two
    split
    · rename_i h; exact ⟨hla.s i h, (hoa.2 i h).1.1⟩
    · exact ⟨hlb.s _ (by omega), (hob.2 (i - na) (by omega)).1.1⟩)
  have HU := Lib.hid (fun out (h : Least (lst (na + nb) (two na fa fb)) out) => h.uniq (by rw [two_lst]; exact mL_least hoa nb))
  have HROW := Lib.hid (two_rws na fa fb nb)
  clear hva hvb hpa hpb hla hlb hoa hob
  go_enter Try.func21, Try.ntmps21
  go_wp2_with fail
  refine HA.out.mono ?_
  rintro e w1 ⟨rfl, hb⟩
  have HB1 := Lib.hid hb
  have HBX := Lib.hid (HB.out w1 hb)
  clear hb HA HB
  go_wp2_with fail
  refine HBX.out.mono ?_
  rintro e w2 ⟨rfl, hb⟩
  have HB2 := Lib.hid (HB1.out.trans (hb.mono HB1.out.size))
  clear hb HBX
  go_wp2_with fail
  refine (HI.out _).mono ?_
  rintro e _ ⟨rfl, rfl⟩
  have HBZ := Lib.hid (below_alloc1 w2 (.cells #[.slice A na ca, .slice B nb cb] 31))
  have HB3 := Lib.hid (HB2.out.trans (HBZ.out.mono HB2.out.size))
  have HCC := Lib.hid (gro.concatH (c1 := ca) (c2 := cb) w2.heap.size A B na nb (rws (hyR fa) na) (rws (hyR fb) nb) (w2.alloc (.cells #[.slice A na ca, .slice B nb cb] 31)) (by omega) (by simp) (pair0 rfl) (pair1 rfl) (hy_cells (HPA.out _ HB3.out)) (hy_cells (HPB.out _ HB3.out)))
  rw [HROW.out] at HCC
  obtain ⟨N, hN⟩ : ∃ N, na + nb = N := ⟨_, rfl⟩
  rw [hN] at HCC HLAB HU
  have hN16 : N ≤ 1000 := by omega
  clear HI HPA HPB HBZ HB2 HROW hN
  go_wp2_with fail
  refine HCC.out.mono ?_
  rintro e w4 ⟨A4, c4, rfl, hrow, hb⟩
  have HB4 := Lib.hid (HB3.out.trans (hb.mono HB3.out.size))
  obtain ⟨A5, c5, e5, hat⟩ := hy_row hrow
  injection e5 with e5 _ e6
  subst e5 e6
  have HLI := Lib.hid (leastI (c := c4) A4 N q (two na fa fb) w4 hN16 (by omega) HLAB.out hat)
  clear hrow hb hat HCC HB3 HLAB
  go_wp2_with fail
  refine HLI.out.mono ?_
  rintro e w5 ⟨v, out, rfl, hle, -, hrow, hb⟩
  obtain rfl := HU.out out hle
  have HR5 := Lib.hid (row_low hrow HB4.out.size)
  have HB5 := Lib.hid (HB4.out.trans (hb.mono HB4.out.size))
  clear hle hrow hb HLI HU
  go_wp2
  go_ret2
  exact ⟨v, rfl, HR5.out, HB5.out⟩
theorem meat (vs0 : Nat → Value) (g0 : Nat → Dat) (vs1 : Nat → Value) (g1 : Nat → Dat) (a2 : Int) (ht0 : tyrHypS g0) (ht1 : tyrHypS g1) (hi2 : inI64 a2) :
    costRec 1 g0 ≤ 1048576 → costRec 1 g1 ≤ 1048576 → ∃ (R : Nat → Dat) (r1 : Int), tyrHypS R ∧ cntRec 1 R ≤ 100000000000 ∧ (∀ (W : World) (us0 : Nat → Value) (us1 : Nat → Value), ReadsRec W 1 us0 g0 → (∃ (A : Option Addr) (n c : Nat), us0 0 = .slice A n c ∧ n ≤ c) → ReadsRec W 1 us1 g1 → (∃ (A : Option Addr) (n c : Nat), us1 0 = .slice A n c ∧ n ≤ c) → Calls Try.prog 20 #[us0 0, us1 0, .int .i64 a2] W fun e W' => ∃ xs : Nat → Value, e = .returned (.tuple #[xs 0, .int .i64 r1]) ∧ OwnRec W' 1 xs R (iv W.heap.size W'.heap.size) ∧ Below W.heap.size W W') ∧ (∀ (W : World) (us0 : Nat → Value) (us1 : Nat → Value), ReadsRec W 1 us0 g0 → (∃ (A : Option Addr) (n c : Nat), us0 0 = .slice A n c ∧ n ≤ c) → ReadsRec W 1 us1 g1 → (∃ (A : Option Addr) (n c : Nat), us1 0 = .slice A n c ∧ n ≤ c) → Calls Try.prog 21 #[us0 0, us1 0, .int .i64 a2] W fun e W' => ∃ xs : Nat → Value, e = .returned (.tuple #[xs 0, .int .i64 r1]) ∧ OwnRec W' 1 xs R (iv W.heap.size W'.heap.size) ∧ Below W.heap.size W W') := by
  intro hq0 hq1
  by_cases h0 : meC (hyN g0) (hyN g1) (hyF g0) (hyF g1) a2 = 0
  · have hv : hyB (hyN g0) (hyF g0) = true ∧ hyB (hyN g1) (hyF g1) = true := by
      by_cases hv : hyB (hyN g0) (hyF g0) = true ∧ hyB (hyN g1) (hyF g1) = true
      · exact hv
      · rw [me_inv hv] at h0; cases h0
    have hd : 1 ≤ a2 ∧ a2 ≤ 8 := by
      by_cases hd : 1 ≤ a2 ∧ a2 ≤ 8
      · exact hd
      · rw [me_rng hv hd] at h0; cases h0
    obtain ⟨q, rfl⟩ : ∃ q : Nat, a2 = (q : Int) := ⟨a2.toNat, by omega⟩
    have hq : 1 ≤ q ∧ q ≤ 8 := by omega
    have hoa := hy_iff.1 hv.1
    have hob := hy_iff.1 hv.2
    obtain ⟨M, hM⟩ : ∃ M, mL (hyN g0) (hyF g0) (hyF g1) (hyN g1) = M := ⟨_, rfl⟩
    have hl := mL_least (fb := hyF g1) hoa (hyN g1)
    rw [hM] at hl
    have hmem : ∀ i, i < min M.length q → labB (atH M i).1 = true ∧ 0 ≤ (atH M i).2 ∧ (atH M i).2 ≤ 1000000 := fun i hi => by
      have hi2 : i < M.length := by omega
      have h1 := ((hl.mem (atH M i)).1 (by rw [atH_get hi2]; exact List.getElem_mem _)).1
      rcases List.mem_append.1 h1 with h | h
      · obtain ⟨j, hj, e⟩ := mem_lst.1 h
        rw [← e]; exact (hoa.2 j hj).1
      · obtain ⟨j, hj, e⟩ := mem_lst.1 h
        rw [← e]; exact (hob.2 j hj).1
    have hs : ∀ i, i < min M.length q → (atH M i).1.size ≤ maxLen := fun i hi => by
      have := labB_size (hmem i hi).1
      unfold maxLen; omega
    have hc : ∀ i, i < min M.length q → inI64 (atH M i).2 := fun i hi => by
      have := (hmem i hi).2
      unfold inI64; omega
    refine ⟨datH (min M.length q) (atH M), 0, datH_ty _ _, Nat.le_trans (datH_cnt _ _) (by omega), fun W us us' h _ h' _ => ?_, fun W us us' h _ h' _ => ?_⟩
    · obtain ⟨A, ca, e, -, hl0, hp0⟩ := reads_hy h ht0 hq0
      obtain ⟨B, cb, e', -, hl1, hp1⟩ := reads_hy h' ht1 hq1
      rw [e, e']
      have key := spec_yes (ca := ca) (cb := cb) A B _ _ q _ _ W hl0 hl1 hp0 hp1 hv.1 hv.2 hq
      rw [hM] at key
      exact finH (T := fun v => .tuple #[v, .int .i64 0]) hs hc key
    · obtain ⟨A, ca, e, -, hl0, hp0⟩ := reads_hy h ht0 hq0
      obtain ⟨B, cb, e', -, hl1, hp1⟩ := reads_hy h' ht1 hq1
      rw [e, e']
      have key := impl_yes (ca := ca) (cb := cb) A B _ _ q _ _ W hl0 hl1 hp0 hp1 hv.1 hv.2 hq
      rw [hM] at key
      exact finH (T := fun v => .tuple #[v, .int .i64 0]) hs hc key
  · refine ⟨datH 0 (hyF g0), meC (hyN g0) (hyN g1) (hyF g0) (hyF g1) a2, datH_ty _ _, Nat.le_trans (datH_cnt _ _) (by omega), fun W us us' h _ h' _ => ?_, fun W us us' h _ h' _ => ?_⟩
    · obtain ⟨A, ca, e, -, hl0, hp0⟩ := reads_hy h ht0 hq0
      obtain ⟨B, cb, e', -, hl1, hp1⟩ := reads_hy h' ht1 hq1
      rw [e, e']
      exact finH (E := 40) (T := fun v => .tuple #[v, .int .i64 (meC (hyN g0) (hyN g1) (hyF g0) (hyF g1) a2)]) (fun i hi => absurd hi (by omega)) (fun i hi => absurd hi (by omega)) ((spec_no (ca := ca) (cb := cb) A B _ _ _ _ a2 W hl0 hl1 hp0 hp1 h0).mono fun e W' ⟨he, hb⟩ => ⟨_, he, World.ownsRow_nil _ _ _ _, hb⟩)
    · obtain ⟨A, ca, e, -, hl0, hp0⟩ := reads_hy h ht0 hq0
      obtain ⟨B, cb, e', -, hl1, hp1⟩ := reads_hy h' ht1 hq1
      rw [e, e']
      exact finH (E := 40) (T := fun v => .tuple #[v, .int .i64 (meC (hyN g0) (hyN g1) (hyF g0) (hyF g1) a2)]) (fun i hi => absurd hi (by omega)) (fun i hi => absurd hi (by omega)) ((impl_no (ca := ca) (cb := cb) A B _ _ _ _ a2 W hl0 hl1 hp0 hp1 h0).mono fun e W' ⟨he, hb⟩ => ⟨_, he, World.ownsRow_nil _ _ _ _, hb⟩)
end Go.Proofs.Ytofgdgdmmlgmnaa.wMergeHyps
