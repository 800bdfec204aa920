/-
  Proved: for every ink and every stroke, the call of the law on AddStroke returns true and leaves its arguments as they were.
  Conditions: none beyond the row's own.
-/
import Derived.Test.YtklfmlbokedbdaaAddLaw
import Derived.Deep.RegionHeld3
import Derived.Deep.DeepCutAuto
namespace Go.Proofs.Ytklfmlbokedbdaa.fnExactAddStroke
open Go.ChangeShapes Go.WideShapes Go.ChangeAt Go.RowKit Go.Joins
open Go.Proofs.Ytklfmlbokedbdaa.join Go.Proofs.Ytklfmlbokedbdaa.strokes Go.Proofs.Ytklfmlbokedbdaa.inks Go.Proofs.Ytklfmlbokedbdaa.owned
open Go.Proofs.Ytklfmlbokedbdaa.inkLaw (open_ink)
open Go.Proofs.Ytklfmlbokedbdaa.fnExactValidStroke (open_stroke)
open Go.Proofs.Ytklfmlbokedbdaa.boxes (own)
set_option linter.unusedVariables false

theorem markInk_one {lo hi c : Nat} (A : Option Addr) (n : Nat) (F : Nat → List P3) (w : World) (hn : n ≤ 1048576) (hcap : 1 + 3 * pre F n ≤ 9000000000000000000) (hp : OwnInk lo hi w A n F) :
    Calls Try.prog 38 #[.agg #[.slice A n c], .int .i64 1] w fun e w' => e = .returned (.int .i64 ((1 + 3 * pre F n : Nat) : Int)) ∧ OwnInk lo hi w' A n (mI 1 F) ∧ Only lo hi w w' := markInk_calls A n 1 F w hn hcap hp
theorem heldInk_one {lo hi c : Nat} (A : Option Addr) (n : Nat) (F : Nat → List P3) (w : World) (hn : n ≤ 1048576) (hcap : 1 + 3 * pre F n ≤ 9000000000000000000) (hp : OwnInk lo hi w A n (mI 1 F)) :
    Calls Try.prog 40 #[.agg #[.slice A n c], .int .i64 1] w fun e w' => e = .returned (.int .i64 ((1 + 3 * pre F n : Nat) : Int)) ∧ Below w.heap.size w w' := heldInk_calls A n 1 F w hn hcap hp

set_option maxRecDepth 100000 in
set_option maxHeartbeats 8000000 in
theorem walk (A B : Option Addr) (n cap m cb : Nat) (ink : List (List P3)) (pts : List P3) (w : World) (hn : ink.length = n) (hmx : n ≤ maxLen) (hp : ArgRows w A ink) (hm : pts.length = m) (hmx' : m ≤ maxLen) (hq : ArgPts w B pts) :
    Calls Try.prog 10 #[.agg #[.slice A n cap], .agg #[.slice B m cb]] w fun e w' => e = .returned (.bool true) ∧ Below w.heap.size w w' := by
  have HN := Lib.hid hn
  have HMM := Lib.hid hm
  have HP := Lib.hid hp
  have HQ := Lib.hid hq
  have hmm : m ≤ 9223372036854775807 := by unfold maxLen at hmx'; omega
  clear hn hp hm hq
  go_enter Try.func10, Try.ntmps10
  go_wp2_with fail
  refine (szInk_calls A n cap 1048576 ink _ HN.out hmx (Nat.le_refl _) (HP.out.below (below_alloc2 _ _ _))).mono ?_
  rintro e w1 ⟨r, rfl, hr, hb1⟩
  have HB1 := Lib.hid hb1
  have hz1 := hb1.size
  simp at hz1
  have lz1 : w.heap.size + 1 < w1.heap.size := by omega
  have c1 := (hb1.cell (p := ⟨w.heap.size + 1, 0, none⟩) (by simp)).trans (show _ = some (Value.slice B m cb) by simp)
  clear hb1
  rcases hr with rfl | ⟨M, rfl, hM, hcap', hsm⟩
  · have HF := Lib.hid ((below_alloc2 w _ _).trans (HB1.out.mono (below_alloc2 w _ _).size))
    clear HB1
    go_wp2
    go_ret
    exact ⟨rfl, HF.out⟩
  have hcap : n ≤ 1048576 := by have := HN.out; omega
  have HM := Lib.hid hsm
  clear hsm hcap'
  go_wp2_with fail
  refine (szStrokeL_calls B m cb M _ hmm hM).mono ?_
  rintro e w2 ⟨rfl, hb2⟩
  have HB2 := Lib.hid (HB1.out.trans (hb2.mono HB1.out.size))
  clear hb2 HB1 c1
  by_cases hl : m ≤ M
  case neg =>
    have HF := Lib.hid ((below_alloc2 w _ _).trans (HB2.out.mono (below_alloc2 w _ _).size))
    rw [if_neg hl]
    go_wp2
    go_ret
    exact ⟨rfl, HF.out⟩
  rw [if_pos hl]
  have hl' : ¬ ((M : Int) - (m : Int) < 0) := by omega
  have hcm : m ≤ 1048576 := by omega
  obtain ⟨res, code, HSp, HIm, hr17, HRes⟩ := both_add n m ink pts HN.out hcap HM.out HMM.out hcm
  obtain ⟨nr, hnr⟩ : ∃ nr, nr = res.length := ⟨_, rfl⟩
  have HNR := Lib.hid hnr.symm
  unfold Adds at HSp HIm
  rw [← hnr] at HSp HIm hr17
  clear hnr
  have HBw := Lib.hid (show Below w.heap.size w w2 from (below_alloc2 w _ _).trans (HB2.out.mono (below_alloc2 w _ _).size))
  have HP2 := Lib.hid (HP.out.below HBw.out)
  have HQ2 := Lib.hid (HQ.out.below HBw.out)
  have hz2 : w.heap.size + 1 < w2.heap.size := by have := HB2.out.size; simp at this; omega
  have d2 := (HB2.out.cell (p := ⟨w.heap.size, 0, none⟩) (by simp; omega)).trans (show _ = some (Value.slice A n cap) by simp)
  have d3 := (HB2.out.cell (p := ⟨w.heap.size + 1, 0, none⟩) (by simp)).trans (show _ = some (Value.slice B m cb) by simp)
  have hk0 : S0 w.heap.size A B n cap m cb w2 w2 := ⟨d2, d3, Below.refl _ _⟩
  have HK0 := Lib.hid hk0
  clear HP HQ HB2 lz1 hz1
  go_upto_region 8 with fail
  go_cut [6, 7] (fun s6 s7 wx => ∃ (K : Nat) (Aw : Option Addr) (cw : Nat), s6 = .pointer (some ⟨K, 0, none⟩) ∧ s7 = .int .i64 code ∧ w2.heap.size ≤ K ∧ K < wx.heap.size ∧ Hid (S0 w.heap.size A B n cap m cb w2 wx) ∧ Hid (wx.cell? ⟨K, 0, none⟩ = some (.slice Aw nr cw)) ∧ Hid (OwnInk w2.heap.size wx.heap.size wx Aw nr (FI res)))
  case first =>
    go_region_held3 (fun W => W.cell? ⟨w.heap.size, 0, none⟩ = some (.slice A n cap) ∧ W.cell? ⟨w.heap.size + 1, 0, none⟩ = some (.slice B m cb) ∧ Below w2.heap.size w2 W) (first | assumption | exact S0_drew hk0 | exact S0_kept hz2 (below_alloc1 _ _) (by assumption) | exact S0_set hz2 (by omega) (by assumption) | go_keep)
      (first
        | (go_at_call 21; refine (toInk_own A n cap ink _ HN.out hcap HM.out (by exact HP2.out.below (S0_below (by assumption)))).mono ?_; rintro e wa ⟨ga, gsa, rfl, hoa, hba⟩; have hka := S0_kept hz2 hba (by assumption); have hra := hoa.rows HN.out; have hga : ga < wa.heap.size := hoa.ghi; obtain ⟨hca, hfa⟩ := old hba; have hza := hba.size; (try simp at hza); (try have hza3 := Nat.lt_of_succ_le hza); have hza2 := (S0_below hka).size; (try have p1 : w2.heap.size < wa.heap.size := (by omega)); (try have p2 : wb.heap.size < wa.heap.size := (by omega)); (try have hbb' : Below wb.heap.size wb wa := (by first | exact hba | exact (below_alloc1 wb _).trans (hba.mono (below_alloc1 wb _).size))); clear hoa)
        | (go_at_call 16; refine (toStroke_own B m cb pts _ HMM.out hcm (by exact HQ2.out.below (S0_below (by assumption)))).mono ?_; rintro e wb ⟨gb, rfl, hgb0, hgb, hob, hbb⟩; have hkb := S0_kept hz2 hbb (by assumption); have hpb := hob.1; obtain ⟨hcb, hfb⟩ := old hbb; have hzb := hbb.size; (try simp at hzb); (try have hzb3 := Nat.lt_of_succ_le hzb); have hzb2 := (S0_below hkb).size; (try have p3 : w2.heap.size < wb.heap.size := (by omega)); (try have p4 : wa.heap.size < wb.heap.size := (by omega)); (try have hba' : Below wa.heap.size wa wb := (by first | exact hbb | exact (below_alloc1 wa _).trans (hbb.mono (below_alloc1 wa _).size))); clear hob)
        | (go_at_call 36; refine (HSp.out ga gb _ (by first | exact hga | exact Nat.lt_of_lt_of_le hga (below_alloc1 _ _).size | exact Nat.lt_of_lt_of_le hga hba'.size | exact Nat.lt_of_lt_of_le (Nat.lt_of_lt_of_le hga hba'.size) (below_alloc1 _ _).size) (by first | exact hgb | exact Nat.lt_of_lt_of_le hgb (below_alloc1 _ _).size | exact Nat.lt_of_lt_of_le hgb hbb'.size | exact Nat.lt_of_lt_of_le (Nat.lt_of_lt_of_le hgb hbb'.size) (below_alloc1 _ _).size) (by first | exact hra | exact hra.below (below_alloc1 _ _) hga | exact hra.below hba' hga | exact (hra.below hba' hga).below (below_alloc1 _ _) (Nat.lt_of_lt_of_le hga hba'.size)) (by first | exact hpb | exact hpb.below (below_alloc1 _ _) hgb | exact hpb.below hbb' hgb | exact (hpb.below hbb' hgb).below (below_alloc1 _ _) (Nat.lt_of_lt_of_le hgb hbb'.size))).mono ?_; rintro e wq ⟨Aw, cw, rfl, how, hbq⟩; have hkq := S0_kept hz2 hbq (by assumption); obtain ⟨hcq, hfq⟩ := old hbq; have hzq := hbq.size; (try simp at hzq); (try have hzq3 := Nat.lt_of_succ_le hzq); have hzq2 := (S0_below hkq).size; (try have p5 : w2.heap.size < wq.heap.size := (by omega)); (try have p6 : wa.heap.size < wq.heap.size := (by omega)); (try have p7 : wb.heap.size < wq.heap.size := (by omega)); have HOW := Lib.hid (OwnInk.mono (lo' := w2.heap.size) how (by first | omega | (simp; done) | (simp; omega)) (Nat.le_refl _) (Nat.le_refl _)); have HOW0 := Lib.hid how; clear how))
    all_goals
      rename_i hh
      have HH := Lib.hid hh
      clear hh
      go_wp2_with fail
      go_meet
      refine ⟨_, Aw, cw, rfl, rfl, by omega, ?_, HH, Lib.hid ?_, Lib.hid ?_⟩
      · first | (simp; done) | (simp [World.setCell]; omega)
      · go_simp
      · first | exact OwnInk.mono (HOW.out.kept (below_alloc1 _ _)) (Nat.le_refl _) (below_alloc1 _ _).size (Nat.le_refl _) | exact OwnInk.mono (HOW0.out.set' (.inl (by first | omega | (simp; done) | (simp; omega))) _) (by first | omega | (simp; done) | (simp; omega)) (by simp [World.setCell]) (Nat.le_refl _)
  case rest =>
    obtain ⟨K6, Aw, cw, rfl, rfl, hK6a, hK6b, HC, HC6, HO6⟩ := hcut
    clear hk0 d2 d3 hl'
    obtain ⟨s8, hs8⟩ : ∃ s8, s8 = wc.heap.size := ⟨_, rfl⟩
    have e2 := HC.out.1
    have e3 := HC.out.2.1
    have hzc := (S0_below HC.out).size
    have lz0 : w.heap.size < wc.heap.size := by omega
    have lz1 : w.heap.size + 1 < wc.heap.size := by omega
    go_wp2_with fail
    refine (toInk_own A n cap ink _ HN.out hcap HM.out (HP2.out.below (S0_below HC.out))).mono ?_
    rintro e w9 ⟨G0, gs0, rfl, ho8, hb9⟩
    have HO8 := Lib.hid ho8
    have HB9 := Lib.hid hb9
    have HC9 := Lib.hid (S0_kept hz2 hb9 HC.out)
    have hz9 := hb9.size
    have f3 := HC9.out.2.1
    have lz19 : w.heap.size + 1 < w9.heap.size := by omega
    clear hb9 ho8 e2 e3
    go_wp2_with fail
    refine (toStroke_own B m cb pts _ HMM.out hcm (HQ2.out.below (S0_below (S0_kept hz2 (below_alloc1 w9 _) HC9.out)))).mono ?_
    rintro e w10 ⟨g1, rfl, hg1a, hg1b, ho9, hb10⟩
    simp at hg1a
    have HO9 := Lib.hid ho9
    have HB10 := Lib.hid ((below_alloc1 w9 _).trans (hb10.mono (below_alloc1 w9 _).size))
    have hz10 := hb10.size
    simp at hz10
    have k8 : w10.cell? ⟨w9.heap.size, 0, none⟩ = some (.slice (some ⟨G0, 0, none⟩) n n) := (hb10.cell (p := ⟨w9.heap.size, 0, none⟩) (by simp)).trans (by simp)
    have HK8 := Lib.hid k8
    have lz910 : w9.heap.size < w10.heap.size := by omega
    clear hb10 ho9 f3
    go_wp2_with fail
    refine (HIm.out G0 g1 _ (by simp; have := HO8.out.ghi; omega) (by simp; omega) (((HO8.out.rows HN.out).below HB10.out HO8.out.ghi).below (below_alloc1 w10 _) (by have := HO8.out.ghi; omega)) (HO9.out.1.below (below_alloc1 w10 _) hg1b)).mono ?_
    rintro e w11 ⟨Ag, cg, rfl, ho10, hb11⟩
    have HO10 := Lib.hid (show OwnInk (w10.heap.size + 1) w11.heap.size w11 Ag nr (FI res) by simpa using ho10)
    have HB11 := Lib.hid ((below_alloc1 w10 (.cells #[.slice (some ⟨g1, 0, none⟩) m m] 29)).trans (hb11.mono (below_alloc1 w10 _).size))
    have k9 : w11.cell? ⟨w10.heap.size, 0, none⟩ = some (.slice (some ⟨g1, 0, none⟩) m m) := (hb11.cell (p := ⟨w10.heap.size, 0, none⟩) (by simp)).trans (by simp)
    have hz11 := hb11.size
    simp at hz11
    have HST := Lib.hid (show St w2 w.heap.size A B n cap m cb K6 w9.heap.size w10.heap.size w11.heap.size Aw Ag G0 g1 nr cw cg s8 w9.heap.size (w10.heap.size + 1) w11.heap.size (FI res) (FI ink) (FI res) pts (w11.alloc (.cells #[.slice Ag nr cg] 40)) from by
      rw [hs8]
      have q11 := below_alloc1 w11 (.cells #[.slice Ag nr cg] 40)
      have q10 := HB11.out.trans (q11.mono HB11.out.size)
      have q9 := HB10.out.trans (q10.mono HB10.out.size)
      have qc := HB9.out.trans (q9.mono HB9.out.size)
      have q2 := (S0_below HC.out).trans (qc.mono (S0_below HC.out).size)
      have hg8 := HO8.out.ghi
      exact ⟨q2, by simp, (q2.cell (p := ⟨w.heap.size, 0, none⟩) (show w.heap.size < w2.heap.size by omega)).trans HK0.out.1, (q2.cell (p := ⟨w.heap.size + 1, 0, none⟩) hz2).trans HK0.out.2.1,
        (qc.cell (p := ⟨K6, 0, none⟩) hK6b).trans HC6.out, (q10.cell (p := ⟨w9.heap.size, 0, none⟩) lz910).trans HK8.out, (q11.cell (p := ⟨w10.heap.size, 0, none⟩) (show w10.heap.size < w11.heap.size by omega)).trans k9, by simp,
        HO6.out.kept qc, .inr ⟨G0, gs0, rfl, HO8.out.kept q9⟩, HO9.out.same (q10.block _ hg1b), HO10.out.kept q11, by omega⟩)
    clear hs8 hb11 ho10 k8 k9 HO8 HB9 HC9 HO9 HB10 HK8 HO10 HB11 HC HC6 HO6 lz910 lz19 lz0 lz1 hz9 hz10 hz11 hg1a hg1b hzc hK6a hK6b
    have st := HST.out
    have k2 := st.c6
    have k3 := st.c10
    have kz := st.top
    have ord := st.ord
    have kz6 : K6 < (w11.alloc (.cells #[.slice Ag nr cg] 40)).heap.size := by omega
    clear st
    have HRes' := Lib.hid (show ∀ q ∈ res, q.length ≤ 1048576 from fun q hq => by have := HRes.out q hq; omega)
    go_wp2_with fail
    refine (eqInk_own Ag Aw nr res _ HNR.out (by omega) HRes'.out HST.out.o10 HST.out.o6).mono ?_
    rintro e w12 ⟨rfl, hb12⟩
    have hst := HST.out.kept hb12
    clear hb12 HST k2 k3 kz kz6
    have e8 := hst.c8
    have e2 := hst.c2
    go_upto_region 14 with fail
    go_cut [58] (fun s wx => s = .bool false ∧ Hid (St w2 w.heap.size A B n cap m cb K6 w9.heap.size w10.heap.size w11.heap.size Aw Ag G0 g1 nr cw cg s8 w9.heap.size (w10.heap.size + 1) w11.heap.size (FI res) (FI ink) (FI res) pts wx))
    case first =>
      go_region_held3 (fun W => W.cell? ⟨w9.heap.size, 0, none⟩ = some (.slice (some ⟨G0, 0, none⟩) n n) ∧ W.cell? ⟨w.heap.size, 0, none⟩ = some (.slice A n cap) ∧ St w2 w.heap.size A B n cap m cb K6 w9.heap.size w10.heap.size w11.heap.size Aw Ag G0 g1 nr cw cg s8 w9.heap.size (w10.heap.size + 1) w11.heap.size (FI res) (FI ink) (FI res) pts W) (first | assumption | exact ⟨e8, e2, hst.drew⟩ | go_keep)
        (first
          | (go_at_call 21; refine (toInk_own A n cap ink _ HN.out hcap HM.out (by exact HP2.out.below (St.base (And.right (And.right (by assumption)))))).mono ?_; rintro e wa ⟨ga, gsa, rfl, hoa, hba⟩; have hsa := St.kept (And.right (And.right (by assumption))) hba; have hk2 := And.intro hsa.c8 (And.intro hsa.c2 hsa); have HOA := Lib.hid (show OwnInk _ _ wa (some ⟨ga, 0, none⟩) n (FI ink) from .inr ⟨ga, gsa, rfl, hoa⟩); clear hoa hsa)
          | (go_at_call 23; refine (eqInk_own (some ⟨G0, 0, none⟩) (some ⟨ga, 0, none⟩) n ink _ HN.out hcap HM.out (by exact St.o8 (And.right (And.right (by assumption)))) (by exact HOA.out)).mono ?_; rintro e wd ⟨rfl, hbd⟩; have hsd := St.kept (And.right (And.right (by assumption))) hbd; have hk3 := And.intro hsd.c8 (And.intro hsd.c2 hsd); clear hsd))
      all_goals
        rename_i hh
        have HH := Lib.hid hh.2.2
        clear hh
        go_wp2_with fail
        go_meet
        exact ⟨rfl, HH⟩
    case rest =>
      obtain ⟨rfl, HT⟩ := hcut
      clear hst e8 e2
      have hst := HT.out
      have e9 := hst.c9
      have e3 := hst.c3
      go_upto_region 16 with fail
      go_cut [63] (fun s wx => s = .bool false ∧ Hid (St w2 w.heap.size A B n cap m cb K6 w9.heap.size w10.heap.size w11.heap.size Aw Ag G0 g1 nr cw cg s8 w9.heap.size (w10.heap.size + 1) w11.heap.size (FI res) (FI ink) (FI res) pts wx))
      case first =>
        go_region_held3 (fun W => W.cell? ⟨w10.heap.size, 0, none⟩ = some (.slice (some ⟨g1, 0, none⟩) m m) ∧ W.cell? ⟨w.heap.size + 1, 0, none⟩ = some (.slice B m cb) ∧ St w2 w.heap.size A B n cap m cb K6 w9.heap.size w10.heap.size w11.heap.size Aw Ag G0 g1 nr cw cg s8 w9.heap.size (w10.heap.size + 1) w11.heap.size (FI res) (FI ink) (FI res) pts W) (first | assumption | exact ⟨e9, e3, hst.drew⟩ | go_keep)
          (first
            | (go_at_call 16; refine (toStroke_own B m cb pts _ HMM.out hcm (by exact HQ2.out.below (St.base (And.right (And.right (by assumption)))))).mono ?_; rintro e wb ⟨gb, rfl, hgb0, hgb, hob, hbb⟩; have hsb := St.kept (And.right (And.right (by assumption))) hbb; have hk2 := And.intro hsb.c9 (And.intro hsb.c3 hsb); have HOB := Lib.hid hob; clear hob hsb)
            | (go_at_call 18; refine (eqStroke_sameC g1 gb m m m pts _ HMM.out hcm (by exact (St.o9 (And.right (And.right (by assumption)))).lt) (by exact hgb) (by exact (St.o9 (And.right (And.right (by assumption)))).1) (by exact HOB.out.1)).mono ?_; rintro e wd ⟨rfl, hbd⟩; have hsd := St.kept (And.right (And.right (by assumption))) hbd; have hk3 := And.intro hsd.c9 (And.intro hsd.c3 hsd); clear hsd))
        all_goals
          rename_i hh
          have HH := Lib.hid hh.2.2
          clear hh
          go_wp2_with fail
          go_meet
          exact ⟨rfl, HH⟩
      case rest =>
        obtain ⟨rfl, HT2⟩ := hcut
        clear hst e9 e3 HT
        have HB8 := Lib.hid (show 1 + 3 * pre (FI ink) n ≤ 4000000000000 by
          have h1 := pre_le (F := FI ink) (n := n) (M := 1048576) (fun i _ => FI_le HM.out i)
          have h2 : n * 1048576 ≤ 1048576 * 1048576 := Nat.mul_le_mul_right _ hcap
          omega)
        have HB10' := Lib.hid (show 1 + 3 * pre (FI res) nr ≤ 4000000000000 by
          have h1 := pre_le (F := FI res) (n := nr) (M := 60) (fun i _ => FI_le HRes.out i)
          have h2 : nr * 60 ≤ 17 * 60 := Nat.mul_le_mul_right _ hr17
          omega)
        have e8 := HT2.out.c8
        have k8z : w9.heap.size < wc.heap.size := by have := HT2.out.top; omega
        go_wp2_with fail
        refine (markInk_one (some ⟨G0, 0, none⟩) n (FI ink) _ hcap (by have := HB8.out; omega) HT2.out.o8).mono ?_
        rintro e w18 ⟨rfl, ho18, hw18⟩
        have HT3 := Lib.hid (HT2.out.mark8 hw18 ho18)
        clear ho18 hw18 HT2 e8 k8z
        obtain ⟨k1, hk1⟩ : ∃ k1, 1 + 3 * pre (FI ink) n = k1 := ⟨_, rfl⟩
        obtain ⟨m0, hm0⟩ : ∃ m0, 1 + 3 * pre (FI res) nr = m0 := ⟨_, rfl⟩
        have hk1b : k1 ≤ 4000000000000 := hk1 ▸ HB8.out
        have hm0b : m0 ≤ 4000000000000 := hm0 ▸ HB10'.out
        have HM0 := Lib.hid hm0
        rw [hk1]
        clear hk1 hm0 HB8
        have e9 := HT3.out.c9
        have k9z : w10.heap.size < w18.heap.size := by have := HT3.out.top; omega
        go_wp2_with fail
        refine (markStroke_own g1 m k1 pts _ HMM.out (by omega) HT3.out.o9).mono ?_
        rintro e w19 ⟨rfl, ho19, hw19⟩
        have HT4 := Lib.hid (HT3.out.mark9 hw19 ho19)
        clear ho19 hw19 HT3 e9 k9z
        generalize hk2 : k1 + 3 * m = k2
        have hk2n : ¬ ((k2 : Int) < 0) := by omega
        have hk2d : decide ((k2 : Int) < 0) = false := decide_eq_false hk2n
        clear hk2 hk1b
        have e6 := HT4.out.c6
        have e10 := HT4.out.c10
        have k10z := HT4.out.top
        have k6z : K6 < w19.heap.size := by omega
        go_wp2_with fail
        refine (eqInk_own Ag Aw nr res _ HNR.out (by omega) HRes'.out HT4.out.o10 HT4.out.o6).mono ?_
        rintro e w20 ⟨rfl, hb20⟩
        have HT5 := Lib.hid (HT4.out.kept hb20)
        clear hb20 HT4 e6 e10 k10z k6z
        have e10 := HT5.out.c10
        have k10z := HT5.out.top
        go_wp2_with fail
        refine (markInk_one Ag nr (FI res) _ (by omega) (by have := HB10'.out; omega) HT5.out.o10).mono ?_
        rintro e w24 ⟨rfl, ho24, hw24⟩
        rw [HM0.out]
        have HT6 := Lib.hid (HT5.out.mark10 hw24 ho24)
        clear ho24 hw24 HT5 e10 k10z
        have e10 := HT6.out.c10
        have k10z := HT6.out.top
        go_wp2_with fail
        refine (heldInk_one Ag nr (FI res) _ (by omega) (by have := HB10'.out; omega) HT6.out.o10).mono ?_
        rintro e w26 ⟨rfl, hb26⟩
        rw [HM0.out]
        have HT7 := Lib.hid (HT6.out.kept hb26)
        clear hb26 HT6 e10 k10z
        have hm0n : ¬ ((m0 : Int) < 0) := by omega
        have HP26 := Lib.hid (HP2.out.below HT7.out.base)
        have HQ26 := Lib.hid (HQ2.out.below HT7.out.base)
        have hz26 : w.heap.size + 1 < w26.heap.size := by have := HT7.out.top; omega
        have d2 := HT7.out.c2
        have d3 := HT7.out.c3
        have hk0 : S0 w.heap.size A B n cap m cb w26 w26 := ⟨d2, d3, Below.refl _ _⟩
        go_upto_region 31 with fail
        go_cut [15, 16] (fun s15 s16 wx => ∃ (K : Nat) (Aw : Option Addr) (cw : Nat), s15 = .pointer (some ⟨K, 0, none⟩) ∧ s16 = .int .i64 code ∧ w26.heap.size ≤ K ∧ K < wx.heap.size ∧ Hid (S0 w.heap.size A B n cap m cb w26 wx) ∧ Hid (wx.cell? ⟨K, 0, none⟩ = some (.slice Aw nr cw)) ∧ Hid (OwnInk w26.heap.size wx.heap.size wx Aw nr (FI res)))
        case first =>
          go_region_held3 (fun W => W.cell? ⟨w.heap.size, 0, none⟩ = some (.slice A n cap) ∧ W.cell? ⟨w.heap.size + 1, 0, none⟩ = some (.slice B m cb) ∧ Below w26.heap.size w26 W) (first | assumption | exact S0_drew hk0 | exact S0_kept hz26 (below_alloc1 _ _) (by assumption) | exact S0_set hz26 (by omega) (by assumption) | go_keep)
            (first
              | (go_at_call 21; refine (toInk_own A n cap ink _ HN.out hcap HM.out (by exact HP26.out.below (S0_below (by assumption)))).mono ?_; rintro e wa ⟨ga, gsa, rfl, hoa, hba⟩; have hka := S0_kept hz26 hba (by assumption); have hra := hoa.rows HN.out; have hga : ga < wa.heap.size := hoa.ghi; obtain ⟨hca, hfa⟩ := old hba; have hza := hba.size; (try simp at hza); (try have hza3 := Nat.lt_of_succ_le hza); have hza2 := (S0_below hka).size; (try have p1 : w26.heap.size < wa.heap.size := (by omega)); (try have p2 : wb.heap.size < wa.heap.size := (by omega)); (try have hbb' : Below wb.heap.size wb wa := (by first | exact hba | exact (below_alloc1 wb _).trans (hba.mono (below_alloc1 wb _).size))); clear hoa)
              | (go_at_call 16; refine (toStroke_own B m cb pts _ HMM.out hcm (by exact HQ26.out.below (S0_below (by assumption)))).mono ?_; rintro e wb ⟨gb, rfl, hgb0, hgb, hob, hbb⟩; have hkb := S0_kept hz26 hbb (by assumption); have hpb := hob.1; obtain ⟨hcb, hfb⟩ := old hbb; have hzb := hbb.size; (try simp at hzb); (try have hzb3 := Nat.lt_of_succ_le hzb); have hzb2 := (S0_below hkb).size; (try have p3 : w26.heap.size < wb.heap.size := (by omega)); (try have p4 : wa.heap.size < wb.heap.size := (by omega)); (try have hba' : Below wa.heap.size wa wb := (by first | exact hbb | exact (below_alloc1 wa _).trans (hbb.mono (below_alloc1 wa _).size))); clear hob)
              | (go_at_call 37; refine (HIm.out ga gb _ (by first | exact hga | exact Nat.lt_of_lt_of_le hga (below_alloc1 _ _).size | exact Nat.lt_of_lt_of_le hga hba'.size | exact Nat.lt_of_lt_of_le (Nat.lt_of_lt_of_le hga hba'.size) (below_alloc1 _ _).size) (by first | exact hgb | exact Nat.lt_of_lt_of_le hgb (below_alloc1 _ _).size | exact Nat.lt_of_lt_of_le hgb hbb'.size | exact Nat.lt_of_lt_of_le (Nat.lt_of_lt_of_le hgb hbb'.size) (below_alloc1 _ _).size) (by first | exact hra | exact hra.below (below_alloc1 _ _) hga | exact hra.below hba' hga | exact (hra.below hba' hga).below (below_alloc1 _ _) (Nat.lt_of_lt_of_le hga hba'.size)) (by first | exact hpb | exact hpb.below (below_alloc1 _ _) hgb | exact hpb.below hbb' hgb | exact (hpb.below hbb' hgb).below (below_alloc1 _ _) (Nat.lt_of_lt_of_le hgb hbb'.size))).mono ?_; rintro e wq ⟨Aw, cw, rfl, how, hbq⟩; have hkq := S0_kept hz26 hbq (by assumption); obtain ⟨hcq, hfq⟩ := old hbq; have hzq := hbq.size; (try simp at hzq); (try have hzq3 := Nat.lt_of_succ_le hzq); have hzq2 := (S0_below hkq).size; (try have p5 : w26.heap.size < wq.heap.size := (by omega)); (try have p6 : wa.heap.size < wq.heap.size := (by omega)); (try have p7 : wb.heap.size < wq.heap.size := (by omega)); have HOW := Lib.hid (OwnInk.mono (lo' := w26.heap.size) how (by first | omega | (simp; done) | (simp; omega)) (Nat.le_refl _) (Nat.le_refl _)); have HOW0 := Lib.hid how; clear how))
          all_goals
            rename_i hh
            have HH := Lib.hid hh
            clear hh
            go_wp2_with fail
            go_meet
            refine ⟨_, Aw, cw, rfl, rfl, by omega, ?_, HH, Lib.hid ?_, Lib.hid ?_⟩
            · first | (simp; done) | (simp [World.setCell]; omega)
            · go_simp
            · first | exact OwnInk.mono (HOW.out.kept (below_alloc1 _ _)) (Nat.le_refl _) (below_alloc1 _ _).size (Nat.le_refl _) | exact OwnInk.mono (HOW0.out.set' (.inl (by first | omega | (simp; done) | (simp; omega))) _) (by first | omega | (simp; done) | (simp; omega)) (by simp [World.setCell]) (Nat.le_refl _)
        case rest =>
          obtain ⟨K15, Ah, ch, rfl, rfl, hKa, hKb, HC', HC15, HO15⟩ := hcut
          clear hk0 d2 d3
          have HT8 := Lib.hid (HT7.out.kept (S0_below HC'.out))
          have e15 := HC15.out
          have e6 := HT8.out.c6
          have k6z : K6 < wc.heap.size := by have := HT8.out.top; omega
          clear HT7 HP26 HQ26
          go_wp2_with fail
          refine (eqInk_own Ah Aw nr res _ HNR.out (by omega) HRes'.out HO15.out HT8.out.o6).mono ?_
          rintro e w32 ⟨rfl, hb32⟩
          have HT9 := Lib.hid (HT8.out.kept hb32)
          clear hb32 HT8 e15 e6 k6z
          have e10 := HT9.out.c10
          have k10z := HT9.out.top
          go_wp2_with fail
          refine (heldInk_one Ag nr (FI res) _ (by omega) (by have := HB10'.out; omega) HT9.out.o10).mono ?_
          rintro e w35 ⟨rfl, hb35⟩
          rw [HM0.out]
          have HF := Lib.hid (HBw.out.trans ((HT9.out.kept hb35).base.mono HBw.out.size))
          clear hb35 HT9 e10 k10z
          go_wp2
          go_ret
          exact ⟨rfl, HF.out⟩

theorem reads : ∀ t ∈ Try.f10.params.toList, Try.prog.readableRec t = true ∧ t < Try.prog.types.size := by
  rw [Try.params10]
  intro t ht
  have h' : t = 35 ∨ t = 24 := by simpa using ht
  rcases h' with rfl | rfl <;> exact ⟨by kernel_rfl, of_decide_eq_true (by kernel_rfl)⟩

set_option maxRecDepth 100000 in
theorem contract (H : Type) (enc : TypeId × Value → H) (W : World) (base : Nat) (args : Array Value) (ds gs : List (DataW H)) (before : List MemPlace)
    (hval : ∀ (j : Nat) t v, Try.f10.params[j]? = some t → args[j]? = some v → Value.okWide Try.prog W .any base t v)
    (hW : DataW.Whole enc Try.prog Try.f10.params.toList Rows.fnExactAddStrokeSpec.vars false W args.toList ds gs before) :
    Calls Try.prog 10 args W fun e W' => ∃ v, e = .returned v ∧ Rows.fnExactAddStrokeSpec.post enc Try.prog Try.f10 false true false false W args v W' := by
  have hW' := hW
  obtain ⟨p, q, hA0, hV, rfl, hfz, hnd⟩ := hW
  have hA : DataW.TrodAll enc Try.prog W 0 (fun _ => true) true Try.f10.params.toList args.toList ds p := hA0
  rw [Try.params10] at hA hval
  obtain ⟨v0, vs0, d0, ds0, p0, q0, hargs, rfl, rfl, h0, r0⟩ := trodAll_cons hA
  obtain ⟨v1, vs1, d1, ds1, p1, q1, rfl, rfl, rfl, h1, r1⟩ := trodAll_cons r0
  obtain ⟨rfl, rfl, rfl⟩ := trodAll_nil r1
  obtain rfl : args = #[v0, v1] := by cases args; simp_all
  obtain ⟨rfl, rfl⟩ := trodVars_none hV
  obtain ⟨A, n, cap, ink, rfl, hn, hmx, hp⟩ := open_ink (hval 0 35 v0 rfl rfl) h0
  obtain ⟨B, m, cb, pts, rfl, hm, hmx', hq⟩ := open_stroke (hval 1 24 v1 rfl rfl) h1
  refine (walk A B n cap m cb ink pts W hn hmx hp hm hmx' hq).mono fun e W' ⟨he, hg⟩ => ?_
  subst he
  exact ⟨_, rfl, law_post (by kernel_rfl) reads (by kernel_rfl) Try.underlying4 rfl hW' rfl rfl rfl hg⟩

set_option maxRecDepth 100000 in
theorem lifted (os : Os) (started : os.Started) (H : Type) (enc : TypeId × Value → H) :
    ReturnsInHanded {} Try.checked os 10 .any (Rows.fnExactAddStrokeSpec.pre6 enc Try.prog Try.f10 Rows.fnExactAddStrokeRow.domain false) (Rows.fnExactAddStrokeSpec.post enc Try.prog Try.f10 false true false false) := by
  refine returnsInHanded_of_change (C := Try.checked) own started (by kernel_rfl) Try.func10
    (ChangeSpec.witness6 (enc := enc) (C := Try.checked) false ⟨#[], #[.agg #[.slice none 0 0], .agg #[.slice none 0 0]], []⟩ 8 (by kernel_rfl) (by kernel_rfl) (by kernel_rfl) (by kernel_rfl)) ?_
  intro W base args ds gs before hval hW _ _
  exact contract H enc W base args ds gs before hval hW

theorem holds : Rows.FnExactAddStrokeSaid :=
  OpenClaim.holds_of_wide 10 Try.f10 rfl rfl rfl rfl rfl rfl rfl ⟨rfl, rfl, rfl, rfl, rfl⟩ rfl rfl rfl rfl rfl (by kernel_rfl) Try.func10 (by kernel_rfl)
    (of_decide_eq_true (by kernel_rfl)) (by unfold Func.isWrapper; first | (rw [if_pos (by decide +kernel)]; kernel_rfl) | (rw [if_neg (by decide +kernel)]; exact ⟨rfl, rfl⟩))
    (fun os started H enc _ => lifted os started H enc)
end Go.Proofs.Ytklfmlbokedbdaa.fnExactAddStroke
