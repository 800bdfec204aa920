/-
  Proved: the program's function that chooses the least hypothesis of each label returns the first ones of them, in order, in memory of its own.
  Conditions: the labels are labels, and there are not many.
-/
import Derived.Test.YtofgdgdmmlgmnaaHyQ
import Derived.Maps.OwnOps
namespace Go.Proofs.Ytofgdgdmmlgmnaa.hyp
open Go.ChangeShapes Go.WideShapes Go.ChangeAt Go.RowKit Go.Joins
open Go.Proofs.Ytofgdgdmmlgmnaa.core Go.Proofs.Ytofgdgdmmlgmnaa.rown Go.Proofs.Ytofgdgdmmlgmnaa.stk Go.Proofs.Ytofgdgdmmlgmnaa.boxed Go.Proofs.Ytofgdgdmmlgmnaa.ft Go.Proofs.Ytofgdgdmmlgmnaa.lab
set_option linter.unusedVariables false
set_option linter.unusedSimpArgs false
theorem run_mkH {P : Program} {t k e : TypeId} (ht : P.underlying t = some (.map k e)) (n : Nat) (w : World) : (Instr.makeMap t (some (.int .i64 (n : Int)))).run P w = .ok (.map (some w.heap.size)) (w.alloc (.map #[] 0)) := by
  simp [Instr.makeMap, go_sem, run_underlying ht]
theorem run_min2 {P : Program} (w : World) (ts : Array TypeId) (t : TypeId) (x y : Int) : (Builtin.min_ ts t #[.int .i64 x, .int .i64 y]).run P w = .ok (.int .i64 (min x y)) w := by
  have e : ∀ p q : Int, (if q < p then q else p) = min p q := fun p q => by
    rw [Int.min_def]
    split <;> split <;> omega
  simp [Builtin.min_, Builtin.min2, e, go_sem]
theorem hy_key {s : ByteArray} (h : s.size ≤ maxLen) : keyOf Try.prog 9 (.string s) = some (kyL s) := Go.WideMaps.keyOf_string_mk Try.underlying9 h
/-- What a look-up finds. -/
theorem look {w : World} {b k : Nat} {D : DataW Unit} {xs : List Hy} {s : ByteArray} (hm : MapIs D xs) (h : w.ownsMap Try.prog 9 hyElem b k D) (hs : s.size ≤ maxLen) :
    ∃ p : Hy, (Instr.lookup 108 (.map (some b)) (.string s) false).run Try.prog w = .ok (.agg #[.string p.1, .int .i64 p.2]) w ∧ ((p = (⟨#[]⟩, 0) ∧ ∀ q ∈ xs, q.1 ≠ s) ∨ (MinL xs p ∧ p.1 = s)) := by
  obtain ⟨v, ps, hrun, hv⟩ := h.lookup lawS Try.underlying108 (Try.zeroValue40 w) (hyElem_mk (⟨#[]⟩, 0)) (hy_key hs)
  obtain ⟨p, rfl, e⟩ := hyElem_inv hv
  have e1 := (Prod.mk.inj e).1
  refine ⟨p, hrun, ?_⟩
  by_cases hx : ∃ q ∈ xs, q.1 = s
  · obtain ⟨q, hq, eq⟩ := min_exists s xs hx
    subst eq
    rw [hm.at_ q hq] at e1
    rw [← encD_inj e1]
    exact .inr ⟨hq, rfl⟩
  · have hno : ∀ q ∈ xs, q.1 ≠ s := fun q hq eq => hx ⟨q, hq, eq⟩
    rw [hm.none hno] at e1
    exact .inl ⟨(encD_inj e1).symm, hno⟩
theorem rws_take {row : Nat → List Value} {k : Nat} (hk : ∀ i, (row i).length = k) {m n : Nat} (h : m ≤ n) : (rws row n).take (m * k) = rws row m := by
  induction n with
  | zero => obtain rfl : m = 0 := by omega
            simp [rws]
  | succ n ih =>
    rcases Nat.lt_or_ge m (n + 1) with g | g
    · rw [rws, List.take_append_of_le_length (by rw [rws_len hk]; exact Nat.mul_le_mul_right k (by omega))]
      exact ih (by omega)
    · obtain rfl : m = n + 1 := by omega
      rw [List.take_of_length_le (by rw [rws_len hk]; exact Nat.le_refl _)]
/-- The first ones of a list of one's own. -/
theorem row_pre {w : World} {base n m k E g c : Nat} {row : Nat → List Value} (h : w.ownsRow base E k (.slice (some ⟨g, 0, none⟩) n c) n (rws row n)) (hk : ∀ i, (row i).length = k) (hm : m ≤ n) : w.ownsRow base E k (.slice (some ⟨g, 0, none⟩) m c) m (rws row m) := by
  obtain ⟨hl, h⟩ := h
  rcases h with ⟨he, -⟩ | ⟨gb, cap', cur, he, h1, h2, h3, h4, h5, h6⟩
  · cases he
  injection he with he1 he2 he3
  injection he1 with he1
  injection he1 with he1
  subst he1 he3
  refine ⟨by rw [rws_len hk], .inr ⟨g, c, cur, rfl, h1, h2, by omega, h4, h5, ?_⟩⟩
  rw [← rws_take hk hm, ← h6, List.take_take, Nat.min_eq_left (Nat.mul_le_mul_right k hm)]
set_option maxRecDepth 100000 in
set_option maxHeartbeats 8000000 in
theorem leastI {c : Nat} (A : Option Addr) (n q : Nat) (f : Nat → Hy) (w : World) (hn : n ≤ 1000) (hq : q ≤ 1000) (hs : ∀ i, i < n → (f i).1.size ≤ maxLen ∧ labB (f i).1 = true) (hp : HyAt w A n f) :
    Calls Try.prog 51 #[.slice A n c, .int .i64 (q : Int)] w fun e w' => ∃ v out, e = .returned v ∧ Least (lst n f) out ∧ out.length ≤ n ∧ w'.ownsRow w.heap.size 40 2 v (min out.length q) (rws (hyR (atH out)) (min out.length q)) ∧ Below w.heap.size w w' := by
  have HP := Lib.hid hp
  have HS := Lib.hid hs
  have hmk := run_mkH Try.underlying108 n w
  have K0 := Lib.hid (show ∃ D, MapIs D (lst 0 f) ∧ (w.alloc (.map #[] 0)).ownsMap Try.prog 9 hyElem w.heap.size 0 D from ⟨_, MapIs.start, World.ownsMap_made _ _ _ _⟩)
  clear hp hs
  go_enter Try.func51, Try.ntmps51
  go_wp2
  clear hmk
  go_loopw [15] (fun i w' => ∃ k : Nat, k ≤ n ∧ i = .int .i64 (k : Int) ∧ Hid (∃ D, MapIs D (lst k f) ∧ w'.ownsMap Try.prog 9 hyElem w.heap.size k D) ∧ Hid (Below w.heap.size w w')) (fun i _ => n - (intOf i).toNat)
  case atStart => exact ⟨0, Nat.zero_le _, rfl, K0, Lib.hid ((Below.refl _ w).alloc (Nat.le_refl _) _)⟩
  case round =>
    obtain ⟨k, hk, rfl, HM, HB⟩ := hrel
    by_cases hlt : k < n
    · obtain ⟨g, o, rfl, hg, c0, c1⟩ := (HP.out.kept HB.out) k hlt
      have hli : (k : Int) < (n : Int) := by omega
      obtain ⟨hsz, hlab⟩ := HS.out k hlt
      obtain ⟨D, hmi, hown⟩ := HM.out
      have hne : ¬ (f k).1.toList = [] := by
        have h1 := labB_size hlab
        intro e
        rw [ByteArray.toList_eq] at e
        have h2 : (f k).1.data.size = 0 := by rw [← Array.length_toList, e]; rfl
        have h3 : (f k).1.size = (f k).1.data.size := rfl
        omega
      have HST := Lib.hid (lst_succ k f)
      obtain ⟨x, hx⟩ : ∃ x, f k = x := ⟨_, rfl⟩
      rw [hx] at c0 c1 hsz hne HST
      obtain ⟨s, cc⟩ := x
      dsimp only at c0 c1 hsz hne
      clear hx hlab HM
      have HO2 := Lib.hid (fun o1 o2 => map_alloc (map_alloc hown o1) o2)
      obtain ⟨p, hrun, hcase⟩ := look hmi (map_alloc hown (.cells #[.string s, .int .i64 cc] 40)) hsz
      have HK := Lib.hid (hy_key hsz)
      have HB2 := Lib.hid (fun o1 o2 => HB.out.trans ((below_alloc2 wr o1 o2).mono HB.out.size))
      obtain ⟨ps, pc⟩ := p
      dsimp only at hrun
      rcases hcase with ⟨he, hno⟩ | ⟨hmin, he⟩
      · obtain ⟨rfl, rfl⟩ := Prod.mk.inj he
        have HN := Lib.hid (show MapIs (D.put (kyL s) (encD (s, cc))) (lst (k + 1) f) by rw [HST.out]; exact hmi.put (s, cc) (fun q hq e => absurd e (hno q hq)))
        clear he hno hmi hown HST hne
        go_wp2_with (first
          | (at_mapUpdate; refine wpList_mapUpdate_own _ rfl _ _ _ 108 rfl 9 40 lawS Try.underlying108 _ w.heap.size k D rfl (HO2.out _ _) (by unfold maxLen; omega) _ _ (kyL s) rfl rfl HK.out (encD (s, cc)) [] (hyElem_mk (s, cc)) ?_; intro w1 hown1 hgrow1)
          | go_in)
        have HM2 := Lib.hid (show ∃ D, MapIs D (lst (k + 1) f) ∧ w1.ownsMap Try.prog 9 hyElem w.heap.size (k + 1) D from ⟨_, HN.out, hown1⟩)
        have HB3 := Lib.hid ((HB2.out _ _).grown hgrow1 (HB2.out _ _).size (fun j hj => by cases hj; exact Nat.le_refl _))
        clear hown1 hgrow1 hrun
        go_roundw
        case rel => exact ⟨k + 1, by omega, by go_num, HM2, HB3⟩
        case measure => simp [intOf]; omega
      · dsimp only at he
        subst he
        by_cases hlc : cc < pc
        · have HN := Lib.hid (show MapIs (D.put (kyL ps) (encD (ps, cc))) (lst (k + 1) f) by
            rw [HST.out]
            exact hmi.put (ps, cc) (fun r hr e => by have h1 := hmin.2 r hr e; dsimp only at h1 ⊢; omega))
          clear hmin hmi hown HST
          go_wp2_with (first
            | (at_mapUpdate; refine wpList_mapUpdate_own _ rfl _ _ _ 108 rfl 9 40 lawS Try.underlying108 _ w.heap.size k D rfl (HO2.out _ _) (by unfold maxLen; omega) _ _ (kyL ps) rfl rfl HK.out (encD (ps, cc)) [] (hyElem_mk (ps, cc)) ?_; intro w1 hown1 hgrow1)
            | go_in)
          have HM2 := Lib.hid (show ∃ D, MapIs D (lst (k + 1) f) ∧ w1.ownsMap Try.prog 9 hyElem w.heap.size (k + 1) D from ⟨_, HN.out, hown1⟩)
          have HB3 := Lib.hid ((HB2.out _ _).grown hgrow1 (HB2.out _ _).size (fun j hj => by cases hj; exact Nat.le_refl _))
          clear hown1 hgrow1 hrun
          go_roundw
          case rel => exact ⟨k + 1, by omega, by go_num, HM2, HB3⟩
          case measure => simp [intOf]; omega
        · have HN := Lib.hid (show MapIs D (lst (k + 1) f) by
            rw [HST.out]
            exact hmi.keep (ps, cc) (ps, pc) hmin rfl (by dsimp only; omega))
          have d0 : decide (cc < pc) = false := decide_eq_false hlc
          have HM2 := Lib.hid (fun o1 o2 => (show ∃ D, MapIs D (lst (k + 1) f) ∧ ((wr.alloc o1).alloc o2).ownsMap Try.prog 9 hyElem w.heap.size (k + 1) D from ⟨_, HN.out, (HO2.out o1 o2).mono (by omega)⟩))
          clear hmin hmi hown HST HO2 HN
          go_wp2
          clear hrun
          go_roundw
          case rel => exact ⟨k + 1, by omega, by go_num, HM2.out _ _, HB2.out _ _⟩
          case measure => simp [intOf]; omega
    · obtain rfl : k = n := by omega
      obtain ⟨D, hmi, hown⟩ := HM.out
      have hsD := size_le hown
      have HV := Lib.hid (fun W => valuesM (some w.heap.size) W)
      have BB := Lib.hid (below_alloc1 wr (.cells #[.map (some w.heap.size)] 108))
      have HC := Lib.hid (collectM (Bm := wr.heap.size) D (lst k f) (wr.alloc (.cells #[.map (some w.heap.size)] 108)) (by omega) (by simp) (Boxed.new wr _ _).cell hmi (map_alloc hown _))
      clear hmi hown HM HP HS K0 hlt
      go_wp2_with fail
      refine (HV.out _).mono ?_
      rintro e _ ⟨rfl, rfl⟩
      go_wp2_with fail
      refine HC.out.mono ?_
      rintro e w2 ⟨v, hs, rfl, ⟨hA1, hA2, hA3⟩, hrow, hb2⟩
      have hle : hs.length ≤ k := by omega
      have HLE := Lib.hid (srt_least hA2 hA3)
      have HLN := Lib.hid (srt_len hs)
      have HB2 := Lib.hid (HB.out.trans ((BB.out.trans (hb2.mono BB.out.size)).mono HB.out.size))
      have hrow0 := row_low (b' := w.heap.size) hrow (Nat.le_trans HB.out.size BB.out.size)
      clear hA1 hA2 hA3 hrow HC HV hsD
      obtain ⟨m, hm⟩ : ∃ m, min hs.length q = m := ⟨_, rfl⟩
      rcases hrow0.2 with ⟨rfl, hnil⟩ | ⟨g, cap, cur, rfl, -, -, hcap, -⟩
      · have h0 : hs.length = 0 := by
          have h1 := rws_len (hyR_len (atH hs)) hs.length
          rw [hnil] at h1
          simp at h1
          omega
        have hmn := fun W ts t => run_min2 (P := Try.prog) W ts t 0 (q : Int)
        rw [show min (0 : Int) (q : Int) = 0 by omega] at hmn
        have HSN := Lib.hid (fun W => sortNil 0 none W)
        have HNIL := Lib.hid (show ∀ W : World, W.ownsRow w.heap.size 40 2 (.slice none 0 0) (min (srtH hs).length q) (rws (hyR (atH (srtH hs))) (min (srtH hs).length q)) from fun W => by
          rw [HLN.out, show min hs.length q = 0 by omega]; exact World.ownsRow_nil _ _ _ _)
        clear hnil hrow0 HB BB hb2
        go_wp2_with fail
        refine (HSN.out _).mono ?_
        rintro e _ ⟨rfl, rfl⟩
        go_wp2
        go_ret
        exact ⟨.slice none 0 0, srtH hs, rfl, HLE.out, by rw [HLN.out]; exact hle, HNIL.out w2, HB2.out⟩
      · have HSO := Lib.hid (sortHI hs w2 (by omega) hrow0 (Nat.le_trans HB.out.size (Nat.le_trans BB.out.size hb2.size)))
        have hmi : min (hs.length : Int) (q : Int) = (m : Int) := by omega
        have hmn := fun W ts t => run_min2 (P := Try.prog) W ts t (hs.length : Int) (q : Int)
        rw [hmi] at hmn
        have hml : m ≤ hs.length := by omega
        have hm0 : (0 : Int) ≤ (m : Int) := by omega
        have hmc : (m : Int) ≤ (cap : Int) := by omega
        have hmc2 : ¬ (cap : Int) < (m : Int) := by omega
        have HMM := Lib.hid (show min (srtH hs).length q = m by rw [HLN.out]; exact hm)
        clear hm hmi hrow0 HB BB hb2
        go_wp2_with fail
        refine HSO.out.mono ?_
        rintro e w3 ⟨rfl, hrow3, hb3⟩
        have HB3 := Lib.hid (hb3 w HB2.out)
        have HR := Lib.hid (row_pre hrow3 (hyR_len _) hml)
        clear hb3 hrow3 HSO HB2
        go_wp2
        go_ret
        exact ⟨_, srtH hs, rfl, HLE.out, by rw [HLN.out]; exact hle, by rw [HMM.out]; exact HR.out, HB3.out⟩
end Go.Proofs.Ytofgdgdmmlgmnaa.hyp
