/-
  Proved: what the program's function that finds the nearest list and leaves lists out returns.
  Conditions: those of the theorem.
-/
import Derived.Test.YtkcfghbkcgommabNearI
import Derived.Test.YtkcfghbkcgommabOrdS
namespace Go.Proofs.Ytkcfghbkcgommab.env
open Go.ChangeShapes Go.WideShapes Go.ChangeAt Go.RowKit Go.Joins Go.Shelf
open Go.Proofs.Ytkcfghbkcgommab.core Go.Proofs.Ytkcfghbkcgommab.rown Go.Proofs.Ytkcfghbkcgommab.stk Go.Proofs.Ytkcfghbkcgommab.boxed Go.Proofs.Ytkcfghbkcgommab.ft Go.Proofs.Ytkcfghbkcgommab.seq Go.Proofs.Ytkcfghbkcgommab.tab Go.Proofs.Ytkcfghbkcgommab.dp
set_option linter.unusedVariables false
set_option linter.unusedSimpArgs false
attribute [local go_sem] Oper.semAt_some
theorem round_quiet {P : Program} {id lr n : Nat} {Q : Exit → Act → World → Prop} {a : Act} {w : World} {l : List Oper} (hm : P.follows .mixedOrders = true) (hnd : rnd.noDefer l.toArray = true) (hL : ¬ LetsOut Q) (hB : Region.lexB .any l.toArray = true)
    (h : wpQuiet P l.toArray (fun w' => ∃ p : Kept w, w' = p.world) (fun a' => ∀ w', (∃ p : Kept w, w' = p.world) → Q .normal a' w') l a) : (Code.region id l.toArray true).wpIn (Fence.wide.inRound lr) n P Q a w := by
  simp only [Region.lexB, Bool.and_eq_true] at hB
  refine wpIn_region_any hm (rnd.wpAnyIn_of_wpAny hnd hL _ _ _ _ (wpAny_of_quiet (C := fun w' => ∃ p : Kept w, w' = p.world) (Q := fun a' => ∀ w', (∃ p : Kept w, w' = p.world) → Q .normal a' w') (fun _ w' hw' h => h w' hw') _ _ _ _ ⟨⟨w.drew, (Below.refl _ _).drew⟩, rfl⟩ ?_))
  have := wpAnyQ_lex (C := fun w' => ∃ p : Kept w, w' = p.world) (md := .any) hB.1 l 0 (Array.replicate l.toArray.size false) a (by simp) (by simpa using hB.2) h
  simpa using this
/-- One list more. -/
def istep (b v : Int) (i : Nat) (s : Int × Int × Nat) : Int × Int × Nat :=
  if 0 < s.2.2 ∧ s.2.1 ≤ b then s else if s.2.2 = 0 ∨ v < s.2.1 then ((i : Int), v, s.2.2 + 1) else (s.1, s.2.1, s.2.2 + 1)
def pf (bnd num : Nat → Int) (l : List Nat) : Int × Int × Nat := l.foldl (fun s i => istep (bnd i) (num i) i s) (0, 0, 0)
theorem pf_add (bnd num : Nat → Int) (l : List Nat) (x : Nat) : pf bnd num (l ++ [x]) = istep (bnd x) (num x) x (pf bnd num l) := by unfold pf; rw [List.foldl_append]; rfl
theorem istep_le (b v : Int) (i : Nat) (s : Int × Int × Nat) : (istep b v i s).2.2 ≤ s.2.2 + 1 := by
  unfold istep; split
  · omega
  · split <;> simp
theorem pf_from (bnd num : Nat → Int) : ∀ (l : List Nat) (s : Int × Int × Nat), (l.foldl (fun s i => istep (bnd i) (num i) i s) s).2.2 ≤ s.2.2 + l.length
  | [], s => Nat.le_refl _
  | x :: l, s => by
    have h1 := pf_from bnd num l (istep (bnd x) (num x) x s)
    have h2 := istep_le (bnd x) (num x) x s
    show (l.foldl (fun s i => istep (bnd i) (num i) i s) (istep (bnd x) (num x) x s)).2.2 ≤ _
    simp only [List.length_cons]
    omega
theorem pf_le (bnd num : Nat → Int) (l : List Nat) : (pf bnd num l).2.2 ≤ l.length := by
  have := pf_from bnd num l (0, 0, 0)
  rw [Nat.zero_add] at this
  exact this
theorem pst_pf (na : Nat) (fa : Nat → P3) (ln : Nat → Nat) (lf : Nat → Nat → P3) (band : Int) : ∀ k,
    ((pf (bndL na fa ln lf band) (costL na fa ln lf band) (tks na ln band k)).2.2 = 0 ∧ pst na fa ln lf band k = (-1, 0, 0)) ∨
    (0 < (pf (bndL na fa ln lf band) (costL na fa ln lf band) (tks na ln band k)).2.2 ∧ pst na fa ln lf band k = pf (bndL na fa ln lf band) (costL na fa ln lf band) (tks na ln band k) ∧ 0 ≤ (pst na fa ln lf band k).1)
  | 0 => .inl ⟨rfl, rfl⟩
  | k + 1 => by
    have ih := pst_pf na fa ln lf band k
    have hs : pst na fa ln lf band (k + 1) = pstep (takes na ln band k) (bndL na fa ln lf band k) (costL na fa ln lf band k) k (pst na fa ln lf band k) := rfl
    cases ht : takes na ln band k with
    | false =>
      rw [hs, ht, tks_no ht]
      have : ∀ b v i s, pstep false b v i s = s := fun b v i s => by unfold pstep; simp
      rw [this]
      exact ih
    | true =>
      rw [hs, ht, tks_yes ht, pf_add]
      generalize pf (bndL na fa ln lf band) (costL na fa ln lf band) (tks na ln band k) = q at *
      generalize pst na fa ln lf band k = s at *
      generalize bndL na fa ln lf band k = b at *
      generalize costL na fa ln lf band k = v at *
      obtain ⟨q1, q2, q3⟩ := q
      rcases ih with ⟨h1, rfl⟩ | ⟨h1, rfl, h3⟩
      · simp only at h1
        subst h1
        refine .inr ?_
        unfold istep pstep
        simp
      · simp only at h1 h3
        refine .inr ?_
        unfold istep pstep
        simp only [h1, true_and, h3]
        have h4 : ¬ q3 = 0 := by omega
        have h5 : ¬ q1 < 0 := by omega
        by_cases h6 : q2 ≤ b
        · simp [h6, h1, h3]
        · simp only [h6, not_false_eq_true, if_true, if_false, h4, h5, false_or]
          split
          · exact ⟨by simp, by simp, by simp⟩
          · exact ⟨by simp, by simp, by simp [h3]⟩
structure OneC (w : World) (b : Nat) (x : Int) : Prop where
  c0 : w.cell? ⟨b, 0, none⟩ = some (.int .i64 x)
  f0 : w.frozen? ⟨b, 0, none⟩ = false
  lt : b < w.heap.size
theorem OneC.far {w w' : World} {b : Nat} {x : Int} (h : OneC w b x) (hb : Below w.heap.size w w') : OneC w' b x := ⟨(hb.cell (p := ⟨b, 0, none⟩) h.lt).trans h.c0, (hb.frozen (p := ⟨b, 0, none⟩) h.lt).trans h.f0, Nat.lt_of_lt_of_le h.lt hb.size⟩
theorem OneC.set {w : World} {b : Nat} {x y : Int} (h : OneC w b x) : OneC (w.setCell ⟨b, 0, none⟩ (.int .i64 y)) b y := by
  obtain ⟨h0, f0, hl⟩ := h
  exact ⟨by go_simp, by go_simp, by simpa using hl⟩
theorem OneC.apart {w : World} {b d j : Nat} {x u : Int} (h : OneC w b x) (hd : d ≠ b) : OneC (w.setCell ⟨d, j, none⟩ (.int .i64 u)) b x := by
  obtain ⟨h0, f0, hl⟩ := h
  have hd' : ¬ b = d := fun e => hd e.symm
  exact ⟨by go_simp, by go_simp, by simpa using hl⟩
theorem TwoC.apart1 {w : World} {b d j : Nat} {x y u : Int} (h : TwoC w b x y) (hd : d ≠ b) : TwoC (w.setCell ⟨d, j, none⟩ (.int .i64 u)) b x y := by
  obtain ⟨h0, h1, f0, f1, hl⟩ := h
  have hd' : ¬ b = d := fun e => hd e.symm
  exact ⟨by go_simp, by go_simp, by go_simp, by go_simp, by simpa using hl⟩
theorem own_two {β : Type} (b : Nat) (x y : β → Int) : Go.Own (fun (s : β) W => TwoC W b (x s) (y s)) := fun s X Y row h hg hrow =>
  ⟨Go.cell_kept h.c0 hg hrow, Go.cell_kept h.c1 hg hrow, (Go.frozen_kept h.c0 hg hrow).trans h.f0, (Go.frozen_kept h.c1 hg hrow).trans h.f1, Nat.lt_of_lt_of_le h.lt hg.size⟩
theorem own_one {β : Type} (b : Nat) (x : β → Int) : Go.Own (fun (s : β) W => OneC W b (x s)) := fun s X Y row h hg hrow =>
  ⟨Go.cell_kept h.c0 hg hrow, (Go.frozen_kept h.c0 hg hrow).trans h.f0, Nat.lt_of_lt_of_le h.lt hg.size⟩
theorem keeps_far {B : Nat} {W W' : World} (hb : Below W.heap.size W W') : KeepsFrom B W W' := ⟨hb.size, fun k o _ ho _ => (hb.block _ (block_size ho)).trans ho⟩
theorem keeps_set {B : Nat} {W W' : World} (h : KeepsFrom B W W') {b j : Nat} (hb : b < B) (v : Value) : KeepsFrom B W (W'.setCell ⟨b, j, none⟩ v) :=
  ⟨by simpa using h.size, fun k o hk ho hc => by
    rw [Below.heap_setCell _ _ _ _ (by simp; omega)]
    exact h.same k o hk ho hc⟩
set_option maxRecDepth 100000 in
set_option maxHeartbeats 8000000 in
theorem prunI {ca cb : Nat} (A B : Option Addr) (na n : Nat) (fa : Nat → P3) (ln : Nat → Nat) (lf : Nat → Nat → P3) (band : Int) (w : World) (ha : na ≤ 1048576) (hn : n ≤ 1048576) (hl : ∀ i, i < n → ln i ≤ 1048576) (pa : PtsAt w A na fa) (pb : LsAt w B n ln lf) :
    Calls Try.prog 7 #[.slice A na ca, .slice B n cb, .int .i64 band] w fun e w' => e = .returned (.tuple #[.int .i64 (prunR na fa n ln lf band).1, .int .i64 (prunR na fa n ln lf band).2.1, .int .i64 (prunR na fa n ln lf band).2.2.1, .int .i64 (prunR na fa n ln lf band).2.2.2]) ∧ Below w.heap.size w w' := by
  by_cases h0 : liC na fa n ln lf band = 0
  rotate_left
  · have HC := Lib.hid (takingI_no (ca := ca) (cb := cb) A B na n fa ln lf band w ha hn hl pa pb h0)
    have HR := Lib.hid (show prunR na fa n ln lf band = (0, 0, 0, liC na fa n ln lf band) by unfold prunR; rw [if_neg h0])
    have h12 : liC na fa n ln lf band = 1 ∨ liC na fa n ln lf band = 2 := by have := liC_any na fa n ln lf band; omega
    rw [HR.out]
    clear h0 HR pa pb hl
    rcases h12 with h | h
    all_goals
      rw [h] at HC ⊢
      clear h
      go_enter Try.func7, Try.ntmps7
      go_wp2_with fail
      refine HC.out.mono ?_
      rintro e w1 ⟨rfl, hb1⟩
      have B1 := Lib.hid hb1
      clear hb1
      go_wp2
      refine bodyPost_ret (v := .tuple #[.int .i64 0, .int .i64 0, .int .i64 0, .int .i64 _]) (by simp [results, Try.results7, go_sem]; rfl) rfl ?_
      exact ⟨rfl, B1.out⟩
  obtain ⟨⟨va, hn40, vl⟩, hbd⟩ := liC_of h0
  obtain ⟨bd, rfl⟩ : ∃ bd : Nat, band = (bd : Int) := ⟨band.toNat, by omega⟩
  obtain ⟨la, lc, hls⟩ := pb.fns
  have HT := Lib.hid (takingI_yes (ca := ca) (cb := cb) A B na n fa ln lf (bd : Int) w ha (by omega) hl pa pb h0)
  have HCO := Lib.hid (fun W Ai ci x hx ht hA hB => costs_all (ca := ca) (cb := cb) (A := A) h0 W Ai ci x hx ht hA hB)
  have HBO := Lib.hid (fun W Ai ci x hx ht hA hB => bounds_all (ca := ca) (cb := cb) (A := A) h0 W Ai ci x hx ht hA hB)
  have HEB := Lib.hid (show ∀ x, boundE na (ln x) fa (lf x) (bd : Int) = bndL na fa ln lf (bd : Int) x from fun _ => rfl)
  have HST := Lib.hid (pst_pf na fa ln lf (bd : Int) n)
  have HR := Lib.hid (show prunR na fa n ln lf (bd : Int) = if (pst na fa ln lf (bd : Int) n).1 < 0 then (0, 0, 0, 3) else ((pst na fa ln lf (bd : Int) n).1, (pst na fa ln lf (bd : Int) n).2.1, ((pst na fa ln lf (bd : Int) n).2.2 : Int), 0) by unfold prunR; rw [if_pos h0])
  have hu : undef = Value.tuple #[] := rfl
  refine (callsIn_wide (n := 6)).1 ?_
  refine callsIn_of_wp_marks Try.func7 rfl trivial ?_ rfl
  simp only [Try.ntmps7, List.size_toArray, List.length_cons, List.length_nil, Nat.reduceAdd, Nat.reduceSub, Array.replicate_succ, Array.replicate_zero, List.push_toArray, List.append_toArray, List.nil_append, List.cons_append]
  gi_wp2_with (refine ⟨trivial, ?_⟩; gi_at_call 20; refine (callsIn_wide.2 HT.out).mono ?_; rintro e w2 ⟨rfl, hbx⟩)
  have hzb := hbx.lt
  obtain ⟨cA, cL, cD⟩ := hbx.cells
  have hB2 := hbx.bel
  have hls2 := hls.kept hB2
  have hpa2 := pa.kept hB2
  have hz1 : ((w2.alloc (.cells #[.int .i64 0, .int .i64 0] 55)).alloc (.cells #[.int .i64 0] 2)).heap.size = w2.heap.size + 2 := by simp
  have hk0 := (Below.heap_alloc (w2.alloc (.cells #[.int .i64 0, .int .i64 0] 55)) (.cells #[.int .i64 0] 2) w2.heap.size (by simp)).trans (heap_alloc_new w2 (.cells #[.int .i64 0, .int .i64 0] 55))
  have hT0 := TwoC.of hk0
  have hk1 := heap_alloc_new (w2.alloc (.cells #[.int .i64 0, .int .i64 0] 55)) (.cells #[.int .i64 0] 2)
  have hsz : (w2.alloc (.cells #[.int .i64 0, .int .i64 0] 55)).heap.size = w2.heap.size + 1 := by simp
  rw [hsz] at hk1
  have hO0 : OneC ((w2.alloc (.cells #[.int .i64 0, .int .i64 0] 55)).alloc (.cells #[.int .i64 0] 2)) (w2.heap.size + 1) 0 := ⟨by rw [cell_of_block hk1]; rfl, unfrozen_of_block hk1 _, block_size hk1⟩
  have hB0 : Below w2.heap.size w2 ((w2.alloc (.cells #[.int .i64 0, .int .i64 0] 55)).alloc (.cells #[.int .i64 0] 2)) := (below_alloc1 w2 _).alloc (by simp) _
  obtain ⟨W0, hW0⟩ : ∃ W0, (w2.alloc (.cells #[.int .i64 0, .int .i64 0] 55)).alloc (.cells #[.int .i64 0] 2) = W0 := ⟨_, rfl⟩
  rw [hW0] at hT0 hO0 hB0 hz1 ⊢
  clear hW0 hk0 hk1 hsz
  generalize hPF : pf (bndL na fa ln lf (bd : Int)) (costL na fa ln lf (bd : Int)) = PF at *
  have HPA := Lib.hid (show ∀ l x, PF (l ++ [x]) = istep (bndL na fa ln lf (bd : Int) x) (costL na fa ln lf (bd : Int) x) x (PF l) by rw [← hPF]; exact pf_add _ _)
  have HPL := Lib.hid (show ∀ l, (PF l).2.2 ≤ l.length by rw [← hPF]; exact pf_le _ _)
  have HP0 := Lib.hid (show PF [] = (0, 0, 0) by rw [← hPF]; rfl)
  clear hPF
  refine wpIn_rangeFunc_ownH rfl (by omega) (gf := 34) (lb := #[.pointer (some ⟨w.heap.size + 1, 0, none⟩), .pointer (some ⟨w.heap.size, 0, none⟩), .pointer (some ⟨w.heap.size + 2, 0, none⟩)]) rfl trivial (enters_of Try.func34 (by kernel_rfl) rfl)
    (take_stops _ (by omega) w2.heap.size (w.heap.size) (w.heap.size + 1) (w.heap.size + 2) A B na n ca cb bd la ln lc (by omega) ha hl (by omega) (by omega) (by omega) W0 (by omega) ((hB0.cell (p := ⟨w.heap.size, 0, none⟩) (by simp only; omega)).trans cA) ((hB0.cell (p := ⟨w.heap.size + 1, 0, none⟩) (by simp only; omega)).trans cL) ((hB0.cell (p := ⟨w.heap.size + 2, 0, none⟩) (by simp only; omega)).trans cD)
      (fun i hi => by obtain ⟨⟨b, o, e, h1, h2⟩, -⟩ := hls2 i hi; exact ⟨b, o, e, h1, (hB0.cell (p := ⟨b, o + i, none⟩) h1).trans h2⟩)) belowK_t (belowK_b (by omega)) (Below.refl _ _) (fun _ => rfl)
    (fun (pre : List (Tk na n ln (bd : Int))) W => (TwoC W w2.heap.size (PF (pre.map (·.1))).1 (PF (pre.map (·.1))).2.1 ∧ OneC W (w2.heap.size + 1) ((PF (pre.map (·.1))).2.2 : Int)) ∧ Below w2.heap.size w2 W)
    (fun _ _ _ => False)
    (OwnFrom.and (OwnFrom.and (Go.Own.from (own_two w2.heap.size (fun pre : List (Tk na n ln (bd : Int)) => (PF (pre.map (·.1))).1) (fun pre => (PF (pre.map (·.1))).2.1)) _) (Go.Own.from (own_one (w2.heap.size + 1) (fun pre : List (Tk na n ln (bd : Int)) => ((PF (pre.map (·.1))).2.2 : Int))) _)) (ownFrom_below (Nat.le_refl _) (by omega)))
    (fun _ _ _ _ _ hs _ _ => hs)
    ⟨⟨by show TwoC W0 w2.heap.size (PF []).1 (PF []).2.1; rw [HP0.out]; exact hT0, by show OneC W0 (w2.heap.size + 1) ((PF []).2.2 : Int); rw [HP0.out]; exact hO0⟩, hB0⟩
    (fun x a' W => ∃ Bx, w2.heap.size + 1 < Bx ∧ W.heap[Bx]? = some (.cells #[.slice A na ca, .slice (la x.1) (ln x.1) (lc x.1), .int .i64 (bd : Int)] 53 (0, 0)) ∧ a' = { tmps := #[.slice A na ca, .slice B n cb, .int .i64 (bd : Int), .tuple #[], .tuple #[], .tuple #[], .int .i64 0, .int .i64 0, .int .i64 0, .int .i64 0, .func (.func 34) #[] #[.pointer (some ⟨w.heap.size + 1, 0, none⟩), .pointer (some ⟨w.heap.size, 0, none⟩), .pointer (some ⟨w.heap.size + 2, 0, none⟩)], .int .i64 0, .pointer (some ⟨w2.heap.size, 0, none⟩), .pointer (some ⟨w2.heap.size + 1, 0, none⟩), .int .i64 (x.1 : Int), .pointer (some ⟨Bx, 0, none⟩), .tuple #[], .tuple #[.func (.func 34) #[] #[.pointer (some ⟨w.heap.size + 1, 0, none⟩), .pointer (some ⟨w.heap.size, 0, none⟩), .pointer (some ⟨w.heap.size + 2, 0, none⟩)], .int .i64 0], .slice A na ca, .slice B n cb, .int .i64 (bd : Int), .tuple #[.func (.func 34) #[] #[.pointer (some ⟨w.heap.size + 1, 0, none⟩), .pointer (some ⟨w.heap.size, 0, none⟩), .pointer (some ⟨w.heap.size + 2, 0, none⟩)], .int .i64 0], .func (.func 34) #[] #[.pointer (some ⟨w.heap.size + 1, 0, none⟩), .pointer (some ⟨w.heap.size, 0, none⟩), .pointer (some ⟨w.heap.size + 2, 0, none⟩)], .int .i64 0, .int .i64 0, .bool false, .tuple #[], .func (.func 34) #[] #[.pointer (some ⟨w.heap.size + 1, 0, none⟩), .pointer (some ⟨w.heap.size, 0, none⟩), .pointer (some ⟨w.heap.size + 2, 0, none⟩)], .int .i64 (x.1 : Int), .agg #[.slice A na ca, .slice (la x.1) (ln x.1) (lc x.1), .int .i64 (bd : Int)], .tuple #[], .tuple #[], .tuple #[], .tuple #[], .tuple #[], .tuple #[], .tuple #[], .tuple #[], .tuple #[], .tuple #[], .tuple #[], .tuple #[], .tuple #[], .tuple #[], .tuple #[], .tuple #[], .tuple #[], .tuple #[], .tuple #[], .tuple #[], .tuple #[], .tuple #[], .tuple #[], .tuple #[], .tuple #[], .tuple #[], .tuple #[], .tuple #[], .tuple #[], .tuple #[], .tuple #[]], defers := [] })
    (fun x a' _ X Y row hs hg hr => by
      obtain ⟨Bx, h1, h2, h3⟩ := hs
      refine ⟨Bx, h1, (hg.block Bx (block_size h2) (fun e' => ?_)).trans h2, h3⟩
      obtain ⟨_, o, ho, hc⟩ := hr Bx e'.symm
      rw [h2] at ho
      cases ho
      cases hc)
    ?assign ?body ?done ?stop
  case assign =>
    rintro l pre x W Kk ⟨⟨hT, hO⟩, hB⟩ hK
    unfold encT
    gi_wp2
    exact hK _ _ ((KeepsOthers.alloc _ _).from _) ((Below.refl _ W).alloc hB.size _) ⟨⟨hT.far (below_alloc1 _ _), hO.far (below_alloc1 _ _)⟩, hB.alloc hB.size _⟩ ⟨W.heap.size, hO.lt, World.alloc_heap_new W _, rfl⟩
  case body =>
    rintro l pre x a' W hl' ⟨r, hr⟩ ⟨⟨hT, hO⟩, hB⟩ ⟨Bx, hBx, hX, rfl⟩ hlt
    have hX0 : W.cell? ⟨Bx, 0, none⟩ = some (.slice A na ca) := by rw [cell_of_block hX]; rfl
    have hX1 : W.cell? ⟨Bx, 1, none⟩ = some (.slice (la x.1) (ln x.1) (lc x.1)) := by rw [cell_of_block hX]; rfl
    have hX2 : W.cell? ⟨Bx, 2, none⟩ = some (.int .i64 (bd : Int)) := by rw [cell_of_block hX]; rfl
    have hpw := hpa2.kept hB
    have hlw := (hls2 x.1 x.2.1).2.kept hB
    have hcB : ∀ p : Kept W, Calls Try.prog 21 #[mtv A (la x.1) na (ln x.1) ca (lc x.1) bd] p.world fun e W' => e = .returned (.int .i64 (bndL na fa ln lf (bd : Int) x.1)) ∧ Below p.world.heap.size p.world W' := fun p => HBO.out p.world (la x.1) (lc x.1) x.1 x.2.1 x.2.2 (hpw.kept p.below) (hlw.kept p.below)
    have hcC := fun V (hV : Below W.heap.size W V) => HCO.out V (la x.1) (lc x.1) x.1 x.2.1 x.2.2 (hpw.kept hV) (hlw.kept hV)
    have hpx := HPA.out (pre.map (·.1)) x.1
    have hpl := HPL.out (pre.map (·.1))
    rw [List.length_map] at hpl
    have hmp : (pre ++ [x]).map (·.1) = pre.map (·.1) ++ [x.1] := by rw [List.map_append]; rfl
    have hI : ∀ (a' : Act) (W' : World), TwoC W' w2.heap.size (PF (pre.map (·.1) ++ [x.1])).1 (PF (pre.map (·.1) ++ [x.1])).2.1 → OneC W' (w2.heap.size + 1) ((PF (pre.map (·.1) ++ [x.1])).2.2 : Int) → KeepsFrom W0.heap.size W W' → Below w2.heap.size W W' → ownPostG W0.heap.size (Below w2.heap.size) (fun (pre : List (Tk na n ln (bd : Int))) W => (TwoC W w2.heap.size (PF (pre.map (·.1))).1 (PF (pre.map (·.1))).2.1 ∧ OneC W (w2.heap.size + 1) ((PF (pre.map (·.1))).2.2 : Int)) ∧ Below w2.heap.size w2 W) (fun _ _ _ => False) (pre ++ [x]) W Exit.normal a' W' := fun a' W' h1 h2 h3 h4 => ⟨h3, h4, by simp only [hmp]; exact ⟨⟨h1, h2⟩, hB.trans h4⟩⟩
    rw [hpx] at hI
    obtain ⟨⟨q1, q2, q3⟩, hq⟩ : ∃ q, PF (pre.map (·.1)) = q := ⟨_, rfl⟩
    rw [hq] at hT hO hI hpl
    simp only at hT hO hpl
    generalize bndL na fa ln lf (bd : Int) x.1 = bb at *
    generalize costL na fa ln lf (bd : Int) x.1 = vv at *
    have HI := Lib.hid hI
    have HT2 := Lib.hid hT
    have HO2 := Lib.hid hO
    clear hI hpx hmp hq HPA HPL HP0 HST HR
    have hwr : IntKind.i64.wrap ((q3 : Int) + 1) = (q3 : Int) + 1 := IntWalk.i64_in _ (by omega)
    have CX0 := core.cell_kept (a := ⟨Bx, 0, none⟩) (block_size hX) hX0
    have CX1 := core.cell_kept (a := ⟨Bx, 1, none⟩) (block_size hX) hX1
    have CX2 := core.cell_kept (a := ⟨Bx, 2, none⟩) (block_size hX) hX2
    have CT0 := core.cell_kept (a := ⟨w2.heap.size, 0, none⟩) hT.lt hT.c0
    have CT1 := core.cell_kept (a := ⟨w2.heap.size, 1, none⟩) hT.lt hT.c1
    have CO0 := core.cell_kept (a := ⟨w2.heap.size + 1, 0, none⟩) hO.lt hO.c0
    by_cases hq3 : q3 = 0
    · subst hq3
      gi_wp2
      refine round_quiet (by kernel_rfl) (by kernel_rfl) (by rintro ⟨a, w', h⟩; exact h) (by kernel_rfl) ?_
      repeat (first | go_big_quiet_step ((go_at_call 21; with_reducible exact Calls.kept_of (hcB _))) | quiet_step ((go_at_call 21; with_reducible exact Calls.kept_of (hcB _))))
      refine wpQuiet_nil ?_
      intro w4 hw'
      have hB4 : Below W.heap.size W w4 := by obtain ⟨⟨wk, hb0⟩, hw''⟩ := hw'; rw [hw'']; exact hb0
      clear hw' CX0 CX1 CX2 CT0 CT1 CO0 hX0 hX1 hX2 hT hO
      have x0 := (hB4.cell (p := ⟨Bx, 0, none⟩) (block_size hX)).trans (show W.cell? ⟨Bx, 0, none⟩ = some (.slice A na ca) by rw [cell_of_block hX]; rfl)
      have x1 := (hB4.cell (p := ⟨Bx, 1, none⟩) (block_size hX)).trans (show W.cell? ⟨Bx, 1, none⟩ = some (.slice (la x.1) (ln x.1) (lc x.1)) by rw [cell_of_block hX]; rfl)
      have x2 := (hB4.cell (p := ⟨Bx, 2, none⟩) (block_size hX)).trans (show W.cell? ⟨Bx, 2, none⟩ = some (.int .i64 (bd : Int)) by rw [cell_of_block hX]; rfl)
      have hcC4 := hcC w4 hB4
      have HS := Lib.hid (show istep bb vv x.1 (q1, q2, 0) = ((x.1 : Int), vv, 1) by unfold istep; simp)
      gi_wp2_with fail
      refine ⟨trivial, ?_⟩
      refine (CallsIn.inRound _ (callsIn_wide.2 hcC4)).mono ?_
      rintro e w5 ⟨rfl, hb5⟩
      have hB5 := Lib.hid (hB4.trans (hb5.mono hB4.size))
      have HT5 := Lib.hid (HT2.out.far hB5.out)
      have HO5 := Lib.hid (HO2.out.far hB5.out)
      have t0 := HT5.out.c0
      have t1 := HT5.out.c1
      have t2 := HT5.out.f0
      have t3 := HT5.out.f1
      have t4 := HT5.out.lt
      have o0 := HO5.out.c0
      have o1 := HO5.out.f0
      have o2 := HO5.out.lt
      clear hb5 x0 x1 x2 hB4 hcC4 hX
      have HF := Lib.hid (HI.out · ((w5.setCell ⟨w2.heap.size, 0, none⟩ (.int .i64 (x.1 : Int))).setCell ⟨w2.heap.size, 1, none⟩ (.int .i64 vv) |>.setCell ⟨w2.heap.size + 1, 0, none⟩ (.int .i64 1)) (by rw [HS.out]; exact HT5.out.set.apart1 (by omega)) (by rw [HS.out]; exact (((HO5.out.apart (by omega)).apart (by omega)).set)) (keeps_set (keeps_set (keeps_set (keeps_far hB5.out) (by omega) _) (by omega) _) (by omega) _) (((hB5.out.mono hB.size).setCell (p := ⟨w2.heap.size, 0, none⟩) (by simp) _ |>.setCell (p := ⟨w2.heap.size, 1, none⟩) (by simp) _).setCell (p := ⟨w2.heap.size + 1, 0, none⟩) (by simp) _))
      clear t4 o2
      gi_wp2
      exact HF.out _
    · obtain ⟨c', rfl⟩ : ∃ c', q3 = c' + 1 := ⟨q3 - 1, by omega⟩
      have hpos : (0 : Int) < (c' : Int) + 1 := by omega
      have hne : ¬ ((c' : Int) + 1 = 0) := by omega
      have hwr2 : IntKind.i64.wrap ((c' : Int) + 1 + 1) = (c' : Int) + 1 + 1 := IntWalk.i64_in _ (by omega)
      have HO3 : Hid (OneC W (w2.heap.size + 1) ((c' : Int) + 1)) := Lib.hid HO2.out
      have CO1 := core.cell_kept (a := ⟨w2.heap.size + 1, 0, none⟩) HO3.out.lt HO3.out.c0
      clear CO0 HO2 hwr
      by_cases hyb : q2 ≤ bb
      · have hd : decide (q2 ≤ bb) = true := decide_eq_true hyb
        gi_wp2
        refine round_quiet (by kernel_rfl) (by kernel_rfl) (by rintro ⟨a, w', h⟩; exact h) (by kernel_rfl) ?_
        repeat (first | go_big_quiet_step ((go_at_call 21; with_reducible exact Calls.kept_of (hcB _))) | quiet_step ((go_at_call 21; with_reducible exact Calls.kept_of (hcB _))))
        refine wpQuiet_nil ?_
        intro w4 hw'
        have hB4 : Below W.heap.size W w4 := by obtain ⟨⟨wk, hb0⟩, hw''⟩ := hw'; rw [hw'']; exact hb0
        clear hw' CX0 CX1 CX2 CT0 CT1 CO1 hX0 hX1 hX2 hT hO
        have x0 := (hB4.cell (p := ⟨Bx, 0, none⟩) (block_size hX)).trans (show W.cell? ⟨Bx, 0, none⟩ = some (.slice A na ca) by rw [cell_of_block hX]; rfl)
        have x1 := (hB4.cell (p := ⟨Bx, 1, none⟩) (block_size hX)).trans (show W.cell? ⟨Bx, 1, none⟩ = some (.slice (la x.1) (ln x.1) (lc x.1)) by rw [cell_of_block hX]; rfl)
        have x2 := (hB4.cell (p := ⟨Bx, 2, none⟩) (block_size hX)).trans (show W.cell? ⟨Bx, 2, none⟩ = some (.int .i64 (bd : Int)) by rw [cell_of_block hX]; rfl)
        have hcC4 := hcC w4 hB4
        have HS := Lib.hid (show istep bb vv x.1 (q1, q2, c' + 1) = (q1, q2, c' + 1) by unfold istep; simp [hyb])
        have HF := Lib.hid (HI.out · w4 (by rw [HS.out]; exact HT2.out.far hB4) (by rw [HS.out]; exact HO3.out.far hB4) (keeps_far hB4) (hB4.mono hB.size))
        clear hyb x0 x1 x2 hB4 hcC4 hX
        gi_wp2
        exact HF.out _
      · have hd : decide (q2 ≤ bb) = false := decide_eq_false hyb
        gi_wp2
        refine round_quiet (by kernel_rfl) (by kernel_rfl) (by rintro ⟨a, w', h⟩; exact h) (by kernel_rfl) ?_
        repeat (first | go_big_quiet_step ((go_at_call 21; with_reducible exact Calls.kept_of (hcB _))) | quiet_step ((go_at_call 21; with_reducible exact Calls.kept_of (hcB _))))
        refine wpQuiet_nil ?_
        intro w4 hw'
        have hB4 : Below W.heap.size W w4 := by obtain ⟨⟨wk, hb0⟩, hw''⟩ := hw'; rw [hw'']; exact hb0
        clear hw' CX0 CX1 CX2 CT0 CT1 CO1 hX0 hX1 hX2 hT hO
        have x0 := (hB4.cell (p := ⟨Bx, 0, none⟩) (block_size hX)).trans (show W.cell? ⟨Bx, 0, none⟩ = some (.slice A na ca) by rw [cell_of_block hX]; rfl)
        have x1 := (hB4.cell (p := ⟨Bx, 1, none⟩) (block_size hX)).trans (show W.cell? ⟨Bx, 1, none⟩ = some (.slice (la x.1) (ln x.1) (lc x.1)) by rw [cell_of_block hX]; rfl)
        have x2 := (hB4.cell (p := ⟨Bx, 2, none⟩) (block_size hX)).trans (show W.cell? ⟨Bx, 2, none⟩ = some (.int .i64 (bd : Int)) by rw [cell_of_block hX]; rfl)
        have hcC4 := hcC w4 hB4
        gi_wp2_with fail
        refine ⟨trivial, ?_⟩
        refine (CallsIn.inRound _ (callsIn_wide.2 hcC4)).mono ?_
        rintro e w5 ⟨rfl, hb5⟩
        have hB5 := Lib.hid (hB4.trans (hb5.mono hB4.size))
        have HT5 := Lib.hid (HT2.out.far hB5.out)
        have HO5 := Lib.hid (HO3.out.far hB5.out)
        have t0 := HT5.out.c0
        have t1 := HT5.out.c1
        have t2 := HT5.out.f0
        have t3 := HT5.out.f1
        have t4 := HT5.out.lt
        have o0 := HO5.out.c0
        have o1 := HO5.out.f0
        have o2 := HO5.out.lt
        clear hb5 x0 x1 x2 hB4 hcC4 hX
        by_cases hvq : vv < q2
        · have HS := Lib.hid (show istep bb vv x.1 (q1, q2, c' + 1) = ((x.1 : Int), vv, c' + 1 + 1) by unfold istep; simp [hyb, hvq])
          have HF := Lib.hid (HI.out · ((w5.setCell ⟨w2.heap.size, 0, none⟩ (.int .i64 (x.1 : Int))).setCell ⟨w2.heap.size, 1, none⟩ (.int .i64 vv) |>.setCell ⟨w2.heap.size + 1, 0, none⟩ (.int .i64 ((c' : Int) + 1 + 1))) (by rw [HS.out]; exact HT5.out.set.apart1 (by omega)) (by rw [HS.out]; exact (((HO5.out.apart (by omega)).apart (by omega)).set)) (keeps_set (keeps_set (keeps_set (keeps_far hB5.out) (by omega) _) (by omega) _) (by omega) _) (((hB5.out.mono hB.size).setCell (p := ⟨w2.heap.size, 0, none⟩) (by simp) _ |>.setCell (p := ⟨w2.heap.size, 1, none⟩) (by simp) _).setCell (p := ⟨w2.heap.size + 1, 0, none⟩) (by simp) _))
          clear t4 o2 hyb
          gi_wp2
          exact HF.out _
        · have HS := Lib.hid (show istep bb vv x.1 (q1, q2, c' + 1) = (q1, q2, c' + 1 + 1) by unfold istep; simp [hyb, hvq])
          have hd2 : decide (vv < q2) = false := decide_eq_false hvq
          have HF := Lib.hid (HI.out · (w5.setCell ⟨w2.heap.size + 1, 0, none⟩ (.int .i64 ((c' : Int) + 1 + 1))) (by rw [HS.out]; exact HT5.out.apart1 (by omega)) (by rw [HS.out]; exact HO5.out.set) (keeps_set (keeps_far hB5.out) (by omega) _) ((hB5.out.mono hB.size).setCell (p := ⟨w2.heap.size + 1, 0, none⟩) (by simp) _))
          clear t4 o2 hyb
          gi_wp2
          exact HF.out _
  case done =>
    rintro D ys W hD rfl ⟨⟨hT, hO⟩, hB⟩ hK
    rw [tkl_map n (Nat.le_refl _)] at hT hO
    have cx := hT.c0
    have cy := hT.c1
    have co := hO.c0
    have hdk := belowK_b (w := w) (Nat.le_refl _) W D
    obtain ⟨⟨q1, q2, q3⟩, hq⟩ : ∃ q, PF (tks na ln (bd : Int) n) = q := ⟨_, rfl⟩
    rw [hq] at hT hO HST cx cy co
    simp only at cx cy co
    rcases HST.out with ⟨h1, h2⟩ | ⟨h1, h2, h3⟩
    · simp only at h1
      subst h1
      have HR2 := Lib.hid (show prunR na fa n ln lf (bd : Int) = (0, 0, 0, 3) by rw [HR.out, h2]; rfl)
      gi_wp2
      rw [HR2.out]
      refine ⟨by simp, .inl ⟨_, _, rfl, run_takeDeferred hK, ?_⟩⟩
      exact ⟨.tuple #[.int .i64 0, .int .i64 0, .int .i64 0, .int .i64 3], by simp [results, Try.results7, go_sem], rfl, (hB2.trans (hB.mono (by omega))).trans (belowK_b (w := w) (Nat.le_refl _) W D _ _ (by omega) hK rfl rfl)⟩
    · simp only at h1
      have hne : ¬ ((q3 : Int) = 0) := by omega
      have HR2 := Lib.hid (show prunR na fa n ln lf (bd : Int) = (q1, q2, (q3 : Int), 0) by
        rw [HR.out, h2]
        rw [h2] at h3
        rw [if_neg (by omega)])
      have hmx : Try.prog.follows .mixedOrders = true := by kernel_rfl
      have CX := core.cell_kept (a := ⟨w2.heap.size, 0, none⟩) hT.lt cx
      have CY := core.cell_kept (a := ⟨w2.heap.size, 1, none⟩) hT.lt cy
      have CO := core.cell_kept (a := ⟨w2.heap.size + 1, 0, none⟩) hO.lt co
      gi_wp2
      refine wpIn_wide.2 ?_
      go_region
      all_goals
        gi_wp2
        rw [HR2.out]
        refine ⟨by simp, .inl ⟨_, _, rfl, run_takeDeferred (w := W.drew) hK, ?_⟩⟩
        exact ⟨.tuple #[.int .i64 q1, .int .i64 q2, .int .i64 (q3 : Int), .int .i64 0], by simp [results, Try.results7, go_sem], rfl, (hB2.trans (hB.drew.mono (by omega))).trans (belowK_b (w := w) (Nat.le_refl _) W.drew D _ _ (by omega) hK rfl rfl)⟩
  case stop =>
    rintro D c pre W _ _ h _
    exact h.elim
end Go.Proofs.Ytkcfghbkcgommab.env
