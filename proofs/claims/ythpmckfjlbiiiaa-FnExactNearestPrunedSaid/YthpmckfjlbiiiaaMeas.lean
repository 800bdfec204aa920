/-
  Proved: what the program's function that measures all lists that take part returns, for the least cost and for the bound.
  Conditions: none.
-/
import Derived.Test.YthpmckfjlbiiiaaTakeIt
namespace Go.Proofs.Ythpmckfjlbiiiaa.env
open Go.ChangeShapes Go.WideShapes Go.ChangeAt Go.RowKit Go.Joins Go.Shelf
open Go.Proofs.Ythpmckfjlbiiiaa.core Go.Proofs.Ythpmckfjlbiiiaa.rown Go.Proofs.Ythpmckfjlbiiiaa.stk Go.Proofs.Ythpmckfjlbiiiaa.boxed Go.Proofs.Ythpmckfjlbiiiaa.ft Go.Proofs.Ythpmckfjlbiiiaa.seq Go.Proofs.Ythpmckfjlbiiiaa.tab Go.Proofs.Ythpmckfjlbiiiaa.dp
set_option linter.unusedVariables false
set_option linter.unusedSimpArgs false
attribute [local go_sem] Oper.semAt_some
theorem infoM : (Try.prog.info? 98).map (fun i => (i.zero, i.size, i.bytes)) = some (some (.agg #[.int .i64 0, .int .i64 0]), 2, 16) := by kernel_rfl
/-- What is measured, in order. -/
def mP (num : Nat → Int) (pre : List Nat) (j : Nat) : P2 := (((pre[j]?.getD 0 : Nat) : Int), num (pre[j]?.getD 0))
theorem mP_add (num : Nat → Int) (pre : List Nat) (x : Nat) : rws (sp2 (mP num (pre ++ [x]))) (pre.length + 1) = rws (sp2 (mP num pre)) pre.length ++ [.int .i64 (x : Int), .int .i64 (num x)] := by
  rw [rws_succ]
  congr 1
  · refine rws_congr _ fun i hi' => ?_
    unfold sp2 mP
    dsimp only
    rw [List.getElem?_append_left hi']
  · unfold sp2 mP
    dsimp only
    rw [List.getElem?_append_right (Nat.le_refl _), Nat.sub_self]
    rfl
set_option maxRecDepth 100000 in
set_option maxHeartbeats 8000000 in
theorem measC_no {ca cb : Nat} (A B : Option Addr) (na n : Nat) (fa : Nat → P3) (ln : Nat → Nat) (lf : Nat → Nat → P3) (band : Int) (w : World) (ha : na ≤ 1048576) (hn : n ≤ 1048576) (hl : ∀ i, i < n → ln i ≤ 1048576) (pa : PtsAt w A na fa) (pb : LsAt w B n ln lf) (h0 : liC na fa n ln lf band ≠ 0) :
    Calls Try.prog 79 #[.slice A na ca, .slice B n cb, .int .i64 band, .func (.func 80) #[] #[]] w fun e w' => e = .returned (.tuple #[.slice none 0 0, .int .i64 (liC na fa n ln lf band)]) ∧ Below w.heap.size w w' := by
  have BA := Lib.hid (below_alloc1 w (.cells #[.func (.func 80) #[] #[]] 96))
  have HT := Lib.hid (takingI_no (ca := ca) (cb := cb) A B na n fa ln lf band _ ha hn hl (pa.kept BA.out) (pb.kept BA.out) h0)
  have h12 : liC na fa n ln lf band = 1 ∨ liC na fa n ln lf band = 2 := by have := liC_any na fa n ln lf band; omega
  clear h0 pa pb hl
  rcases h12 with h | h
  all_goals
    rw [h] at HT ⊢
    clear h
    go_enter Try.func79, Try.ntmps79
    go_wp2_with fail
    refine HT.out.mono ?_
    rintro e w1 ⟨rfl, hb⟩
    have B1 := Lib.hid (BA.out.trans (hb.mono BA.out.size))
    clear hb
    go_wp2
    go_ret2
    exact ⟨rfl, B1.out⟩
set_option maxRecDepth 100000 in
set_option maxHeartbeats 8000000 in
theorem measC_yes {ca cb : Nat} (A B : Option Addr) (na n : Nat) (fa : Nat → P3) (ln : Nat → Nat) (lf : Nat → Nat → P3) (bd : Nat) (num : Nat → Int) (w : World) (ha : na ≤ 1048576) (hl : ∀ i, i < n → ln i ≤ 1048576) (pa : PtsAt w A na fa) (pb : LsAt w B n ln lf) (h0 : liC na fa n ln lf (bd : Int) = 0)
    (hnum : ∀ (W : World) (Ai : Option Addr) (ci x : Nat), x < n → takes na ln (bd : Int) x = true → PtsAt W A na fa → PtsAt W Ai (ln x) (lf x) → Calls Try.prog 80 #[mtv A Ai na (ln x) ca ci bd] W fun e W' => e = .returned (.int .i64 (num x)) ∧ Below W.heap.size W W') :
    Calls Try.prog 79 #[.slice A na ca, .slice B n cb, .int .i64 (bd : Int), .func (.func 80) #[] #[]] w fun e w' => ∃ v, e = .returned (.tuple #[v, .int .i64 0]) ∧ w'.ownsRow w.heap.size 98 2 v (tks na ln (bd : Int) n).length (rws (sp2 (mP num (tks na ln (bd : Int) n))) (tks na ln (bd : Int) n).length) ∧ Below w.heap.size w w' := by
  have hn40 := (liC_of h0).1.2.1
  have BA := Lib.hid (below_alloc1 w (.cells #[.func (.func 80) #[] #[]] 96))
  have K0 := Lib.hid (heap_alloc_new w (.cells #[.func (.func 80) #[] #[]] 96))
  obtain ⟨la, lc, hls⟩ := pb.fns
  have HT := Lib.hid (takingI_yes (ca := ca) (cb := cb) A B na n fa ln lf (bd : Int) _ ha (by omega) hl (pa.kept BA.out) (pb.kept BA.out) h0)
  have hu : undef = Value.tuple #[] := rfl
  refine (callsIn_wide (n := 6)).1 ?_
  refine callsIn_of_wp_marks Try.func79 rfl trivial ?_ rfl
  simp only [Try.ntmps79, List.size_toArray, List.length_cons, List.length_nil, Nat.reduceAdd, Nat.reduceSub, Array.replicate_succ, Array.replicate_zero, List.push_toArray, List.append_toArray, List.nil_append, List.cons_append]
  gi_wp2_with (refine ⟨trivial, ?_⟩; gi_at_call 83; refine (callsIn_wide.2 HT.out).mono ?_; rintro e w2 ⟨rfl, hbx⟩)
  have hz1 : (w.alloc (.cells #[.func (.func 80) #[] #[]] 96)).heap.size = w.heap.size + 1 := by simp
  have hzb := hbx.lt
  obtain ⟨cA, cL, cD⟩ := hbx.cells
  have hB2 : Below w.heap.size w w2 := BA.out.trans (hbx.bel.mono BA.out.size)
  rw [hz1] at cA cL cD hzb
  have F2 := (hbx.bel.block _ (block_size K0.out)).trans K0.out
  have hls2 := hls.kept hB2
  have hpa2 := pa.kept hB2
  have hbk0 := Boxed.new w2 93 (.slice none 0 0)
  have hB0 : Below w2.heap.size w2 (w2.alloc (.cells #[.slice none 0 0] 93)) := below_alloc1 w2 _
  have hsz : (w2.alloc (.cells #[.slice none 0 0] 93)).heap.size = w2.heap.size + 1 := by simp
  obtain ⟨W0, hW0⟩ : ∃ W0, w2.alloc (.cells #[.slice none 0 0] 93) = W0 := ⟨_, rfl⟩
  rw [hW0] at hbk0 hB0 hsz ⊢
  clear hW0
  obtain ⟨i0, hi0, hz0, hz1', hz2'⟩ := rown.info_get infoM
  have hw2 : w.heap.size < w2.heap.size := block_size F2
  refine wpIn_rangeFunc_ownH rfl (by omega) (gf := 110) (lb := #[.pointer (some ⟨w.heap.size + 1 + 1, 0, none⟩), .pointer (some ⟨w.heap.size + 1, 0, none⟩), .pointer (some ⟨w.heap.size + 1 + 2, 0, none⟩)]) rfl trivial (enters_of Try.func110 (by kernel_rfl) rfl)
    (take_stops _ (by omega) w2.heap.size (w.heap.size + 1) (w.heap.size + 1 + 1) (w.heap.size + 1 + 2) A B na n ca cb bd la ln lc (by omega) ha hl (by omega) (by omega) (by omega) W0 (by omega) ((hB0.cell (p := ⟨w.heap.size + 1, 0, none⟩) (by simp only; omega)).trans cA) ((hB0.cell (p := ⟨w.heap.size + 1 + 1, 0, none⟩) (by simp only; omega)).trans cL) ((hB0.cell (p := ⟨w.heap.size + 1 + 2, 0, none⟩) (by simp only; omega)).trans cD)
      (fun i hi => by obtain ⟨⟨b, o, e, h1, h2⟩, -⟩ := hls2 i hi; exact ⟨b, o, e, h1, (hB0.cell (p := ⟨b, o + i, none⟩) h1).trans h2⟩)) belowK_t (belowK_b (by omega)) (Below.refl _ _) (fun _ => rfl)
    (fun (pre : List (Tk na n ln (bd : Int))) W => (∃ v, Boxed W w2.heap.size 93 v ∧ W.ownsRow w2.heap.size 98 2 v pre.length (rws (sp2 (mP num (pre.map (·.1)))) pre.length) ∧ ∃ (g : Option Addr) (cap : Nat), v = .slice g pre.length cap) ∧ Below w2.heap.size w2 W)
    (fun _ _ _ => False)
    (OwnFrom.and (Own.from (holdsRow_own _ _ _ _ _ (fun pre : List (Tk na n ln (bd : Int)) => pre.length) (fun pre => rws (sp2 (mP num (pre.map (·.1)))) pre.length) (fun pre v => ∃ (g : Option Addr) (cap : Nat), v = .slice g pre.length cap)) _) (ownFrom_below (Nat.le_refl _) (by omega)))
    (fun _ _ _ _ _ hs _ _ => hs)
    ⟨⟨_, hbk0, World.ownsRow_nil _ _ _ _, ⟨none, 0, rfl⟩⟩, hB0⟩
    (fun x a' W => ∃ Bx, w2.heap.size < Bx ∧ W.heap[Bx]? = some (.cells #[.slice A na ca, .slice (la x.1) (ln x.1) (lc x.1), .int .i64 (bd : Int)] 87 (0, 0)) ∧ a' = { tmps := #[.slice A na ca, .slice B n cb, .int .i64 (bd : Int), .func (.func 80) #[] #[], .tuple #[], .tuple #[], .tuple #[], .pointer (some ⟨w.heap.size, 0, none⟩), .slice none 0 0, .int .i64 0, .func (.func 110) #[] #[.pointer (some ⟨w.heap.size + 1 + 1, 0, none⟩), .pointer (some ⟨w.heap.size + 1, 0, none⟩), .pointer (some ⟨w.heap.size + 1 + 2, 0, none⟩)], .int .i64 0, .pointer (some ⟨w2.heap.size, 0, none⟩), .int .i64 (x.1 : Int), .pointer (some ⟨Bx, 0, none⟩), .tuple #[.func (.func 110) #[] #[.pointer (some ⟨w.heap.size + 1 + 1, 0, none⟩), .pointer (some ⟨w.heap.size + 1, 0, none⟩), .pointer (some ⟨w.heap.size + 1 + 2, 0, none⟩)], .int .i64 0], .slice A na ca, .slice B n cb, .int .i64 (bd : Int), .tuple #[.func (.func 110) #[] #[.pointer (some ⟨w.heap.size + 1 + 1, 0, none⟩), .pointer (some ⟨w.heap.size + 1, 0, none⟩), .pointer (some ⟨w.heap.size + 1 + 2, 0, none⟩)], .int .i64 0], .func (.func 110) #[] #[.pointer (some ⟨w.heap.size + 1 + 1, 0, none⟩), .pointer (some ⟨w.heap.size + 1, 0, none⟩), .pointer (some ⟨w.heap.size + 1 + 2, 0, none⟩)], .int .i64 0, .int .i64 0, .bool false, .tuple #[], .func (.func 110) #[] #[.pointer (some ⟨w.heap.size + 1 + 1, 0, none⟩), .pointer (some ⟨w.heap.size + 1, 0, none⟩), .pointer (some ⟨w.heap.size + 1 + 2, 0, none⟩)], .int .i64 (x.1 : Int), .agg #[.slice A na ca, .slice (la x.1) (ln x.1) (lc x.1), .int .i64 (bd : Int)], .tuple #[], .tuple #[], .tuple #[], .tuple #[], .tuple #[], .tuple #[], .tuple #[], .tuple #[], .tuple #[]], defers := [] })
    (fun x a' _ X Y row hs hg hr => by
      obtain ⟨Bx, h1, h2, h3⟩ := hs
      refine ⟨Bx, h1, (hg.block Bx (block_size h2) (fun e' => ?_)).trans h2, h3⟩
      obtain ⟨_, o, ho, hc⟩ := hr Bx e'.symm
      rw [h2] at ho
      cases ho
      cases hc)
    ?assign ?body ?done ?stop
  case assign =>
    rintro l pre x W Kk ⟨⟨v, hv, hrow, hg⟩, hB⟩ hK
    unfold encT
    gi_wp2
    exact hK _ _ ((KeepsOthers.alloc _ _).from _) ((Below.refl _ W).alloc hB.size _) ⟨⟨v, hv.alloc _, hrow.alloc _, hg⟩, hB.alloc hB.size _⟩ ⟨W.heap.size, hv.lt, World.alloc_heap_new W _, rfl⟩
  case body =>
    rintro l pre x a' W hl' ⟨r, hr⟩ ⟨⟨v, hv, hrow, ⟨gv, cap, rfl⟩⟩, hB⟩ ⟨Bx, hBx, hX, rfl⟩ hlt
    have hcL := hv.cell
    have hcF : W.cell? ⟨w.heap.size, 0, none⟩ = some (.func (.func 80) #[] #[]) := (hB.cell (p := ⟨w.heap.size, 0, none⟩) hw2).trans (by rw [cell_of_block F2]; rfl)
    have hX0 : W.cell? ⟨Bx, 0, none⟩ = some (.slice A na ca) := by rw [cell_of_block hX]; rfl
    have hX1 : W.cell? ⟨Bx, 1, none⟩ = some (.slice (la x.1) (ln x.1) (lc x.1)) := by rw [cell_of_block hX]; rfl
    have hX2 : W.cell? ⟨Bx, 2, none⟩ = some (.int .i64 (bd : Int)) := by rw [cell_of_block hX]; rfl
    have hcall := fun V (hV : Below w2.heap.size w2 V) => hnum V (la x.1) (lc x.1) x.1 x.2.1 x.2.2 (hpa2.kept hV) ((hls2 x.1 x.2.1).2.kept hV)
    gi_wp2
    refine rnd.region_roundU (fun V => V.cell? ⟨w.heap.size, 0, none⟩ = some (.func (.func 80) #[] #[]) ∧ V.cell? ⟨Bx, 0, none⟩ = some (.slice A na ca) ∧ V.cell? ⟨Bx, 1, none⟩ = some (.slice (la x.1) (ln x.1) (lc x.1)) ∧ V.cell? ⟨Bx, 2, none⟩ = some (.int .i64 (bd : Int))) (fun V => V.cell? ⟨w2.heap.size, 0, none⟩ = some (.slice gv pre.length cap)) 8 (by kernel_rfl) (by kernel_rfl) (by rintro ⟨a, w', h⟩; exact h) ⟨⟨hcF, hX0, hX1, hX2⟩, hcL⟩ (fun hH => ?_)
    refine rnd.wpAnyU_take (i := 0) (oi := { dst := some 28, op := Op.load 93 (Operand.tmp 12), type := 93, pos := "l10_bounds.go:241", after := #[], guard := none }) (v := ?_) rfl (by kernel_rfl) (by kernel_rfl) (by kernel_rfl) (by kernel_rfl) (fun _ _ _ h => h) (Or.inl ⟨by rfl, ?_⟩) hH ?_
    rotate_left
    · intro V hSw
      obtain ⟨⟨s1, s2, s3, s4⟩, s0⟩ := hSw
      go_simp
      try with_reducible rfl
    simp only [Act.put, List.setIfInBounds_toArray, List.set_cons_zero, List.set_cons_succ]
    refine rnd.wpAnyU_take (i := 1) (oi := { dst := some 29, op := Op.move (Operand.tmp 13), type := 2, pos := "l10_bounds.go:241", after := #[], guard := none }) (v := ?_) rfl (by kernel_rfl) (by kernel_rfl) (by kernel_rfl) (by kernel_rfl) (fun _ _ _ h => h) (Or.inl ⟨by rfl, ?_⟩) hH ?_
    rotate_left
    · intro V hSw
      obtain ⟨⟨s1, s2, s3, s4⟩, s0⟩ := hSw
      go_simp
      try with_reducible rfl
    simp only [Act.put, List.setIfInBounds_toArray, List.set_cons_zero, List.set_cons_succ]
    refine rnd.wpAnyU_take (i := 2) (oi := { dst := some 30, op := Op.load 96 (Operand.tmp 7), type := 96, pos := "l10_bounds.go:241", after := #[], guard := none }) (v := ?_) rfl (by kernel_rfl) (by kernel_rfl) (by kernel_rfl) (by kernel_rfl) (fun _ _ _ h => h) (Or.inl ⟨by rfl, ?_⟩) hH ?_
    rotate_left
    · intro V hSw
      obtain ⟨⟨s1, s2, s3, s4⟩, s0⟩ := hSw
      go_simp
      try with_reducible rfl
    simp only [Act.put, List.setIfInBounds_toArray, List.set_cons_zero, List.set_cons_succ]
    refine rnd.wpAnyU_take (i := 3) (oi := { dst := some 31, op := Op.load 87 (Operand.tmp 14), type := 87, pos := "l10_bounds.go:241", after := #[], guard := none }) (v := ?_) rfl (by kernel_rfl) (by kernel_rfl) (by kernel_rfl) (by kernel_rfl) (fun _ _ _ h => h) (Or.inl ⟨by rfl, ?_⟩) hH ?_
    rotate_left
    · intro V hSw
      obtain ⟨⟨s1, s2, s3, s4⟩, s0⟩ := hSw
      go_simp
      try with_reducible rfl
    simp only [Act.put, List.setIfInBounds_toArray, List.set_cons_zero, List.set_cons_succ]
    refine rnd.wpAnyU_one (i := 4) (by kernel_rfl) rfl (fun K' hK' => ?_)
    go_simp
    refine (hcall _ hB.drew).mono ?_
    rintro e W3 ⟨rfl, hb3⟩
    have hbW : Below W.heap.size W W3 := (Below.refl _ W).drew.trans hb3
    have hv3 : Boxed W3 w2.heap.size 93 (.slice gv pre.length cap) := (hbW.block _ hv.lt).trans hv
    have hrow3 := rown.ownsRow_kept hrow hbW
    have hX3 := (hbW.block _ (block_size hX)).trans hX
    have hB3 : Below w2.heap.size w2 W3 := hB.trans (hbW.mono hB.size)
    have cell3 : ∀ V, Below w2.heap.size w2 V → V.heap[Bx]? = some (.cells #[.slice A na ca, .slice (la x.1) (ln x.1) (lc x.1), .int .i64 (bd : Int)] 87 (0, 0)) → V.cell? ⟨w.heap.size, 0, none⟩ = some (.func (.func 80) #[] #[]) ∧ V.cell? ⟨Bx, 0, none⟩ = some (.slice A na ca) ∧ V.cell? ⟨Bx, 1, none⟩ = some (.slice (la x.1) (ln x.1) (lc x.1)) ∧ V.cell? ⟨Bx, 2, none⟩ = some (.int .i64 (bd : Int)) := fun V hV hb =>
      ⟨(hV.cell (p := ⟨w.heap.size, 0, none⟩) hw2).trans (by rw [cell_of_block F2]; rfl), by rw [cell_of_block hb]; rfl, by rw [cell_of_block hb]; rfl, by rw [cell_of_block hb]; rfl⟩
    dsimp only
    refine hK'.out _ _ (cell3 _ hB3 hX3) (fun _ => hv3.cell) ?_
    clear hK'
    refine rnd.wpAnyU_one (i := 5) (by kernel_rfl) rfl (fun K' hK' => ?_)
    go_simp
    refine hK'.out _ _ (cell3 _ hB3 hX3) (fun _ => hv3.cell) ?_
    clear hK'
    refine rnd.wpAnyU_one (i := 6) (by kernel_rfl) rfl (fun K' hK' => ?_)
    go_simp
    have hB4 := hB3.alloc hB3.size (.cells #[.int .i64 (x.1 : Int), .int .i64 (num x.1)] 98)
    refine hK'.out _ _ (cell3 _ hB4 ((Below.heap_alloc _ _ _ (block_size hX3)).trans hX3)) (fun _ => (hv3.alloc _).cell) ?_
    clear hK'
    refine rnd.wpAnyU_one (i := 7) (by kernel_rfl) rfl (fun K' hK' => ?_)
    have h3 : pre.length + 1 ≤ maxLen := by simp only [maxLen]; omega
    have h4 : (pre.length + 1) * 16 ≤ 140737488355328 := by omega
    refine step_append_lies _ (by rfl) (.tmp 28) (.tmp 34) _ (by rfl) w2.heap.size 98 i0 _ 2 16 Try.underlying93 hi0 hz0 hz1' hz2' rfl (by decide) (.slice gv pre.length cap) pre.length _ (by rfl) (rown.ownsRow_kept hrow3 (below_alloc1 _ _)) ⟨W3.heap.size, 0, none⟩ 1 1 [.int .i64 (x.1 : Int), .int .i64 (num x.1)] (by rfl) rfl (two_new rfl) (by simp [Value.oneCell']) (by decide) h3 h4 hB4.size _ rfl ?_
    intro g2 c2 V1 hown hgr hat hlt9
    obtain ⟨hv1, hv2, hr2, hk2, hb2⟩ := hv3.appended (by decide) hrow3 hB3.size (Nat.le_refl _) hown hgr
    have hB5 : Below w2.heap.size w2 V1 := hB4.trans ((Below.refl _ _).grown hgr hB4.size (fun k hk => by
      have h5 := rown.ownsRow_block hrow3 (g := k) hk
      exact h5.1))
    have hX5 : V1.heap[Bx]? = some (.cells #[.slice A na ca, .slice (la x.1) (ln x.1) (lc x.1), .int .i64 (bd : Int)] 87 (0, 0)) := (hgr.block Bx (by have := block_size hX3; simp; omega) (fun e' => by
      obtain ⟨_, cur, h6⟩ := rown.ownsRow_block hrow3 (g := Bx) e'.symm
      rw [hX3] at h6
      simp at h6)).trans ((Below.heap_alloc _ _ _ (block_size hX3)).trans hX3)
    have hc1 := hv1.cell
    have hf1 := hv1.frozen
    simp only [Act.put, List.setIfInBounds_toArray, List.set_cons_zero, List.set_cons_succ]
    refine hK'.out _ _ (cell3 _ hB5 hX5) (fun _ => hc1) ?_
    clear hK'
    refine rnd.wpAnyU_one (i := 8) (by kernel_rfl) rfl (fun K' hK' => ?_)
    go_simp
    refine hK'.out _ _ (cell3 _ (hB5.setCell (p := ⟨w2.heap.size, 0, none⟩) (Nat.le_refl _) _) ((Below.heap_setCell _ _ _ _ (by simp; omega)).trans hX5)) (fun h => absurd rfl h) ?_
    clear hK'
    refine rnd.wpAnyU_done (by kernel_rfl) ?_ _
    have hln : (pre ++ [x]).length = pre.length + 1 := by simp
    have hmp : rws (sp2 (mP num ((pre ++ [x]).map (·.1)))) (pre.length + 1) = rws (sp2 (mP num (pre.map (·.1)))) pre.length ++ [.int .i64 (x.1 : Int), .int .i64 (num x.1)] := by
      have := mP_add num (pre.map (·.1)) x.1
      rw [List.length_map] at this
      rw [List.map_append]
      exact this
    refine ⟨⟨Nat.le_trans hbW.size hk2.size, fun k o hk ho hc => hk2.same k o ((hbW.block _ (block_size ho)).trans ho) hc⟩, (hbW.mono hB.size).trans hb2, ⟨⟨_, hv2, ?_, ⟨some ⟨g2, 0, none⟩, c2, by rw [hln]⟩⟩, hB3.trans hb2⟩⟩
    rw [hln, hmp]
    exact hr2
  case done =>
    rintro D ys W hD rfl ⟨⟨v, hv, hrow, ⟨gv, cap, rfl⟩⟩, hB⟩ hK
    have cB := hv.cell
    have hle : (tkl na n ln (bd : Int) n).length = (tks na ln (bd : Int) n).length := by rw [← tkl_map n (Nat.le_refl _), List.length_map]
    rw [tkl_map n (Nat.le_refl _)] at hrow
    rw [hle] at hrow cB
    gi_wp2
    refine ⟨by simp, .inl ⟨_, _, rfl, run_takeDeferred hK, ?_⟩⟩
    exact ⟨.tuple #[.slice gv (tks na ln (bd : Int) n).length cap, .int .i64 0], by simp [results, Try.results79, go_sem], ⟨_, rfl, row_low (ownsRow_putObj hrow _ hK rfl) (by omega), (hB2.trans (hB.mono (by omega))).trans (belowK_b (w := w) (Nat.le_refl _) W D _ _ (by omega) hK rfl rfl)⟩⟩
  case stop =>
    rintro D c pre W _ _ h _
    exact h.elim
set_option maxRecDepth 100000 in
set_option maxHeartbeats 8000000 in
theorem measB_no {ca cb : Nat} (A B : Option Addr) (na n : Nat) (fa : Nat → P3) (ln : Nat → Nat) (lf : Nat → Nat → P3) (band : Int) (w : World) (ha : na ≤ 1048576) (hn : n ≤ 1048576) (hl : ∀ i, i < n → ln i ≤ 1048576) (pa : PtsAt w A na fa) (pb : LsAt w B n ln lf) (h0 : liC na fa n ln lf band ≠ 0) :
    Calls Try.prog 79 #[.slice A na ca, .slice B n cb, .int .i64 band, .func (.func 75) #[] #[]] w fun e w' => e = .returned (.tuple #[.slice none 0 0, .int .i64 (liC na fa n ln lf band)]) ∧ Below w.heap.size w w' := by
  have BA := Lib.hid (below_alloc1 w (.cells #[.func (.func 75) #[] #[]] 96))
  have HT := Lib.hid (takingI_no (ca := ca) (cb := cb) A B na n fa ln lf band _ ha hn hl (pa.kept BA.out) (pb.kept BA.out) h0)
  have h12 : liC na fa n ln lf band = 1 ∨ liC na fa n ln lf band = 2 := by have := liC_any na fa n ln lf band; omega
  clear h0 pa pb hl
  rcases h12 with h | h
  all_goals
    rw [h] at HT ⊢
    clear h
    go_enter Try.func79, Try.ntmps79
    go_wp2_with fail
    refine HT.out.mono ?_
    rintro e w1 ⟨rfl, hb⟩
    have B1 := Lib.hid (BA.out.trans (hb.mono BA.out.size))
    clear hb
    go_wp2
    go_ret2
    exact ⟨rfl, B1.out⟩
set_option maxRecDepth 100000 in
set_option maxHeartbeats 8000000 in
theorem measB_yes {ca cb : Nat} (A B : Option Addr) (na n : Nat) (fa : Nat → P3) (ln : Nat → Nat) (lf : Nat → Nat → P3) (bd : Nat) (num : Nat → Int) (w : World) (ha : na ≤ 1048576) (hl : ∀ i, i < n → ln i ≤ 1048576) (pa : PtsAt w A na fa) (pb : LsAt w B n ln lf) (h0 : liC na fa n ln lf (bd : Int) = 0)
    (hnum : ∀ (W : World) (Ai : Option Addr) (ci x : Nat), x < n → takes na ln (bd : Int) x = true → PtsAt W A na fa → PtsAt W Ai (ln x) (lf x) → Calls Try.prog 75 #[mtv A Ai na (ln x) ca ci bd] W fun e W' => e = .returned (.int .i64 (num x)) ∧ Below W.heap.size W W') :
    Calls Try.prog 79 #[.slice A na ca, .slice B n cb, .int .i64 (bd : Int), .func (.func 75) #[] #[]] w fun e w' => ∃ v, e = .returned (.tuple #[v, .int .i64 0]) ∧ w'.ownsRow w.heap.size 98 2 v (tks na ln (bd : Int) n).length (rws (sp2 (mP num (tks na ln (bd : Int) n))) (tks na ln (bd : Int) n).length) ∧ Below w.heap.size w w' := by
  have hn40 := (liC_of h0).1.2.1
  have BA := Lib.hid (below_alloc1 w (.cells #[.func (.func 75) #[] #[]] 96))
  have K0 := Lib.hid (heap_alloc_new w (.cells #[.func (.func 75) #[] #[]] 96))
  obtain ⟨la, lc, hls⟩ := pb.fns
  have HT := Lib.hid (takingI_yes (ca := ca) (cb := cb) A B na n fa ln lf (bd : Int) _ ha (by omega) hl (pa.kept BA.out) (pb.kept BA.out) h0)
  have hu : undef = Value.tuple #[] := rfl
  refine (callsIn_wide (n := 6)).1 ?_
  refine callsIn_of_wp_marks Try.func79 rfl trivial ?_ rfl
  simp only [Try.ntmps79, List.size_toArray, List.length_cons, List.length_nil, Nat.reduceAdd, Nat.reduceSub, Array.replicate_succ, Array.replicate_zero, List.push_toArray, List.append_toArray, List.nil_append, List.cons_append]
  gi_wp2_with (refine ⟨trivial, ?_⟩; gi_at_call 83; refine (callsIn_wide.2 HT.out).mono ?_; rintro e w2 ⟨rfl, hbx⟩)
  have hz1 : (w.alloc (.cells #[.func (.func 75) #[] #[]] 96)).heap.size = w.heap.size + 1 := by simp
  have hzb := hbx.lt
  obtain ⟨cA, cL, cD⟩ := hbx.cells
  have hB2 : Below w.heap.size w w2 := BA.out.trans (hbx.bel.mono BA.out.size)
  rw [hz1] at cA cL cD hzb
  have F2 := (hbx.bel.block _ (block_size K0.out)).trans K0.out
  have hls2 := hls.kept hB2
  have hpa2 := pa.kept hB2
  have hbk0 := Boxed.new w2 93 (.slice none 0 0)
  have hB0 : Below w2.heap.size w2 (w2.alloc (.cells #[.slice none 0 0] 93)) := below_alloc1 w2 _
  have hsz : (w2.alloc (.cells #[.slice none 0 0] 93)).heap.size = w2.heap.size + 1 := by simp
  obtain ⟨W0, hW0⟩ : ∃ W0, w2.alloc (.cells #[.slice none 0 0] 93) = W0 := ⟨_, rfl⟩
  rw [hW0] at hbk0 hB0 hsz ⊢
  clear hW0
  obtain ⟨i0, hi0, hz0, hz1', hz2'⟩ := rown.info_get infoM
  have hw2 : w.heap.size < w2.heap.size := block_size F2
  refine wpIn_rangeFunc_ownH rfl (by omega) (gf := 110) (lb := #[.pointer (some ⟨w.heap.size + 1 + 1, 0, none⟩), .pointer (some ⟨w.heap.size + 1, 0, none⟩), .pointer (some ⟨w.heap.size + 1 + 2, 0, none⟩)]) rfl trivial (enters_of Try.func110 (by kernel_rfl) rfl)
    (take_stops _ (by omega) w2.heap.size (w.heap.size + 1) (w.heap.size + 1 + 1) (w.heap.size + 1 + 2) A B na n ca cb bd la ln lc (by omega) ha hl (by omega) (by omega) (by omega) W0 (by omega) ((hB0.cell (p := ⟨w.heap.size + 1, 0, none⟩) (by simp only; omega)).trans cA) ((hB0.cell (p := ⟨w.heap.size + 1 + 1, 0, none⟩) (by simp only; omega)).trans cL) ((hB0.cell (p := ⟨w.heap.size + 1 + 2, 0, none⟩) (by simp only; omega)).trans cD)
      (fun i hi => by obtain ⟨⟨b, o, e, h1, h2⟩, -⟩ := hls2 i hi; exact ⟨b, o, e, h1, (hB0.cell (p := ⟨b, o + i, none⟩) h1).trans h2⟩)) belowK_t (belowK_b (by omega)) (Below.refl _ _) (fun _ => rfl)
    (fun (pre : List (Tk na n ln (bd : Int))) W => (∃ v, Boxed W w2.heap.size 93 v ∧ W.ownsRow w2.heap.size 98 2 v pre.length (rws (sp2 (mP num (pre.map (·.1)))) pre.length) ∧ ∃ (g : Option Addr) (cap : Nat), v = .slice g pre.length cap) ∧ Below w2.heap.size w2 W)
    (fun _ _ _ => False)
    (OwnFrom.and (Own.from (holdsRow_own _ _ _ _ _ (fun pre : List (Tk na n ln (bd : Int)) => pre.length) (fun pre => rws (sp2 (mP num (pre.map (·.1)))) pre.length) (fun pre v => ∃ (g : Option Addr) (cap : Nat), v = .slice g pre.length cap)) _) (ownFrom_below (Nat.le_refl _) (by omega)))
    (fun _ _ _ _ _ hs _ _ => hs)
    ⟨⟨_, hbk0, World.ownsRow_nil _ _ _ _, ⟨none, 0, rfl⟩⟩, hB0⟩
    (fun x a' W => ∃ Bx, w2.heap.size < Bx ∧ W.heap[Bx]? = some (.cells #[.slice A na ca, .slice (la x.1) (ln x.1) (lc x.1), .int .i64 (bd : Int)] 87 (0, 0)) ∧ a' = { tmps := #[.slice A na ca, .slice B n cb, .int .i64 (bd : Int), .func (.func 75) #[] #[], .tuple #[], .tuple #[], .tuple #[], .pointer (some ⟨w.heap.size, 0, none⟩), .slice none 0 0, .int .i64 0, .func (.func 110) #[] #[.pointer (some ⟨w.heap.size + 1 + 1, 0, none⟩), .pointer (some ⟨w.heap.size + 1, 0, none⟩), .pointer (some ⟨w.heap.size + 1 + 2, 0, none⟩)], .int .i64 0, .pointer (some ⟨w2.heap.size, 0, none⟩), .int .i64 (x.1 : Int), .pointer (some ⟨Bx, 0, none⟩), .tuple #[.func (.func 110) #[] #[.pointer (some ⟨w.heap.size + 1 + 1, 0, none⟩), .pointer (some ⟨w.heap.size + 1, 0, none⟩), .pointer (some ⟨w.heap.size + 1 + 2, 0, none⟩)], .int .i64 0], .slice A na ca, .slice B n cb, .int .i64 (bd : Int), .tuple #[.func (.func 110) #[] #[.pointer (some ⟨w.heap.size + 1 + 1, 0, none⟩), .pointer (some ⟨w.heap.size + 1, 0, none⟩), .pointer (some ⟨w.heap.size + 1 + 2, 0, none⟩)], .int .i64 0], .func (.func 110) #[] #[.pointer (some ⟨w.heap.size + 1 + 1, 0, none⟩), .pointer (some ⟨w.heap.size + 1, 0, none⟩), .pointer (some ⟨w.heap.size + 1 + 2, 0, none⟩)], .int .i64 0, .int .i64 0, .bool false, .tuple #[], .func (.func 110) #[] #[.pointer (some ⟨w.heap.size + 1 + 1, 0, none⟩), .pointer (some ⟨w.heap.size + 1, 0, none⟩), .pointer (some ⟨w.heap.size + 1 + 2, 0, none⟩)], .int .i64 (x.1 : Int), .agg #[.slice A na ca, .slice (la x.1) (ln x.1) (lc x.1), .int .i64 (bd : Int)], .tuple #[], .tuple #[], .tuple #[], .tuple #[], .tuple #[], .tuple #[], .tuple #[], .tuple #[], .tuple #[]], defers := [] })
    (fun x a' _ X Y row hs hg hr => by
      obtain ⟨Bx, h1, h2, h3⟩ := hs
      refine ⟨Bx, h1, (hg.block Bx (block_size h2) (fun e' => ?_)).trans h2, h3⟩
      obtain ⟨_, o, ho, hc⟩ := hr Bx e'.symm
      rw [h2] at ho
      cases ho
      cases hc)
    ?assign ?body ?done ?stop
  case assign =>
    rintro l pre x W Kk ⟨⟨v, hv, hrow, hg⟩, hB⟩ hK
    unfold encT
    gi_wp2
    exact hK _ _ ((KeepsOthers.alloc _ _).from _) ((Below.refl _ W).alloc hB.size _) ⟨⟨v, hv.alloc _, hrow.alloc _, hg⟩, hB.alloc hB.size _⟩ ⟨W.heap.size, hv.lt, World.alloc_heap_new W _, rfl⟩
  case body =>
    rintro l pre x a' W hl' ⟨r, hr⟩ ⟨⟨v, hv, hrow, ⟨gv, cap, rfl⟩⟩, hB⟩ ⟨Bx, hBx, hX, rfl⟩ hlt
    have hcL := hv.cell
    have hcF : W.cell? ⟨w.heap.size, 0, none⟩ = some (.func (.func 75) #[] #[]) := (hB.cell (p := ⟨w.heap.size, 0, none⟩) hw2).trans (by rw [cell_of_block F2]; rfl)
    have hX0 : W.cell? ⟨Bx, 0, none⟩ = some (.slice A na ca) := by rw [cell_of_block hX]; rfl
    have hX1 : W.cell? ⟨Bx, 1, none⟩ = some (.slice (la x.1) (ln x.1) (lc x.1)) := by rw [cell_of_block hX]; rfl
    have hX2 : W.cell? ⟨Bx, 2, none⟩ = some (.int .i64 (bd : Int)) := by rw [cell_of_block hX]; rfl
    have hcall := fun V (hV : Below w2.heap.size w2 V) => hnum V (la x.1) (lc x.1) x.1 x.2.1 x.2.2 (hpa2.kept hV) ((hls2 x.1 x.2.1).2.kept hV)
    gi_wp2
    refine rnd.region_roundU (fun V => V.cell? ⟨w.heap.size, 0, none⟩ = some (.func (.func 75) #[] #[]) ∧ V.cell? ⟨Bx, 0, none⟩ = some (.slice A na ca) ∧ V.cell? ⟨Bx, 1, none⟩ = some (.slice (la x.1) (ln x.1) (lc x.1)) ∧ V.cell? ⟨Bx, 2, none⟩ = some (.int .i64 (bd : Int))) (fun V => V.cell? ⟨w2.heap.size, 0, none⟩ = some (.slice gv pre.length cap)) 8 (by kernel_rfl) (by kernel_rfl) (by rintro ⟨a, w', h⟩; exact h) ⟨⟨hcF, hX0, hX1, hX2⟩, hcL⟩ (fun hH => ?_)
    refine rnd.wpAnyU_take (i := 0) (oi := { dst := some 28, op := Op.load 93 (Operand.tmp 12), type := 93, pos := "l10_bounds.go:241", after := #[], guard := none }) (v := ?_) rfl (by kernel_rfl) (by kernel_rfl) (by kernel_rfl) (by kernel_rfl) (fun _ _ _ h => h) (Or.inl ⟨by rfl, ?_⟩) hH ?_
    rotate_left
    · intro V hSw
      obtain ⟨⟨s1, s2, s3, s4⟩, s0⟩ := hSw
      go_simp
      try with_reducible rfl
    simp only [Act.put, List.setIfInBounds_toArray, List.set_cons_zero, List.set_cons_succ]
    refine rnd.wpAnyU_take (i := 1) (oi := { dst := some 29, op := Op.move (Operand.tmp 13), type := 2, pos := "l10_bounds.go:241", after := #[], guard := none }) (v := ?_) rfl (by kernel_rfl) (by kernel_rfl) (by kernel_rfl) (by kernel_rfl) (fun _ _ _ h => h) (Or.inl ⟨by rfl, ?_⟩) hH ?_
    rotate_left
    · intro V hSw
      obtain ⟨⟨s1, s2, s3, s4⟩, s0⟩ := hSw
      go_simp
      try with_reducible rfl
    simp only [Act.put, List.setIfInBounds_toArray, List.set_cons_zero, List.set_cons_succ]
    refine rnd.wpAnyU_take (i := 2) (oi := { dst := some 30, op := Op.load 96 (Operand.tmp 7), type := 96, pos := "l10_bounds.go:241", after := #[], guard := none }) (v := ?_) rfl (by kernel_rfl) (by kernel_rfl) (by kernel_rfl) (by kernel_rfl) (fun _ _ _ h => h) (Or.inl ⟨by rfl, ?_⟩) hH ?_
    rotate_left
    · intro V hSw
      obtain ⟨⟨s1, s2, s3, s4⟩, s0⟩ := hSw
      go_simp
      try with_reducible rfl
    simp only [Act.put, List.setIfInBounds_toArray, List.set_cons_zero, List.set_cons_succ]
    refine rnd.wpAnyU_take (i := 3) (oi := { dst := some 31, op := Op.load 87 (Operand.tmp 14), type := 87, pos := "l10_bounds.go:241", after := #[], guard := none }) (v := ?_) rfl (by kernel_rfl) (by kernel_rfl) (by kernel_rfl) (by kernel_rfl) (fun _ _ _ h => h) (Or.inl ⟨by rfl, ?_⟩) hH ?_
    rotate_left
    · intro V hSw
      obtain ⟨⟨s1, s2, s3, s4⟩, s0⟩ := hSw
      go_simp
      try with_reducible rfl
    simp only [Act.put, List.setIfInBounds_toArray, List.set_cons_zero, List.set_cons_succ]
    refine rnd.wpAnyU_one (i := 4) (by kernel_rfl) rfl (fun K' hK' => ?_)
    go_simp
    refine (hcall _ hB.drew).mono ?_
    rintro e W3 ⟨rfl, hb3⟩
    have hbW : Below W.heap.size W W3 := (Below.refl _ W).drew.trans hb3
    have hv3 : Boxed W3 w2.heap.size 93 (.slice gv pre.length cap) := (hbW.block _ hv.lt).trans hv
    have hrow3 := rown.ownsRow_kept hrow hbW
    have hX3 := (hbW.block _ (block_size hX)).trans hX
    have hB3 : Below w2.heap.size w2 W3 := hB.trans (hbW.mono hB.size)
    have cell3 : ∀ V, Below w2.heap.size w2 V → V.heap[Bx]? = some (.cells #[.slice A na ca, .slice (la x.1) (ln x.1) (lc x.1), .int .i64 (bd : Int)] 87 (0, 0)) → V.cell? ⟨w.heap.size, 0, none⟩ = some (.func (.func 75) #[] #[]) ∧ V.cell? ⟨Bx, 0, none⟩ = some (.slice A na ca) ∧ V.cell? ⟨Bx, 1, none⟩ = some (.slice (la x.1) (ln x.1) (lc x.1)) ∧ V.cell? ⟨Bx, 2, none⟩ = some (.int .i64 (bd : Int)) := fun V hV hb =>
      ⟨(hV.cell (p := ⟨w.heap.size, 0, none⟩) hw2).trans (by rw [cell_of_block F2]; rfl), by rw [cell_of_block hb]; rfl, by rw [cell_of_block hb]; rfl, by rw [cell_of_block hb]; rfl⟩
    dsimp only
    refine hK'.out _ _ (cell3 _ hB3 hX3) (fun _ => hv3.cell) ?_
    clear hK'
    refine rnd.wpAnyU_one (i := 5) (by kernel_rfl) rfl (fun K' hK' => ?_)
    go_simp
    refine hK'.out _ _ (cell3 _ hB3 hX3) (fun _ => hv3.cell) ?_
    clear hK'
    refine rnd.wpAnyU_one (i := 6) (by kernel_rfl) rfl (fun K' hK' => ?_)
    go_simp
    have hB4 := hB3.alloc hB3.size (.cells #[.int .i64 (x.1 : Int), .int .i64 (num x.1)] 98)
    refine hK'.out _ _ (cell3 _ hB4 ((Below.heap_alloc _ _ _ (block_size hX3)).trans hX3)) (fun _ => (hv3.alloc _).cell) ?_
    clear hK'
    refine rnd.wpAnyU_one (i := 7) (by kernel_rfl) rfl (fun K' hK' => ?_)
    have h3 : pre.length + 1 ≤ maxLen := by simp only [maxLen]; omega
    have h4 : (pre.length + 1) * 16 ≤ 140737488355328 := by omega
    refine step_append_lies _ (by rfl) (.tmp 28) (.tmp 34) _ (by rfl) w2.heap.size 98 i0 _ 2 16 Try.underlying93 hi0 hz0 hz1' hz2' rfl (by decide) (.slice gv pre.length cap) pre.length _ (by rfl) (rown.ownsRow_kept hrow3 (below_alloc1 _ _)) ⟨W3.heap.size, 0, none⟩ 1 1 [.int .i64 (x.1 : Int), .int .i64 (num x.1)] (by rfl) rfl (two_new rfl) (by simp [Value.oneCell']) (by decide) h3 h4 hB4.size _ rfl ?_
    intro g2 c2 V1 hown hgr hat hlt9
    obtain ⟨hv1, hv2, hr2, hk2, hb2⟩ := hv3.appended (by decide) hrow3 hB3.size (Nat.le_refl _) hown hgr
    have hB5 : Below w2.heap.size w2 V1 := hB4.trans ((Below.refl _ _).grown hgr hB4.size (fun k hk => by
      have h5 := rown.ownsRow_block hrow3 (g := k) hk
      exact h5.1))
    have hX5 : V1.heap[Bx]? = some (.cells #[.slice A na ca, .slice (la x.1) (ln x.1) (lc x.1), .int .i64 (bd : Int)] 87 (0, 0)) := (hgr.block Bx (by have := block_size hX3; simp; omega) (fun e' => by
      obtain ⟨_, cur, h6⟩ := rown.ownsRow_block hrow3 (g := Bx) e'.symm
      rw [hX3] at h6
      simp at h6)).trans ((Below.heap_alloc _ _ _ (block_size hX3)).trans hX3)
    have hc1 := hv1.cell
    have hf1 := hv1.frozen
    simp only [Act.put, List.setIfInBounds_toArray, List.set_cons_zero, List.set_cons_succ]
    refine hK'.out _ _ (cell3 _ hB5 hX5) (fun _ => hc1) ?_
    clear hK'
    refine rnd.wpAnyU_one (i := 8) (by kernel_rfl) rfl (fun K' hK' => ?_)
    go_simp
    refine hK'.out _ _ (cell3 _ (hB5.setCell (p := ⟨w2.heap.size, 0, none⟩) (Nat.le_refl _) _) ((Below.heap_setCell _ _ _ _ (by simp; omega)).trans hX5)) (fun h => absurd rfl h) ?_
    clear hK'
    refine rnd.wpAnyU_done (by kernel_rfl) ?_ _
    have hln : (pre ++ [x]).length = pre.length + 1 := by simp
    have hmp : rws (sp2 (mP num ((pre ++ [x]).map (·.1)))) (pre.length + 1) = rws (sp2 (mP num (pre.map (·.1)))) pre.length ++ [.int .i64 (x.1 : Int), .int .i64 (num x.1)] := by
      have := mP_add num (pre.map (·.1)) x.1
      rw [List.length_map] at this
      rw [List.map_append]
      exact this
    refine ⟨⟨Nat.le_trans hbW.size hk2.size, fun k o hk ho hc => hk2.same k o ((hbW.block _ (block_size ho)).trans ho) hc⟩, (hbW.mono hB.size).trans hb2, ⟨⟨_, hv2, ?_, ⟨some ⟨g2, 0, none⟩, c2, by rw [hln]⟩⟩, hB3.trans hb2⟩⟩
    rw [hln, hmp]
    exact hr2
  case done =>
    rintro D ys W hD rfl ⟨⟨v, hv, hrow, ⟨gv, cap, rfl⟩⟩, hB⟩ hK
    have cB := hv.cell
    have hle : (tkl na n ln (bd : Int) n).length = (tks na ln (bd : Int) n).length := by rw [← tkl_map n (Nat.le_refl _), List.length_map]
    rw [tkl_map n (Nat.le_refl _)] at hrow
    rw [hle] at hrow cB
    gi_wp2
    refine ⟨by simp, .inl ⟨_, _, rfl, run_takeDeferred hK, ?_⟩⟩
    exact ⟨.tuple #[.slice gv (tks na ln (bd : Int) n).length cap, .int .i64 0], by simp [results, Try.results79, go_sem], ⟨_, rfl, row_low (ownsRow_putObj hrow _ hK rfl) (by omega), (hB2.trans (hB.mono (by omega))).trans (belowK_b (w := w) (Nat.le_refl _) W D _ _ (by omega) hK rfl rfl)⟩⟩
  case stop =>
    rintro D c pre W _ _ h _
    exact h.elim
end Go.Proofs.Ythpmckfjlbiiiaa.env
