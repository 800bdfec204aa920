/-
  Proved: what the program's function that turns a path round returns.
  Conditions: the numbers are those of 64 bits.
-/
import Derived.Test.YthpmckfjlbiiiabBack
import Derived.Test.YthpmckfjlbiiiabPut
namespace Go.Proofs.Ythpmckfjlbiiiab.bwd
open Go.ChangeShapes Go.WideShapes Go.ChangeAt Go.RowKit Go.Joins Go.Shelf
open Go.Proofs.Ythpmckfjlbiiiab.core Go.Proofs.Ythpmckfjlbiiiab.rown Go.Proofs.Ythpmckfjlbiiiab.stk Go.Proofs.Ythpmckfjlbiiiab.boxed Go.Proofs.Ythpmckfjlbiiiab.ft Go.Proofs.Ythpmckfjlbiiiab.seq Go.Proofs.Ythpmckfjlbiiiab.path
set_option linter.unusedVariables false
set_option linter.unusedSimpArgs false
attribute [local go_sem] Oper.semAt_some
theorem rev_vP {K : Nat} {f : Nat → P2} : revOk (K + 1) f = vP (K + 1) f ((f K).1 + 1) ((f K).2 + 1) 72 ∨ 72 ≤ (f K).1 ∨ 72 ≤ (f K).2 := by
  by_cases h1 : 72 ≤ (f K).1
  · exact .inr (.inl h1)
  by_cases h2 : 72 ≤ (f K).2
  · exact .inr (.inr h2)
  left
  cases hv : vP (K + 1) f ((f K).1 + 1) ((f K).2 + 1) 72 with
  | true =>
    obtain ⟨⟨a, b⟩, h⟩ := vP_of hv
    refine revOk_true ?_
    simp only [Nat.add_sub_cancel]
    refine ⟨by omega, ⟨by omega, by omega⟩, ⟨by omega, by omega⟩, ?_⟩
    exact okPath_true (by simpa only [Nat.add_sub_cancel] using h)
  | false =>
    cases hr : revOk (K + 1) f with
    | false => rfl
    | true =>
      obtain ⟨-, a, b, h⟩ := revOk_of hr
      simp only [Nat.add_sub_cancel] at a b h
      unfold vP at hv
      rw [if_pos ⟨by omega, by omega⟩, h] at hv
      cases hv
theorem rev_big {K : Nat} {f : Nat → P2} (h : 72 ≤ (f K).1 ∨ 72 ≤ (f K).2) : revOk (K + 1) f = false := by
  cases hr : revOk (K + 1) f with
  | false => rfl
  | true =>
    obtain ⟨-, a, b, -⟩ := revOk_of hr
    simp only [Nat.add_sub_cancel] at a b
    omega
set_option maxRecDepth 100000 in
set_option maxHeartbeats 4000000 in
theorem revI_no {c : Nat} (A : Option Addr) (k : Nat) (f : Nat → P2) (w : World) (hk : k ≤ 1048576) (hp : SpAt w A k f) (hi : ∀ i, i < k → inI64 (f i).1 ∧ inI64 (f i).2) (hv : revOk k f = false) :
    Calls Try.prog 31 #[.slice A k c] w fun e w' => ∃ v, e = .returned (.tuple #[v, .int .i64 1]) ∧ w'.ownsRow w.heap.size 59 2 v 0 (rws (sp2 fun _ => (0, 0)) 0) ∧ Below w.heap.size w w' := by
  have hu : undef = Value.tuple #[] := rfl
  by_cases hk0 : k = 0
  · subst hk0
    clear hp hv
    go_enter Try.func31, Try.ntmps31
    go_wp2
    go_ret2
    exact ⟨.slice none 0 0, rfl, World.ownsRow_nil _ _ _ _, Below.refl _ _⟩
  obtain ⟨K, rfl⟩ : ∃ K, k = K + 1 := ⟨k - 1, by omega⟩
  have hki0 : (((K + 1 : Nat) : Int) == 0) = false := by simp; omega
  have hkd : decide ((K : Int) + 1 = 0) = false := decide_eq_false (by omega)
  have hkd2 : ¬ (K : Int) + 1 = 0 := by omega
  have hKi : (K : Int) < (K : Int) + 1 := by omega
  have hKn : K < K + 1 := by omega
  have hrv := rev_vP (K := K) (f := f)
  obtain ⟨i1, i2⟩ := hi K hKn
  unfold inI64 at i1 i2
  have HP := Lib.hid hp
  obtain ⟨g0, o0, rfl, hg0, l0, l1⟩ := hp K hKn
  clear hp hk0 hi
  obtain ⟨L, hL⟩ : ∃ v, f K = v := ⟨_, rfl⟩
  rw [hL] at hrv l0 l1 i1 i2
  rw [hv] at hrv
  have BA := Lib.hid (below_alloc1 w (.cells #[.int .i64 L.1, .int .i64 L.2] 59))
  by_cases c1 : 72 ≤ L.1
  · have c1d : decide (72 ≤ L.1) = true := decide_eq_true c1
    clear hrv hv
    go_enter Try.func31, Try.ntmps31
    go_wp2
    go_ret2
    exact ⟨.slice none 0 0, rfl, World.ownsRow_nil _ _ _ _, BA.out⟩
  have c1d : decide (72 ≤ L.1) = false := decide_eq_false c1
  by_cases c2 : 72 ≤ L.2
  · have c2d : decide (72 ≤ L.2) = true := decide_eq_true c2
    clear hrv hv
    go_enter Try.func31, Try.ntmps31
    go_wp2
    go_ret2
    exact ⟨.slice none 0 0, rfl, World.ownsRow_nil _ _ _ _, BA.out⟩
  have c2d : decide (72 ≤ L.2) = false := decide_eq_false c2
  have hvp : vP (K + 1) f (L.1 + 1) (L.2 + 1) 72 = false := by rcases hrv with h | h | h <;> first | exact h.symm | omega
  have E1 : IntKind.i64.wrap (L.1 + 1) = L.1 + 1 := IntWalk.i64_in _ (by omega)
  have E2 : IntKind.i64.wrap (L.2 + 1) = L.2 + 1 := IntWalk.i64_in _ (by omega)
  have HC := Lib.hid (pathI (c := c) (some ⟨g0, o0, none⟩) (K + 1) f (L.1 + 1) (L.2 + 1) 72 _ hk (by unfold inI64; omega) (by unfold inI64; omega) (HP.out.kept BA.out))
  rw [hvp] at HC
  clear hrv hv hvp i1 i2 hL
  go_enter Try.func31, Try.ntmps31
  go_wp2_with fail
  refine HC.out.mono ?_
  rintro e w2 ⟨rfl, hb⟩
  have B2 := Lib.hid (BA.out.trans (hb.mono BA.out.size))
  clear hb l0 l1
  go_wp2
  go_ret2
  exact ⟨.slice none 0 0, rfl, World.ownsRow_nil _ _ _ _, B2.out⟩
theorem makeP (n : Nat) (hn : n ≤ 1048576) (w : World) : ∃ cur : Array Value, cur.size = n * 2 ∧
    (Instr.makeSlice 51 (.int .i64 0) (.int .i64 (n : Int))).run Try.prog w = .ok (.slice (some ⟨w.heap.size, 0, none⟩) 0 n) (w.alloc (.cells cur 59)) := by
  obtain ⟨i0, hi, hz0, hz1, hz2⟩ := rown.info_get infoPair
  have hr := run_make (P := Try.prog) w 51 59 i0 _ Try.underlying51 hi hz0 .i64 .i64 0 n (by omega) (by omega) (by rw [hz2]; omega) (by omega)
  simp only [Int.toNat_natCast] at hr
  refine ⟨_, ?_, hr⟩
  rw [hz1]
  simp [madeCells]
theorem make_row2 (w : World) (E n : Nat) (cur : Array Value) (hc : cur.size = n * 2) (hn : n ≤ maxLen) : (w.alloc (.cells cur E)).ownsRow w.heap.size E 2 (.slice (some ⟨w.heap.size, 0, none⟩) 0 n) 0 [] :=
  ⟨by simp, .inr ⟨w.heap.size, n, _, rfl, Nat.le_refl _, heap_alloc_new _ _, Nat.zero_le _, hn, hc, by simp⟩⟩
set_option maxRecDepth 100000 in
set_option maxHeartbeats 8000000 in
theorem revI_yes {c : Nat} (A : Option Addr) (k : Nat) (f : Nat → P2) (w : World) (hk : k ≤ 1048576) (hp : SpAt w A k f) (hi : ∀ i, i < k → inI64 (f i).1 ∧ inI64 (f i).2) (hv : revOk k f = true) :
    Calls Try.prog 31 #[.slice A k c] w fun e w' => ∃ v, e = .returned (.tuple #[v, .int .i64 0]) ∧ w'.ownsRow w.heap.size 59 2 v k (rws (sp2 (revAt k f)) k) ∧ Below w.heap.size w w' := by
  have hu : undef = Value.tuple #[] := rfl
  obtain ⟨hk1, r1, r2, -⟩ := revOk_of hv
  obtain ⟨K, rfl⟩ : ∃ K, k = K + 1 := ⟨k - 1, by omega⟩
  simp only [Nat.add_sub_cancel] at r1 r2
  have hki0 : (((K + 1 : Nat) : Int) == 0) = false := by simp; omega
  have hkd : decide ((K : Int) + 1 = 0) = false := decide_eq_false (by omega)
  have hkd2 : ¬ (K : Int) + 1 = 0 := by omega
  have hKi : (K : Int) < (K : Int) + 1 := by omega
  have hKn : K < K + 1 := by omega
  have hrv := rev_vP (K := K) (f := f)
  have HP := Lib.hid hp
  have HII := Lib.hid hi
  obtain ⟨g0, o0, rfl, hg0, l0, l1⟩ := hp K hKn
  clear hp hi
  obtain ⟨L, hL⟩ : ∃ v, f K = v := ⟨_, rfl⟩
  rw [hL] at hrv l0 l1 r1 r2
  rw [hv] at hrv
  have hvp : vP (K + 1) f (L.1 + 1) (L.2 + 1) 72 = true := by rcases hrv with h | h | h <;> first | exact h.symm | omega
  have BA := Lib.hid (below_alloc1 w (.cells #[.int .i64 L.1, .int .i64 L.2] 59))
  have c1 : ¬ 72 ≤ L.1 := by omega
  have c2 : ¬ 72 ≤ L.2 := by omega
  have c1d : decide (72 ≤ L.1) = false := decide_eq_false c1
  have c2d : decide (72 ≤ L.2) = false := decide_eq_false c2
  have E1 : IntKind.i64.wrap (L.1 + 1) = L.1 + 1 := IntWalk.i64_in _ (by omega)
  have E2 : IntKind.i64.wrap (L.2 + 1) = L.2 + 1 := IntWalk.i64_in _ (by omega)
  have HC := Lib.hid (pathI (c := c) (some ⟨g0, o0, none⟩) (K + 1) f (L.1 + 1) (L.2 + 1) 72 _ hk (by unfold inI64; omega) (by unfold inI64; omega) (HP.out.kept BA.out))
  rw [hvp] at HC
  have K0 := Lib.hid (heap_alloc_new w (.cells #[.int .i64 L.1, .int .i64 L.2] 59))
  have HMK := Lib.hid (fun W => makeP (K + 1) hk W)
  have HIN := Lib.hid (show ∀ x, (0 ≤ (f (K - x)).1 ∧ (f (K - x)).1 ≤ 71) ∧ 0 ≤ (f (K - x)).2 ∧ (f (K - x)).2 ≤ 71 from fun x => by
    obtain ⟨-, q1, q2, q3⟩ := revOk_of hv
    simp only [Nat.add_sub_cancel] at q1 q2 q3
    obtain ⟨⟨⟨a1, a2⟩, ⟨b1, b2⟩, -⟩, -⟩ := (okPath_of q3).2.2.2 (K - x) (by omega)
    exact ⟨⟨a1, by omega⟩, b1, by omega⟩)
  have HL := Lib.hid hL
  clear hrv hv hvp hL
  refine (callsIn_wide (n := 6)).1 ?_
  refine callsIn_of_wp_marks Try.func31 rfl trivial ?_ rfl
  simp only [Try.ntmps31, List.size_toArray, List.length_cons, List.length_nil, Nat.reduceAdd, Nat.reduceSub, Array.replicate_succ, Array.replicate_zero, List.push_toArray, List.append_toArray, List.nil_append, List.cons_append]
  gi_wp2_with (first
    | (refine ⟨trivial, ?_⟩; gi_at_call 28; refine (callsIn_wide.2 HC.out).mono ?_; rintro e w2 ⟨rfl, hb2⟩; obtain ⟨cur, hcs, hmk⟩ := HMK.out w2; rw [show ((K + 1 : Nat) : Int) = (K : Int) + 1 from rfl] at hmk)
    | (refine ⟨trivial, ?_⟩; gi_at_call 67; refine (back_in Fence.wide _ trivial rfl _ _ _ _).mono ?_; rintro e w' ⟨rfl, rfl⟩))
  have hB2 : Below w.heap.size w w2 := BA.out.trans (hb2.mono BA.out.size)
  have hz2 : w.heap.size < w2.heap.size := Nat.lt_of_lt_of_le (block_size K0.out) hb2.size
  have M2 := (hb2.block _ (block_size K0.out)).trans K0.out
  have hrow0 := make_row2 w2 59 (K + 1) cur hcs (by simp only [maxLen]; omega)
  have hbk0 := Boxed.new (w2.alloc (.cells cur 59)) 51 (.slice (some ⟨w2.heap.size, 0, none⟩) 0 (K + 1))
  have hbs0 := Boxed.new ((w2.alloc (.cells cur 59)).alloc (.cells #[.slice (some ⟨w2.heap.size, 0, none⟩) 0 (K + 1)] 51)) 51 (.slice (some ⟨g0, o0, none⟩) (K + 1) c)
  have hbk1 := hbk0.alloc (.cells #[.slice (some ⟨g0, o0, none⟩) (K + 1) c] 51)
  have hrow1 := (hrow0.alloc (.cells #[.slice (some ⟨w2.heap.size, 0, none⟩) 0 (K + 1)] 51)).alloc (.cells #[.slice (some ⟨g0, o0, none⟩) (K + 1) c] 51)
  simp only [World.size_alloc] at hbs0 hbk1
  have hB0 : Below w2.heap.size w2 (((w2.alloc (.cells cur 59)).alloc (.cells #[.slice (some ⟨w2.heap.size, 0, none⟩) 0 (K + 1)] 51)).alloc (.cells #[.slice (some ⟨g0, o0, none⟩) (K + 1) c] 51)) := (((Below.refl _ w2).alloc (Nat.le_refl _) _).alloc (by simp) _).alloc (by simp; omega) _
  have hsz : (((w2.alloc (.cells cur 59)).alloc (.cells #[.slice (some ⟨w2.heap.size, 0, none⟩) 0 (K + 1)] 51)).alloc (.cells #[.slice (some ⟨g0, o0, none⟩) (K + 1) c] 51)).heap.size = w2.heap.size + 3 := by simp
  obtain ⟨W0, hW0⟩ : ∃ W0, ((w2.alloc (.cells cur 59)).alloc (.cells #[.slice (some ⟨w2.heap.size, 0, none⟩) 0 (K + 1)] 51)).alloc (.cells #[.slice (some ⟨g0, o0, none⟩) (K + 1) c] 51) = W0 := ⟨_, rfl⟩
  rw [hW0] at hbs0 hbk1 hrow1 hB0 hsz ⊢
  clear hW0 hrow0 hbk0
  have HPA : ∀ j, j < K + 1 → W0.cell? ⟨g0, o0 + j * 2, none⟩ = some (.int .i64 (f j).1) ∧ W0.cell? ⟨g0, o0 + j * 2 + 1, none⟩ = some (.int .i64 (f j).2) := fun j hj => by
    obtain ⟨b', o', e', hb', q0, q1⟩ := HP.out j hj
    injection e' with e'
    injection e' with e1 e2
    subst e1 e2
    have hb0' : Below w.heap.size w W0 := hB2.trans (hB0.mono (Nat.le_of_lt hz2))
    exact ⟨(hb0'.cell (p := ⟨g0, o0 + j * 2, none⟩) hb').trans q0, (hb0'.cell (p := ⟨g0, o0 + j * 2 + 1, none⟩) hb').trans q1⟩
  obtain ⟨i0, hi0, hz0, hz1, hz2'⟩ := rown.info_get infoPair
  refine wpIn_rangeFunc_ownH rfl (by omega) (gf := 100) (lb := #[.pointer (some ⟨w2.heap.size + 1 + 1, 0, none⟩)]) rfl trivial (enters_of Try.func100 (by kernel_rfl) rfl)
    (back_stops Fence.wide _ trivial rfl (by omega) (w2.heap.size + 1 + 1) w2.heap.size g0 o0 K c f hk W0 (by omega) (by omega) (by omega) hbs0 HPA) Kq_t (Kq_b (by omega) (by omega)) (Below.refl _ _) (fun _ => rfl)
    (fun pre W => ((∃ v, Boxed W (w2.heap.size + 1) 51 v ∧ W.ownsRow w2.heap.size 59 2 v pre.length (rws (sp2 fun j => (L.1 - (f (K - pre[j]?.getD 0)).1, L.2 - (f (K - pre[j]?.getD 0)).2)) pre.length) ∧ ∃ g cap, v = .slice (some ⟨g, 0, none⟩) pre.length cap) ∧ Boxed W (w2.heap.size + 1 + 1) 51 (.slice (some ⟨g0, o0, none⟩) (K + 1) c)) ∧ Below w2.heap.size w2 W)
    (fun _ _ _ => False)
    (OwnFrom.and (OwnFrom.and (Own.from (holdsRow_own _ _ _ _ _ (fun pre : List Nat => pre.length) (fun pre => rws (sp2 fun j => (L.1 - (f (K - pre[j]?.getD 0)).1, L.2 - (f (K - pre[j]?.getD 0)).2)) pre.length) (fun pre v => ∃ g cap, v = .slice (some ⟨g, 0, none⟩) pre.length cap)) _) (Own.from (boxed_own _ _ _) _)) (ownFrom_below (Nat.le_refl _) (by omega)))
    (fun _ _ _ _ _ hs _ _ => hs)
    ⟨⟨⟨_, hbk1, hrow1, ⟨_, _, rfl⟩⟩, hbs0⟩, hB0⟩
    (fun x a' W => ∃ Bx, w2.heap.size + 1 + 1 < Bx ∧ W.heap[Bx]? = some (.cells #[.int .i64 (f (K - x)).1, .int .i64 (f (K - x)).2] 59 (0, 0)) ∧ a' = { tmps := #[.slice (some ⟨g0, o0, none⟩) (K + 1) c, .tuple #[], .slice none 0 0, .int .i64 0, .pointer (some ⟨w.heap.size, 0, none⟩), .pointer (some ⟨w2.heap.size + 1, 0, none⟩), .tuple #[], .pointer (some ⟨Bx, 0, none⟩), .slice (some ⟨g0, o0, none⟩) (K + 1) c, .int .i64 ((K : Int) + 1), .bool false, .slice (some ⟨g0, o0, none⟩) (K + 1) c, .slice (some ⟨g0, o0, none⟩) (K + 1) c, .int .i64 ((K : Int) + 1), .int .i64 (K : Int), .pointer (some ⟨g0, o0 + K * 2, none⟩), .agg #[.int .i64 L.1, .int .i64 L.2], .pointer (some ⟨w.heap.size, 0, none⟩), .int .i64 L.1, .bool false, .bool false, .pointer (some ⟨w.heap.size, 1, none⟩), .int .i64 L.2, .bool false, .bool false, .bool false, .slice (some ⟨g0, o0, none⟩) (K + 1) c, .pointer (some ⟨w.heap.size, 0, none⟩), .int .i64 L.1, .int .i64 (L.1 + 1), .pointer (some ⟨w.heap.size, 1, none⟩), .int .i64 L.2, .int .i64 (L.2 + 1), .bool true, .bool false, .bool false, .slice (some ⟨g0, o0, none⟩) (K + 1) c, .int .i64 ((K : Int) + 1), .slice (some ⟨w2.heap.size, 0, none⟩) 0 (K + 1), .slice (some ⟨g0, o0, none⟩) (K + 1) c, .func (.func 100) #[] #[.pointer (some ⟨w2.heap.size + 1 + 1, 0, none⟩)], .int .i64 ((K - x : Nat) : Int), .agg #[.int .i64 (f (K - x)).1, .int .i64 (f (K - x)).2], .tuple #[], .tuple #[], .tuple #[], .tuple #[], .tuple #[], .tuple #[], .tuple #[], .tuple #[], .tuple #[], .tuple #[], .tuple #[], .tuple #[], .tuple #[], .tuple #[], .tuple #[]], defers := [] })
    (fun x a' _ X Y row hs hg hr => by
      obtain ⟨Bx, h1, h2, h3⟩ := hs
      refine ⟨Bx, h1, (hg.block Bx (block_size h2) (fun e' => ?_)).trans h2, h3⟩
      obtain ⟨_, o, ho, hc⟩ := hr Bx e'.symm
      rw [h2] at ho
      cases ho
      cases hc)
    ?assign ?body ?done ?stop
  case assign =>
    rintro l pre x W Kk ⟨⟨⟨v, hv, hrow, hg⟩, hbs⟩, hB⟩ hK
    unfold encB
    gi_wp2
    exact hK _ _ ((KeepsOthers.alloc _ _).from _) ⟨(Below.refl _ W).alloc hB.size _, Below.heap_alloc W _ _ hbs.lt⟩ ⟨⟨⟨v, hv.alloc _, hrow.alloc _, hg⟩, hbs.alloc _⟩, hB.alloc hB.size _⟩ ⟨W.heap.size, hbs.lt, World.alloc_heap_new W _, rfl⟩
  case body =>
    rintro l pre x a' W hl ⟨r, hr⟩ ⟨⟨⟨v, hv, hrow, ⟨g, cap, rfl⟩⟩, hbs⟩, hB⟩ ⟨Bx, hBx, hX, rfl⟩ hlt
    have hz := hB.size
    have M3 := (hB.block _ hz2).trans M2
    have cL0 : W.cell? ⟨w.heap.size, 0, none⟩ = some (.int .i64 L.1) := by rw [cell_of_block M3]; rfl
    have cL1 : W.cell? ⟨w.heap.size, 1, none⟩ = some (.int .i64 L.2) := by rw [cell_of_block M3]; rfl
    have cX0 : W.cell? ⟨Bx, 0, none⟩ = some (.int .i64 (f (K - x)).1) := by rw [cell_of_block hX]; rfl
    have cX1 : W.cell? ⟨Bx, 1, none⟩ = some (.int .i64 (f (K - x)).2) := by rw [cell_of_block hX]; rfl
    have cB := hv.cell
    obtain ⟨⟨q1, q2⟩, q3, q4⟩ := HIN.out x
    have E3 : IntKind.i64.wrap (L.1 - (f (K - x)).1) = L.1 - (f (K - x)).1 := IntWalk.i64_in _ (by omega)
    have E4 : IntKind.i64.wrap (L.2 - (f (K - x)).2) = L.2 - (f (K - x)).2 := IntWalk.i64_in _ (by omega)
    have h3 : pre.length + 1 ≤ maxLen := by simp only [maxLen]; omega
    have h4 : (pre.length + 1) * 16 ≤ 140737488355328 := by omega
    gi_wp2_with (first
      | (gi_at_builtin; refine wpListIn_append_own _ rfl _ _ 51 rfl w2.heap.size 59 i0 _ 2 16 Try.underlying51 hi0 hz0 hz1 hz2' rfl (by decide) _ _ _ rfl (hrow.alloc _) ⟨W.heap.size, 0, none⟩ 1 1 [.int .i64 (L.1 - (f (K - x)).1), .int .i64 (L.2 - (f (K - x)).2)] rfl rfl (two_new rfl) (by simp [Value.oneCell']) h3 h4 (by simp; omega) ?_; intro v' w1 hown' hgrow _; obtain ⟨g', cap', rfl⟩ := ownsRow_succ hown'; obtain ⟨hv1, hv2, hr2, hk2, hb2⟩ := hv.appended (by decide) hrow hz (by omega) hown' hgrow; have hs1 := ((hbs.alloc _).kept hgrow (hbs.not_row (by decide) hrow)).other (show w2.heap.size + 1 + 1 ≠ w2.heap.size + 1 by omega) (Value.slice (some ⟨g', 0, none⟩) (pre.length + 1) cap'); have hc1 := hv1.cell; have hf1 := hv1.frozen)
      | gi_in)
    have hE : rws (sp2 fun j => (L.1 - (f (K - (pre ++ [x])[j]?.getD 0)).1, L.2 - (f (K - (pre ++ [x])[j]?.getD 0)).2)) (pre.length + 1) = rws (sp2 fun j => (L.1 - (f (K - pre[j]?.getD 0)).1, L.2 - (f (K - pre[j]?.getD 0)).2)) pre.length ++ [.int .i64 (L.1 - (f (K - x)).1), .int .i64 (L.2 - (f (K - x)).2)] := by
      rw [rws_succ]
      congr 1
      · refine rws_congr _ fun i hi' => ?_
        unfold sp2
        dsimp only
        rw [List.getElem?_append_left hi']
      · unfold sp2
        dsimp only
        rw [List.getElem?_append_right (Nat.le_refl _), Nat.sub_self]
        rfl
    rw [← hE] at hr2
    have hln : (pre ++ [x]).length = pre.length + 1 := by simp
    exact ⟨hk2.from _, ⟨hb2, (show _ = _ from hs1).trans (show _ = _ from hbs).symm⟩, ⟨⟨_, hv2, by rw [hln]; exact hr2, ⟨g', cap', by rw [hln]⟩⟩, hs1⟩, hB.trans hb2⟩
  case done =>
    rintro D ys W hD rfl ⟨⟨⟨v, hv, hrow, ⟨g, cap, rfl⟩⟩, hbs⟩, hB⟩ hK
    have cB := hv.cell
    rw [List.length_range] at hrow
    have hrow2 : W.ownsRow w2.heap.size 59 2 (.slice (some ⟨g, 0, none⟩) (K + 1) cap) (K + 1) (rws (sp2 (revAt (K + 1) f)) (K + 1)) := by
      have e : rws (sp2 (revAt (K + 1) f)) (K + 1) = rws (sp2 fun j => (L.1 - (f (K - (List.range (K + 1))[j]?.getD 0)).1, L.2 - (f (K - (List.range (K + 1))[j]?.getD 0)).2)) (K + 1) := rws_congr _ fun j hj => by
        unfold sp2 revAt
        dsimp only
        rw [List.getElem?_range hj]
        simp only [Option.getD_some, Nat.add_sub_cancel]
        rw [HL.out]
      rw [e]
      rw [List.length_range] at *
      exact hrow
    gi_wp2
    refine ⟨by simp, .inl ⟨_, _, rfl, run_takeDeferred hK, ?_⟩⟩
    exact ⟨.tuple #[.slice (some ⟨g, 0, none⟩) (K + 1) cap, .int .i64 0], by simp [results, Try.results31, go_sem], ⟨_, rfl, row_low (ownsRow_putObj hrow2 _ hK rfl) (Nat.le_of_lt hz2), (hB2.trans (hB.mono (Nat.le_of_lt hz2))).trans (belowK_b (w := w) (Nat.le_refl _) W D _ _ (by omega) hK rfl rfl)⟩⟩
  case stop =>
    rintro D c pre W _ _ h _
    exact h.elim
end Go.Proofs.Ythpmckfjlbiiiab.bwd
