/-
  Proved: what the program's function that leaves a template out returns.
  Conditions: those of the theorem.
-/
import Derived.Test.YtkcfghbkcgommaaCon
namespace Go.Proofs.Ytkcfghbkcgommaa.gro
open Go.ChangeShapes Go.WideShapes Go.ChangeAt Go.RowKit Go.Joins
open Go.Proofs.Ytkcfghbkcgommaa.core Go.Proofs.Ytkcfghbkcgommaa.rown Go.Proofs.Ytkcfghbkcgommaa.stk Go.Proofs.Ytkcfghbkcgommaa.boxed Go.Proofs.Ytkcfghbkcgommaa.tmp Go.Proofs.Ytkcfghbkcgommaa.ft Go.Proofs.Ytkcfghbkcgommaa.sto
set_option linter.unusedVariables false
set_option linter.unusedSimpArgs false
def trw (lb : Nat → ByteArray) (la : Nat → Option Addr) (ln lc : Nat → Nat) (i : Nat) : List Value := [.string (lb i), .slice (la i) (ln i) (lc i)]
theorem trw_len (lb : Nat → ByteArray) (la : Nat → Option Addr) (ln lc : Nat → Nat) : ∀ i, (trw lb la ln lc i).length = 2 := fun _ => rfl
theorem rws_two {row : Nat → List Value} (h : ∀ i, ∀ u ∈ row i, u.oneCell' = true) (n : Nat) : ∀ u ∈ rws row n, u.oneCell' = true := by
  induction n with
  | zero => intro u hu; simp [rws] at hu
  | succ n ih =>
    intro u hu
    rw [rws_succ] at hu
    rcases List.mem_append.1 hu with h' | h'
    · exact ih u h'
    · exact h n u h'
theorem trw_one (lb : Nat → ByteArray) (la : Nat → Option Addr) (ln lc : Nat → Nat) : ∀ i, ∀ u ∈ trw lb la ln lc i, u.oneCell' = true := fun i u hu => by
  unfold trw at hu
  simp at hu
  rcases hu with rfl | rfl <;> rfl
theorem rws_cut {row : Nat → List Value} (n1 : Nat) : ∀ n2, rws row n1 ++ rws (fun i => row (n1 + i)) n2 = rws row (n1 + n2)
  | 0 => by simp [rws]
  | n2 + 1 => by rw [rws_succ, ← List.append_assoc, rws_cut n1 n2]; rfl
/-- The templates in memory, their headers named. -/
theorem TsAt.fns {w : World} {T : Option Addr} {n : Nat} {lb : Nat → ByteArray} {ln : Nat → Nat} {lf : Nat → Nat → P3} (h : TsAt w T n lb ln lf) (hn : 0 < n) :
    ∃ (b o : Nat) (la : Nat → Option Addr) (lc : Nat → Nat), T = some ⟨b, o, none⟩ ∧ b < w.heap.size ∧ ∀ i, i < n → (w.cell? ⟨b, o + i * 2, none⟩ = some (.string (lb i)) ∧ w.cell? ⟨b, o + i * 2 + 1, none⟩ = some (.slice (la i) (ln i) (lc i))) ∧ PtsAt w (la i) (ln i) (lf i) := by
  obtain ⟨b, o, _, _, e, hb, -, -, -⟩ := h 0 hn
  have key : ∀ i, ∃ (Ai : Option Addr) (ci : Nat), i < n → (w.cell? ⟨b, o + i * 2, none⟩ = some (.string (lb i)) ∧ w.cell? ⟨b, o + i * 2 + 1, none⟩ = some (.slice Ai (ln i) ci)) ∧ PtsAt w Ai (ln i) (lf i) := fun i => by
    by_cases hi : i < n
    · obtain ⟨b', o', Ai, ci, e', h1, h2, h3, h4⟩ := h i hi
      rw [e] at e'
      injection e' with e'
      injection e' with e1 e2
      subst e1 e2
      exact ⟨Ai, ci, fun _ => ⟨⟨h2, h3⟩, h4⟩⟩
    · exact ⟨none, 0, fun h' => absurd h' hi⟩
  exact ⟨b, o, fun i => (key i).choose, fun i => (key i).choose_spec.choose, e, hb, fun i hi => (key i).choose_spec.choose_spec hi⟩
theorem cells_of {w : World} {b o n m : Nat} {lb : Nat → ByteArray} {la : Nat → Option Addr} {ln lc : Nat → Nat} (k : Nat) (hb : b < w.heap.size) (hk : k + m ≤ n)
    (h : ∀ i, i < n → w.cell? ⟨b, o + i * 2, none⟩ = some (.string (lb i)) ∧ w.cell? ⟨b, o + i * 2 + 1, none⟩ = some (.slice (la i) (ln i) (lc i))) : Cells w (some ⟨b, o + k * 2, none⟩) m (rws (fun i => trw lb la ln lc (k + i)) m) :=
  ⟨rws_len (k := 2) (fun i => trw_len lb la ln lc (k + i)) m, rws_two (fun i => trw_one lb la ln lc (k + i)) m, fun hm => ⟨⟨b, o + k * 2, none⟩, rfl, hb, fun j u hu => by
    have hl : j < m * 2 := by
      have := (List.getElem?_eq_some_iff.1 hu).1
      rwa [rws_len (k := 2) (fun i => trw_len lb la ln lc (k + i))] at this
    obtain ⟨i, r, hr, rfl⟩ : ∃ i r, r < 2 ∧ j = i * 2 + r := ⟨j / 2, j % 2, by omega, by omega⟩
    rw [rws_get (k := 2) (fun i => trw_len lb la ln lc (k + i)) i r hr m (by omega)] at hu
    obtain ⟨c0, c1⟩ := h (k + i) (by omega)
    rw [cln.add_off]
    rcases (by omega : r = 0 ∨ r = 1) with rfl | rfl
    · rw [show o + k * 2 + (i * 2 + 0) = o + (k + i) * 2 by omega, c0, ← hu]; rfl
    · rw [show o + k * 2 + (i * 2 + 1) = o + (k + i) * 2 + 1 by omega, c1, ← hu]; rfl⟩⟩
theorem rws_skip (row : Nat → List Value) (n1 n2 : Nat) : rws row n1 ++ rws (fun i => row (n1 + 1 + i)) n2 = rws (fun i => row (kE n1 i)) (n1 + n2) := by
  rw [← rws_cut n1 n2]
  congr 1
  · refine rws_congr n1 fun i hi => ?_
    unfold kE
    rw [if_neg (by omega)]
  · refine rws_congr n2 fun i hi => ?_
    show row (n1 + 1 + i) = row (kE n1 (n1 + i))
    unfold kE
    rw [if_pos (by omega)]
    congr 1
    omega
theorem ts_row {w w0 : World} {base E N C n1 n : Nat} {A : Option Addr} {lb : Nat → ByteArray} {la : Nat → Option Addr} {ln lc : Nat → Nat} {lf : Nat → Nat → P3} (h : w.ownsRow base E 2 (.slice A N C) N (rws (fun i => trw lb la ln lc (kE n1 i)) N)) (hn : n = N + 1)
    (hb : Below w0.heap.size w0 w) (hf : ∀ i, i < n → PtsAt w0 (la i) (ln i) (lf i)) : TsAt w A N (fun i => lb (kE n1 i)) (fun i => ln (kE n1 i)) (fun i => lf (kE n1 i)) := fun i hi => by
  have h' := h
  rcases h with ⟨-, ⟨-, h0⟩ | ⟨g, c, cur, e, -, -⟩⟩
  · omega
  · injection e with e1 e2 e3
    subst e1
    have c0 := row_cell h' (fun i => trw_len lb la ln lc (kE n1 i)) hi (show 0 < 2 by omega) rfl
    have c1 := row_cell h' (fun i => trw_len lb la ln lc (kE n1 i)) hi (show 1 < 2 by omega) rfl
    have hk : kE (n1 : Int) i < n := by unfold kE; split <;> omega
    exact ⟨g, 0, la (kE n1 i), lc (kE n1 i), rfl, row_lt h', by rw [Nat.zero_add]; exact c0, by rw [Nat.zero_add]; exact c1, (hf _ hk).kept hb⟩
set_option maxRecDepth 100000 in
set_option maxHeartbeats 4000000 in
theorem withoutI {c : Nat} (band : Int) (T : Option Addr) (n n1 n2 N : Nat) (lb : Nat → ByteArray) (ln : Nat → Nat) (lf : Nat → Nat → P3) (w : World) (e1 : n1 + n2 = N) (e2 : n = N + 1) (hn : n ≤ 40) (hc : n ≤ c) (hp : TsAt w T n lb ln lf) :
    Calls Try.prog 66 #[.agg #[.int .i64 band, .slice T n c], .int .i64 (n1 : Int)] w fun e w' => ∃ (A : Option Addr) (C : Nat), e = .returned (.agg #[.int .i64 band, .slice A N C]) ∧ TsAt w' A N (fun i => lb (kE n1 i)) (fun i => ln (kE n1 i)) (fun i => lf (kE n1 i)) ∧ Below w.heap.size w w' := by
  obtain ⟨b, o, la, lc, rfl, hb, hfn⟩ := TsAt.fns hp (by omega)
  have C1 := Lib.hid (by simpa using cells_of (m := n1) (n := n) (w := w) (b := b) (o := o) 0 hb (by omega) (fun i hi => (hfn i hi).1))
  have C2 := Lib.hid (cells_of (m := n2) (n := n) (w := w) (b := b) (o := o) (n1 + 1) hb (by omega) (fun i hi => (hfn i hi).1))
  have CS := Lib.hid (CW.start w (.slice (some ⟨b, o, none⟩) n c) band)
  obtain ⟨W0, hW0⟩ : ∃ W0, (w.alloc (.cells #[.int .i64 band, .slice (some ⟨b, o, none⟩) n c] 30)).alloc (.cells #[.int .i64 0, .slice none 0 0] 30) = W0 := ⟨_, rfl⟩
  rw [hW0] at CS
  have HS := Lib.hid (fun V (hV : Below (w.heap.size + 2) W0 V) => (show V.cell? ⟨w.heap.size, 0, none⟩ = some (.int .i64 band) ∧ V.cell? ⟨w.heap.size, 1, none⟩ = some (.slice (some ⟨b, o, none⟩) n c) from
    ⟨by rw [cell_of_block (CS.out.far hV).b1]; rfl, by rw [cell_of_block (CS.out.far hV).b1]; rfl⟩))
  have hkd := HS.out W0.drew (Below.refl _ _).drew
  have hk := HS.out W0 (Below.refl _ _)
  have f1 : n1 < n := by omega
  have f2 : n1 ≤ c := by omega
  have f3 : n1 + 1 ≤ n := by omega
  have v1 : IntKind.i64.wrap ((n1 : Int) + 1) = (n1 : Int) + 1 := IntWalk.i64_in _ (by omega)
  have v2 : (0 : Int) ≤ (n1 : Int) + 1 := by omega
  have v3 : ((n1 : Int) + 1).toNat = n1 + 1 := by omega
  have v4 : (n1 : Int) + 1 ≤ (n : Int) := by omega
  have v5 : (n1 : Int) ≤ (c : Int) := by omega
  have v6 : (n : Int) ≤ (c : Int) := by omega
  have v7 : (0 : Int) ≤ (n1 : Int) := by omega
  have HN2 : n - (n1 + 1) = n2 := by omega
  obtain ⟨T2, hT2⟩ : ∃ T2 : Option Addr, (if c = n1 + 1 then some ⟨b, o, none⟩ else some (⟨b, o + (n1 + 1) * 2, none⟩ : Addr)) = T2 := ⟨_, rfl⟩
  have FN := Lib.hid hfn
  have E1 := Lib.hid e1
  have E2 := Lib.hid e2
  have C2' := Lib.hid (show Cells w T2 n2 (rws (fun i => trw lb la ln lc (n1 + 1 + i)) n2) by
    by_cases h : c = n1 + 1
    · have h0 : n2 = 0 := by omega
      subst h0
      exact ⟨rfl, fun u hu => by simp [rws] at hu, fun h => absurd h (by omega)⟩
    · rw [if_neg h] at hT2
      rw [← hT2]
      exact C2.out)
  have BX := Lib.hid (show Below w.heap.size w (W0.alloc (.cells #[.slice (some ⟨b, o, none⟩) n1 c, .slice T2 n2 (c - (n1 + 1))] 28)).drew from (CS.out.below.alloc CS.out.below.size _).drew)
  have BY := Lib.hid (show Below (w.heap.size + 2) W0 (W0.alloc (.cells #[.slice (some ⟨b, o, none⟩) n1 c, .slice T2 n2 (c - (n1 + 1))] 28)).drew from ((Below.refl (w.heap.size + 2) W0).alloc CS.out.z _).drew)
  have XB := heap_alloc_new W0 (.cells #[.slice (some ⟨b, o, none⟩) n1 c, .slice T2 n2 (c - (n1 + 1))] 28)
  have HCN := Lib.hid (concatT (c1 := c) (c2 := c - (n1 + 1)) W0.heap.size (some ⟨b, o, none⟩) T2 n1 n2 (rws (trw lb la ln lc) n1) (rws (fun i => trw lb la ln lc (n1 + 1 + i)) n2) (W0.alloc (.cells #[.slice (some ⟨b, o, none⟩) n1 c, .slice T2 n2 (c - (n1 + 1))] 28)).drew (by omega) (by simp)
    (by show (W0.alloc _).cell? _ = _; rw [cell_of_block XB]; rfl) (by show (W0.alloc _).cell? _ = _; rw [cell_of_block XB]; rfl) (C1.out.kept BX.out) (C2'.out.kept BX.out))
  rw [E1.out] at HCN
  clear XB
  have HLO := Lib.hid (show w.heap.size + 2 ≤ (W0.alloc (.cells #[.slice (some ⟨b, o, none⟩) n1 c, .slice T2 n2 (c - (n1 + 1))] 28)).drew.heap.size from Nat.le_trans CS.out.z (by show W0.heap.size ≤ (W0.alloc _).heap.size; simp))
  clear hp hfn e1 e2
  clear C2'
  go_enter Try.func66, Try.ntmps66
  go_wp2
  go_region_held3 (fun V => V.cell? ⟨w.heap.size, 0, none⟩ = some (.int .i64 band) ∧ V.cell? ⟨w.heap.size, 1, none⟩ = some (.slice (some ⟨b, o, none⟩) n c)) (first | assumption | exact hkd | exact HS.out _ ((Below.refl (w.heap.size + 2) W0).drew.alloc CS.out.z _) | exact hkr _ _ | go_keep)
    (first
      | (go_at_call 89; (with_reducible refine HCN.out.mono ?_); rintro e w3 ⟨A, C, rfl, hown, hb3⟩; have HO := Lib.hid hown; have BC := Lib.hid (BY.out.trans (hb3.mono HLO.out)); have BD := Lib.hid (BX.out.trans (hb3.mono BX.out.size)); have hkc := HS.out _ BC.out; have CC := Lib.hid (CS.out.far BC.out); have c0 : w3.cell? ⟨w.heap.size + 1, 0, none⟩ = some (.int .i64 0) := (by rw [cell_of_block CC.out.b2]; rfl); have c1 : w3.cell? ⟨w.heap.size + 1, 1, none⟩ = some (.slice none 0 0) := (by rw [cell_of_block CC.out.b2]; rfl); have c2 := unfrozen_of_block CC.out.b2 0; have c3 := unfrozen_of_block CC.out.b2 1; have hkr : ∀ u v, ((w3.setCell ⟨w.heap.size + 1, 0, none⟩ u).setCell ⟨w.heap.size + 1, 1, none⟩ v).cell? ⟨w.heap.size, 0, none⟩ = some (.int .i64 band) ∧ ((w3.setCell ⟨w.heap.size + 1, 0, none⟩ u).setCell ⟨w.heap.size + 1, 1, none⟩ v).cell? ⟨w.heap.size, 1, none⟩ = some (.slice (some ⟨b, o, none⟩) n c) := (fun u v => ⟨(World.cell?_of_block ((Below.heap_setCell _ _ _ _ (by simp)).trans (Below.heap_setCell _ _ _ _ (by simp)))).trans hkc.1, (World.cell?_of_block ((Below.heap_setCell _ _ _ _ (by simp)).trans (Below.heap_setCell _ _ _ _ (by simp)))).trans hkc.2⟩); clear hown hb3))
  all_goals
    have BR := Lib.hid ((BD.out.setCell (p := ⟨w.heap.size + 1, 0, none⟩) (show w.heap.size ≤ w.heap.size + 1 by omega) (.int .i64 band)).setCell (p := ⟨w.heap.size + 1, 1, none⟩) (show w.heap.size ≤ w.heap.size + 1 by omega) (.slice A N C))
    have OR := Lib.hid (ownsRow_setCell_below (ownsRow_setCell_below (row_low HO.out HLO.out) (a := ⟨w.heap.size + 1, 0, none⟩) (show w.heap.size + 1 < w.heap.size + 2 by omega) (.int .i64 band)) (a := ⟨w.heap.size + 1, 1, none⟩) (show w.heap.size + 1 < w.heap.size + 2 by omega) (.slice A N C))
    clear hkd hk v1 v2 v3 v4 v5 v6 v7 HCN BX BY HO HLO
    go_wp2
    refine bodyPost_ret (v := .agg #[.int .i64 band, .slice A N C]) (by simp [results, Try.results66, go_sem, c0, c1]) rfl ⟨A, C, rfl, ?_, BR.out⟩
    have O2 := OR.out
    rw [rws_skip, E1.out] at O2
    exact ts_row O2 E2.out BR.out (fun i hi => (FN.out i hi).2)
end Go.Proofs.Ytkcfghbkcgommaa.gro
