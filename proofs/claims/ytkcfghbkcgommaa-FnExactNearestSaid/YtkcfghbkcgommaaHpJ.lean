/-
  Proved: what the library's comparison of numbers and its choice of the first one that is not 0 return; the methods of a queue; what the program's order of matches returns, and what its exchange leaves behind; what the library's functions on heaps leave behind of a queue of matches; what the program's queue leaves behind when a match is put into it and when one is taken out.
  Conditions: those of each theorem.
-/
import Derived.Test.YtkcfghbkcgommaaMatI
import Derived.BigCall
import Derived.BigGuard
namespace Go.Proofs.Ytkcfghbkcgommaa.hp
open Go.ChangeShapes Go.WideShapes Go.ChangeAt Go.RowKit Go.Joins
open Go.Proofs.Ytkcfghbkcgommaa.core Go.Proofs.Ytkcfghbkcgommaa.rown Go.Proofs.Ytkcfghbkcgommaa.stk Go.Proofs.Ytkcfghbkcgommaa.boxed Go.Proofs.Ytkcfghbkcgommaa.put3 Go.Proofs.Ytkcfghbkcgommaa.ft Go.Proofs.Ytkcfghbkcgommaa.revQ
set_option linter.unusedVariables false
set_option linter.unusedSimpArgs false
theorem nanI (n : Int) (w : World) : Calls Try.prog 170 #[.int .i64 n] w fun e w' => e = .returned (.bool false) ∧ w = w' := by
  go_enter Try.func170, Try.ntmps170
  go_wp2
  go_ret
  exact ⟨congrArg (fun b => Ending.returned (Value.bool b)) (by simp), rfl⟩
def cmpV (x y : Int) : Int := if x < y then -1 else if y < x then 1 else 0
theorem cmpI (x y : Int) (w : World) : Calls Try.prog 169 #[.int .i64 x, .int .i64 y] w fun e w' => e = .returned (.int .i64 (cmpV x y)) ∧ w = w' := by
  have H := Lib.hid (fun v W => nanI v W)
  have HV := Lib.hid (show cmpV x y = if x < y then -1 else if y < x then 1 else 0 from rfl)
  rw [HV.out]
  clear HV
  by_cases h1 : x < y
  · rw [if_pos h1]
    go_enter Try.func169, Try.ntmps169
    go_wp2_with fail
    with_reducible refine (H.out _ _).mono ?_
    rintro e _ ⟨rfl, rfl⟩
    go_wp2_with fail
    with_reducible refine (H.out _ _).mono ?_
    rintro e _ ⟨rfl, rfl⟩
    go_wp2
    go_ret
    exact ⟨rfl, rfl⟩
  · rw [if_neg h1]
    by_cases h2 : y < x
    · rw [if_pos h2]
      have h3 : y < x ∨ False := .inl h2
      go_enter Try.func169, Try.ntmps169
      go_wp2_with fail
      with_reducible refine (H.out _ _).mono ?_
      rintro e _ ⟨rfl, rfl⟩
      go_wp2_with fail
      with_reducible refine (H.out _ _).mono ?_
      rintro e _ ⟨rfl, rfl⟩
      go_wp2
      go_ret
      exact ⟨rfl, rfl⟩
    · rw [if_neg h2]
      go_enter Try.func169, Try.ntmps169
      go_wp2_with fail
      with_reducible refine (H.out _ _).mono ?_
      rintro e _ ⟨rfl, rfl⟩
      go_wp2_with fail
      with_reducible refine (H.out _ _).mono ?_
      rintro e _ ⟨rfl, rfl⟩
      go_wp2
      go_ret
      exact ⟨rfl, rfl⟩
def orV (x y : Int) : Int := if x = 0 then y else x
set_option maxRecDepth 100000 in
set_option maxHeartbeats 2000000 in
theorem orI {d : Nat} (b : Nat) (x y : Int) (w : World) (hb : b < w.heap.size) (c0 : w.cell? ⟨b, 0, none⟩ = some (.int .i64 x)) (c1 : w.cell? ⟨b, 1, none⟩ = some (.int .i64 y)) :
    Calls Try.prog 168 #[.slice (some ⟨b, 0, none⟩) 2 d] w fun e w' => e = .returned (.int .i64 (orV x y)) ∧ w = w' := by
  have HV := Lib.hid (show orV x y = if x = 0 then y else x from rfl)
  generalize orV x y = r at *
  go_enter Try.func168, Try.ntmps168
  go_wp2
  go_loopw [8] (fun i w' => ∃ k : Nat, k ≤ 2 ∧ i = .int .i64 (k : Int) ∧ w = w' ∧ Hid ((1 ≤ k → x = 0) ∧ (2 ≤ k → y = 0))) (fun i _ => 2 - (intOf i).toNat)
  case atStart => exact ⟨0, by omega, rfl, rfl, Lib.hid ⟨fun h => absurd h (by omega), fun h => absurd h (by omega)⟩⟩
  case round =>
    obtain ⟨k, hk, rfl, rfl, HK⟩ := hrel
    rcases (by omega : k = 0 ∨ k = 1 ∨ k = 2) with rfl | rfl | rfl
    · by_cases hx : x = 0
      · have HN := Lib.hid (show (1 ≤ 1 → x = 0) ∧ (2 ≤ 1 → y = 0) from ⟨fun _ => hx, fun h => absurd h (by omega)⟩)
        have hne : (x != 0) = false := by simpa using hx
        clear HK
        go_wp2
        go_roundw
        case rel => exact ⟨1, by omega, by go_num, by trivial, HN⟩
        case measure => simp [intOf]
      · have HR := Lib.hid (HV.out.trans (if_neg hx))
        have hne : (x != 0) = true := by simpa using hx
        go_wp2
        go_ret
        exact ⟨by rw [HR.out]; rfl, rfl⟩
    · have hx := HK.out.1 (by omega)
      by_cases hy : y = 0
      · have HN := Lib.hid (show (1 ≤ 2 → x = 0) ∧ (2 ≤ 2 → y = 0) from ⟨fun _ => hx, fun _ => hy⟩)
        have hne : (y != 0) = false := by simpa using hy
        clear HK hx
        go_wp2
        go_roundw
        case rel => exact ⟨2, by omega, by go_num, by trivial, HN⟩
        case measure => simp [intOf]
      · have HR := Lib.hid (HV.out.trans (if_pos hx))
        have hne : (y != 0) = true := by simpa using hy
        clear hx HK
        go_wp2
        go_ret
        exact ⟨by rw [HR.out]; rfl, rfl⟩
    · have HR := Lib.hid (show r = 0 by rw [HV.out, if_pos (HK.out.1 (by omega)), HK.out.2 (by omega)])
      clear HK
      go_wp2
      go_ret
      exact ⟨by rw [HR.out]; rfl, rfl⟩
theorem methPush (b : Nat) (w : World) : (method 301 126 (.pointer (some ⟨b, 0, none⟩)) "Push").run Try.prog w = .ok (172, .pointer (some ⟨b, 0, none⟩)) w := by kernel_rfl
theorem methPop (b : Nat) (w : World) : (method 301 126 (.pointer (some ⟨b, 0, none⟩)) "Pop").run Try.prog w = .ok (171, .pointer (some ⟨b, 0, none⟩)) w := by kernel_rfl
theorem methLen (b : Nat) (w : World) (v : Value) (hv : w.cell? ⟨b, 0, none⟩ = some v) : (method 301 126 (.pointer (some ⟨b, 0, none⟩)) "Len").run Try.prog w = .ok (100, v) w := by
  have h : (method 301 126 (.pointer (some ⟨b, 0, none⟩)) "Len").run Try.prog w = ((do
      let (xt, x) ← follow [{ struct := 124, index := 0, deref := true }] 126 (.val (.pointer (some ⟨b, 0, none⟩)))
      pure (100, ← receiverAt xt x false none)) : Sem (FuncId × Value)).run Try.prog w := by kernel_rfl
  rw [h]
  simp [follow, receiverAt, Place.get, go_sem, hv]
theorem methLess (b : Nat) (w : World) (v : Value) (hv : w.cell? ⟨b, 0, none⟩ = some v) : (method 301 126 (.pointer (some ⟨b, 0, none⟩)) "Less").run Try.prog w = .ok (166, v) w := by
  have h : (method 301 126 (.pointer (some ⟨b, 0, none⟩)) "Less").run Try.prog w = ((do
      let (xt, x) ← follow [{ struct := 124, index := 0, deref := true }] 126 (.val (.pointer (some ⟨b, 0, none⟩)))
      pure (166, ← receiverAt xt x false none)) : Sem (FuncId × Value)).run Try.prog w := by kernel_rfl
  rw [h]
  simp [follow, receiverAt, Place.get, go_sem, hv]
theorem methSwap (b : Nat) (w : World) (v : Value) (hv : w.cell? ⟨b, 0, none⟩ = some v) : (method 301 126 (.pointer (some ⟨b, 0, none⟩)) "Swap").run Try.prog w = .ok (167, v) w := by
  have h : (method 301 126 (.pointer (some ⟨b, 0, none⟩)) "Swap").run Try.prog w = ((do
      let (xt, x) ← follow [{ struct := 124, index := 0, deref := true }] 126 (.val (.pointer (some ⟨b, 0, none⟩)))
      pure (167, ← receiverAt xt x false none)) : Sem (FuncId × Value)).run Try.prog w := by kernel_rfl
  rw [h]
  simp [follow, receiverAt, Place.get, go_sem, hv]
theorem lenI {d : Nat} (A : Option Addr) (L : Nat) (w : World) : Calls Try.prog 100 #[.slice A L d] w fun e w' => e = .returned (.int .i64 (L : Int)) ∧ w = w' := by
  go_enter Try.func100, Try.ntmps100
  go_wp2
  go_ret
  exact ⟨rfl, rfl⟩
noncomputable def ltB (p q : P2) : Bool := @decide (lt2 p q) (Classical.propDecidable _)
theorem ltB_iff {p q : P2} : ltB p q = true ↔ lt2 p q := by unfold ltB; exact @decide_eq_true_iff _ (Classical.propDecidable _)
theorem ltB_no {p q : P2} : ltB p q = false ↔ ¬ lt2 p q := by rw [← ltB_iff]; cases ltB p q <;> simp
theorem ltB_cmp (p q : P2) : decide (orV (cmpV p.2 q.2) (cmpV p.1 q.1) < 0) = ltB p q := by
  rw [Bool.eq_iff_iff, ltB_iff, decide_eq_true_eq]
  unfold orV cmpV lt2
  repeat (first | split | omega)
abbrev Dm (base g L c : Nat) (w : World) (d : Nat → P2) : Prop := w.ownsRow base 101 2 (.slice (some ⟨g, 0, none⟩) L c) L (rws (sp2 d) L)
theorem dm_read {base g L c : Nat} {w : World} {d : Nat → P2} (h : Dm base g L c w d) {i : Nat} (hi : i < L) : w.cell? ⟨g, i * 2, none⟩ = some (.int .i64 (d i).1) ∧ w.cell? ⟨g, i * 2 + 1, none⟩ = some (.int .i64 (d i).2) :=
  ⟨by have := row_cell h (sp2_len d) hi (show 0 < 2 by omega) rfl; simpa using this, by have := row_cell h (sp2_len d) hi (show 1 < 2 by omega) rfl; simpa using this⟩
/-- The four cells that are compared, and that nothing of the first world has turned. -/
abbrev S4 (w0 : World) (g i j : Nat) (p q : P2) (W : World) : Prop := W.cell? ⟨g, i * 2, none⟩ = some (.int .i64 p.1) ∧ W.cell? ⟨g, i * 2 + 1, none⟩ = some (.int .i64 p.2) ∧ W.cell? ⟨g, j * 2, none⟩ = some (.int .i64 q.1) ∧ W.cell? ⟨g, j * 2 + 1, none⟩ = some (.int .i64 q.2) ∧ g < W.heap.size ∧ Below w0.heap.size w0 W
theorem S4_kept {w0 W W' : World} {g i j : Nat} {p q : P2} (hb : Below W.heap.size W W') (h : S4 w0 g i j p q W) : S4 w0 g i j p q W' := by
  obtain ⟨h0, h1, h2, h3, hz, hB⟩ := h
  exact ⟨(hb.cell (p := ⟨g, i * 2, none⟩) hz).trans h0, (hb.cell (p := ⟨g, i * 2 + 1, none⟩) hz).trans h1, (hb.cell (p := ⟨g, j * 2, none⟩) hz).trans h2, (hb.cell (p := ⟨g, j * 2 + 1, none⟩) hz).trans h3, Nat.lt_of_lt_of_le hz hb.size, hB.trans (hb.mono hB.size)⟩
set_option maxRecDepth 100000 in
set_option maxHeartbeats 4000000 in
theorem lessI {base g L c : Nat} {d : Nat → P2} (i j : Nat) (w : World) (hL : L ≤ 1000) (hi : i < L) (hj : j < L) (ho : Dm base g L c w d) :
    Calls Try.prog 166 #[.slice (some ⟨g, 0, none⟩) L c, .int .i64 (i : Int), .int .i64 (j : Int)] w fun e w' => e = .returned (.bool (ltB (d i) (d j))) ∧ Below w.heap.size w w' := by
  obtain ⟨p0, p1⟩ := dm_read ho hi
  obtain ⟨q0, q1⟩ := dm_read ho hj
  have hg := row_lt ho
  have HR := Lib.hid (ltB_cmp (d i) (d j))
  obtain ⟨p, hp⟩ : ∃ p, d i = p := ⟨_, rfl⟩
  obtain ⟨q, hq⟩ : ∃ p, d j = p := ⟨_, rfl⟩
  rw [hp] at p0 p1 HR ⊢
  rw [hq] at q0 q1 HR ⊢
  have HC1 := Lib.hid (fun W => cmpI p.2 q.2 W)
  have HC2 := Lib.hid (fun W => cmpI p.1 q.1 W)
  have HO := Lib.hid (fun b W hb h0 h1 => orI (d := 2) b (cmpV p.2 q.2) (cmpV p.1 q.1) W hb h0 h1)
  generalize cmpV p.2 q.2 = x at *
  generalize cmpV p.1 q.1 = y at *
  generalize orV x y = z at *
  have hi' : (i : Int) < (L : Int) := by omega
  have hj' : (j : Int) < (L : Int) := by omega
  have hk : S4 w g i j p q w.drew := S4_kept (Below.refl _ _).drew ⟨p0, p1, q0, q1, hg, Below.refl _ _⟩
  clear ho hp hq
  go_enter Try.func166, Try.ntmps166
  go_wp2
  go_region_held3 (fun W => W.cell? ⟨g, i * 2, none⟩ = some (.int .i64 p.1) ∧ W.cell? ⟨g, i * 2 + 1, none⟩ = some (.int .i64 p.2) ∧ W.cell? ⟨g, j * 2, none⟩ = some (.int .i64 q.1) ∧ W.cell? ⟨g, j * 2 + 1, none⟩ = some (.int .i64 q.2) ∧ g < W.heap.size ∧ Below w.heap.size w W) (first | assumption | exact hk | exact S4_kept (below_alloc1 _ _) hk | go_keep)
    (first
      | (go_at_call 169; (first | (with_reducible refine (HC1.out _).mono ?_) | (with_reducible refine (HC2.out _).mono ?_)); rintro e wc ⟨rfl, rfl⟩)
      | (go_at_call 168; refine (HO.out _ _ (by simp) (by simp) (by simp)).mono ?_; rintro e wd ⟨rfl, rfl⟩))
  all_goals
    rename_i hh
    have HB := Lib.hid hh.2.2.2.2.2
    clear hh hk
    go_wp2
    go_ret
    exact ⟨by rw [← HR.out]; rfl, HB.out⟩
end Go.Proofs.Ytkcfghbkcgommaa.hp
namespace Go.Proofs.Ytkcfghbkcgommaa.hp
open Go.ChangeShapes Go.WideShapes Go.ChangeAt Go.RowKit Go.Joins
open Go.Proofs.Ytkcfghbkcgommaa.core Go.Proofs.Ytkcfghbkcgommaa.rown Go.Proofs.Ytkcfghbkcgommaa.stk Go.Proofs.Ytkcfghbkcgommaa.boxed Go.Proofs.Ytkcfghbkcgommaa.put3 Go.Proofs.Ytkcfghbkcgommaa.ft Go.Proofs.Ytkcfghbkcgommaa.revQ
set_option linter.unusedVariables false
set_option linter.unusedSimpArgs false
set_option maxRecDepth 100000 in
set_option maxHeartbeats 4000000 in
theorem swapI {base g L c : Nat} {d : Nat → P2} (i j : Nat) (w : World) (hL : L ≤ 1000) (hij : i ≤ j) (hj : j < L) (ho : Dm base g L c w d) :
    Calls Try.prog 167 #[.slice (some ⟨g, 0, none⟩) L c, .int .i64 (i : Int), .int .i64 (j : Int)] w fun e w' => e = .returned (.tuple #[]) ∧ Dm base g L c w' (sw2 d i j) ∧ OnlyF (fun x => x = g) w w' := by
  obtain ⟨x0, x1⟩ := dm_read ho (show i < L by omega)
  obtain ⟨y0, y1⟩ := dm_read ho hj
  have xf := free_row ho
  have xz := rown.row_lt ho
  have HPT := Lib.hid (show Dm base g L c _ (sw2 d i j) from own_put2 (i := j) (own_put2 (i := i) ho (by omega) (d j)) hj (d i))
  have hi1 : i < L := by omega
  have hii : (i : Int) < (L : Int) := by omega
  have hjj : (j : Int) < (L : Int) := by omega
  rcases Nat.eq_or_lt_of_le hij with hij | hij
  · subst hij
    generalize hS : sw2 d i i = dd at *
    obtain ⟨p, hp⟩ : ∃ p, d i = p := ⟨_, rfl⟩
    rw [hp] at x0 x1 y0 y1 HPT
    clear hp ho y0 y1
    go_enter Try.func167, Try.ntmps167
    go_wp2
    go_region
    obtain ⟨w9, hw9⟩ : ∃ w9, w9 = ((((w.setCell ⟨g, i * 2, none⟩ (.int .i64 p.1)).setCell ⟨g, i * 2 + 1, none⟩ (.int .i64 p.2)).setCell ⟨g, i * 2, none⟩ (.int .i64 p.1)).setCell ⟨g, i * 2 + 1, none⟩ (.int .i64 p.2)).drew := ⟨_, rfl⟩
    rw [← hw9]
    have HO9 := Lib.hid (show w9.ownsRow _ _ _ _ _ _ by rw [hw9]; exact rown.ownsRow_kept HPT.out (Below.refl _ _).drew)
    have HF9 := Lib.hid (show OnlyF (fun x => x = g) w w9 by rw [hw9]; exact (((((OnlyF.refl (fun x => x = g) w).setCell rfl _).setCell rfl _).setCell rfl _).setCell rfl _).drew)
    clear hw9 x0 x1 xf xz HPT
    go_wp2
    go_end0
    exact ⟨rfl, HO9.out, HF9.out⟩
  · have hne : ¬ j * 2 = i * 2 := by omega
    obtain ⟨p, hp⟩ : ∃ p, d i = p := ⟨_, rfl⟩
    obtain ⟨q, hq⟩ : ∃ p, d j = p := ⟨_, rfl⟩
    generalize hS : sw2 d i j = dd at *
    rw [hp] at x0 x1 HPT
    rw [hq] at y0 y1 HPT
    clear hp hq ho
    go_enter Try.func167, Try.ntmps167
    go_wp2
    go_region
    obtain ⟨w9, hw9⟩ : ∃ w9, w9 = ((((w.setCell ⟨g, i * 2, none⟩ (.int .i64 q.1)).setCell ⟨g, i * 2 + 1, none⟩ (.int .i64 q.2)).setCell ⟨g, j * 2, none⟩ (.int .i64 p.1)).setCell ⟨g, j * 2 + 1, none⟩ (.int .i64 p.2)).drew := ⟨_, rfl⟩
    rw [← hw9]
    have HO9 := Lib.hid (show w9.ownsRow _ _ _ _ _ _ by rw [hw9]; exact rown.ownsRow_kept HPT.out (Below.refl _ _).drew)
    have HF9 := Lib.hid (show OnlyF (fun x => x = g) w w9 by rw [hw9]; exact (((((OnlyF.refl (fun x => x = g) w).setCell rfl _).setCell rfl _).setCell rfl _).setCell rfl _).drew)
    clear hw9 x0 x1 y0 y1 xf xz HPT
    go_wp2
    go_end0
    exact ⟨rfl, HO9.out, HF9.out⟩
/-- A queue: a box that holds a list of matches. -/
structure QS (W : World) (b g L c : Nat) (f : Nat → P2) : Prop where
  blk : W.heap[b]? = some (.cells #[.slice (some ⟨g, 0, none⟩) L c] 124 (0, 0))
  own : Dm 0 g L c W f
theorem QS.cell {W : World} {b g L c : Nat} {f : Nat → P2} (h : QS W b g L c f) : W.cell? ⟨b, 0, none⟩ = some (.slice (some ⟨g, 0, none⟩) L c) := by rw [cell_of_block h.blk]; rfl
theorem QS.lt {W : World} {b g L c : Nat} {f : Nat → P2} (h : QS W b g L c f) : b < W.heap.size := block_size h.blk
theorem QS.ne {W : World} {b g L c : Nat} {f : Nat → P2} (h : QS W b g L c f) : b ≠ g := by
  rintro rfl
  obtain ⟨_, cur, hc⟩ := ownsRow_block h.own (g := b) rfl
  rw [h.blk] at hc
  injection hc with hc
  injection hc with h1 h2 h3
  exact absurd h2 (by decide)
theorem QS.kept {W W' : World} {b g L c : Nat} {f : Nat → P2} (h : QS W b g L c f) (hb : Below W.heap.size W W') : QS W' b g L c f :=
  ⟨(hb.block _ h.lt).trans h.blk, rown.ownsRow_kept h.own hb⟩
theorem QS.turn {W W' : World} {b g L c : Nat} {f f' : Nat → P2} (h : QS W b g L c f) (ho : OnlyF (fun x => x = g) W W') (hf : Dm 0 g L c W' f') : QS W' b g L c f' :=
  ⟨(ho.block _ h.lt h.ne).trans h.blk, hf⟩
/-- Only places below L have been exchanged. -/
structure Rch (L : Nat) (f f' : Nat → P2) : Prop where
  sm : ∀ d0, Sm L d0 f → Sm L d0 f'
  far : ∀ x, L ≤ x → f' x = f x
theorem Rch.refl (L : Nat) (f : Nat → P2) : Rch L f f := ⟨fun _ h => h, fun _ _ => rfl⟩
theorem Rch.swap {L : Nat} {f f' : Nat → P2} (h : Rch L f f') {i j : Nat} (hi : i < L) (hj : j < L) : Rch L f (sw2 f' i j) :=
  ⟨fun d0 hd => (h.sm d0 hd).swap hi hj, fun x hx => by rw [sw2_ne (by omega) (by omega)]; exact h.far x hx⟩
set_option maxRecDepth 100000 in
set_option maxHeartbeats 8000000 in
theorem upI {b g L c : Nat} {f : Nat → P2} (j : Nat) (w : World) (hL : L ≤ 1000) (hj : j < L) (hq : QS w b g L c f) (hu : HU f L j) :
    Calls Try.prog 121 #[.iface 126 (.pointer (some ⟨b, 0, none⟩)), .int .i64 (j : Int)] w fun e w' => e = .returned (.tuple #[]) ∧ ∃ f', QS w' b g L c f' ∧ Hp f' L ∧ Rch L f f' ∧ OnlyF (fun x => x = g) w w' := by
  have HQ := Lib.hid hq
  have HH := Lib.hid hu
  clear hq hu
  go_enter Try.func121, Try.ntmps121
  go_wp2
  go_loopw [1] (fun i w' => ∃ (x : Nat) (f1 : Nat → P2), x < L ∧ i = .int .i64 (x : Int) ∧ Hid (HU f1 L x) ∧ Hid (QS w' b g L c f1) ∧ Hid (Rch L f f1) ∧ Hid (OnlyF (fun x => x = g) w w')) (fun i _ => (intOf i).toNat)
  case atStart => exact ⟨j, f, hj, rfl, HH, HQ, Lib.hid (Rch.refl _ _), Lib.hid (OnlyF.refl _ _)⟩
  case round =>
    clear HQ HH
    obtain ⟨x, f1, hx, rfl, HU1, HQ, HR, HF⟩ := hrel
    rcases Nat.eq_zero_or_pos x with rfl | hpos
    · have hund : undef = Value.tuple #[] := rfl
      have HP := Lib.hid (HU1.out.stop (.inl rfl))
      have e1 : IntKind.i64.wrap ((((0 : Nat) : Int) - 1)) = -1 := by decide
      go_wp2
      go_end0
      exact ⟨rfl, f1, HQ.out, HP.out, HR.out, HF.out⟩
    · obtain ⟨y, hy⟩ : ∃ y, y = (x - 1) / 2 := ⟨_, rfl⟩
      have hyx : y < x := by omega
      have hyL : y < L := by omega
      have e1 : IntKind.i64.wrap ((x : Int) - 1) = (x : Int) - 1 := IntWalk.i64_in _ (by omega)
      have e2 : ((x : Int) - 1).tdiv 2 = (y : Int) := by rw [Int.tdiv_eq_ediv_of_nonneg (by omega)]; omega
      have e3 : IntKind.i64.wrap (y : Int) = (y : Int) := IntWalk.i64_in _ (by omega)
      have hne : ((y : Int) == (x : Int)) = false := by rw [beq_eq_false_iff_ne]; omega
      have hne2 : ¬ (y : Int) = (x : Int) := by omega
      have hm := methLess b wr _ HQ.out.cell
      have HLS := Lib.hid (lessI x y wr hL hx hyL HQ.out.own)
      cases hl : ltB (f1 x) (f1 y) with
      | false =>
        have HP := Lib.hid (HU1.out.stop (.inr (by rw [← hy]; exact ltB_no.1 hl)))
        rw [hl] at HLS
        clear hl hy HU1
        go_wp2_with fail
        refine HLS.out.mono ?_
        rintro e w2 ⟨rfl, hb⟩
        have HQ2 := Lib.hid (HQ.out.kept hb)
        have HF2 := Lib.hid (HF.out.then_below hb)
        clear hb hm
        go_wp2
        go_end0
        exact ⟨rfl, f1, HQ2.out, HP.out, HR.out, HF2.out⟩
      | true =>
        have HN := Lib.hid (HU1.out.step hpos hx hy (ltB_iff.1 hl))
        have HRN := Lib.hid (HR.out.swap hyL hx)
        rw [hl] at HLS
        clear hl hy HU1
        go_wp2_with fail
        refine HLS.out.mono ?_
        rintro e w2 ⟨rfl, hb⟩
        have HQ2 := Lib.hid (HQ.out.kept hb)
        have HF2 := Lib.hid (HF.out.then_below hb)
        clear hb hm
        have hm := methSwap b w2 _ HQ2.out.cell
        have HSW := Lib.hid (swapI y x w2 hL (by omega) hx HQ2.out.own)
        go_wp2_with fail
        refine HSW.out.mono ?_
        rintro e w3 ⟨rfl, ho, hof⟩
        have HQ3 := Lib.hid (HQ2.out.turn hof ho)
        have HF3 := Lib.hid (HF2.out.trans hof)
        clear ho hof hm
        go_wp2
        go_roundw
        case rel => exact ⟨y, _, hyL, rfl, HN, HQ3, HRN, HF3⟩
        case measure => simp [intOf]; omega
set_option maxRecDepth 100000 in
set_option maxHeartbeats 8000000 in
theorem downI {b g L c n : Nat} {f : Nat → P2} (w : World) (hL : L ≤ 1000) (hn : n ≤ L) (hq : QS w b g L c f) (hd : HD f n 0) :
    Calls Try.prog 122 #[.iface 126 (.pointer (some ⟨b, 0, none⟩)), .int .i64 0, .int .i64 (n : Int)] w fun e w' => (∃ v, e = .returned v) ∧ ∃ f', QS w' b g L c f' ∧ Hp f' n ∧ Rch n f f' ∧ OnlyF (fun x => x = g) w w' := by
  have HQ := Lib.hid hq
  have HH := Lib.hid hd
  clear hq hd
  go_enter Try.func122, Try.ntmps122
  go_wp2
  go_loopw [7] (fun i w' => ∃ (x : Nat) (f1 : Nat → P2), x ≤ n ∧ i = .int .i64 (x : Int) ∧ Hid (HD f1 n x) ∧ Hid (QS w' b g L c f1) ∧ Hid (Rch n f f1) ∧ Hid (OnlyF (fun x => x = g) w w')) (fun i _ => n - (intOf i).toNat)
  case atStart => exact ⟨0, f, Nat.zero_le _, rfl, HH, HQ, Lib.hid (Rch.refl _ _), Lib.hid (OnlyF.refl _ _)⟩
  case round =>
    clear HQ HH
    obtain ⟨x, f1, hx, rfl, HD1, HQ, HR, HF⟩ := hrel
    have e1 : IntKind.i64.wrap (2 * (x : Int)) = 2 * (x : Int) := IntWalk.i64_in _ (by omega)
    have e2 : IntKind.i64.wrap (2 * (x : Int) + 1) = ((2 * x + 1 : Nat) : Int) := by rw [IntWalk.i64_in _ (by omega)]; omega
    by_cases hlt : 2 * x + 1 < n
    · obtain ⟨j1, hj1⟩ : ∃ y, y = 2 * x + 1 := ⟨_, rfl⟩
      rw [← hj1] at e2 hlt
      have hxn : x < n := by omega
      have hxL : x < L := by omega
      have h1L : j1 < L := by omega
      have g1 : ¬ ((n : Int) ≤ (j1 : Int)) := by omega
      have g1' : decide ((n : Int) ≤ (j1 : Int)) = false := decide_eq_false g1
      have g2 : ¬ ((j1 : Int) < 0) := by omega
      have g2' : decide ((j1 : Int) < 0) = false := decide_eq_false g2
      obtain ⟨j2, hj2⟩ : ∃ y, y = j1 + 1 := ⟨_, rfl⟩
      have e3 : IntKind.i64.wrap ((j1 : Int) + 1) = (j2 : Int) := by rw [IntWalk.i64_in _ (by omega)]; omega
      have hch : ∀ k, 0 < k → k < n → (k - 1) / 2 = x → k = j1 ∨ k = j2 := fun k h1 h2 h3 => by omega
      -- the lesser child, and what is done with it
      have HEND := Lib.hid (fun (j : Nat) (W : World) (hj : j < n) (hjj : j = j1 ∨ j = j2) (hm : ∀ k, 0 < k → k < n → (k - 1) / 2 = x → ¬ lt2 (f1 k) (f1 j)) => (show (ltB (f1 j) (f1 x) = true → HD (sw2 f1 x j) n j) ∧ (ltB (f1 j) (f1 x) = false → Hp f1 n) from ⟨fun h => HD1.out.step hj (by omega) (ltB_iff.1 h) hm, fun h => HD1.out.stop fun k h1 h2 h3 => nlt_trans (hm k h1 h2 h3) (ltB_no.1 h)⟩))
      by_cases h2n : j2 < n
      · have h2L : j2 < L := by omega
        have g3 : (j2 : Int) < (n : Int) := by omega
        have g3' : decide ((j2 : Int) < (n : Int)) = true := decide_eq_true g3
        have hm := methLess b wr _ HQ.out.cell
        have HLS := Lib.hid (lessI j2 j1 wr hL h2L h1L HQ.out.own)
        have hcm : ∃ j, (j = j1 ∨ j = j2) ∧ j < n ∧ (ltB (f1 j2) (f1 j1) = true → j = j2) ∧ (ltB (f1 j2) (f1 j1) = false → j = j1) ∧ ∀ k, 0 < k → k < n → (k - 1) / 2 = x → ¬ lt2 (f1 k) (f1 j) := by
          cases hl : ltB (f1 j2) (f1 j1) with
          | true =>
            refine ⟨j2, .inr rfl, h2n, fun _ => rfl, fun h => absurd h (by simp), fun k h1 h2 h3 => ?_⟩
            rcases hch k h1 h2 h3 with e | e <;> rw [e]
            · exact lt2_asym (ltB_iff.1 hl)
            · exact fun h => lt2_irr h
          | false =>
            refine ⟨j1, .inl rfl, hlt, fun h => absurd h (by simp), fun _ => rfl, fun k h1 h2 h3 => ?_⟩
            rcases hch k h1 h2 h3 with e | e <;> rw [e]
            · exact fun h => lt2_irr h
            · exact ltB_no.1 hl
        obtain ⟨j, hj1', hjn, ht, hf, hmm⟩ := hcm
        have HE := Lib.hid (HEND.out j wr hjn hj1' hmm)
        have HT := Lib.hid ht
        have HFF := Lib.hid hf
        have hjL : j < L := by omega
        have hxj : x ≤ j := by omega
        have hxj2 : x < j := by omega
        clear HEND hmm hch ht hf hj1' HD1 hj1 hj2
        generalize ltB (f1 j2) (f1 j1) = r at *
        go_wp2_with fail
        refine HLS.out.mono ?_
        rintro e w2 ⟨rfl, hb⟩
        have HQ2 := Lib.hid (HQ.out.kept hb)
        have HF2 := Lib.hid (HF.out.then_below hb)
        clear hb hm HQ HF HLS
        have hm := methLess b w2 _ HQ2.out.cell
        have HL2 := Lib.hid (lessI j x w2 hL hjL hxL HQ2.out.own)
        have HRN := Lib.hid (HR.out.swap hxn hjn)
        cases r with
        | true =>
          obtain rfl := HT.out rfl
          cases hl : ltB (f1 j) (f1 x) with
          | true =>
            have HN := Lib.hid (HE.out.1 hl)
            rw [hl] at HL2
            clear hl HE
            go_wp2_with fail
            refine HL2.out.mono ?_
            rintro e w3 ⟨rfl, hb⟩
            have HQ3 := Lib.hid (HQ2.out.kept hb)
            have HF3 := Lib.hid (HF2.out.then_below hb)
            clear hb hm HQ2 HF2
            have hm := methSwap b w3 _ HQ3.out.cell
            have HSW := Lib.hid (swapI x j w3 hL hxj hjL HQ3.out.own)
            go_wp2_with fail
            refine HSW.out.mono ?_
            rintro e w4 ⟨rfl, ho, hof⟩
            have HQ4 := Lib.hid (HQ3.out.turn hof ho)
            have HF4 := Lib.hid (HF3.out.trans hof)
            clear ho hof hm
            go_wp2
            go_roundw
            case rel => exact ⟨j, _, Nat.le_of_lt hjn, rfl, HN, HQ4, HRN, HF4⟩
            case measure => simp [intOf]; omega
          | false =>
            have HN := Lib.hid (HE.out.2 hl)
            rw [hl] at HL2
            clear hl HE
            go_wp2_with fail
            refine HL2.out.mono ?_
            rintro e w3 ⟨rfl, hb⟩
            have HQ3 := Lib.hid (HQ2.out.kept hb)
            have HF3 := Lib.hid (HF2.out.then_below hb)
            clear hb hm HQ2 HF2
            go_wp2
            go_ret
            exact ⟨⟨_, rfl⟩, f1, HQ3.out, HN.out, HR.out, HF3.out⟩
        | false =>
          obtain rfl := HFF.out rfl
          cases hl : ltB (f1 j) (f1 x) with
          | true =>
            have HN := Lib.hid (HE.out.1 hl)
            rw [hl] at HL2
            clear hl HE
            go_wp2_with fail
            refine HL2.out.mono ?_
            rintro e w3 ⟨rfl, hb⟩
            have HQ3 := Lib.hid (HQ2.out.kept hb)
            have HF3 := Lib.hid (HF2.out.then_below hb)
            clear hb hm HQ2 HF2
            have hm := methSwap b w3 _ HQ3.out.cell
            have HSW := Lib.hid (swapI x j w3 hL hxj hjL HQ3.out.own)
            go_wp2_with fail
            refine HSW.out.mono ?_
            rintro e w4 ⟨rfl, ho, hof⟩
            have HQ4 := Lib.hid (HQ3.out.turn hof ho)
            have HF4 := Lib.hid (HF3.out.trans hof)
            clear ho hof hm
            go_wp2
            go_roundw
            case rel => exact ⟨j, _, Nat.le_of_lt hjn, rfl, HN, HQ4, HRN, HF4⟩
            case measure => simp [intOf]; omega
          | false =>
            have HN := Lib.hid (HE.out.2 hl)
            rw [hl] at HL2
            clear hl HE
            go_wp2_with fail
            refine HL2.out.mono ?_
            rintro e w3 ⟨rfl, hb⟩
            have HQ3 := Lib.hid (HQ2.out.kept hb)
            have HF3 := Lib.hid (HF2.out.then_below hb)
            clear hb hm HQ2 HF2
            go_wp2
            go_ret
            exact ⟨⟨_, rfl⟩, f1, HQ3.out, HN.out, HR.out, HF3.out⟩
      · have g3 : ¬ ((j2 : Int) < (n : Int)) := by omega
        have g3' : decide ((j2 : Int) < (n : Int)) = false := decide_eq_false g3
        have HE := Lib.hid (HEND.out j1 wr hlt (.inl rfl) (fun k h1 h2 h3 => by
          rcases hch k h1 h2 h3 with e | e
          · rw [e]; exact fun h => lt2_irr h
          · omega))
        have hm := methLess b wr _ HQ.out.cell
        have HL2 := Lib.hid (lessI j1 x wr hL h1L hxL HQ.out.own)
        have HRN := Lib.hid (HR.out.swap hxn hlt)
        have hxj : x ≤ j1 := by omega
        have hxj2 : x < j1 := by omega
        clear HEND hch HD1 hj1 hj2
        cases hl : ltB (f1 j1) (f1 x) with
        | true =>
          have HN := Lib.hid (HE.out.1 hl)
          rw [hl] at HL2
          clear hl HE
          go_wp2_with fail
          refine HL2.out.mono ?_
          rintro e w3 ⟨rfl, hb⟩
          have HQ3 := Lib.hid (HQ.out.kept hb)
          have HF3 := Lib.hid (HF.out.then_below hb)
          clear hb hm HQ HF
          have hm := methSwap b w3 _ HQ3.out.cell
          have HSW := Lib.hid (swapI x j1 w3 hL hxj h1L HQ3.out.own)
          go_wp2_with fail
          refine HSW.out.mono ?_
          rintro e w4 ⟨rfl, ho, hof⟩
          have HQ4 := Lib.hid (HQ3.out.turn hof ho)
          have HF4 := Lib.hid (HF3.out.trans hof)
          clear ho hof hm
          go_wp2
          go_roundw
          case rel => exact ⟨j1, _, Nat.le_of_lt hlt, rfl, HN, HQ4, HRN, HF4⟩
          case measure => simp [intOf]; omega
        | false =>
          have HN := Lib.hid (HE.out.2 hl)
          rw [hl] at HL2
          clear hl HE
          go_wp2_with fail
          refine HL2.out.mono ?_
          rintro e w3 ⟨rfl, hb⟩
          have HQ3 := Lib.hid (HQ.out.kept hb)
          have HF3 := Lib.hid (HF.out.then_below hb)
          clear hb hm HQ HF
          go_wp2
          go_ret
          exact ⟨⟨_, rfl⟩, f1, HQ3.out, HN.out, HR.out, HF3.out⟩
    · have HP := Lib.hid (HD1.out.stop (fun k h1 h2 h3 => by omega))
      obtain ⟨j1, hj1⟩ : ∃ y, y = 2 * x + 1 := ⟨_, rfl⟩
      rw [← hj1] at e2 hlt
      have g1 : ((n : Int) ≤ (j1 : Int)) := by omega
      have g1' : decide ((n : Int) ≤ (j1 : Int)) = true := decide_eq_true g1
      have hund : undef = Value.tuple #[] := rfl
      clear hlt HD1
      go_wp2
      go_ret
      exact ⟨⟨_, rfl⟩, f1, HQ.out, HP.out, HR.out, HF.out⟩
end Go.Proofs.Ytkcfghbkcgommaa.hp
namespace Go.Proofs.Ytkcfghbkcgommaa.hp
open Go.ChangeShapes Go.WideShapes Go.ChangeAt Go.RowKit Go.Joins
open Go.Proofs.Ytkcfghbkcgommaa.core Go.Proofs.Ytkcfghbkcgommaa.rown Go.Proofs.Ytkcfghbkcgommaa.stk Go.Proofs.Ytkcfghbkcgommaa.boxed Go.Proofs.Ytkcfghbkcgommaa.put3 Go.Proofs.Ytkcfghbkcgommaa.ft Go.Proofs.Ytkcfghbkcgommaa.revQ Go.Proofs.Ytkcfghbkcgommaa.mat
set_option linter.unusedVariables false
set_option linter.unusedSimpArgs false
theorem row_base {w : World} {b b' E k g n c : Nat} {xs : List Value} (h : w.ownsRow b E k (.slice (some ⟨g, 0, none⟩) n c) n xs) (hg : b' ≤ g) : w.ownsRow b' E k (.slice (some ⟨g, 0, none⟩) n c) n xs := by
  obtain ⟨hl, h⟩ := h
  refine ⟨hl, ?_⟩
  rcases h with ⟨h, _⟩ | ⟨g', cap, cur, e, h1, h2, h3, h4, h5, h6⟩
  · cases h
  · cases e
    exact .inr ⟨g, _, cur, rfl, hg, h2, h3, h4, h5, h6⟩
theorem own_short {w : World} {b E g n m c : Nat} {f : Nat → P2} (h : w.ownsRow b E 2 (.slice (some ⟨g, 0, none⟩) n c) n (rws (sp2 f) n)) (hm : m ≤ n) : w.ownsRow b E 2 (.slice (some ⟨g, 0, none⟩) m c) m (rws (sp2 f) m) := by
  obtain ⟨hl, h⟩ := h
  refine ⟨rws_len (sp2_len f) m, ?_⟩
  rcases h with ⟨h, _⟩ | ⟨g', cap, cur, e, h1, h2, h3, h4, h5, h6⟩
  · cases h
  · cases e
    refine .inr ⟨g, _, cur, rfl, h1, h2, Nat.le_trans hm h3, h4, h5, ?_⟩
    have e1 : rws (sp2 f) m = (rws (sp2 f) n).take (m * 2) := by
      apply List.ext_getElem?
      intro j
      rw [List.getElem?_take]
      rcases Nat.lt_or_ge j (m * 2) with hj | hj
      · obtain ⟨a, r, hr, rfl⟩ : ∃ a r, r < 2 ∧ j = a * 2 + r := ⟨j / 2, j % 2, by omega, by omega⟩
        rw [if_pos hj, rws_get (sp2_len f) a r hr m (by omega), rws_get (sp2_len f) a r hr n (by omega)]
      · rw [if_neg (by omega), List.getElem?_eq_none (by rw [rws_len (sp2_len f)]; omega)]
    rw [e1, ← h6, List.take_take, Nat.min_eq_left (by omega)]
theorem row_room {w : World} {base E k g n c : Nat} {xs : List Value} (h : w.ownsRow base E k (.slice (some ⟨g, 0, none⟩) n c) n xs) : n ≤ c := by
  obtain ⟨-, h⟩ := h
  rcases h with ⟨h, _⟩ | ⟨g', cap, cur, e, h1, h2, h3, h4⟩
  · cases h
  · cases e; exact h3
/-- A queue that is being filled. -/
structure QB (W : World) (b base : Nat) (A : Option Addr) (L d : Nat) (f : Nat → P2) : Prop where
  blk : W.heap[b]? = some (.cells #[.slice A L d] 124 (0, 0))
  own : W.ownsRow base 101 2 (.slice A L d) L (rws (sp2 f) L)
  hbs : base ≤ W.heap.size
theorem QB.kept {W W' : World} {b base : Nat} {A : Option Addr} {L d : Nat} {f : Nat → P2} (h : QB W b base A L d f) (hb : Below W.heap.size W W') : QB W' b base A L d f :=
  ⟨(hb.block _ (block_size h.blk)).trans h.blk, rown.ownsRow_kept h.own hb, Nat.le_trans h.hbs hb.size⟩
theorem QB.cell {W : World} {b base : Nat} {A : Option Addr} {L d : Nat} {f : Nat → P2} (h : QB W b base A L d f) : W.cell? ⟨b, 0, none⟩ = some (.slice A L d) := by rw [cell_of_block h.blk]; rfl
theorem QB.qs {W : World} {b base g L d : Nat} {f : Nat → P2} (h : QB W b base (some ⟨g, 0, none⟩) L d f) : QS W b g L d f := ⟨h.blk, row_low h.own (Nat.zero_le _)⟩
theorem QB.more {W W3 : World} {b base L d g c : Nat} {A : Option Addr} {f f' : Nat → P2} {o : Obj} (h : QB W b base A L d f) (hgr : (W.alloc o).grownBy W3 (Value.slice A L d).ownBlock) (hown : W3.ownsRow base 101 2 (.slice (some ⟨g, 0, none⟩) (L + 1) c) (L + 1) (rws (sp2 f') (L + 1))) :
    W3.cell? ⟨b, 0, none⟩ = some (.slice A L d) ∧ (∀ j, W3.frozen? ⟨b, j, none⟩ = false) ∧ QB (W3.setCell ⟨b, 0, none⟩ (.slice (some ⟨g, 0, none⟩) (L + 1) c)) b base (some ⟨g, 0, none⟩) (L + 1) c f' ∧ OnlyF (fun x => x = b ∨ base ≤ x) W (W3.setCell ⟨b, 0, none⟩ (.slice (some ⟨g, 0, none⟩) (L + 1) c)) := by
  have hz := hgr.size
  simp at hz
  have hlt := block_size h.blk
  have hne : ∀ k, (Value.slice A L d).ownBlock = some k → base ≤ k ∧ k ≠ b := fun k e => by
    obtain ⟨h1, cur, hc⟩ := ownsRow_block h.own e
    refine ⟨h1, ?_⟩
    rintro rfl
    rw [h.blk] at hc
    injection hc with hc
    injection hc with h1 h2 h3
    exact absurd h2 (by decide)
  have hk : W3.heap[b]? = some (.cells #[.slice A L d] 124 (0, 0)) := by
    rw [hgr.block b (by simp; omega) (fun e => (hne b e.symm).2 rfl), Below.heap_alloc _ _ _ hlt]
    exact h.blk
  have ho : OnlyF (fun x => x = b ∨ base ≤ x) W W3 := ⟨hgr.os, hgr.tape, hgr.output, by omega, fun k hkz hF => by
    rw [hgr.block k (by simp; omega) (fun e => hF (.inr (hne k e.symm).1)), Below.heap_alloc _ _ _ hkz]⟩
  refine ⟨by rw [cell_of_block hk]; rfl, unfrozen_of_block hk, ⟨?_, ?_, ?_⟩, ho.setCell (.inl rfl) _⟩
  · have := block_setCell (i := 0) hk (.slice (some ⟨g, 0, none⟩) (L + 1) c)
    simpa using this
  · refine ownsRow_same hown fun k hk2 => ?_
    refine Below.heap_setCell _ _ _ _ ?_
    intro e
    simp only at e
    subst e
    obtain ⟨_, cur, hc⟩ := ownsRow_block hown hk2
    rw [hk] at hc
    injection hc with hc
    injection hc with h1 h2 h3
    exact absurd h2 (by decide)
  · have := h.hbs
    simp [World.setCell]
    omega
theorem assertM (x y : Int) (w : World) : (Instr.typeAssert (.iface 101 (.agg #[.int .i64 x, .int .i64 y])) 20 101 true).run Try.prog w = .ok (.tuple #[.agg #[.int .i64 x, .int .i64 y], .bool true]) w := by kernel_rfl
set_option maxRecDepth 100000 in
set_option maxHeartbeats 8000000 in
theorem pushQI {b base d L : Nat} (A : Option Addr) (f : Nat → P2) (p : P2) (w : World) (hL : L ≤ 100) (hq : QB w b base A L d f) :
    Calls Try.prog 172 #[.pointer (some ⟨b, 0, none⟩), .iface 101 (.agg #[.int .i64 p.1, .int .i64 p.2])] w fun e w' => e = .returned (.tuple #[]) ∧ ∃ g d', QB w' b base (some ⟨g, 0, none⟩) (L + 1) d' (put2 f L p) ∧ OnlyF (fun x => x = b ∨ base ≤ x) w w' := by
  obtain ⟨i0, hi0, hz0, hz1, hz2⟩ := rown.info_get infoM
  have BA := Lib.hid (below_alloc1 w (.cells #[.int .i64 p.1, .int .i64 p.2] 101))
  have HQ := Lib.hid (hq.kept BA.out)
  have HR := Lib.hid (show rws (sp2 (put2 f L p)) (L + 1) = rws (sp2 f) L ++ [.int .i64 p.1, .int .i64 p.2] from rws_apd (L, f) p)
  obtain ⟨w1, hw1⟩ : ∃ v, v = w.alloc (.cells #[.int .i64 p.1, .int .i64 p.2] 101) := ⟨_, rfl⟩
  have K0 := Lib.hid (heap_alloc_new w (.cells #[.int .i64 p.1, .int .i64 p.2] 101))
  rw [← hw1] at BA HQ K0
  have HW1 := Lib.hid hw1
  have HQD := Lib.hid (HQ.out.kept (Below.refl w1.heap.size w1).drew)
  have s0 : w1.cell? ⟨b, 0, none⟩ = some (.slice A L d) := HQ.out.cell
  have m0 : w1.cell? ⟨w.heap.size, 0, none⟩ = some (.int .i64 p.1) := by rw [cell_of_block K0.out]; rfl
  have m1 : w1.cell? ⟨w.heap.size, 1, none⟩ = some (.int .i64 p.2) := by rw [cell_of_block K0.out]; rfl
  have hb1 := block_size HQ.out.blk
  have hm1 := block_size K0.out
  have Z3 := Lib.hid (show L + 1 ≤ maxLen by simp only [maxLen]; omega)
  have Z4 := Lib.hid (show (L + 1) * 16 ≤ 140737488355328 by omega)
  clear hw1 hq
  have hta := assertM p.1 p.2 w
  go_enter Try.func172, Try.ntmps172
  go_wp2
  rw [← HW1.out]
  go_region_law (refine step_append_lies _ rfl (.tmp 16) (.tmp 18) _ rfl base 101 i0 _ 2 16 Try.underlying122 hi0 hz0 hz1 hz2 rfl (by omega) (.slice A L d) L _ (by simp [Act.eval]) (HQD.out.kept (below_alloc1 _ _)).own ⟨w1.heap.size, 0, none⟩ 1 1 [.int .i64 p.1, .int .i64 p.2] (by simp [Act.eval]) (by simp) (two_new rfl) (by simp [Value.oneCell']) (by omega) Z3.out Z4.out (Nat.le_trans HQD.out.hbs (by simp)) _ rfl ?_; intro g3 cap3 w5 hown hgr hat hlt3; rw [← HR.out] at hown; obtain ⟨kc, kf, kq, ko⟩ := HQD.out.more hgr hown; have KQ := Lib.hid kq; have KO := Lib.hid ko; clear hown hgr hat kq ko)
  all_goals
    have HF := Lib.hid ((OnlyF.of_below (F := fun x => x = b ∨ base ≤ x) (BA.out.trans ((Below.refl w1.heap.size w1).drew.mono BA.out.size))).trans KO.out)
    clear kc kf KO
    go_wp2
    go_end0
    exact ⟨rfl, g3, cap3, KQ.out, HF.out⟩
set_option maxRecDepth 100000 in
set_option maxHeartbeats 8000000 in
theorem heapPushI {b base d L : Nat} (A : Option Addr) (f : Nat → P2) (p : P2) (w : World) (hL : L ≤ 100) (hq : QB w b base A L d f) (hp : Hp f L) (hbb : b < base) :
    Calls Try.prog 99 #[.iface 126 (.pointer (some ⟨b, 0, none⟩)), .iface 101 (.agg #[.int .i64 p.1, .int .i64 p.2])] w fun e w' => e = .returned (.tuple #[]) ∧ ∃ g d' f', QB w' b base (some ⟨g, 0, none⟩) (L + 1) d' f' ∧ Hp f' (L + 1) ∧ Rch (L + 1) (put2 f L p) f' ∧ OnlyF (fun x => x = b ∨ base ≤ x) w w' := by
  have HP := Lib.hid (pushQI A f p w hL hq)
  have hm := methPush b w
  have HU := Lib.hid (show HU (put2 f L p) (L + 1) L from HU.start (hp.cast fun k hk => by unfold put2; rw [if_neg (by omega)]))
  have HL1 := Lib.hid (show L + 1 ≤ 1000 by omega)
  have e1 : IntKind.i64.wrap (((L : Int) + 1) - 1) = (L : Int) := by rw [IntWalk.i64_in _ (by omega)]; omega
  obtain ⟨M, hM⟩ : ∃ M, M = L + 1 := ⟨_, rfl⟩
  rw [← hM] at HU HP HL1 ⊢
  have e2 : IntKind.i64.wrap ((M : Int) - 1) = (L : Int) := by rw [IntWalk.i64_in _ (by omega)]; omega
  have hLM : L < M := by omega
  generalize put2 f L p = f1 at *
  clear hq hp hM e1
  go_enter Try.func99, Try.ntmps99
  go_wp2_with fail
  refine HP.out.mono ?_
  rintro e w2 ⟨rfl, g, d', hq, hof⟩
  have HQ := Lib.hid hq
  have HF := Lib.hid hof
  clear hq hof hm HP
  have hm := methLen b w2 _ HQ.out.cell
  have HLN := Lib.hid (fun W => lenI (d := d') (some ⟨g, 0, none⟩) M W)
  have HUP := Lib.hid (upI L w2 HL1.out hLM HQ.out.qs HU.out)
  go_wp2_with fail
  refine (HLN.out _).mono ?_
  rintro e _ ⟨rfl, rfl⟩
  go_wp2_with fail
  refine HUP.out.mono ?_
  rintro e w3 ⟨rfl, f', hq, hh, hr, hof⟩
  have hgb : base ≤ g := (ownsRow_block HQ.out.own (g := g) rfl).1
  have HQ3 := Lib.hid (show QB w3 b base (some ⟨g, 0, none⟩) M d' f' from ⟨hq.blk, row_base hq.own hgb, Nat.le_trans HQ.out.hbs hof.size⟩)
  have HF3 := Lib.hid (HF.out.trans (hof.mono (F' := fun x => x = b ∨ base ≤ x) (fun x hx => .inr (by rw [hx]; exact hgb))))
  have HH := Lib.hid hh
  have HR := Lib.hid hr
  clear hq hh hr hof hm
  go_wp2
  go_end0
  exact ⟨rfl, g, d', f', HQ3.out, HH.out, HR.out, HF3.out⟩
set_option maxRecDepth 100000 in
set_option maxHeartbeats 8000000 in
theorem popQI {b g L c : Nat} {f : Nat → P2} (w : World) (hL : L + 1 ≤ 1000) (hq : QS w b g (L + 1) c f) :
    Calls Try.prog 171 #[.pointer (some ⟨b, 0, none⟩)] w fun e w' => e = .returned (.iface 101 (.agg #[.int .i64 (f L).1, .int .i64 (f L).2])) ∧ QS w' b g L c f ∧ OnlyF (fun x => x = b) w w' := by
  obtain ⟨x0, x1⟩ := dm_read hq.own (show L < L + 1 by omega)
  have s0 := hq.cell
  have hbz := hq.lt
  have hgz := rown.row_lt hq.own
  have hfr := unfrozen_of_block hq.blk
  have hne := hq.ne
  have hcap : L + 1 ≤ c := row_room hq.own
  obtain ⟨p, hp⟩ : ∃ p, f L = p := ⟨_, rfl⟩
  rw [hp] at x0 x1 ⊢
  have BA := Lib.hid (below_alloc1 w (.cells #[.int .i64 p.1, .int .i64 p.2] 101))
  have HQ := Lib.hid (hq.kept BA.out)
  have HLN := Lib.hid (fun W => lenI (d := c) (some ⟨g, 0, none⟩) (L + 1) W)
  obtain ⟨M, hM⟩ : ∃ M, M = L + 1 := ⟨_, rfl⟩
  rw [← hM] at HQ HLN s0 hcap
  have e2 : IntKind.i64.wrap ((M : Int) - 1) = (L : Int) := by rw [IntWalk.i64_in _ (by omega)]; omega
  have hLM : (L : Int) < (M : Int) := by omega
  have hLM2 : L < M := by omega
  have hLc : (L : Int) ≤ (c : Int) := by omega
  have hLc2 : L ≤ c := by omega
  have HEND := Lib.hid (show QS ((w.setCell ⟨b, 0, none⟩ (.slice (some ⟨g, 0, none⟩) L c)).alloc (.cells #[.int .i64 p.1, .int .i64 p.2] 101)) b g L c f from by
    refine QS.kept (W := w.setCell ⟨b, 0, none⟩ (.slice (some ⟨g, 0, none⟩) L c)) ⟨?_, ?_⟩ (below_alloc1 _ _)
    · have := block_setCell (i := 0) hq.blk (.slice (some ⟨g, 0, none⟩) L c)
      simpa using this
    · refine ownsRow_same (own_short hq.own (by omega)) fun k hk => ?_
      refine Below.heap_setCell _ _ _ _ ?_
      intro e
      simp only at e
      injection hk with hk
      exact hne (by rw [← e, ← hk]))
  have HFF := Lib.hid (show OnlyF (fun x => x = b) w ((w.setCell ⟨b, 0, none⟩ (.slice (some ⟨g, 0, none⟩) L c)).alloc (.cells #[.int .i64 p.1, .int .i64 p.2] 101)) from ((OnlyF.refl (fun x => x = b) w).setCell (g := b) (i := 0) rfl _).then_below (below_alloc1 _ _))
  clear hM hp hq hne HQ
  go_enter Try.func171, Try.ntmps171
  go_wp2_with fail
  refine (HLN.out _).mono ?_
  rintro e _ ⟨rfl, rfl⟩
  go_wp2
  go_ret
  exact ⟨rfl, HEND.out, HFF.out⟩
set_option maxRecDepth 100000 in
set_option maxHeartbeats 8000000 in
theorem heapPopI {b g n c : Nat} {f : Nat → P2} (w : World) (hn : n + 1 ≤ 1000) (hq : QS w b g (n + 1) c f) (hp : Hp f (n + 1)) :
    Calls Try.prog 101 #[.iface 126 (.pointer (some ⟨b, 0, none⟩))] w fun e w' => e = .returned (.iface 101 (.agg #[.int .i64 (f 0).1, .int .i64 (f 0).2])) ∧ ∃ f', QS w' b g n c f' ∧ Hp f' n ∧ Rch n (sw2 f 0 n) f' ∧ OnlyF (fun x => x = g ∨ x = b) w w' := by
  have hm := methLen b w _ hq.cell
  have HLN := Lib.hid (fun W => lenI (d := c) (some ⟨g, 0, none⟩) (n + 1) W)
  have hms := methSwap b w _ hq.cell
  have HSW := Lib.hid (swapI 0 n w hn (Nat.zero_le _) (by omega) hq.own)
  have HQ := Lib.hid hq
  have HDS := Lib.hid (HD.start hp)
  have HF0 := Lib.hid (show sw2 f 0 n n = f 0 from sw2_j)
  have HN1 := Lib.hid hn
  obtain ⟨M, hM⟩ : ∃ M, M = n + 1 := ⟨_, rfl⟩
  have HMM := Lib.hid hM
  rw [← hM] at hm HLN hms HSW HQ
  have e2 : IntKind.i64.wrap ((M : Int) - 1) = (n : Int) := by rw [IntWalk.i64_in _ (by omega)]; omega
  generalize hs : sw2 f 0 n = f1 at *
  generalize f 0 = p at *
  clear hM hq hp hs hn
  go_enter Try.func101, Try.ntmps101
  go_wp2_with fail
  refine (HLN.out _).mono ?_
  rintro e _ ⟨rfl, rfl⟩
  go_wp2_with fail
  refine HSW.out.mono ?_
  rintro e w2 ⟨rfl, ho, hof⟩
  have HQ2 := Lib.hid (HQ.out.turn hof ho)
  have HF2 := Lib.hid hof
  clear ho hof hm hms
  have HDN := Lib.hid (downI (n := n) w2 (by rw [HMM.out]; exact HN1.out) (by have := HMM.out; omega) HQ2.out HDS.out)
  go_wp2_with fail
  refine HDN.out.mono ?_
  rintro e w3 ⟨⟨r, rfl⟩, f', hq, hh, hr, hof⟩
  have HQ3 := Lib.hid (show QS w3 b g (n + 1) c f' by rw [← HMM.out]; exact hq)
  have HF3 := Lib.hid (HF2.out.trans hof)
  have HH := Lib.hid hh
  have HR := Lib.hid hr
  clear hq hh hr hof
  have hmp := methPop b w3
  have HPO := Lib.hid (popQI w3 HN1.out HQ3.out)
  rw [HR.out.far n (Nat.le_refl _), HF0.out] at HPO
  go_wp2_with fail
  refine HPO.out.mono ?_
  rintro e w4 ⟨rfl, hq, hof⟩
  have HQ4 := Lib.hid hq
  have HF4 := Lib.hid ((HF3.out.mono (F' := fun x => x = g ∨ x = b) (fun x hx => .inl hx)).trans (hof.mono (F' := fun x => x = g ∨ x = b) (fun x hx => .inr hx)))
  clear hq hof hmp
  go_wp2
  go_ret
  exact ⟨rfl, f', HQ4.out, HH.out, HR.out, HF4.out⟩
end Go.Proofs.Ytkcfghbkcgommaa.hp
