/-
  Proved: what the program's function that makes all rows of least costs returns.
  Conditions: both lists are sequences, and the band reaches the second one.
-/
import Derived.Test.YthpmckfjlbiiiabMatch
import Derived.Deep.AppendLies
namespace Go.Proofs.Ythpmckfjlbiiiab.dp
open Go.ChangeShapes Go.WideShapes Go.ChangeAt Go.RowKit Go.Joins
open Go.Proofs.Ythpmckfjlbiiiab.core Go.Proofs.Ythpmckfjlbiiiab.rown Go.Proofs.Ythpmckfjlbiiiab.stk Go.Proofs.Ythpmckfjlbiiiab.boxed Go.Proofs.Ythpmckfjlbiiiab.ft Go.Proofs.Ythpmckfjlbiiiab.seq Go.Proofs.Ythpmckfjlbiiiab.tab Go.Proofs.Ythpmckfjlbiiiab.put3
set_option linter.unusedVariables false
set_option linter.unusedSimpArgs false
theorem infoRow : (Try.prog.info? 30).map (fun i => (i.zero, i.size, i.bytes)) = some (some (.slice none 0 0), 1, 24) := by kernel_rfl
/-- A row in a block of its own. -/
def rowB (w : World) (g n : Nat) (F : Nat → Int) : Prop := ∃ cs, w.heap[g]? = some (.cells cs 2 (0, 0)) ∧ ∀ q, q ≤ n → cs[q]? = some (.int .i64 (F q))
theorem rowB.at_ {w : World} {g n : Nat} {F : Nat → Int} (h : rowB w g n F) : rowAt w g n F := fun q hq => by
  obtain ⟨cs, h1, h2⟩ := h
  rw [cell_of_block h1]; exact h2 q hq
theorem rowB.kept {w w' : World} {g n : Nat} {F : Nat → Int} (h : rowB w g n F) (hb : Below w.heap.size w w') : rowB w' g n F := by
  obtain ⟨cs, h1, h2⟩ := h
  exact ⟨cs, (hb.block g (block_size h1)).trans h1, h2⟩
theorem rowO.block {w : World} {base g n : Nat} {F : Nat → Int} (h : rowO w base g (n + 1) F) : rowB w g n F := by
  obtain ⟨_, cur, h1⟩ := ownsRow_block h (g := g) rfl
  refine ⟨cur, h1, fun q hq => ?_⟩
  have := one_cell h (show q < n + 1 by omega)
  rwa [cell_of_block h1] at this
/-- The list of rows. -/
def srow (gs : Nat → Nat) (m : Nat) (j : Nat) : List Value := [.slice (some ⟨gs j, 0, none⟩) m m]
theorem srow_len (gs : Nat → Nat) (m : Nat) : ∀ j, (srow gs m j).length = 1 := fun _ => rfl
theorem srow_next (gs : Nat → Nat) (m i g : Nat) : rws (srow (fun j => if j = i + 1 then g else gs j) m) (i + 1 + 1) = rws (srow gs m) (i + 1) ++ [.slice (some ⟨g, 0, none⟩) m m] := by
  rw [rws_succ]
  congr 1
  · exact rws_congr _ fun j hj => by unfold srow; dsimp only; rw [if_neg (by omega)]
  · unfold srow; dsimp only; rw [if_pos rfl]
theorem rowB.grown {W W3 : World} {o : Obj} {base k n g m : Nat} {v : Value} {xs : List Value} {F : Nat → Int} (h : rowB W g m F) (hown : W.ownsRow base 30 k v n xs) (hgr : (W.alloc o).grownBy W3 v.ownBlock) : rowB W3 g m F := by
  obtain ⟨cs, h1, h2⟩ := h
  exact ⟨cs, grown_block hown hgr h1 (by decide), h2⟩
theorem one_new {w : World} {a : Value} {E H : Nat} (h : w.heap.size = H) : ∀ j u, [a][j]? = some u → (w.alloc (.cells #[a] E)).cell? ((⟨H, 0, none⟩ : Addr).add j) = some u := by
  subst h
  exact new_cells (l := [a])
set_option maxRecDepth 100000 in
set_option maxHeartbeats 8000000 in
theorem rowsI (A B : Option Addr) (na nb ca cb bd : Nat) (fa fb : Nat → P3) (w : World) (hbd : bd ≤ 72) (va : okQ na fa = true) (vb : okQ nb fb = true) (hlo : na ≤ nb + bd) (pa : PtsAt w A na fa) (pb : PtsAt w B nb fb) :
    Calls Try.prog 65 #[mtv A B na nb ca cb bd] w fun e w' => ∃ (G d : Nat) (gs : Nat → Nat), e = .returned (.slice (some ⟨G, 0, none⟩) (na + 1) d) ∧ w'.ownsRow w.heap.size 30 1 (.slice (some ⟨G, 0, none⟩) (na + 1) d) (na + 1) (rws (srow gs (nb + 1)) (na + 1)) ∧ (∀ j, j ≤ na → rowB w' (gs j) nb (lrow fa fb (bd : Int) st0 j)) ∧ Below w.heap.size w w' := by
  obtain ⟨i0, hi0, hz0, hz1, hz2⟩ := rown.info_get infoRow
  obtain ⟨a1, a2, a3⟩ := okQ_of va
  obtain ⟨b1, b2, b3⟩ := okQ_of vb
  have BA := Lib.hid (below_alloc1 w (mtc A B na nb ca cb bd))
  have K0 := Lib.hid (heap_alloc_new w (mtc A B na nb ca cb bd))
  have HPA := Lib.hid (pa.kept BA.out)
  have HPB := Lib.hid (pb.kept BA.out)
  have HS := Lib.hid (fun W => startI A B na nb ca cb bd W b2)
  have HN := Lib.hid (fun i r g W hi hr' p1 p2 p3 => nextI (cr := nb + 1) A B na nb ca cb bd fa fb i r g W b1 b2 hbd a2 hi (by omega) (a3 i hi) b3 hr' p1 p2 p3)
  have HIN := Lib.hid (show ∀ i, i ≤ na → ∀ q, q ≤ nb → 0 ≤ lrow fa fb (bd : Int) st0 i q ∧ lrow fa fb (bd : Int) st0 i q ≤ 2 * bar from fun i hi q hq => by
    have hbar : bar = 1099511627776 := rfl
    have := lrow_in (band := (bd : Int)) (r0 := st0) a3 b3 (fun q _ => st0_in q) i hi q hq
    omega)
  obtain ⟨L, hL⟩ : ∃ L, lrow fa fb (bd : Int) st0 = L := ⟨_, rfl⟩
  have HL := Lib.hid (show L 0 = st0 ∧ ∀ i, L (i + 1) = nxt fa fb (bd : Int) i (L i) by rw [← hL]; exact ⟨rfl, fun _ => rfl⟩)
  rw [hL] at HIN ⊢
  obtain ⟨w0, hw0⟩ : ∃ v, v = w.alloc (mtc A B na nb ca cb bd) := ⟨_, rfl⟩
  rw [← hw0] at BA K0 HPA HPB
  have HW0 := Lib.hid hw0
  have hna72 : na ≤ 72 := a2
  clear pa pb va vb a3 b3 hL hw0
  go_enter Try.func65, Try.ntmps65
  go_wp2_with fail
  refine (HS.out _).mono ?_
  rw [← HW0.out]
  rintro e w1 ⟨g0, rfl, ho, hb⟩
  have HR0 := Lib.hid (rowO.block ho)
  have HB1 := Lib.hid (show Below w0.heap.size w0 w1 from hb)
  have M := Lib.hid ((hb.block _ (block_size K0.out)).trans K0.out)
  have y0 := block_size M.out
  have c0 : w1.cell? ⟨w.heap.size, 0, none⟩ = some (.slice A na ca) := by rw [cell_of_block M.out]; rfl
  have HA1 := Lib.hid (below_alloc1 w1 (.cells #[.slice (some ⟨g0, 0, none⟩) (nb + 1) (nb + 1)] 30))
  clear ho hb HW0
  go_wp2
  clear y0 c0
  go_loopw [3, 11] (fun s j w' => ∃ (i G d : Nat) (gs : Nat → Nat), i ≤ na ∧ j = .int .i64 (i : Int) ∧ s = .slice (some ⟨G, 0, none⟩) (i + 1) d ∧ Hid (w'.ownsRow w1.heap.size 30 1 (.slice (some ⟨G, 0, none⟩) (i + 1) d) (i + 1) (rws (srow gs (nb + 1)) (i + 1))) ∧ Hid (∀ j, j ≤ i → rowB w' (gs j) nb (L j)) ∧ Hid (Below w1.heap.size w1 w')) (fun _ j _ => na - (intOf j).toNat)
  case atStart =>
    refine ⟨0, w1.heap.size, 1, fun _ => g0, Nat.zero_le _, rfl, rfl, Lib.hid ?_, Lib.hid (fun j hj => ?_), HA1⟩
    · exact ⟨rfl, .inr ⟨w1.heap.size, 1, _, rfl, Nat.le_refl _, heap_alloc_new _ _, Nat.le_refl _, by simp [maxLen], rfl, rfl⟩⟩
    · obtain rfl : j = 0 := by omega
      rw [HL.out.1]; exact HR0.out.kept HA1.out
  case round =>
    obtain ⟨i, G, d, gs, hi, rfl, rfl, HO, HRS, HB⟩ := hrel
    by_cases hlt : i < na
    · have hli : (i : Int) < (na : Int) := by omega
      have hip : (0 : Int) ≤ (i : Int) := by omega
      have hi1 : (i : Int) < (i : Int) + 1 := by omega
      have M2 := Lib.hid ((HB.out.block _ (block_size M.out)).trans M.out)
      have y0 := block_size M2.out
      have c0 : wr.cell? ⟨w.heap.size, 0, none⟩ = some (.slice A na ca) := by rw [cell_of_block M2.out]; rfl
      have c1 : wr.cell? ⟨w.heap.size, 1, none⟩ = some (.slice B nb cb) := by rw [cell_of_block M2.out]; rfl
      have c2 : wr.cell? ⟨w.heap.size, 2, none⟩ = some (.int .i64 (bd : Int)) := by rw [cell_of_block M2.out]; rfl
      have x0 := row_cell HO.out (srow_len _ _) (show i < i + 1 by omega) (show 0 < 1 by omega) (v := .slice (some ⟨gs i, 0, none⟩) (nb + 1) (nb + 1)) rfl
      have xz := rown.row_lt HO.out
      rw [Nat.mul_one, Nat.add_zero] at x0
      have hw01 : Below w0.heap.size w0 wr := HB1.out.trans (HB.out.mono HB1.out.size)
      have HC := Lib.hid (HN.out i (L i) (gs i) wr.drew hlt (fun q hq => HIN.out i (by omega) q hq) (HPA.out.kept hw01.drew) (HPB.out.kept hw01.drew) ((HRS.out i (Nat.le_refl _)).at_))
      rw [← HL.out.2 i] at HC
      have HOD := Lib.hid (show wr.drew.ownsRow w1.heap.size 30 1 (.slice (some ⟨G, 0, none⟩) (i + 1) d) (i + 1) (rws (srow gs (nb + 1)) (i + 1)) from rown.ownsRow_kept HO.out (Below.refl _ _).drew)
      have HBD := Lib.hid HB.out.drew
      have HI := Lib.hid (show i + 1 ≤ na ∧ i + 1 + 1 ≤ 74 by omega)
      clear hw01
      go_wp2
      go_region_law (first
        | (refine step_append_lies _ rfl (.tmp 14) (.tmp 22) _ rfl w1.heap.size 30 i0 _ 1 24 Try.underlying103 hi0 hz0 hz1 hz2 rfl (by omega) (.slice (some ⟨G, 0, none⟩) (i + 1) d) (i + 1) _ (by simp [Act.eval]) (rown.ownsRow_kept HO9.out (below_alloc1 _ _)) ⟨w9.heap.size, 0, none⟩ 1 1 [.slice (some ⟨g9, 0, none⟩) (nb + 1) (nb + 1)] (by simp [Act.eval]) (by simp) (one_new rfl) (by simp [Value.oneCell']) (by omega) (by simp only [maxLen]; omega) (by omega) (Nat.le_trans HZ9.out (by simp)) _ rfl ?_; intro g3 cap3 w5 hown hgr hat hlt3; have HO4 := Lib.hid hown; have HB4 := Lib.hid (HB9.out.trans (rown.under HO9.out HZ9.out hgr)); have HRS4 := Lib.hid (show ∀ j, j ≤ i → rowB w5 (gs j) nb (L j) from fun j hj => (HRS9.out j hj).grown HO9.out hgr); have HRN4 := Lib.hid (HRN.out.grown HO9.out hgr); clear hown hgr hat)
        | (go_simp; go_at_call 99; (with_reducible refine HC.out.mono ?_); rintro e w9 ⟨g9, rfl, ho9, hb9⟩; have HO9 := Lib.hid (rown.ownsRow_kept HOD.out hb9); have HB9 := Lib.hid (HBD.out.trans (hb9.mono HBD.out.size)); have HZ9 := Lib.hid HB9.out.size; have HRN := Lib.hid (rowO.block ho9); have HRS9 := Lib.hid (show ∀ j, j ≤ i → rowB w9 (gs j) nb (L j) from fun j hj => ((HRS.out j hj).kept (Below.refl _ _).drew).kept hb9); clear ho9 hb9))
      all_goals
        have HRW := Lib.hid (srow_next gs (nb + 1) i g9)
        have HALL := Lib.hid (show ∀ j, j ≤ i + 1 → rowB w5 (if j = i + 1 then g9 else gs j) nb (L j) from fun j hj => by
          by_cases e : j = i + 1
          · rw [if_pos e, e]; exact HRN4.out
          · rw [if_neg e]; exact HRS4.out j (by omega))
        clear c0 c1 c2 y0 x0 xz
        go_wp2
        go_roundw
        case rel => exact ⟨i + 1, g3, cap3, fun j => if j = i + 1 then g9 else gs j, HI.out.1, by go_num, rfl, Lib.hid (by rw [HRW.out]; exact HO4.out), HALL, HB4⟩
        case measure => (have := HI.out; simp [intOf]; omega)
    · obtain rfl : i = na := by omega
      go_wp2
      go_ret
      refine ⟨G, d, gs, rfl, row_low HO.out (Nat.le_trans BA.out.size HB1.out.size), HRS.out, ?_⟩
      exact BA.out.trans ((HB1.out.trans (HB.out.mono HB1.out.size)).mono BA.out.size)
end Go.Proofs.Ythpmckfjlbiiiab.dp
