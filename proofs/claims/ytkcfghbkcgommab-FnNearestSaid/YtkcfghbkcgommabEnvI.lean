/-
  Proved: what the program's function that builds an envelope returns.
  Conditions: the list is a sequence, and the band reaches it.
-/
import Derived.Test.YtkcfghbkcgommabFirst
import Derived.Test.YtkcfghbkcgommabBndI
import Derived.Test.YtkcfghbkcgommabBoundS
import Derived.Deep.DeepCutAuto
namespace Go.Proofs.Ytkcfghbkcgommab.env
open Go.ChangeShapes Go.WideShapes Go.ChangeAt Go.RowKit Go.Joins
open Go.Proofs.Ytkcfghbkcgommab.core Go.Proofs.Ytkcfghbkcgommab.rown Go.Proofs.Ytkcfghbkcgommab.stk Go.Proofs.Ytkcfghbkcgommab.boxed Go.Proofs.Ytkcfghbkcgommab.ft Go.Proofs.Ytkcfghbkcgommab.seq Go.Proofs.Ytkcfghbkcgommab.tab
set_option linter.unusedVariables false
set_option linter.unusedSimpArgs false
/-- Two rows of numbers beside the block of the result. -/
structure Two (w0 W : World) (nx ny : Nat) (FX FY : Nat → Int) (gx cx gy cy : Nat) : Prop where
  ownX : W.ownsRow (w0.heap.size + 1) 2 1 (.slice (some ⟨gx, 0, none⟩) nx cx) nx (rws (one FX) nx)
  ownY : W.ownsRow (w0.heap.size + 1) 2 1 (.slice (some ⟨gy, 0, none⟩) ny cy) ny (rws (one FY) ny)
  ne : gx ≠ gy
  res : W.heap[w0.heap.size]? = some (.cells #[.slice none 0 0, .slice none 0 0, .slice none 0 0, .slice none 0 0] 77 (0, 0))
  le : w0.heap.size + 1 ≤ W.heap.size
  bel : Below w0.heap.size w0 W
section

variable {w0 W W' : World} {nx ny : Nat} {FX FY : Nat → Int} {gx cx gy cy : Nat}
theorem Two.kept (h : Two w0 W nx ny FX FY gx cx gy cy) (hb : Below W.heap.size W W') : Two w0 W' nx ny FX FY gx cx gy cy :=
  ⟨rown.ownsRow_kept h.ownX hb, rown.ownsRow_kept h.ownY hb, h.ne, (hb.block _ (by have := h.le; omega)).trans h.res, Nat.le_trans h.le hb.size, h.bel.trans (hb.mono h.bel.size)⟩
theorem Two.glX (h : Two w0 W nx ny FX FY gx cx gy cy) : w0.heap.size + 1 ≤ gx ∧ gx < W.heap.size := ⟨(rown.ownsRow_block h.ownX (g := gx) rfl).1, rown.row_lt h.ownX⟩
theorem Two.glY (h : Two w0 W nx ny FX FY gx cx gy cy) : w0.heap.size + 1 ≤ gy ∧ gy < W.heap.size := ⟨(rown.ownsRow_block h.ownY (g := gy) rfl).1, rown.row_lt h.ownY⟩
theorem grown_below {base g : Nat} (hgr : W.grownBy W' (some g)) (hg : base ≤ g) (hb : base ≤ W.heap.size) : Below base W W' :=
  ⟨hgr.os, hgr.tape, hgr.output, hgr.size, fun k hk => hgr.block k (by omega) (fun e => by cases e; omega)⟩
theorem Two.pushX (h : Two w0 W nx ny FX FY gx cx gy cy) {g c' : Nat} {v : Int} (hv : FX nx = v) (hown : W'.ownsRow (w0.heap.size + 1) 2 1 (.slice (some ⟨g, 0, none⟩) (nx + 1) c') (nx + 1) (rws (one FX) nx ++ [.int .i64 v])) (hgr : W.grownBy W' (Value.ownBlock (.slice (some ⟨gx, 0, none⟩) nx cx))) (hat : Value.ownBlock (.slice (some ⟨gx, 0, none⟩) nx cx) = some g ∨ g = W.heap.size) : Two w0 W' (nx + 1) ny FX FY g c' gy cy := by
  have hX := h.glX
  have hY := h.glY
  have hb : Below (w0.heap.size + 1) W W' := grown_below (g := gx) hgr hX.1 h.le
  refine ⟨by rw [rws_succ]; unfold one; rw [hv]; exact hown, ownsRow_same h.ownY fun b hbb => ?_, ?_, (hb.block _ (by omega)).trans h.res, Nat.le_trans h.le hb.size, h.bel.trans (hb.mono (by omega))⟩
  · have : b = gy := by simpa [Value.ownBlock] using hbb.symm
    subst this
    exact hgr.block b hY.2 (fun e => h.ne (by simpa [Value.ownBlock] using e.symm))
  · rcases hat with e | e
    · have : gx = g := by simpa [Value.ownBlock] using e
      rw [← this]; exact h.ne
    · omega
theorem Two.pushY (h : Two w0 W nx ny FX FY gx cx gy cy) {g c' : Nat} {v : Int} (hv : FY ny = v) (hown : W'.ownsRow (w0.heap.size + 1) 2 1 (.slice (some ⟨g, 0, none⟩) (ny + 1) c') (ny + 1) (rws (one FY) ny ++ [.int .i64 v])) (hgr : W.grownBy W' (Value.ownBlock (.slice (some ⟨gy, 0, none⟩) ny cy))) (hat : Value.ownBlock (.slice (some ⟨gy, 0, none⟩) ny cy) = some g ∨ g = W.heap.size) : Two w0 W' nx (ny + 1) FX FY gx cx g c' := by
  have hX := h.glX
  have hY := h.glY
  have hb : Below (w0.heap.size + 1) W W' := grown_below (g := gy) hgr hY.1 h.le
  refine ⟨ownsRow_same h.ownX fun b hbb => ?_, by rw [rws_succ]; unfold one; rw [hv]; exact hown, ?_, (hb.block _ (by omega)).trans h.res, Nat.le_trans h.le hb.size, h.bel.trans (hb.mono (by omega))⟩
  · have : b = gx := by simpa [Value.ownBlock] using hbb.symm
    subst this
    exact hgr.block b hX.2 (fun e => h.ne (by simpa [Value.ownBlock] using e))
  · rcases hat with e | e
    · have : gy = g := by simpa [Value.ownBlock] using e
      rw [← this]; exact h.ne
    · omega
theorem news_one {nb : Nat} {v : Value} (h : W.cell? ⟨nb, 0, none⟩ = some v) : ∀ j u, [v][j]? = some u → W.cell? ((⟨nb, 0, none⟩ : Addr).add j) = some u := fun j u hu => by
  cases j with
  | zero => rw [rown.add_at]; simp at hu; rw [← hu]; exact h
  | succ j => simp at hu
theorem new_cell (W : World) (v : Value) (E : Nat) {H : Nat} (h : W.heap.size = H) : (W.alloc (.cells #[v] E)).cell? ⟨H, 0, none⟩ = some v := by
  subst h; rw [cell_of_block (heap_alloc_new _ _)]; rfl
theorem new_cell2 (W : World) (v : Value) (E : Nat) (o : Obj) {H : Nat} (h : W.heap.size = H) : ((W.alloc (.cells #[v] E)).alloc o).cell? ⟨H, 0, none⟩ = some v := by
  rw [World.cell?_alloc_lt _ _ _ (by simp; omega)]
  exact new_cell W v E h
theorem far_all {g n c : Nat} (hgr : W.grownBy W' (Value.ownBlock (.slice (some ⟨g, 0, none⟩) n c))) (hl : w0.heap.size + 1 ≤ g ∧ g < W.heap.size) : ∀ k, k < W.heap.size → k ≠ g → W'.cell? ⟨k, 0, none⟩ = W.cell? ⟨k, 0, none⟩ := fun k hk hne =>
  World.cell?_of_block (hgr.block k hk (fun e => hne (by simpa [Value.ownBlock] using e)))
end
theorem blk_far {W W' : World} {g n c k : Nat} {o : Obj} (hgr : W.grownBy W' (Value.ownBlock (.slice (some ⟨g, 0, none⟩) n c))) (h : W.heap[k]? = some o) (hne : k ≠ g) : W'.heap[k]? = some o :=
  (hgr.block k (block_size h) (fun e => hne (by simpa [Value.ownBlock] using e))).trans h
theorem blk_alloc {W : World} {k : Nat} {o : Obj} (o' : Obj) (h : W.heap[k]? = some o) : (W.alloc o').heap[k]? = some o := (Below.heap_alloc _ _ _ (block_size h)).trans h
theorem cells_of {W : World} {k : Nat} {X Y D : Int} (h : W.heap[k]? = some (.cells #[.int .i64 X, .int .i64 Y, .int .i64 D] 46 (0, 0))) : W.cell? ⟨k, 0, none⟩ = some (.int .i64 X) ∧ W.cell? ⟨k, 1, none⟩ = some (.int .i64 Y) := ⟨by rw [cell_of_block h]; rfl, by rw [cell_of_block h]; rfl⟩
theorem makeN1 (n : Nat) (hn : n ≤ 1048576) : ∃ cur : Array Value, ∀ w : World, (Instr.makeSlice 32 (.int .i64 0) (.int .i64 (n : Int))).run Try.prog w = .ok (.slice (some ⟨w.heap.size, 0, none⟩) 0 n) (w.alloc (.cells cur 2)) ∧
    (w.alloc (.cells cur 2)).ownsRow w.heap.size 2 1 (.slice (some ⟨w.heap.size, 0, none⟩) 0 n) 0 [] := by
  obtain ⟨i0, hi, hz0, hz1, hz2⟩ := rown.info_get infoN
  refine ⟨madeCells (Value.int .i64 0).cells (n * 1), fun w => ?_⟩
  have hr := run_make (P := Try.prog) w 32 2 i0 _ Try.underlying32 hi hz0 .i64 .i64 0 n (by omega) (by omega) (by rw [hz2]; omega) (by omega)
  simp only [Int.toNat_natCast] at hr
  rw [hz1] at hr
  exact ⟨hr, ⟨by simp, .inr ⟨w.heap.size, n, _, rfl, Nat.le_refl _, heap_alloc_new _ _, Nat.zero_le _, by simp only [maxLen]; omega, by simp [madeCells], by simp⟩⟩⟩
theorem two0 {w W W' : World} {o1 o2 : Array Value} {gx cx gy cy : Nat} {FX FY : Nat → Int} (hW : W = w.alloc (.cells #[.slice none 0 0, .slice none 0 0, .slice none 0 0, .slice none 0 0] 77)) (hb : Below W.heap.size W W') (hX : W'.ownsRow W.heap.size 2 1 (.slice (some ⟨gx, 0, none⟩) 0 cx) 0 []) (hY : W'.ownsRow W.heap.size 2 1 (.slice (some ⟨gy, 0, none⟩) 0 cy) 0 []) (hne : gx ≠ gy) : Two w W' 0 0 FX FY gx cx gy cy := by
  have hz : W.heap.size = w.heap.size + 1 := by rw [hW]; simp
  have K := heap_alloc_new w (.cells #[.slice none 0 0, .slice none 0 0, .slice none 0 0, .slice none 0 0] 77)
  refine ⟨by rw [← hz]; exact hX, by rw [← hz]; exact hY, hne, ?_, by rw [← hz]; exact hb.size, ?_⟩
  · rw [hb.block _ (by omega), hW]; exact K
  · have h1 := below_alloc1 w (.cells #[.slice none 0 0, .slice none 0 0, .slice none 0 0, .slice none 0 0] 77)
    rw [← hW] at h1
    exact h1.trans (hb.mono h1.size)
theorem lo_first {fb : Nat → P3} {m n band : Nat} (vb : okQ m fb = true) (ver : Bool) (i : Nat) (q : Nat) (h1 : (i : Int) - (band : Int) ≤ (q : Int)) (h2 : q ≤ i + band) (h3 : q < m) (h4 : ∀ j : Nat, (i : Int) - (band : Int) ≤ (j : Int) → j ≤ i + band → j < m → vOf ver (fb q) ≤ vOf ver (fb j)) :
    vOf ver (fb q) = wLo (fun j => vOf ver (fb j)) m ((i : Int) - (band : Int)) ((i : Int) + (band : Int)) :=
  ((wLo_iff (fun j hj => (vOf_in ((okQ_of vb).2.2 j hj) ver).2) ⟨q, h1, by omega, h3⟩).2 ⟨fun j a b c => h4 j a (by omega) c, q, h1, by omega, h3, rfl⟩).symm
theorem hi_first {fb : Nat → P3} {m n band : Nat} (vb : okQ m fb = true) (ver : Bool) (i : Nat) (q : Nat) (h1 : (i : Int) - (band : Int) ≤ (q : Int)) (h2 : q ≤ i + band) (h3 : q < m) (h4 : ∀ j : Nat, (i : Int) - (band : Int) ≤ (j : Int) → j ≤ i + band → j < m → -vOf ver (fb q) ≤ -vOf ver (fb j)) :
    vOf ver (fb q) = wHi (fun j => vOf ver (fb j)) m ((i : Int) - (band : Int)) ((i : Int) + (band : Int)) :=
  ((wHi_iff (fun j hj => (vOf_in ((okQ_of vb).2.2 j hj) ver).1) ⟨q, h1, by omega, h3⟩).2 ⟨fun j a b c => by have := h4 j a (by omega) c; omega, q, h1, by omega, h3, rfl⟩).symm
theorem four_of {W : World} {base n g0 g1 g2 g3 c0 c1 c2 c3 : Nat} {F : Nat → Nat → Int}
    (o0 : W.ownsRow base 2 1 (.slice (some ⟨g0, 0, none⟩) n c0) n (rws (one (F 0)) n)) (o1 : W.ownsRow base 2 1 (.slice (some ⟨g1, 0, none⟩) n c1) n (rws (one (F 1)) n)) (o2 : W.ownsRow base 2 1 (.slice (some ⟨g2, 0, none⟩) n c2) n (rws (one (F 2)) n)) (o3 : W.ownsRow base 2 1 (.slice (some ⟨g3, 0, none⟩) n c3) n (rws (one (F 3)) n))
    (h1 : g0 < g1) (h2 : g1 < g2) (h3 : g2 < g3) : Four W base (fun _ => n) (pick4 (.slice (some ⟨g0, 0, none⟩) n c0) (.slice (some ⟨g1, 0, none⟩) n c1) (.slice (some ⟨g2, 0, none⟩) n c2) (.slice (some ⟨g3, 0, none⟩) n c3)) F := by
  refine ⟨fun k hk => ?_, fun j k g hj hk hjk he he2 => ?_⟩
  · have : k = 0 ∨ k = 1 ∨ k = 2 ∨ k = 3 := by omega
    rcases this with rfl | rfl | rfl | rfl
    · exact o0
    · exact o1
    · exact o2
    · exact o3
  · have a : j = 0 ∨ j = 1 ∨ j = 2 ∨ j = 3 := by omega
    have b : k = 0 ∨ k = 1 ∨ k = 2 ∨ k = 3 := by omega
    rcases a with rfl | rfl | rfl | rfl <;> rcases b with rfl | rfl | rfl | rfl <;> simp [pick4, Value.ownBlock] at he he2 <;> omega
set_option maxRecDepth 100000 in
set_option maxHeartbeats 16000000 in
theorem envI {c : Nat} (B : Option Addr) (m : Nat) (fb : Nat → P3) (n band : Nat) (w : World) (vb : okQ m fb = true) (hn1 : 1 ≤ n) (hn : n ≤ 72) (hb : band ≤ 72) (hab : absv ((n : Int) - (m : Int)) ≤ (band : Int)) (hp : PtsAt w B m fb) :
    Calls Try.prog 36 #[.slice B m c, .int .i64 (n : Int), .int .i64 (band : Int)] w fun e w' => ∃ s : Nat → Value, e = .returned (.agg #[s 0, s 1, s 2, s 3]) ∧ Four w' w.heap.size (fun _ => n) s (envF fb m (band : Int)) ∧ Below w.heap.size w w' := by
  obtain ⟨m1, m2, -⟩ := okQ_of vb
  obtain ⟨i0, hi0, hz0, hz1, hz2⟩ := rown.info_get infoN
  have HP := Lib.hid hp
  obtain ⟨cur, hcur⟩ := makeN1 m (by omega)
  have HCU := Lib.hid hcur
  have hmk := fun W => (hcur W).1
  have hne : ∀ i, i < n → ∃ j : Nat, (i : Int) - (band : Int) ≤ (j : Int) ∧ j ≤ i + band ∧ j < m := fun i hi => by
    have hab2 : absv ((n : Int) - (m : Int)) ≤ (band : Int) := hab
    unfold absv at hab2
    by_cases e : i < m
    · exact ⟨i, by omega, by omega, e⟩
    · exact ⟨m - 1, by split at hab2 <;> omega, by omega, by omega⟩
  have H0 := Lib.hid (fun cN A W hW => firstL (cN := cN) A m (fun j => vOf false (fb j)) (fun j => vOf false (fb j)) n band (envF fb m (band : Int) 0) W m2 hn hb (fun a b => Iff.rfl) hne (fun i _ q h1 h2 h3 h4 => lo_first (n := n) vb false i q h1 h2 h3 h4) hW)
  have H1 := Lib.hid (fun cN A W hW => firstG (cN := cN) A m (fun j => vOf false (fb j)) (fun j => -vOf false (fb j)) n band (envF fb m (band : Int) 1) W m2 hn hb (fun a b => by omega) hne (fun i _ q h1 h2 h3 h4 => hi_first (n := n) vb false i q h1 h2 h3 h4) hW)
  have H2 := Lib.hid (fun cN A W hW => firstL (cN := cN) A m (fun j => vOf true (fb j)) (fun j => vOf true (fb j)) n band (envF fb m (band : Int) 2) W m2 hn hb (fun a b => Iff.rfl) hne (fun i _ q h1 h2 h3 h4 => lo_first (n := n) vb true i q h1 h2 h3 h4) hW)
  have H3 := Lib.hid (fun cN A W hW => firstG (cN := cN) A m (fun j => vOf true (fb j)) (fun j => -vOf true (fb j)) n band (envF fb m (band : Int) 3) W m2 hn hb (fun a b => by omega) hne (fun i _ q h1 h2 h3 h4 => hi_first (n := n) vb true i q h1 h2 h3 h4) hW)
  have HXE := Lib.hid (show ∀ j, vOf false (fb j) = (fb j).1 from fun _ => rfl)
  have HYE := Lib.hid (show ∀ j, vOf true (fb j) = (fb j).2.1 from fun _ => rfl)
  obtain ⟨FX, hFX⟩ : ∃ F, (fun j => vOf false (fb j)) = F := ⟨_, rfl⟩
  obtain ⟨FY, hFY⟩ : ∃ F, (fun j => vOf true (fb j)) = F := ⟨_, rfl⟩
  have HFX := Lib.hid (show ∀ j, FX j = (fb j).1 from fun j => by rw [← hFX]; rfl)
  have HFY := Lib.hid (show ∀ j, FY j = (fb j).2.1 from fun j => by rw [← hFY]; rfl)
  rw [hFX] at H0 H1
  rw [hFY] at H2 H3
  generalize envF fb m (band : Int) = F at *
  clear hp hcur hne hab vb hFX hFY HXE HYE
  have hu : Hid (undef = Value.tuple #[]) := Lib.hid rfl
  go_enter Try.func36, Try.ntmps36
  obtain ⟨w1, hw1⟩ : ∃ v, v = w.alloc (.cells #[.slice none 0 0, .slice none 0 0, .slice none 0 0, .slice none 0 0] 77) := ⟨_, rfl⟩
  have HW1 := Lib.hid hw1
  clear hw1
  go_upto_region 1 with fail
  rw [← HW1.out]
  go_cut [7, 8] (fun s7 s8 wx => ∃ gx gy : Nat, s7 = .slice (some ⟨gx, 0, none⟩) 0 m ∧ s8 = .slice (some ⟨gy, 0, none⟩) 0 m ∧ Hid (Two w wx 0 0 FX FY gx m gy m))
  case first =>
    go_region
    all_goals
      have q1 := rown.ownsRow_kept (HCU.out w1).2 ((below_alloc1 (w1.alloc (.cells cur 2)) (.cells cur 2)).drew)
      have q2 := rown.ownsRow_kept (HCU.out (w1.alloc (.cells cur 2))).2 ((Below.refl _ _).drew)
      have e1 : (w1.alloc (.cells cur 2)).heap.size = w1.heap.size + 1 := by simp
      rw [e1] at q2
      have q3 := row_low (b' := w1.heap.size) q2 (by omega)
      have Q1 := Lib.hid q1
      have Q3 := Lib.hid q3
      have QB := Lib.hid (below_alloc2 w1 (.cells cur 2) (.cells cur 2)).drew
      clear q1 q2 q3 e1
      go_wp2_with fail
      go_meet
      first
        | exact ⟨w1.heap.size, w1.heap.size + 1, rfl, rfl, Lib.hid (two0 (o1 := #[]) (o2 := #[]) HW1.out QB.out Q1.out Q3.out (by omega))⟩
        | exact ⟨w1.heap.size + 1, w1.heap.size, rfl, rfl, Lib.hid (two0 (o1 := #[]) (o2 := #[]) HW1.out QB.out Q3.out Q1.out (by omega))⟩
  case rest =>
    obtain ⟨gx, gy, rfl, rfl, HT⟩ := hcut
    clear hmk HCU HW1
    go_wp2
    go_loopw [7, 8, 19] (fun s7 s8 i w' => ∃ (x gx cx gy cy : Nat), x ≤ m ∧ i = .int .i64 (x : Int) ∧ s7 = .slice (some ⟨gx, 0, none⟩) x cx ∧ s8 = .slice (some ⟨gy, 0, none⟩) x cy ∧ Hid (Two w w' x x FX FY gx cx gy cy)) (fun _ _ i _ => m - (intOf i).toNat)
    case atStart => exact ⟨0, gx, m, gy, m, Nat.zero_le _, rfl, rfl, rfl, HT⟩
    case round =>
      clear HT
      obtain ⟨x, gx, cx, gy, cy, hx, rfl, rfl, rfl, HT⟩ := hrel
      by_cases hlt : x < m
      · have hli : (x : Int) < (m : Int) := by omega
        obtain ⟨b, o, rfl, hbl, p0, p1, p2⟩ := (HP.out.kept HT.out.bel) x hlt
        have hvx := HFX.out x
        have hvy := HFY.out x
        obtain ⟨⟨X, Y, D⟩, hpk⟩ : ∃ p, fb x = p := ⟨_, rfl⟩
        rw [hpk] at p0 p1 p2 hvx hvy
        simp only at p0 p1 p2 hvx hvy
        have HVX := Lib.hid hvx
        have HVY := Lib.hid hvy
        have BA := Lib.hid (below_alloc1 wr (.cells #[.int .i64 X, .int .i64 Y, .int .i64 D] 46))
        have K0 := Lib.hid (heap_alloc_new wr (.cells #[.int .i64 X, .int .i64 Y, .int .i64 D] 46))
        obtain ⟨wA, hwA⟩ : ∃ v, v = wr.alloc (.cells #[.int .i64 X, .int .i64 Y, .int .i64 D] 46) := ⟨_, rfl⟩
        rw [← hwA] at BA K0
        have T0 : Two w wA.drew x x FX FY gx cx gy cy := HT.out.kept BA.out.drew
        have hgX := T0.glX
        have hgY := T0.glY
        have hA0 : wA.heap.size = wA.heap.size := rfl
        have FB0 : wA.drew.heap[wr.heap.size]? = some (.cells #[.int .i64 X, .int .i64 Y, .int .i64 D] 46 (0, 0)) := K0.out
        have hneX : wr.heap.size ≠ gx := by have := HT.out.glX; omega
        have hneY : wr.heap.size ≠ gy := by have := HT.out.glY; omega
        have hkc : wA.cell? ⟨wr.heap.size, 0, none⟩ = some (.int .i64 X) ∧ wA.cell? ⟨wr.heap.size, 1, none⟩ = some (.int .i64 Y) := ⟨by rw [cell_of_block K0.out]; rfl, by rw [cell_of_block K0.out]; rfl⟩
        have hbz := block_size K0.out
        have Z3 := Lib.hid (show x + 1 ≤ maxLen by simp only [maxLen]; omega)
        have Z4 := Lib.hid (show (x + 1) * 8 ≤ 140737488355328 by omega)
        have hx1 : x + 1 ≤ m := by omega
        have hms : m - (x + 1) < m - x := by omega
        have HWA := Lib.hid hwA
        clear hwA hvx hvy hpk K0 BA hx hlt
        go_wp2
        rw [← HWA.out]
        clear p0 p1 p2 HWA
        go_region_held3 (fun W => W.cell? ⟨wr.heap.size, 0, none⟩ = some (.int .i64 X) ∧ W.cell? ⟨wr.heap.size, 1, none⟩ = some (.int .i64 Y)) (first | assumption | exact hkc | exact cells_of FB2 | exact cells_of FB1 | exact cells_of (blk_alloc _ FB1) | exact cells_of FB0 | exact cells_of (blk_alloc _ FB0) | exact cells_of (blk_alloc _ (blk_alloc _ FB0)) | go_keep)
          (first
            | (refine step_append_lies _ (by rfl) (.tmp 23) (.tmp 26) _ (by rfl) (w.heap.size + 1) 2 i0 _ 1 8 Try.underlying32 hi0 hz0 hz1 hz2 rfl (by decide) (.slice (some ⟨gx, 0, none⟩) x cx) x _ (by rfl) (T1y.kept (below_alloc1 _ _)).ownX ⟨V1.heap.size, 0, none⟩ 1 1 [.int .i64 X] (by rfl) rfl (news_one (new_cell _ _ _ rfl)) (by simp [Value.oneCell']) (by decide) Z3.out Z4.out (T1y.kept (below_alloc1 _ _)).le _ rfl ?_; intro g2 c2 V2 hown hgr hat hlt9; have T2 := Two.pushX (T1y.kept (below_alloc1 _ _)) HVX.out hown hgr hat; have FB2 := blk_far hgr (blk_alloc _ FB1) hneX; clear hown hgr hat hlt9)
            | (refine step_append_lies _ (by rfl) (.tmp 23) (.tmp 26) _ (by rfl) (w.heap.size + 1) 2 i0 _ 1 8 Try.underlying32 hi0 hz0 hz1 hz2 rfl (by decide) (.slice (some ⟨gx, 0, none⟩) x cx) x _ (by rfl) T1y.ownX ⟨wA.heap.size, 0, none⟩ 1 1 [.int .i64 X] (by rfl) rfl (news_one NB1) (by simp [Value.oneCell']) (by decide) Z3.out Z4.out T1y.le _ rfl ?_; intro g2 c2 V2 hown hgr hat hlt9; have T2 := Two.pushX T1y HVX.out hown hgr hat; have FB2 := blk_far hgr FB1 hneX; clear hown hgr hat hlt9)
            | (refine step_append_lies _ (by rfl) (.tmp 23) (.tmp 26) _ (by rfl) (w.heap.size + 1) 2 i0 _ 1 8 Try.underlying32 hi0 hz0 hz1 hz2 rfl (by decide) (.slice (some ⟨gx, 0, none⟩) x cx) x _ (by rfl) T1y.ownX ⟨(wA.heap.size + 1), 0, none⟩ 1 1 [.int .i64 X] (by rfl) rfl (news_one NB1) (by simp [Value.oneCell']) (by decide) Z3.out Z4.out T1y.le _ rfl ?_; intro g2 c2 V2 hown hgr hat hlt9; have T2 := Two.pushX T1y HVX.out hown hgr hat; have FB2 := blk_far hgr FB1 hneX; clear hown hgr hat hlt9)
            | (refine step_append_lies _ (by rfl) (.tmp 23) (.tmp 26) _ (by rfl) (w.heap.size + 1) 2 i0 _ 1 8 Try.underlying32 hi0 hz0 hz1 hz2 rfl (by decide) (.slice (some ⟨gx, 0, none⟩) x cx) x _ (by rfl) (T0.kept (below_alloc1 _ _)).ownX ⟨wA.heap.size, 0, none⟩ 1 1 [.int .i64 X] (by rfl) rfl (news_one (new_cell _ _ _ rfl)) (by simp [Value.oneCell']) (by decide) Z3.out Z4.out (T0.kept (below_alloc1 _ _)).le _ rfl ?_; intro g1 c1 V1 hown hgr hat hlt9; have T1x := Two.pushX (T0.kept (below_alloc1 _ _)) HVX.out hown hgr hat; have FB1 := blk_far hgr (blk_alloc _ FB0) hneX; clear hown hgr hat hlt9)
            | (refine step_append_lies _ (by rfl) (.tmp 23) (.tmp 26) _ (by rfl) (w.heap.size + 1) 2 i0 _ 1 8 Try.underlying32 hi0 hz0 hz1 hz2 rfl (by decide) (.slice (some ⟨gx, 0, none⟩) x cx) x _ (by rfl) ((T0.kept (below_alloc1 _ _)).kept (below_alloc1 _ _)).ownX ⟨wA.heap.size, 0, none⟩ 1 1 [.int .i64 X] (by rfl) rfl (news_one (new_cell2 _ _ _ _ rfl)) (by simp [Value.oneCell']) (by decide) Z3.out Z4.out ((T0.kept (below_alloc1 _ _)).kept (below_alloc1 _ _)).le _ rfl ?_; intro g1 c1 V1 hown hgr hat hlt9; have T1x := Two.pushX ((T0.kept (below_alloc1 _ _)).kept (below_alloc1 _ _)) HVX.out hown hgr hat; have FB1 := blk_far hgr (blk_alloc _ (blk_alloc _ FB0)) hneX; have CF := far_all hgr ((T0.kept (below_alloc1 _ _)).kept (below_alloc1 _ _)).glX; have NB1 : V1.cell? ⟨wA.heap.size + 1, 0, none⟩ = some (.int .i64 Y) := (CF (wA.heap.size + 1) (by simp) (by have := hgX.2; simp at this; omega)).trans (new_cell _ _ _ (by simp)); clear CF; clear hown hgr hat hlt9)
            | (refine step_append_lies _ (by rfl) (.tmp 23) (.tmp 26) _ (by rfl) (w.heap.size + 1) 2 i0 _ 1 8 Try.underlying32 hi0 hz0 hz1 hz2 rfl (by decide) (.slice (some ⟨gx, 0, none⟩) x cx) x _ (by rfl) ((T0.kept (below_alloc1 _ _)).kept (below_alloc1 _ _)).ownX ⟨(wA.heap.size + 1), 0, none⟩ 1 1 [.int .i64 X] (by rfl) rfl (news_one (new_cell _ _ _ (by simp))) (by simp [Value.oneCell']) (by decide) Z3.out Z4.out ((T0.kept (below_alloc1 _ _)).kept (below_alloc1 _ _)).le _ rfl ?_; intro g1 c1 V1 hown hgr hat hlt9; have T1x := Two.pushX ((T0.kept (below_alloc1 _ _)).kept (below_alloc1 _ _)) HVX.out hown hgr hat; have FB1 := blk_far hgr (blk_alloc _ (blk_alloc _ FB0)) hneX; have CF := far_all hgr ((T0.kept (below_alloc1 _ _)).kept (below_alloc1 _ _)).glX; have NB1 : V1.cell? ⟨wA.heap.size, 0, none⟩ = some (.int .i64 Y) := (CF wA.heap.size (by simp; omega) (by have := hgX.2; simp at this; omega)).trans (new_cell2 _ _ _ _ rfl); clear CF; clear hown hgr hat hlt9)
            | (refine step_append_lies _ (by rfl) (.tmp 28) (.tmp 31) _ (by rfl) (w.heap.size + 1) 2 i0 _ 1 8 Try.underlying32 hi0 hz0 hz1 hz2 rfl (by decide) (.slice (some ⟨gy, 0, none⟩) x cy) x _ (by rfl) (T1x.kept (below_alloc1 _ _)).ownY ⟨V1.heap.size, 0, none⟩ 1 1 [.int .i64 Y] (by rfl) rfl (news_one (new_cell _ _ _ rfl)) (by simp [Value.oneCell']) (by decide) Z3.out Z4.out (T1x.kept (below_alloc1 _ _)).le _ rfl ?_; intro g2 c2 V2 hown hgr hat hlt9; have T2 := Two.pushY (T1x.kept (below_alloc1 _ _)) HVY.out hown hgr hat; have FB2 := blk_far hgr (blk_alloc _ FB1) hneY; clear hown hgr hat hlt9)
            | (refine step_append_lies _ (by rfl) (.tmp 28) (.tmp 31) _ (by rfl) (w.heap.size + 1) 2 i0 _ 1 8 Try.underlying32 hi0 hz0 hz1 hz2 rfl (by decide) (.slice (some ⟨gy, 0, none⟩) x cy) x _ (by rfl) T1x.ownY ⟨wA.heap.size, 0, none⟩ 1 1 [.int .i64 Y] (by rfl) rfl (news_one NB1) (by simp [Value.oneCell']) (by decide) Z3.out Z4.out T1x.le _ rfl ?_; intro g2 c2 V2 hown hgr hat hlt9; have T2 := Two.pushY T1x HVY.out hown hgr hat; have FB2 := blk_far hgr FB1 hneY; clear hown hgr hat hlt9)
            | (refine step_append_lies _ (by rfl) (.tmp 28) (.tmp 31) _ (by rfl) (w.heap.size + 1) 2 i0 _ 1 8 Try.underlying32 hi0 hz0 hz1 hz2 rfl (by decide) (.slice (some ⟨gy, 0, none⟩) x cy) x _ (by rfl) T1x.ownY ⟨(wA.heap.size + 1), 0, none⟩ 1 1 [.int .i64 Y] (by rfl) rfl (news_one NB1) (by simp [Value.oneCell']) (by decide) Z3.out Z4.out T1x.le _ rfl ?_; intro g2 c2 V2 hown hgr hat hlt9; have T2 := Two.pushY T1x HVY.out hown hgr hat; have FB2 := blk_far hgr FB1 hneY; clear hown hgr hat hlt9)
            | (refine step_append_lies _ (by rfl) (.tmp 28) (.tmp 31) _ (by rfl) (w.heap.size + 1) 2 i0 _ 1 8 Try.underlying32 hi0 hz0 hz1 hz2 rfl (by decide) (.slice (some ⟨gy, 0, none⟩) x cy) x _ (by rfl) (T0.kept (below_alloc1 _ _)).ownY ⟨wA.heap.size, 0, none⟩ 1 1 [.int .i64 Y] (by rfl) rfl (news_one (new_cell _ _ _ rfl)) (by simp [Value.oneCell']) (by decide) Z3.out Z4.out (T0.kept (below_alloc1 _ _)).le _ rfl ?_; intro g1 c1 V1 hown hgr hat hlt9; have T1y := Two.pushY (T0.kept (below_alloc1 _ _)) HVY.out hown hgr hat; have FB1 := blk_far hgr (blk_alloc _ FB0) hneY; clear hown hgr hat hlt9)
            | (refine step_append_lies _ (by rfl) (.tmp 28) (.tmp 31) _ (by rfl) (w.heap.size + 1) 2 i0 _ 1 8 Try.underlying32 hi0 hz0 hz1 hz2 rfl (by decide) (.slice (some ⟨gy, 0, none⟩) x cy) x _ (by rfl) ((T0.kept (below_alloc1 _ _)).kept (below_alloc1 _ _)).ownY ⟨wA.heap.size, 0, none⟩ 1 1 [.int .i64 Y] (by rfl) rfl (news_one (new_cell2 _ _ _ _ rfl)) (by simp [Value.oneCell']) (by decide) Z3.out Z4.out ((T0.kept (below_alloc1 _ _)).kept (below_alloc1 _ _)).le _ rfl ?_; intro g1 c1 V1 hown hgr hat hlt9; have T1y := Two.pushY ((T0.kept (below_alloc1 _ _)).kept (below_alloc1 _ _)) HVY.out hown hgr hat; have FB1 := blk_far hgr (blk_alloc _ (blk_alloc _ FB0)) hneY; have CF := far_all hgr ((T0.kept (below_alloc1 _ _)).kept (below_alloc1 _ _)).glY; have NB1 : V1.cell? ⟨wA.heap.size + 1, 0, none⟩ = some (.int .i64 X) := (CF (wA.heap.size + 1) (by simp) (by have := hgY.2; simp at this; omega)).trans (new_cell _ _ _ (by simp)); clear CF; clear hown hgr hat hlt9)
            | (refine step_append_lies _ (by rfl) (.tmp 28) (.tmp 31) _ (by rfl) (w.heap.size + 1) 2 i0 _ 1 8 Try.underlying32 hi0 hz0 hz1 hz2 rfl (by decide) (.slice (some ⟨gy, 0, none⟩) x cy) x _ (by rfl) ((T0.kept (below_alloc1 _ _)).kept (below_alloc1 _ _)).ownY ⟨(wA.heap.size + 1), 0, none⟩ 1 1 [.int .i64 Y] (by rfl) rfl (news_one (new_cell _ _ _ (by simp))) (by simp [Value.oneCell']) (by decide) Z3.out Z4.out ((T0.kept (below_alloc1 _ _)).kept (below_alloc1 _ _)).le _ rfl ?_; intro g1 c1 V1 hown hgr hat hlt9; have T1y := Two.pushY ((T0.kept (below_alloc1 _ _)).kept (below_alloc1 _ _)) HVY.out hown hgr hat; have FB1 := blk_far hgr (blk_alloc _ (blk_alloc _ FB0)) hneY; have CF := far_all hgr ((T0.kept (below_alloc1 _ _)).kept (below_alloc1 _ _)).glY; have NB1 : V1.cell? ⟨wA.heap.size, 0, none⟩ = some (.int .i64 X) := (CF wA.heap.size (by simp; omega) (by have := hgY.2; simp at this; omega)).trans (new_cell2 _ _ _ _ rfl); clear CF; clear hown hgr hat hlt9))
        all_goals
          have HT2 := Lib.hid T2
          clear T0 hkc
          go_wp2
          go_roundw
          case rel => exact ⟨x + 1, _, _, _, _, hx1, by go_num, rfl, rfl, HT2⟩
          case measure => simp [intOf]; omega
      · have hxe : x = m := by omega
        have hxn : ¬ (x : Int) < (m : Int) := by omega
        subst hxe
        have NX := Lib.hid (num_row HT.out.ownX)
        have NY := Lib.hid (num_row HT.out.ownY)
        have HB := Lib.hid HT.out.bel
        have KR := Lib.hid HT.out.res
        have HLE := Lib.hid HT.out.le
        have H0a := Lib.hid (H0.out cx _ wr NX.out)
        clear HT hlt H0
        go_wp2_with fail
        refine H0a.out.mono ?_
        rintro e w2 ⟨g0, c0, rfl, o0, hb2⟩
        have NX2 := Lib.hid (NX.out.kept hb2)
        have NY2 := Lib.hid (NY.out.kept hb2)
        have O0 := Lib.hid (row_low (b' := w.heap.size + 1) o0 HLE.out)
        have L0 := Lib.hid (rown.row_lt o0)
        have B2 := Lib.hid hb2
        have H1a := Lib.hid (H1.out cx _ w2 NX2.out)
        clear o0 hb2 NX NY H0a H1
        go_wp2_with fail
        refine H1a.out.mono ?_
        rintro e w3 ⟨g1, c1, rfl, o1, hb3⟩
        have NY3 := Lib.hid (NY2.out.kept hb3)
        have G1 := Lib.hid (Nat.lt_of_lt_of_le L0.out (rown.ownsRow_block o1 (g := g1) rfl).1)
        have O1 := Lib.hid (row_low (b' := w.heap.size + 1) o1 (Nat.le_trans HLE.out B2.out.size))
        have L1 := Lib.hid (rown.row_lt o1)
        have O0b := Lib.hid (rown.ownsRow_kept O0.out hb3)
        have B3 := Lib.hid (B2.out.trans (hb3.mono B2.out.size))
        have H2a := Lib.hid (H2.out cy _ w3 NY3.out)
        clear o1 hb3 NX2 NY2 H1a H2 O0 L0 B2
        go_wp2_with fail
        refine H2a.out.mono ?_
        rintro e w4 ⟨g2, c2, rfl, o2, hb4⟩
        have NY4 := Lib.hid (NY3.out.kept hb4)
        have G2 := Lib.hid (Nat.lt_of_lt_of_le L1.out (rown.ownsRow_block o2 (g := g2) rfl).1)
        have O2 := Lib.hid (row_low (b' := w.heap.size + 1) o2 (Nat.le_trans HLE.out B3.out.size))
        have L2 := Lib.hid (rown.row_lt o2)
        have O0c := Lib.hid (rown.ownsRow_kept O0b.out hb4)
        have O1b := Lib.hid (rown.ownsRow_kept O1.out hb4)
        have B4 := Lib.hid (B3.out.trans (hb4.mono B3.out.size))
        have H3a := Lib.hid (H3.out cy _ w4 NY4.out)
        clear o2 hb4 NY3 H2a H3 O0b O1 L1 B3
        go_wp2_with fail
        refine H3a.out.mono ?_
        rintro e w5 ⟨g3, c3, rfl, o3, hb5⟩
        have G3 := Lib.hid (Nat.lt_of_lt_of_le L2.out (rown.ownsRow_block o3 (g := g3) rfl).1)
        have O3 := Lib.hid (row_low (b' := w.heap.size + 1) o3 (Nat.le_trans HLE.out B4.out.size))
        have F4 := Lib.hid (four_of (F := F) (rown.ownsRow_kept O0c.out hb5) (rown.ownsRow_kept O1b.out hb5) (rown.ownsRow_kept O2.out hb5) O3.out G1.out G2.out G3.out)
        have B5 := Lib.hid (B4.out.trans (hb5.mono B4.out.size))
        have K5 := Lib.hid ((B5.out.block _ (block_size KR.out)).trans KR.out)
        have BW := Lib.hid (HB.out.trans (B5.out.mono HB.out.size))
        have hl := block_size K5.out
        have r0 := cell_of_block K5.out 0
        have r1 := cell_of_block K5.out 1
        have r2 := cell_of_block K5.out 2
        have r3 := cell_of_block K5.out 3
        simp at r0 r1 r2 r3
        have q0 := unfrozen_of_block K5.out 0
        have q1 := unfrozen_of_block K5.out 1
        have q2 := unfrozen_of_block K5.out 2
        have q3 := unfrozen_of_block K5.out 3
        clear o3 hb5 NY4 H3a O0c O1b O2 O3 L2 B4 G1 G2 G3 HB KR B5 K5
        go_wp2
        exact bodyPost_ret (v := .agg #[.slice (some ⟨g0, 0, none⟩) n c0, .slice (some ⟨g1, 0, none⟩) n c1, .slice (some ⟨g2, 0, none⟩) n c2, .slice (some ⟨g3, 0, none⟩) n c3]) (by simp [results, Try.results36, go_sem, r0, r1, r2, r3]) rfl
          ⟨_, rfl, ((((F4.out.set (Nat.lt_succ_self _)).set (Nat.lt_succ_self _)).set (Nat.lt_succ_self _)).set (Nat.lt_succ_self _)).low (Nat.le_succ _),
            (((BW.out.setCell (Nat.le_refl _) _).setCell (Nat.le_refl _) _).setCell (Nat.le_refl _) _).setCell (Nat.le_refl _) _⟩
end Go.Proofs.Ytkcfghbkcgommab.env
