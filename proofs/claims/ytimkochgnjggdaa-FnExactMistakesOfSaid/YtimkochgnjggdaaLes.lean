/-
  Proved: what the program's functions return that guess a row, and that make lessons of samples.
  Conditions: the perceptron and the samples are valid.
-/
import Derived.Test.YtimkochgnjggdaaSmpI
import Derived.Test.YtimkochgnjggdaaScoI
import Derived.Test.YtimkochgnjggdaaInpI
import Derived.Test.YtimkochgnjggdaaBst
import Derived.Test.YtimkochgnjggdaaWts
import Derived.Deep.RegionHeld3
import Derived.Deep.DeepCutAuto
namespace Go.Proofs.Ytimkochgnjggdaa.les
open Go.ChangeShapes Go.WideShapes Go.ChangeAt Go.RowKit Go.Joins
open Go.Proofs.Ytimkochgnjggdaa.core Go.Proofs.Ytimkochgnjggdaa.rown Go.Proofs.Ytimkochgnjggdaa.stk Go.Proofs.Ytimkochgnjggdaa.boxed Go.Proofs.Ytimkochgnjggdaa.ft Go.Proofs.Ytimkochgnjggdaa.one1 Go.Proofs.Ytimkochgnjggdaa.lab Go.Proofs.Ytimkochgnjggdaa.per Go.Proofs.Ytimkochgnjggdaa.inp Go.Proofs.Ytimkochgnjggdaa.sco Go.Proofs.Ytimkochgnjggdaa.bst Go.Proofs.Ytimkochgnjggdaa.smp Go.Proofs.Ytimkochgnjggdaa.wts
set_option linter.unusedVariables false
set_option linter.unusedSimpArgs false
set_option maxRecDepth 100000 in
set_option maxHeartbeats 2000000 in
theorem guessI {c d dx : Nat} (A B X : Option Addr) (m n : Nat) (wn : Nat → Nat) (wf : Nat → Nat → Int) (x : Nat → Int) (w : World) (hn : n + 1 ≤ 12) (hw : ∀ i, i < n + 1 → RowOk (wn i) (wf i)) (hx : InX x) (hp : WsAt w B (n + 1) wn wf) (hq : NumAt w X 25 x) :
    Calls Try.prog 96 #[.agg #[.slice A m c, .slice B (n + 1) d], .slice X 25 dx] w fun e w' => e = .returned (.int .i64 ((bst (scr wf x) n : Nat) : Int)) ∧ Below w.heap.size w w' := by
  have BL := Lib.hid (below_alloc1 w (.cells #[.slice A m c, .slice B (n + 1) d] 38))
  have HS := Lib.hid (scoresI (c := c) (d := d) (dx := dx) A B X m (n + 1) wn wf x _ hn hw hx (hp.kept BL.out) (hq.kept BL.out))
  clear hp hq hw hx
  generalize scr wf x = F at *
  go_enter Try.func96, Try.ntmps96
  go_wp2_with fail
  refine HS.out.mono ?_
  rintro e w1 ⟨v, rfl, ho, hb⟩
  obtain ⟨C, e, rfl⟩ := own_sl ho (by decide)
  have HB := Lib.hid (bestI (c := e) C n F w1 (by omega) (num_row ho))
  have BB := Lib.hid (BL.out.trans (hb.mono BL.out.size))
  clear ho hb HS
  go_wp2_with fail
  refine HB.out.mono ?_
  rintro e _ ⟨rfl, rfl⟩
  go_wp2
  go_ret
  exact ⟨rfl, BB.out⟩
theorem infoLe : (Try.prog.info? 113).map (fun i => (i.zero, i.size, i.bytes)) = some (some (.agg #[.slice none 0 0, .int .i64 0]), 2, 32) := by kernel_rfl
def lrow (gi rf : Nat → Nat) (i : Nat) : List Value := [.slice (some ⟨gi i, 0, none⟩) 25 25, .int .i64 ((rf i : Nat) : Int)]
theorem lrow_len (gi rf : Nat → Nat) : ∀ i, (lrow gi rf i).length = 2 := fun _ => rfl
/-- An input in memory of its own. -/
structure RWg (W : World) (L g : Nat) (F : Nat → Int) : Prop where
  row : W.ownsRow L 2 1 (.slice (some ⟨g, 0, none⟩) 25 25) 25 (rws (one F) 25)
theorem RWg.kept {W W' : World} {L g : Nat} {F : Nat → Int} (h : RWg W L g F) (hb : Below W.heap.size W W') : RWg W' L g F := ⟨rown.ownsRow_kept h.row hb⟩
theorem RWg.low {W : World} {L L' g : Nat} {F : Nat → Int} (h : RWg W L g F) (hl : L' ≤ L) : RWg W L' g F := ⟨row_low h.row hl⟩
theorem RWg.num {W : World} {L g : Nat} {F : Nat → Int} (h : RWg W L g F) : NumAt W (some ⟨g, 0, none⟩) 25 F := num_row h.row
/-- Lessons in memory of their own, from L on. -/
structure LD (W : World) (L : Nat) (D : Option Addr) (j C : Nat) (gi rf : Nat → Nat) (xf : Nat → Nat → Int) : Prop where
  row : W.ownsRow L 113 2 (.slice D j C) j (rws (lrow gi rf) j)
  el : ∀ i, i < j → RWg W L (gi i) (xf i)
section
variable {W W' : World} {L j C : Nat} {D : Option Addr} {gi rf : Nat → Nat} {xf : Nat → Nat → Int}
theorem LD.kept (h : LD W L D j C gi rf xf) (hb : Below W.heap.size W W') : LD W' L D j C gi rf xf := ⟨rown.ownsRow_kept h.row hb, fun i hi => (h.el i hi).kept hb⟩
theorem LD.low {L' : Nat} (h : LD W L D j C gi rf xf) (hl : L' ≤ L) : LD W L' D j C gi rf xf := ⟨row_low h.row hl, fun i hi => (h.el i hi).low hl⟩
theorem LD.push {o : Obj} {g c gb : Nat} (h : LD W L D j C gi rf xf) (hb : RWg W L gb (xf j))
    (hgr : (W.alloc o).grownBy W' (Value.slice D j C).ownBlock) (hown : W'.ownsRow L 113 2 (.slice (some ⟨g, 0, none⟩) (j + 1) c) (j + 1) (rws (lrow gi rf) j ++ [.slice (some ⟨gb, 0, none⟩) 25 25, .int .i64 ((rf j : Nat) : Int)])) :
    LD W' L (some ⟨g, 0, none⟩) (j + 1) c (fun i => if i = j then gb else gi i) rf xf := by
  have key : ∀ {g : Nat} {F : Nat → Int}, RWg W L g F → RWg W' L g F := fun hr => ⟨ownsRow_same hr.row fun g' hg => by
    obtain ⟨_, cur, hc⟩ := rown.ownsRow_block hr.row hg
    rw [hc]
    exact grown_block h.row hgr hc (by decide)⟩
  refine ⟨?_, fun i hi => ?_⟩
  · have e : rws (lrow (fun i => if i = j then gb else gi i) rf) (j + 1) = rws (lrow gi rf) j ++ [.slice (some ⟨gb, 0, none⟩) 25 25, .int .i64 ((rf j : Nat) : Int)] := by
      rw [rws_succ]
      congr 1
      · refine rws_cong j fun i hi => ?_
        unfold lrow
        have : ¬ i = j := by omega
        simp only [if_neg this]
      · unfold lrow; simp
    rw [e]
    exact hown
  · by_cases c : i = j
    · simp only [if_pos c]; rw [c]; exact key hb
    · simp only [if_neg c]; exact key (h.el i (by omega))
theorem LD.at (h : LD W L D j C gi rf xf) {i : Nat} (hi : i < j) : ∃ g, D = some ⟨g, 0, none⟩ ∧ g < W.heap.size ∧ W.cell? ⟨g, i * 2, none⟩ = some (.slice (some ⟨gi i, 0, none⟩) 25 25) ∧ W.cell? ⟨g, i * 2 + 1, none⟩ = some (.int .i64 ((rf i : Nat) : Int)) ∧ NumAt W (some ⟨gi i, 0, none⟩) 25 (xf i) := by
  have h' := h.row
  have hr := h.row
  rcases hr with ⟨-, ⟨-, h0⟩ | ⟨g, cap, cur, e, -, -⟩⟩
  · omega
  · injection e with e1 e2 e3
    subst e1 e3
    refine ⟨g, rfl, row_lt h', ?_, ?_, (h.el i hi).num⟩
    · have := row_cell h' (lrow_len gi rf) hi (show 0 < 2 by omega) (v := .slice (some ⟨gi i, 0, none⟩) 25 25) rfl
      rw [Nat.add_zero] at this
      exact this
    · exact row_cell h' (lrow_len gi rf) hi (show 1 < 2 by omega) rfl
end
theorem makeL (n : Nat) (hn : n ≤ 1048576) (w : World) : ∃ cur : Array Value, cur.size = n * 2 ∧
    (Instr.makeSlice 108 (.int .i64 0) (.int .i64 (n : Int))).run Try.prog w = .ok (.slice (some ⟨w.heap.size, 0, none⟩) 0 n) (w.alloc (.cells cur 113)) := by
  obtain ⟨i0, hi, hz0, hz1, hz2⟩ := rown.info_get infoLe
  have hr := run_make (P := Try.prog) w 108 113 i0 _ Try.underlying108 hi hz0 .i64 .i64 0 n (by omega) (by omega) (by rw [hz2]; omega) (by omega)
  simp only [Int.toNat_natCast] at hr
  refine ⟨_, ?_, hr⟩
  rw [hz1]
  simp [madeCells]
theorem rowL (w : World) (E n : Nat) (cur : Array Value) (hc : cur.size = n * 2) (hn : n ≤ maxLen) : (w.alloc (.cells cur E)).ownsRow w.heap.size E 2 (.slice (some ⟨w.heap.size, 0, none⟩) 0 n) 0 [] :=
  ⟨by simp, .inr ⟨w.heap.size, n, _, rfl, Nat.le_refl _, heap_alloc_new _ _, Nat.zero_le _, hn, hc, by simp⟩⟩
/-- The boxes of a round. -/
structure LI (k2 bx : Nat) (a v0 v1 : Value) (W : World) : Prop where
  h2 : k2 < W.heap.size
  c0 : W.cell? ⟨k2, 0, none⟩ = some a
  bk : W.heap[bx]? = some (.cells #[v0, v1] 62 (0, 0))
abbrev SL (k2 bx : Nat) (a v0 v1 : Value) (W : World) : Prop := W.cell? ⟨k2, 0, none⟩ = some a ∧ W.cell? ⟨bx, 0, none⟩ = some v0 ∧ W.cell? ⟨bx, 1, none⟩ = some v1 ∧ LI k2 bx a v0 v1 W
section
variable {W V : World} {k2 bx : Nat} {a v0 v1 : Value}
theorem LI.kept (h : LI k2 bx a v0 v1 W) (hb : Below W.heap.size W V) : LI k2 bx a v0 v1 V :=
  ⟨Nat.lt_of_lt_of_le h.h2 hb.size, (hb.cell (p := ⟨k2, 0, none⟩) h.h2).trans h.c0, (hb.block _ (block_size h.bk)).trans h.bk⟩
theorem SL_of (h : LI k2 bx a v0 v1 W) : SL k2 bx a v0 v1 W := ⟨h.c0, by rw [cell_of_block h.bk]; rfl, by rw [cell_of_block h.bk]; rfl, h⟩
theorem SL_kept (hb : Below W.heap.size W V) (h : SL k2 bx a v0 v1 W) : SL k2 bx a v0 v1 V := SL_of (h.2.2.2.kept hb)
theorem SL_drew (h : SL k2 bx a v0 v1 W) : SL k2 bx a v0 v1 W.drew := SL_kept ((Below.refl _ _).drew) h
theorem SL_grown {L j C : Nat} {D : Option Addr} {gi rf : Nat → Nat} {o : Obj} (h : SL k2 bx a v0 v1 W) (hT : W.ownsRow L 113 2 (.slice D j C) j (rws (lrow gi rf) j)) (hgr : (W.alloc o).grownBy V (Value.slice D j C).ownBlock) (hL : k2 < L) (hLW : L ≤ W.heap.size) : SL k2 bx a v0 v1 V := by
  have hi := h.2.2.2
  have hB : Below L W V := rown.under hT hLW hgr
  exact SL_of ⟨Nat.lt_of_lt_of_le hi.h2 hB.size, (hB.cell (p := ⟨k2, 0, none⟩) hL).trans hi.c0, (grown_block hT hgr hi.bk (by decide)).trans (by rfl)⟩
end
set_option maxRecDepth 100000 in
set_option maxHeartbeats 8000000 in
theorem lessonsI {c d cs : Nat} (A B L : Option Addr) (n m N : Nat) (s : Nat → ByteArray) (lb : Nat → ByteArray) (ln : Nat → Nat) (lf : Nat → Nat → P3) (w : World) (hn : n ≤ 1048576) (hN : N ≤ 40) (hp : SsAt w A n s) (hr : SmAt w L N lb ln lf) (hok : ∀ i, i < N → okF (ln i) (lf i) = true) (hfi : ∀ i, i < N → fi s (lb i) n < n) :
    Calls Try.prog 94 #[.agg #[.slice A n c, .slice B m d], .slice L N cs] w fun e w' => ∃ (D : Option Addr) (C : Nat) (gi : Nat → Nat), e = .returned (.slice D N C) ∧ LD w' w.heap.size D N C gi (fun i => fi s (lb i) n) (fun i => inN (lf i) (ln i)) ∧ Below w.heap.size w w' := by
  obtain ⟨j0, hj0, jz0, jz1, jz2⟩ := rown.info_get infoLe
  have HP := Lib.hid hp
  have HR := Lib.hid hr
  have HOK := Lib.hid hok
  have HFI := Lib.hid hfi
  have BL := Lib.hid (below_alloc1 w (.cells #[.slice A n c, .slice B m d] 38))
  have hK := heap_alloc_new w (.cells #[.slice A n c, .slice B m d] 38)
  obtain ⟨w1, hw1⟩ : ∃ w1, w.alloc (.cells #[.slice A n c, .slice B m d] 38) = w1 := ⟨_, rfl⟩
  rw [hw1] at BL hK
  have HX := Lib.hid (fun V (hV : Below w1.heap.size w1 V) => (show V.cell? ⟨w.heap.size, 0, none⟩ = some (.slice A n c) ∧ w.heap.size < V.heap.size from by
    have e := (hV.block w.heap.size (block_size hK)).trans hK
    exact ⟨by rw [cell_of_block e]; rfl, block_size e⟩))
  obtain ⟨cur, hcu, hmk⟩ := makeL N (by omega) w1
  have R0 := Lib.hid (show LD (w1.alloc (.cells cur 113)) w1.heap.size (some ⟨w1.heap.size, 0, none⟩) 0 N (fun _ => 0) (fun i => fi s (lb i) n) (fun i => inN (lf i) (ln i)) from ⟨rowL w1 _ N cur hcu (by simp only [maxLen]; omega), fun i hi => absurd hi (by omega)⟩)
  have BM := Lib.hid (below_alloc1 w1 (.cells cur 113))
  have HW1 := Lib.hid hw1
  have HRF := Lib.hid (fun i => (show (fun i => fi s (lb i) n) i = fi s (lb i) n from rfl))
  obtain ⟨rf, hrf⟩ : ∃ rf, (fun i => fi s (lb i) n) = rf := ⟨_, rfl⟩
  obtain ⟨xf, hxf⟩ : ∃ xf, (fun i => inN (lf i) (ln i)) = xf := ⟨_, rfl⟩
  have HRE := Lib.hid (fun i => (congrFun hrf.symm i : rf i = fi s (lb i) n))
  have HXE := Lib.hid (fun i => (congrFun hxf i : inN (lf i) (ln i) = xf i))
  rw [hrf, hxf] at R0 ⊢
  clear hp hr hok hfi hK hcu HRF hrf hxf
  rw [← hw1] at hmk
  clear hw1
  go_enter Try.func94, Try.ntmps94
  go_wp2
  rw [HW1.out]
  clear hmk
  go_loopw [5, 13] (fun o i w' => ∃ (j C : Nat) (D : Option Addr) (gi : Nat → Nat), j ≤ N ∧ i = .int .i64 (j : Int) ∧ o = .slice D j C ∧ Hid (LD w' w1.heap.size D j C gi rf xf) ∧ Hid (Below w1.heap.size w1 w')) (fun _ i _ => N - (intOf i).toNat)
  case atStart => exact ⟨0, N, _, fun _ => 0, Nat.zero_le _, rfl, by first | rfl | (rw [← HW1.out]; simp), R0, BM⟩
  case round =>
    obtain ⟨j, C, D, gi, hj, rfl, rfl, HO, HB⟩ := hrel
    obtain ⟨k0, kz⟩ := HX.out _ HB.out
    have HBW := Lib.hid (BL.out.trans (HB.out.mono BL.out.size))
    by_cases hlt : j < N
    · obtain ⟨b1, o1, Ai, ci, rfl, hb1, p0, p1, hfe⟩ := (HR.out.kept HBW.out) j hlt
      have hli : (j : Int) < (N : Int) := by omega
      have hokj := HOK.out j hlt
      have HFE := Lib.hid hfe
      have HNX := Lib.hid (show ∀ (W V2 : World) (gb g2 C2 : Nat), Below wr.heap.size wr W → RWg W w1.heap.size gb (xf j) → (W.alloc (.cells #[.slice (some ⟨gb, 0, none⟩) 25 25, .int .i64 ((rf j : Nat) : Int)] 113)).grownBy V2 (Value.slice D j C).ownBlock → V2.ownsRow w1.heap.size 113 2 (.slice (some ⟨g2, 0, none⟩) (j + 1) C2) (j + 1) (rws (lrow gi rf) j ++ [.slice (some ⟨gb, 0, none⟩) 25 25, .int .i64 ((rf j : Nat) : Int)]) → LD V2 w1.heap.size (some ⟨g2, 0, none⟩) (j + 1) C2 (fun i => if i = j then gb else gi i) rf xf ∧ Below w1.heap.size w1 V2 from
        fun W V2 gb g2 C2 hW hb hgr hown => ⟨(HO.out.kept hW).push hb hgr hown, HB.out.trans ((hW.mono HB.out.size).trans (rown.under (HO.out.kept hW).row (Nat.le_trans HB.out.size hW.size) hgr))⟩)
      have HRW := Lib.hid (fun (W : World) (hW : Below wr.heap.size wr W) => (HO.out.kept hW).row)
      have HIN := Lib.hid (fun (W : World) (hW : Below wr.heap.size wr W) => (inputI (c := ci) Ai (ln j) (lf j) W (HFE.out.kept hW) hokj).mono (fun e w' h => (h.elim fun g h => ⟨g, h.1, by rw [HXE.out] at h; exact RWg.mk (row_low h.2.1 (Nat.le_trans HB.out.size hW.size)), h.2.2⟩ : ∃ g, e = .returned (.slice (some ⟨g, 0, none⟩) 25 25) ∧ RWg w' w1.heap.size g (xf j) ∧ Below W.heap.size W w')))
      have hfz : fiZ s (lb j) n = ((rf j : Nat) : Int) := by unfold fiZ; rw [if_pos (HFI.out j hlt), HRE.out]
      have HIX := Lib.hid (fun (W : World) (hW : Below wr.heap.size wr W) => (show Calls Try.prog 119 #[.slice A n c, .string (lb j)] W fun e w' => e = .returned (.int .i64 ((rf j : Nat) : Int)) ∧ W = w' by rw [← hfz]; exact indexSI (c := c) A n s (lb j) W hn (HP.out.kept (HBW.out.trans (hW.mono HBW.out.size)))))
      obtain ⟨q, hq⟩ : ∃ q, ln j = q := ⟨_, rfl⟩
      obtain ⟨tx, htx⟩ : ∃ tx, lb j = tx := ⟨_, rfl⟩
      obtain ⟨rj, hrj⟩ : ∃ rj, rf j = rj := ⟨_, rfl⟩
      rw [hq] at p1 HIN
      rw [htx] at p0 HIX
      rw [hrj] at HIX HNX
      have HI0 := Lib.hid (show LI w.heap.size wr.heap.size (.slice A n c) (.string tx) (.slice Ai q ci) (wr.alloc (.cells #[.string tx, .slice Ai q ci] 62)) from
        ⟨by simp; omega, ((below_alloc1 wr _).cell (p := ⟨w.heap.size, 0, none⟩) kz).trans k0, heap_alloc_new wr _⟩)
      have HBX := Lib.hid (below_alloc1 wr (.cells #[.string tx, .slice Ai q ci] 62))
      have HWW := Lib.hid (show w.heap.size < w1.heap.size by rw [← HW1.out]; simp)
      have Z5 := Lib.hid (show j + 1 ≤ maxLen by simp only [maxLen]; omega)
      have Z6 := Lib.hid (show (j + 1) * 32 ≤ 140737488355328 by omega)
      have Z7 := Lib.hid HB.out.size
      clear hq htx hrj hfe hfz hokj
      go_upto_region 4 with fail
      go_cut [7] (fun s wx => s = .pointer (some ⟨wr.heap.size, 0, none⟩) ∧ Hid (LI w.heap.size wr.heap.size (.slice A n c) (.string tx) (.slice Ai q ci) wx) ∧ Hid (Below wr.heap.size wr wx))
      case first =>
        go_wp2
        go_meet
        exact ⟨rfl, HI0, HBX⟩
      case rest =>
        obtain ⟨rfl, HI1, HBC⟩ := hcut
        clear HI0 HBX p0 p1 k0
        have hk : SL w.heap.size wr.heap.size (.slice A n c) (.string tx) (.slice Ai q ci) wc := SL_of HI1.out
        go_upto_region 5 with fail
        go_region_held3 (fun W => W.cell? ⟨w.heap.size, 0, none⟩ = some (.slice A n c) ∧ W.cell? ⟨wr.heap.size, 0, none⟩ = some (.string tx) ∧ W.cell? ⟨wr.heap.size, 1, none⟩ = some (.slice Ai q ci) ∧ LI w.heap.size wr.heap.size (.slice A n c) (.string tx) (.slice Ai q ci) W) (first | assumption | exact SL_drew hk | exact SL_kept (below_alloc1 _ _) (by assumption) | go_keep)
          (first
            | (go_at_call 61; (with_reducible refine (HIN.out _ (by first | exact HBC.out.drew | exact HBC.out)).mono ?_); rintro e wa ⟨gb, rfl, hga, hba⟩; have HGA := Lib.hid hga; have HBA := Lib.hid ((show Below wr.heap.size wr _ by first | exact HBC.out.drew | exact HBC.out).trans (hba.mono (show wr.heap.size ≤ _ by first | exact HBC.out.drew.size | exact HBC.out.size))); have hk2 := SL_kept hba (by first | assumption | exact SL_drew hk); clear hga)
            | (go_at_call 119; (with_reducible refine (HIX.out _ HBA.out).mono ?_); rintro e _ ⟨rfl, rfl⟩)
            | (refine step_append_lies _ (by rfl) (.tmp 17) (.tmp 27) _ (by rfl) w1.heap.size 113 j0 _ 2 32 Try.underlying108 hj0 jz0 jz1 jz2 rfl (by decide) (.slice D j C) j _ (by rfl) (rown.ownsRow_kept (HRW.out wa HBA.out) (below_alloc1 wa (.cells #[.slice (some ⟨gb, 0, none⟩) 25 25, .int .i64 (rj : Int)] 113))) ⟨wa.heap.size, 0, none⟩ 1 1 [.slice (some ⟨gb, 0, none⟩) 25 25, .int .i64 (rj : Int)] (by rfl) rfl (two_new rfl) (by simp [Value.oneCell']) (by decide) Z5.out Z6.out (Nat.le_trans Z7.out (Nat.le_trans HBA.out.size (by simp))) _ rfl ?_
               intro g2 C2 V2 hown2 hgr2 hat2 hlt2
               have HN2 := Lib.hid (HNX.out wa V2 gb g2 C2 HBA.out HGA.out hgr2 hown2)
               have hk3 := SL_grown hk2 (HRW.out wa HBA.out) hgr2 HWW.out (Nat.le_trans Z7.out HBA.out.size)
               clear hown2 hgr2 hat2))
        all_goals
          clear hk
          go_wp2
          go_roundw
          case rel => exact ⟨j + 1, C2, some ⟨g2, 0, none⟩, _, hlt, by go_num, rfl, Lib.hid HN2.out.1, Lib.hid HN2.out.2⟩
          case measure => simp [intOf]; omega
    · obtain rfl : j = N := by omega
      go_wp2
      go_ret
      exact ⟨_, _, gi, rfl, HO.out.low BL.out.size, HBW.out⟩
end Go.Proofs.Ytimkochgnjggdaa.les
