/-
  Proved: what the program's function that copies a store returns.
  Conditions: those of the theorem.
-/
import Derived.Test.YtghaddpicedenaaCpy
namespace Go.Proofs.Ytghaddpicedenaa.tmp
open Go.ChangeShapes Go.WideShapes Go.ChangeAt Go.RowKit Go.Joins
open Go.Proofs.Ytghaddpicedenaa.core Go.Proofs.Ytghaddpicedenaa.rown Go.Proofs.Ytghaddpicedenaa.stk Go.Proofs.Ytghaddpicedenaa.boxed Go.Proofs.Ytghaddpicedenaa.ft Go.Proofs.Ytghaddpicedenaa.seq Go.Proofs.Ytghaddpicedenaa.lab Go.Proofs.Ytghaddpicedenaa.sto Go.Proofs.Ytghaddpicedenaa.cln Go.Proofs.Ytghaddpicedenaa.tab Go.Proofs.Ytghaddpicedenaa.env Go.Proofs.Ytghaddpicedenaa.put3
set_option linter.unusedVariables false
set_option linter.unusedSimpArgs false
theorem makeT (n : Nat) (hn : n ≤ 1048576) (w : World) : ∃ cur : Array Value, cur.size = n * 2 ∧
    (Instr.makeSlice 30 (.int .i64 0) (.int .i64 (n : Int))).run Try.prog w = .ok (.slice (some ⟨w.heap.size, 0, none⟩) 0 n) (w.alloc (.cells cur 38)) := by
  obtain ⟨i0, hi, hz0, hz1, hz2⟩ := rown.info_get infoT
  have hr := run_make (P := Try.prog) w 30 38 i0 _ Try.underlying30 hi hz0 .i64 .i64 0 n (by omega) (by omega) (by rw [hz2]; omega) (by omega)
  simp only [Int.toNat_natCast] at hr
  refine ⟨_, ?_, hr⟩
  rw [hz1]
  simp [madeCells]
theorem make_rowT (w : World) (E n : Nat) (cur : Array Value) (hc : cur.size = n * 2) (hn : n ≤ maxLen) : (w.alloc (.cells cur E)).ownsRow w.heap.size E 2 (.slice (some ⟨w.heap.size, 0, none⟩) 0 n) 0 [] :=
  ⟨by simp, .inr ⟨w.heap.size, n, _, rfl, Nat.le_refl _, heap_alloc_new _ _, Nat.zero_le _, hn, hc, by simp⟩⟩
/-- The store that is copied, and the copy, in their boxes. -/
structure CW (w : World) (v : Value) (band : Int) (W : World) : Prop where
  below : Below w.heap.size w W
  z : w.heap.size + 2 ≤ W.heap.size
  b1 : W.heap[w.heap.size]? = some (.cells #[.int .i64 band, v] 32 (0, 0))
  b2 : W.heap[w.heap.size + 1]? = some (.cells #[.int .i64 0, .slice none 0 0] 32 (0, 0))
theorem CW.start (w : World) (v : Value) (band : Int) : CW w v band ((w.alloc (.cells #[.int .i64 band, v] 32)).alloc (.cells #[.int .i64 0, .slice none 0 0] 32)) := by
  have e : (w.alloc (.cells #[.int .i64 band, v] 32)).heap.size = w.heap.size + 1 := by simp
  refine ⟨below_alloc2 _ _ _, by simp, ?_, ?_⟩
  · rw [Below.heap_alloc _ _ _ (by simp)]
    exact heap_alloc_new _ _
  · rw [← e]; exact heap_alloc_new _ _
theorem CW.far {w W V : World} {v : Value} {band : Int} (h : CW w v band W) (hB : Below (w.heap.size + 2) W V) : CW w v band V :=
  ⟨h.below.trans (hB.mono (by omega)), Nat.le_trans h.z hB.size, (hB.block _ (by omega)).trans h.b1, (hB.block _ (by omega)).trans h.b2⟩
set_option maxRecDepth 100000 in
set_option maxHeartbeats 16000000 in
theorem copyS {c : Nat} (band : Int) (T : Option Addr) (n : Nat) (lb : Nat → ByteArray) (ln : Nat → Nat) (lf : Nat → Nat → P3) (w : World) (hn : n ≤ 40) (hl : ∀ i, i < n → 1 ≤ ln i ∧ ln i ≤ 72) (hp : TsAt w T n lb ln lf) :
    Calls Try.prog 24 #[.agg #[.int .i64 band, .slice T n c]] w fun e w' => ∃ (D : Option Addr) (C : Nat) (gi ci : Nat → Nat), e = .returned (.agg #[.int .i64 band, .slice D n C]) ∧ TD w' (w.heap.size + 2) D n C lb gi ln ci lf ∧ Below w.heap.size w w' := by
  obtain ⟨j0, hj0, jz0, jz1, jz2⟩ := rown.info_get infoT
  have HP := Lib.hid hp
  have HL := Lib.hid hl
  have C0 := Lib.hid (CW.start w (.slice T n c) band)
  obtain ⟨W0, hW0⟩ : ∃ W0, (w.alloc (.cells #[.int .i64 band, .slice T n c] 32)).alloc (.cells #[.int .i64 0, .slice none 0 0] 32) = W0 := ⟨_, rfl⟩
  have hsz : W0.heap.size = w.heap.size + 2 := by rw [← hW0]; simp
  rw [hW0] at C0
  obtain ⟨cur, hcs, hmk⟩ := makeT n (by omega) W0
  have a0 : W0.cell? ⟨w.heap.size, 0, none⟩ = some (.int .i64 band) := by rw [cell_of_block C0.out.b1]; rfl
  have a1 : W0.cell? ⟨w.heap.size, 1, none⟩ = some (.slice T n c) := by rw [cell_of_block C0.out.b1]; rfl
  have HM := Lib.hid (show TD (W0.alloc (.cells cur 38)) (w.heap.size + 2) (some ⟨W0.heap.size, 0, none⟩) 0 n lb (fun _ => 0) ln (fun _ => 0) lf from
    ⟨row_low (make_rowT W0 38 n cur hcs (by unfold maxLen; omega)) (by omega), fun i hi => absurd hi (by omega), fun i _ hi => absurd hi (by omega)⟩)
  rw [hsz] at HM
  have C1 := Lib.hid (C0.out.far (V := W0.alloc (.cells cur 38)) ((Below.refl (w.heap.size + 2) W0).alloc (by omega) _))
  have a2 : (W0.alloc (.cells cur 38)).cell? ⟨w.heap.size, 1, none⟩ = some (.slice T n c) := by rw [cell_of_block C1.out.b1]; rfl
  clear hp hl hcs
  go_enter Try.func24, Try.ntmps24
  go_wp2
  go_loopw [3, 13] (fun o i w' => ∃ (x : Nat) (D : Option Addr) (C : Nat) (gi ci : Nat → Nat), x ≤ n ∧ i = .int .i64 (x : Int) ∧ o = .slice D x C ∧ Hid (CW w (.slice T n c) band w') ∧ Hid (TD w' (w.heap.size + 2) D x C lb gi ln ci lf)) (fun _ i _ => n - (intOf i).toNat)
  case atStart => exact ⟨0, _, n, fun _ => 0, fun _ => 0, Nat.zero_le _, rfl, rfl, C1, HM⟩
  case round =>
    obtain ⟨x, D, C, gi, ci, hx, rfl, rfl, HC, HT⟩ := hrel
    clear a0 a1 a2 hmk
    by_cases hlt : x < n
    · have hli : (x : Int) < (n : Int) := by omega
      have hx1 : x + 1 ≤ n := by omega
      have hms : n - (x + 1) < n - x := by omega
      obtain ⟨g, og, Ai, cA, rfl, hg, p0, p1, hpt⟩ := HP.out x hlt
      have hlx := HL.out x hlt
      have q0 := (HC.out.below.cell (p := ⟨g, og + x * 2, none⟩) hg).trans p0
      have q1 := (HC.out.below.cell (p := ⟨g, og + x * 2 + 1, none⟩) hg).trans p1
      have BA := Lib.hid (below_alloc1 wr (.cells #[.string (lb x), .slice Ai (ln x) cA] 38))
      have HK := Lib.hid (copyT (c := cA) (lb x) Ai (ln x) (lf x) (wr.alloc (.cells #[.string (lb x), .slice Ai (ln x) cA] 38)) hlx.1 hlx.2 ((hpt.kept HC.out.below).kept BA.out))
      have hz := HC.out.z
      have Z3 := Lib.hid (show x + 1 ≤ maxLen by simp only [maxLen]; omega)
      have Z4 := Lib.hid (show (x + 1) * 40 ≤ 140737488355328 by omega)
      clear hpt p0 p1 hlx hlt
      go_wp2_with fail
      refine HK.out.mono ?_
      rintro e w2 ⟨gb, Cb, rfl, ho, hb2⟩
      have hs1 : (wr.alloc (.cells #[.string (lb x), .slice Ai (ln x) cA] 38)).heap.size = wr.heap.size + 1 := by simp
      have BB := Lib.hid (BA.out.trans (hb2.mono (by rw [hs1]; omega)))
      have HG := Lib.hid (show wr.heap.size ≤ gb by have h1 : (wr.alloc (.cells #[.string (lb x), .slice Ai (ln x) cA] 38)).heap.size ≤ gb := (rown.ownsRow_block ho (g := gb) rfl).1; rw [hs1] at h1; omega)
      have HF := Lib.hid (row_low (b' := w.heap.size + 2) ho (by rw [hs1]; omega))
      have HV := Lib.hid (BB.out.mono hz)
      have T1 := Lib.hid (HT.out.kept BB.out)
      have hz2 : w.heap.size + 2 ≤ w2.heap.size := Nat.le_trans hz BB.out.size
      clear ho hb2 HK BA q0 q1 hs1
      go_wp2_with (first
        | (at_builtin
           have z1 : ∀ q ∈ [Value.string (lb x), .slice (some ⟨gb, 0, none⟩) (ln x) Cb], q.oneCell' = true := (by simp [Value.oneCell'])
           refine wpList_append_lies (w2.alloc (.cells #[.string (lb x), .slice (some ⟨gb, 0, none⟩) (ln x) Cb] 38)) rfl _ _ 30 rfl (w.heap.size + 2) 38 j0 _ 2 40 Try.underlying30 hj0 jz0 jz1 jz2 rfl (by decide) (.slice D x C) x _ rfl (T1.out.kept (below_alloc1 w2 (.cells #[.string (lb x), .slice (some ⟨gb, 0, none⟩) (ln x) Cb] 38))).row ⟨w2.heap.size, 0, none⟩ 1 1 [.string (lb x), .slice (some ⟨gb, 0, none⟩) (ln x) Cb] rfl rfl (two_new rfl) z1 (by decide) Z3.out Z4.out (Nat.le_trans hz2 (by simp)) _ rfl ?_
           intro g2 C2 V2 hown2 hgr2 hat2 hlt2
           have HV2 := Lib.hid (HV.out.trans (rown.under T1.out.row hz2 hgr2))
           have T2 := Lib.hid (T1.out.push HF.out (fun i hi => by have h1 := (HT.out.lt hi).2; have h2 := HG.out; omega) hgr2 hown2)
           have CC := Lib.hid (HC.out.far HV2.out)
           clear hown2 hgr2 hat2 hlt2 z1))
      go_wp2
      go_roundw
      case rel => exact ⟨x + 1, some ⟨g2, 0, none⟩, C2, _, _, hx1, by go_num, rfl, CC, T2⟩
      case measure => simp [intOf]; omega
    · have hxn : ¬ (x : Int) < (n : Int) := by omega
      obtain rfl : x = n := by omega
      have e1 := HC.out.b1
      have e2 := HC.out.b2
      have s0 : wr.cell? ⟨w.heap.size, 0, none⟩ = some (.int .i64 band) := by rw [cell_of_block e1]; rfl
      have s2 : wr.cell? ⟨w.heap.size + 1, 0, none⟩ = some (.int .i64 0) := by rw [cell_of_block e2]; rfl
      have s3 : wr.cell? ⟨w.heap.size + 1, 1, none⟩ = some (.slice none 0 0) := by rw [cell_of_block e2]; rfl
      have f0 := unfrozen_of_block e2 0
      have f1 := unfrozen_of_block e2 1
      have BB := Lib.hid ((HC.out.below.setCell (p := ⟨w.heap.size + 1, 0, none⟩) (show w.heap.size ≤ w.heap.size + 1 by omega) (.int .i64 band)).setCell (p := ⟨w.heap.size + 1, 1, none⟩) (show w.heap.size ≤ w.heap.size + 1 by omega) (.slice D x C))
      have T3 := Lib.hid ((HT.out.set (show w.heap.size + 1 < w.heap.size + 2 by omega) (q := 0) (.int .i64 band)).set (show w.heap.size + 1 < w.heap.size + 2 by omega) (q := 1) (.slice D x C))
      clear hlt HT e1 e2
      go_wp2
      refine bodyPost_ret (v := .agg #[.int .i64 band, .slice D x C]) (by simp [results, Try.results24, go_sem, s0, s2, s3]) rfl ⟨D, C, rfl, ⟨gi, ci, T3.out⟩, BB.out⟩
end Go.Proofs.Ytghaddpicedenaa.tmp
