/-
  Proved: the home of a stroke, as the program's layout finds it.
  Conditions: the strokes are valid and not many.
-/
import Derived.Test.YtofgdgdmmlgmnaaLyb
import Derived.Test.YtofgdgdmmlgmnaaMIsDot
namespace Go.Proofs.Ytofgdgdmmlgmnaa.lyt
open Go.ChangeShapes Go.WideShapes Go.ChangeAt Go.RowKit Go.Joins
open Go.Proofs.Ytofgdgdmmlgmnaa.core Go.Proofs.Ytofgdgdmmlgmnaa.rown Go.Proofs.Ytofgdgdmmlgmnaa.stk Go.Proofs.Ytofgdgdmmlgmnaa.boxed Go.Proofs.Ytofgdgdmmlgmnaa.box Go.Proofs.Ytofgdgdmmlgmnaa.bxs Go.Proofs.Ytofgdgdmmlgmnaa.ink Go.Proofs.Ytofgdgdmmlgmnaa.wIsDot
set_option linter.unusedVariables false
set_option linter.unusedSimpArgs false
theorem run_mn {P : Program} (w : World) (ts : Array TypeId) (t : TypeId) (x y : Int) : (Builtin.min_ ts t #[.int .i64 x, .int .i64 y]).run P w = .ok (.int .i64 (min x y)) w := by
  have e : ∀ p q : Int, (if q < p then q else p) = min p q := fun p q => by
    rw [Int.min_def]
    split <;> split <;> omega
  simp [Builtin.min_, Builtin.min2, e, go_sem]
theorem run_mx {P : Program} (w : World) (ts : Array TypeId) (t : TypeId) (x y : Int) : (Builtin.max_ ts t #[.int .i64 x, .int .i64 y]).run P w = .ok (.int .i64 (max x y)) w := by
  have e : ∀ p q : Int, (if p < q then q else p) = max p q := fun p q => by
    rw [Int.max_def]
    split <;> split <;> omega
  simp [Builtin.max_, Builtin.max2, e, go_sem]
/-- How many X of a box are near to a dot. -/
def nrH (a c a' c' : Int) : Int := min c (c' + 40) - max a (a' - 40) + 1
def dK (ns : Nat → Nat) (ps : Nat → Nat → P3) (k : Nat) : Bool := dB (bX1 (ns k) (ps k)) (bY1 (ns k) (ps k)) (bX2 (ns k) (ps k)) (bY2 (ns k) (ps k))
def nK (ns : Nat → Nat) (ps : Nat → Nat → P3) (x k : Nat) : Int := nrH (bX1 (ns k) (ps k)) (bX2 (ns k) (ps k)) (bX1 (ns x) (ps x)) (bX2 (ns x) (ps x))
/-- The best home among the first strokes, and how many X of it are near. -/
def hst (ns : Nat → Nat) (ps : Nat → Nat → P3) (x : Nat) : Nat → Int × Int
  | 0 => (-1, 0)
  | k + 1 => if dK ns ps k = false ∧ 0 < nK ns ps x k ∧ (hst ns ps x k).2 ≤ nK ns ps x k then ((k : Int), nK ns ps x k) else hst ns ps x k
def homeV (ns : Nat → Nat) (ps : Nat → Nat → P3) (x : Nat) : Int := if dK ns ps x = true then (hst ns ps x x).1 else -1
theorem nrH_in {a b c d a' b' c' d' : Int} (h : smallB a b c d) (h' : smallB a' b' c' d') : -10000 ≤ nrH a c a' c' ∧ nrH a c a' c' ≤ 10000 := by
  unfold smallB at h h'; unfold nrH; omega
set_option maxRecDepth 100000 in
set_option maxHeartbeats 2000000 in
theorem nearI (a b c d a' b' c' d' : Int) (w : World) (h : smallB a b c d) (h' : smallB a' b' c' d') :
    Calls Try.prog 97 #[box a b c d, box a' b' c' d'] w fun e w' => e = .returned (.int .i64 (nrH a c a' c')) ∧ Below w.heap.size w w' := by
  obtain ⟨p, hp⟩ : ∃ p, c' + 40 = p := ⟨_, rfl⟩
  obtain ⟨q, hq⟩ : ∃ q, a' - 40 = q := ⟨_, rfl⟩
  obtain ⟨m, hm⟩ : ∃ m, min c p = m := ⟨_, rfl⟩
  obtain ⟨M, hM⟩ : ∃ M, max a q = M := ⟨_, rfl⟩
  obtain ⟨s, hs⟩ : ∃ s, m - M = s := ⟨_, rfl⟩
  obtain ⟨t, ht⟩ : ∃ t, s + 1 = t := ⟨_, rfl⟩
  have HT := Lib.hid (show nrH a c a' c' = t by unfold nrH; rw [hp, hq, hm, hM, hs, ht])
  unfold smallB at h h'
  have e1 : IntKind.i64.wrap (c' + 40) = p := ((w64 (x := c' + 40) (by omega)).1).trans hp
  have e2 : IntKind.i64.wrap (a' - 40) = q := ((w64 (x := a' - 40) (by omega)).1).trans hq
  have e3 : IntKind.i64.wrap (m - M) = s := ((w64 (x := m - M) (by omega)).1).trans hs
  have e4 : IntKind.i64.wrap (s + 1) = t := ((w64 (x := s + 1) (by omega)).1).trans ht
  have g1 : wrap64 (c' + 40) = p := ((w64 (x := c' + 40) (by omega)).2).trans hp
  have g2 : wrap64 (a' - 40) = q := ((w64 (x := a' - 40) (by omega)).2).trans hq
  have g3 : wrap64 (m - M) = s := ((w64 (x := m - M) (by omega)).2).trans hs
  have g4 : wrap64 (s + 1) = t := ((w64 (x := s + 1) (by omega)).2).trans ht
  have r1 : ∀ W ts t, (Builtin.min_ ts t #[.int .i64 c, .int .i64 p]).run Try.prog W = .ok (.int .i64 m) W := fun W ts t => by rw [← hm]; exact run_mn W ts t c p
  have r2 : ∀ W ts t, (Builtin.max_ ts t #[.int .i64 a, .int .i64 q]).run Try.prog W = .ok (.int .i64 M) W := fun W ts t => by rw [← hM]; exact run_mx W ts t a q
  have HB := Lib.hid (below_alloc2 w (.cells #[.int .i64 a, .int .i64 b, .int .i64 c, .int .i64 d] 90) (.cells #[.int .i64 a', .int .i64 b', .int .i64 c', .int .i64 d'] 90))
  rw [HT.out]
  clear hp hq hm hM hs ht h h' HT
  go_enter Try.func97, Try.ntmps97
  go_wp2
  go_ret
  exact ⟨rfl, HB.out⟩
set_option maxRecDepth 100000 in
set_option maxHeartbeats 8000000 in
theorem homeI (b n C x : Nat) (A : Option Addr) (ns : Nat → Nat) (ps : Nat → Nat → P3) (w0 w : World) (h16 : n ≤ 16) (hle : w0.heap.size ≤ b) (h0 : Below w0.heap.size w0 w) (hI : InkAt w0 A n ns ps) (hv : ∀ i, i < n → vS (ns i) (ps i) = true)
    (hL : LyB w.heap.size b n A C 0 0 none 0 0 (bw ns ps) w) (hx : x < n) :
    Calls Try.prog 72 #[.pointer (some ⟨b, 0, none⟩), .int .i64 (x : Int)] w fun e w' => e = .returned (.int .i64 (homeV ns ps x)) ∧ Below b w w' := by
  have hund : undef = Value.tuple #[] := rfl
  have HBN := Lib.hid (boxN b n C x A ns ps w0 w h16 hle h0 hI hv hL hx)
  have HS := Lib.hid (fun i (hi : i < n) => (small_of (hv i hi)).2)
  have hsx := HS.out x hx
  have hbw := hL.ltW
  have HH := Lib.hid (show homeV ns ps x = if dK ns ps x = true then (hst ns ps x x).1 else -1 from rfl)
  have HBD := Lib.hid (fun L c D k W (hL : LyB L b n A C 1 0 D n c (bw ns ps) W) (hk : k < n) => boxD L b n C k c A D ns ps W hL hk)
  have HNI := Lib.hid (fun k (hk : k < n) W => nearI _ _ _ _ _ _ _ _ W (HS.out k hk) hsx)
  have HNE := Lib.hid (show ∀ k, nrH (bX1 (ns k) (ps k)) (bX2 (ns k) (ps k)) (bX1 (ns x) (ps x)) (bX2 (ns x) (ps x)) = nK ns ps x k from fun _ => rfl)
  have HDI := Lib.hid (fun k (hk : k < n) W => isDotI _ _ _ _ W (HS.out k hk))
  have HDE := Lib.hid (show ∀ k, dB (bX1 (ns k) (ps k)) (bY1 (ns k) (ps k)) (bX2 (ns k) (ps k)) (bY2 (ns k) (ps k)) = dK ns ps k from fun _ => rfl)
  have HDX := Lib.hid (HDI.out x hx)
  rw [HDE.out x] at HDX
  obtain ⟨H, hH⟩ : ∃ H, hst ns ps x = H := ⟨_, rfl⟩
  have HG := Lib.hid (show H 0 = (-1, 0) ∧ ∀ k, H (k + 1) = if dK ns ps k = false ∧ 0 < nK ns ps x k ∧ (H k).2 ≤ nK ns ps x k then ((k : Int), nK ns ps x k) else H k by rw [← hH]; exact ⟨rfl, fun _ => rfl⟩)
  rw [hH] at HH
  unfold bx at HBN HBD
  obtain ⟨a', ha⟩ : ∃ z, bX1 (ns x) (ps x) = z := ⟨_, rfl⟩
  obtain ⟨b', hb'⟩ : ∃ z, bY1 (ns x) (ps x) = z := ⟨_, rfl⟩
  obtain ⟨c', hc'⟩ : ∃ z, bX2 (ns x) (ps x) = z := ⟨_, rfl⟩
  obtain ⟨d', hd'⟩ : ∃ z, bY2 (ns x) (ps x) = z := ⟨_, rfl⟩
  rw [ha, hb', hc', hd'] at HBN HDX HNI
  rw [ha, hc'] at HNE
  clear ha hb' hc' hd' hH hI hv h0 hle hL hsx HS
  go_enter Try.func72, Try.ntmps72
  go_wp2_with fail
  refine HBN.out.mono ?_
  rintro e w1 ⟨rfl, ⟨D, c, hly⟩, hbut⟩
  obtain ⟨W1, hW1⟩ : ∃ W1, W1 = w1.alloc (.cells #[.int .i64 a', .int .i64 b', .int .i64 c', .int .i64 d'] 90) := ⟨_, rfl⟩
  have BA := below_alloc1 w1 (.cells #[.int .i64 a', .int .i64 b', .int .i64 c', .int .i64 d'] 90)
  have KZ := heap_alloc_new w1 (.cells #[.int .i64 a', .int .i64 b', .int .i64 c', .int .i64 d'] 90)
  rw [← hW1] at BA KZ
  have hb1 := hly.ltW
  have HLY := Lib.hid (hly.kept BA)
  have HBB := Lib.hid (show Below b w W1 from hbut.below.trans (BA.mono (Nat.le_of_lt hb1)))
  have HKZ := Lib.hid KZ
  have hz1 : w1.heap.size < W1.heap.size := block_size KZ
  have hbW : b < W1.heap.size := HLY.out.ltW
  have HW1 := Lib.hid hW1
  clear hly hbut BA KZ HBN hW1
  have HQ := Lib.hid (fun V (hV : Below W1.heap.size W1 V) => box_cells ((hV.block w1.heap.size hz1).trans HKZ.out))
  obtain ⟨q0, q1, q2, q3⟩ := HQ.out W1 (Below.refl _ _)
  go_wp2_with fail
  rw [← HW1.out]
  refine (HDX.out _).mono ?_
  rintro e w2 ⟨rfl, hb⟩
  have HB2 := Lib.hid hb
  clear hb HDX q0 q1 q2 q3
  cases hdx : dK ns ps x with
  | false =>
    have HF := Lib.hid (show homeV ns ps x = -1 by rw [HH.out, hdx]; rfl)
    clear hdx
    go_wp2
    go_ret
    exact ⟨by rw [HF.out]; rfl, HBB.out.trans (HB2.out.mono (Nat.le_of_lt hbW))⟩
  | true =>
    have HF := Lib.hid (show homeV ns ps x = (H x).1 by rw [HH.out, hdx]; rfl)
    clear hdx HH
    go_wp2
    go_loopw [6, 7, 18] (fun hv mv kv w' => ∃ k : Nat, k ≤ x ∧ kv = .int .i64 (k : Int) ∧ hv = .int .i64 (H k).1 ∧ mv = .int .i64 (max 1 (H k).2) ∧ Hid (Below W1.heap.size W1 w')) (fun _ _ kv _ => x - (intOf kv).toNat)
    case atStart => exact ⟨0, Nat.zero_le _, rfl, by rw [HG.out.1], by rw [HG.out.1]; rfl, HB2⟩
    case round =>
      obtain ⟨k, hk, rfl, rfl, rfl, HB⟩ := hrel
      by_cases hlt : k < x
      · have hli : (k : Int) < (x : Int) := by omega
        have hk1 : k + 1 ≤ x := by omega
        have hms : x - (k + 1) < x - k := by omega
        have hkn : k < n := by omega
        have HYR := HLY.out.kept HB.out
        have HC := Lib.hid (HBD.out _ c D k wr HYR hkn)
        have HNK := Lib.hid (HNI.out k hkn)
        have HDK := Lib.hid (HDI.out k hkn)
        rw [HDE.out k] at HDK
        rw [HNE.out k] at HNK
        have HGK := Lib.hid (HG.out.2 k)
        obtain ⟨x1, hx1⟩ : ∃ z, bX1 (ns k) (ps k) = z := ⟨_, rfl⟩
        obtain ⟨y1, hy1⟩ : ∃ z, bY1 (ns k) (ps k) = z := ⟨_, rfl⟩
        obtain ⟨x2, hx2⟩ : ∃ z, bX2 (ns k) (ps k) = z := ⟨_, rfl⟩
        obtain ⟨y2, hy2⟩ : ∃ z, bY2 (ns k) (ps k) = z := ⟨_, rfl⟩
        rw [hx1, hy1, hx2, hy2] at HC HNK HDK
        obtain ⟨N, hN⟩ : ∃ z, nK ns ps x k = z := ⟨_, rfl⟩
        obtain ⟨m, hm⟩ : ∃ z, max 1 (H k).2 = z := ⟨_, rfl⟩
        obtain ⟨h0, hh0⟩ : ∃ z, (H k).1 = z := ⟨_, rfl⟩
        obtain ⟨dk, hdk⟩ : ∃ z, dK ns ps k = z := ⟨_, rfl⟩
        rw [hN] at HNK HGK
        rw [hdk] at HDK HGK
        have HM := Lib.hid hm
        have HH0 := Lib.hid hh0
        rw [hm, hh0]
        clear hx1 hy1 hx2 hy2 hN hm hh0 hdk HYR
        go_wp2_with fail
        refine HC.out.mono ?_
        rintro e w3 ⟨rfl, hb3⟩
        have hz3 : W1.heap.size ≤ w3.heap.size := Nat.le_trans HB.out.size hb3.size
        have B3 := HB.out.trans (hb3.mono HB.out.size)
        obtain ⟨W4, hW4⟩ : ∃ W4, W4 = w3.alloc (.cells #[.int .i64 x1, .int .i64 y1, .int .i64 x2, .int .i64 y2] 90) := ⟨_, rfl⟩
        have BA := below_alloc1 w3 (.cells #[.int .i64 x1, .int .i64 y1, .int .i64 x2, .int .i64 y2] 90)
        have KK := heap_alloc_new w3 (.cells #[.int .i64 x1, .int .i64 y1, .int .i64 x2, .int .i64 y2] 90)
        rw [← hW4] at BA KK
        have HB4 := Lib.hid (B3.trans (BA.mono hz3))
        have HKK := Lib.hid KK
        have hz4 : w3.heap.size < W4.heap.size := block_size KK
        have HW4 := Lib.hid hW4
        have hq := HQ.out W4 HB4.out
        have hp := box_cells KK
        rw [hW4] at hq hp
        obtain ⟨q0, q1, q2, q3⟩ := hq
        obtain ⟨p0, p1, p2, p3⟩ := hp
        clear hb3 B3 BA KK hW4 HC
        go_wp2_with fail
        rw [← HW4.out]
        refine (HNK.out _).mono ?_
        rintro e w5 ⟨rfl, hb5⟩
        have HB5 := Lib.hid (HB4.out.trans (hb5.mono HB4.out.size))
        obtain ⟨p0', p1', p2', p3'⟩ := box_cells ((hb5.block w3.heap.size hz4).trans HKK.out)
        clear q0 q1 q2 q3 p0 p1 p2 p3 HNK hb5
        go_wp2_with fail
        refine (HDK.out _).mono ?_
        rintro e w6 ⟨rfl, hb6⟩
        have HB6 := Lib.hid (HB5.out.trans (hb6.mono HB5.out.size))
        clear hb6 p0' p1' p2' p3' HDK HW4 HKK HB4 HB5
        cases dk with
        | true =>
          have HN2 := Lib.hid (show H (k + 1) = H k by rw [HGK.out, if_neg (fun h => by cases h.1)])
          clear HGK
          go_wp2
          go_roundw
          case rel => exact ⟨k + 1, hk1, by go_num, by rw [HN2.out, HH0.out], by rw [HN2.out, HM.out], HB6⟩
          case measure => simp [intOf]; omega
        | false =>
          by_cases hge : m ≤ N
          · have HN2 := Lib.hid (show H (k + 1) = ((k : Int), N) by rw [HGK.out, if_pos ⟨rfl, by have := HM.out; omega, by have := HM.out; omega⟩])
            have HM2 := Lib.hid (show N = max 1 N by have := HM.out; omega)
            have dge : decide (m ≤ N) = true := decide_eq_true hge
            clear HGK
            go_wp2
            go_roundw
            case rel => exact ⟨k + 1, hk1, by go_num, by rw [HN2.out], by rw [HN2.out]; show Value.int .i64 N = .int .i64 (max 1 N); rw [← HM2.out], HB6⟩
            case measure => simp [intOf]; omega
          · have HN2 := Lib.hid (show H (k + 1) = H k by rw [HGK.out, if_neg (fun h => by have := HM.out; omega)])
            have dge : decide (m ≤ N) = false := decide_eq_false hge
            clear HGK
            go_wp2
            go_roundw
            case rel => exact ⟨k + 1, hk1, by go_num, by rw [HN2.out, HH0.out], by rw [HN2.out, HM.out], HB6⟩
            case measure => simp [intOf]; omega
      · have hxe : k = x := by omega
        have hxn : ¬ (k : Int) < (x : Int) := by omega
        clear hlt
        have HFH := Lib.hid (show homeV ns ps x = (H k).1 by rw [HF.out, hxe])
        subst hxe
        go_wp2
        go_ret
        exact ⟨by rw [HFH.out]; rfl, HBB.out.trans (HB.out.mono (Nat.le_of_lt hbW))⟩
end Go.Proofs.Ytofgdgdmmlgmnaa.lyt
