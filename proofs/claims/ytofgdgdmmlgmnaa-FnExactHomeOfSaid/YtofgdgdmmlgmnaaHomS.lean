/-
  Proved: the home of a stroke, as the document's function returns it.
  Conditions: the strokes are valid and not many.
-/
import Derived.Test.YtofgdgdmmlgmnaaHome
namespace Go.Proofs.Ytofgdgdmmlgmnaa.lyt
open Go.ChangeShapes Go.WideShapes Go.ChangeAt Go.RowKit Go.Joins
open Go.Proofs.Ytofgdgdmmlgmnaa.core Go.Proofs.Ytofgdgdmmlgmnaa.rown Go.Proofs.Ytofgdgdmmlgmnaa.stk Go.Proofs.Ytofgdgdmmlgmnaa.boxed Go.Proofs.Ytofgdgdmmlgmnaa.box Go.Proofs.Ytofgdgdmmlgmnaa.bxs Go.Proofs.Ytofgdgdmmlgmnaa.ink Go.Proofs.Ytofgdgdmmlgmnaa.wIsDot
set_option linter.unusedVariables false
set_option linter.unusedSimpArgs false
set_option maxRecDepth 100000 in
set_option maxHeartbeats 8000000 in
theorem homeS (b n C x : Nat) (A : Option Addr) (ns : Nat → Nat) (ps : Nat → Nat → P3) (w : World) (h16 : n ≤ 16) (hbz : b < w.heap.size) (hc : w.cell? ⟨b, 0, none⟩ = some (.slice A n C)) (hI : InkAt w A n ns ps) (hv : ∀ i, i < n → vS (ns i) (ps i) = true) (hx : x < n) :
    Calls Try.prog 68 #[.pointer (some ⟨b, 0, none⟩), .int .i64 (x : Int)] w fun e w' => e = .returned (.int .i64 (homeV ns ps x)) ∧ Below w.heap.size w w' := by
  have hund : undef = Value.tuple #[] := rfl
  have HS := Lib.hid (fun i (hi : i < n) => (small_of (hv i hi)).2)
  have hsx := HS.out x hx
  have HH := Lib.hid (show homeV ns ps x = if dK ns ps x = true then (hst ns ps x x).1 else -1 from rfl)
  have HDE := Lib.hid (show ∀ k, dB (bX1 (ns k) (ps k)) (bY1 (ns k) (ps k)) (bX2 (ns k) (ps k)) (bY2 (ns k) (ps k)) = dK ns ps k from fun _ => rfl)
  have HDI := Lib.hid (fun k (hk : k < n) (B : Option Addr) (g cc o : Nat) W (hg : g < W.heap.size) (hs : W.cell? ⟨g, o, none⟩ = some (.slice B (ns k) cc)) (hp : PtsAt W B (ns k) (ps k)) => dotS (c := cc) (o := o) B g (ns k) (ps k) W (small_of (hv k hk)).1 (by have := (vS_of (hv k hk)).2.1; omega) hg hs hp (HS.out k hk))
  have HBI := Lib.hid (fun k (hk : k < n) (B : Option Addr) (g cc o : Nat) W (hg : g < W.heap.size) (hs : W.cell? ⟨g, o, none⟩ = some (.slice B (ns k) cc)) (hp : PtsAt W B (ns k) (ps k)) => boxOfS (c := cc) (o := o) B g (ns k) (ps k) W (small_of (hv k hk)).1 (by have := (vS_of (hv k hk)).2.1; omega) hg hs hp)
  have HNE := Lib.hid (show ∀ k, nrH (bX1 (ns k) (ps k)) (bX2 (ns k) (ps k)) (bX1 (ns x) (ps x)) (bX2 (ns x) (ps x)) = nK ns ps x k from fun _ => rfl)
  obtain ⟨H, hH⟩ : ∃ H, hst ns ps x = H := ⟨_, rfl⟩
  have HG := Lib.hid (show H 0 = (-1, 0) ∧ ∀ k, H (k + 1) = if dK ns ps k = false ∧ 0 < nK ns ps x k ∧ (H k).2 ≤ nK ns ps x k then ((k : Int), nK ns ps x k) else H k by rw [← hH]; exact ⟨rfl, fun _ => rfl⟩)
  rw [hH] at HH
  unfold bx at HBI
  have HI := Lib.hid hI
  have HC := Lib.hid hc
  obtain ⟨G, o, rfl, hG, B, cc, p0, hp⟩ := hI x hx
  have HDX := Lib.hid (HDI.out x hx B G cc (o + x) w hG p0 hp)
  rw [HDE.out x] at HDX
  have HBX := Lib.hid (fun W (hb : Below w.heap.size w W) => HBI.out x hx B G cc (o + x) W (Nat.lt_of_lt_of_le hG hb.size) ((hb.cell (p := ⟨G, o + x, none⟩) hG).trans p0) (hp.kept hb))
  have HP0 := Lib.hid (fun W (hb : Below w.heap.size w W) => (show W.cell? ⟨b, 0, none⟩ = some (.slice (some ⟨G, o, none⟩) n C) ∧ W.cell? ⟨G, o + x, none⟩ = some (.slice B (ns x) cc) from ⟨(hb.cell (p := ⟨b, 0, none⟩) hbz).trans hc, (hb.cell (p := ⟨G, o + x, none⟩) hG).trans p0⟩))
  obtain ⟨a', ha⟩ : ∃ z, bX1 (ns x) (ps x) = z := ⟨_, rfl⟩
  obtain ⟨b', hb'⟩ : ∃ z, bY1 (ns x) (ps x) = z := ⟨_, rfl⟩
  obtain ⟨c', hc'⟩ : ∃ z, bX2 (ns x) (ps x) = z := ⟨_, rfl⟩
  obtain ⟨d', hd'⟩ : ∃ z, bY2 (ns x) (ps x) = z := ⟨_, rfl⟩
  rw [ha, hb', hc', hd'] at HBX hsx
  rw [ha, hc'] at HNE
  have hxi : (x : Int) < (n : Int) := by omega
  have hx0 : (0 : Int) ≤ (x : Int) := by omega
  have HSX := Lib.hid hsx
  clear ha hb' hc' hd' hH hI hv hp hsx
  go_enter Try.func68, Try.ntmps68
  go_wp2_with fail
  refine HDX.out.mono ?_
  rintro e w1 ⟨rfl, hb1⟩
  have HB1 := Lib.hid hb1
  obtain ⟨c0, c1⟩ := HP0.out w1 hb1
  clear hb1 HDX hc p0
  cases hdx : dK ns ps x with
  | false =>
    have HF := Lib.hid (show homeV ns ps x = -1 by rw [HH.out, hdx]; rfl)
    clear hdx c0 c1
    go_wp2
    go_ret
    exact ⟨by rw [HF.out]; rfl, HB1.out⟩
  | true =>
    have HF := Lib.hid (show homeV ns ps x = (H x).1 by rw [HH.out, hdx]; rfl)
    clear hdx HH
    go_wp2_with fail
    refine (HBX.out _ HB1.out).mono ?_
    rintro e w2 ⟨rfl, hb2⟩
    have B2 := HB1.out.trans (hb2.mono HB1.out.size)
    have hz2 : w.heap.size ≤ w2.heap.size := B2.size
    obtain ⟨W1, hW1⟩ : ∃ W1, W1 = w2.alloc (.cells #[.int .i64 a', .int .i64 b', .int .i64 c', .int .i64 d'] 90) := ⟨_, rfl⟩
    have BA := below_alloc1 w2 (.cells #[.int .i64 a', .int .i64 b', .int .i64 c', .int .i64 d'] 90)
    have KZ := heap_alloc_new w2 (.cells #[.int .i64 a', .int .i64 b', .int .i64 c', .int .i64 d'] 90)
    rw [← hW1] at BA KZ
    have HBB := Lib.hid (show Below w.heap.size w W1 from B2.trans (BA.mono hz2))
    have HKZ := Lib.hid KZ
    have hz1 : w2.heap.size < W1.heap.size := block_size KZ
    have hbW : w.heap.size ≤ W1.heap.size := HBB.out.size
    have HW1 := Lib.hid hW1
    have HQ := Lib.hid (fun V (hV : Below W1.heap.size W1 V) => box_cells ((hV.block w2.heap.size hz1).trans HKZ.out))
    clear hb2 B2 BA KZ hW1 c0 c1 HBX HB1 HP0
    go_wp2
    rw [← HW1.out]
    go_loopw [6, 7, 8] (fun hv mv kv w' => ∃ k : Nat, k ≤ x ∧ kv = .int .i64 (k : Int) ∧ hv = .int .i64 (H k).1 ∧ mv = .int .i64 (H k).2 ∧ Hid (Below W1.heap.size W1 w')) (fun _ _ kv _ => x - (intOf kv).toNat)
    case atStart => exact ⟨0, Nat.zero_le _, rfl, by rw [HG.out.1], by rw [HG.out.1], Lib.hid (Below.refl _ _)⟩
    case round =>
      obtain ⟨k, hk, rfl, rfl, rfl, HB⟩ := hrel
      by_cases hlt : k < x
      · have hli : (k : Int) < (x : Int) := by omega
        have hk1 : k + 1 ≤ x := by omega
        have hms : x - (k + 1) < x - k := by omega
        have hkn : k < n := by omega
        have hki : (k : Int) < (n : Int) := by omega
        have hk0 : (0 : Int) ≤ (k : Int) := by omega
        have BR := HBB.out.trans (HB.out.mono hbW)
        have c0 := (BR.cell (p := ⟨b, 0, none⟩) hbz).trans HC.out
        obtain ⟨G', o', e', hG', B1, cc1, p1, hp1⟩ := (HI.out.kept BR) k hkn
        obtain ⟨rfl, rfl⟩ : G' = G ∧ o' = o := by
          injection e' with e'
          injection e' with e3 e4
          exact ⟨e3.symm, e4.symm⟩
        have HDK := Lib.hid (HDI.out k hkn B1 G' cc1 (o' + k) wr hG' p1 hp1)
        rw [HDE.out k] at HDK
        have HBK := Lib.hid (fun W (hb : Below wr.heap.size wr W) => HBI.out k hkn B1 G' cc1 (o' + k) W (Nat.lt_of_lt_of_le hG' hb.size) ((hb.cell (p := ⟨G', o' + k, none⟩) hG').trans p1) (hp1.kept hb))
        have hbr := Nat.lt_of_lt_of_le hbz BR.size
        have HPK := Lib.hid (fun W (hb : Below wr.heap.size wr W) => (show W.cell? ⟨b, 0, none⟩ = some (.slice (some ⟨G', o', none⟩) n C) ∧ W.cell? ⟨G', o' + k, none⟩ = some (.slice B1 (ns k) cc1) from ⟨(hb.cell (p := ⟨b, 0, none⟩) hbr).trans c0, (hb.cell (p := ⟨G', o' + k, none⟩) hG').trans p1⟩))
        have HGK := Lib.hid (HG.out.2 k)
        have hsk := HS.out k hkn
        have hnk := HNE.out k
        have hni := nrH_in hsk HSX.out
        obtain ⟨x1, hx1⟩ : ∃ z, bX1 (ns k) (ps k) = z := ⟨_, rfl⟩
        obtain ⟨y1, hy1⟩ : ∃ z, bY1 (ns k) (ps k) = z := ⟨_, rfl⟩
        obtain ⟨x2, hx2⟩ : ∃ z, bX2 (ns k) (ps k) = z := ⟨_, rfl⟩
        obtain ⟨y2, hy2⟩ : ∃ z, bY2 (ns k) (ps k) = z := ⟨_, rfl⟩
        rw [hx1, hy1, hx2, hy2] at HBK hsk
        rw [hx1, hx2] at hnk
        obtain ⟨N, hN⟩ : ∃ z, nK ns ps x k = z := ⟨_, rfl⟩
        obtain ⟨m, hm⟩ : ∃ z, (H k).2 = z := ⟨_, rfl⟩
        obtain ⟨h0, hh0⟩ : ∃ z, (H k).1 = z := ⟨_, rfl⟩
        obtain ⟨dk, hdk⟩ : ∃ z, dK ns ps k = z := ⟨_, rfl⟩
        rw [hN] at HGK hnk
        rw [hdk] at HDK HGK
        have HM := Lib.hid hm
        have HH0 := Lib.hid hh0
        rw [hm, hh0]
        have HSK := Lib.hid hsk
        have HNK := Lib.hid hnk
        clear hx1 hy1 hx2 hy2 hN hm hh0 hdk BR hp1 hsk hnk hni
        go_wp2_with fail
        refine HDK.out.mono ?_
        rintro e w3 ⟨rfl, hb3⟩
        have HB3 := Lib.hid hb3
        obtain ⟨d0, d1⟩ := HPK.out w3 hb3
        clear c0 p1 hb3 HDK
        cases dk with
        | true =>
          have HN2 := Lib.hid (show H (k + 1) = H k by rw [HGK.out, if_neg (fun h => by cases h.1)])
          have HB6 := Lib.hid (HB.out.trans (HB3.out.mono HB.out.size))
          clear HGK d0 d1 HBK HPK
          go_wp2
          go_roundw
          case rel => exact ⟨k + 1, hk1, by go_num, by rw [HN2.out, HH0.out], by rw [HN2.out, HM.out], HB6⟩
          case measure => simp [intOf]; omega
        | false =>
          obtain ⟨p, hp⟩ : ∃ p, c' + 40 = p := ⟨_, rfl⟩
          obtain ⟨q, hq⟩ : ∃ q, a' - 40 = q := ⟨_, rfl⟩
          obtain ⟨mn, hmn⟩ : ∃ m, min p x2 = m := ⟨_, rfl⟩
          obtain ⟨mx, hmx⟩ : ∃ M, max q x1 = M := ⟨_, rfl⟩
          obtain ⟨s, hs⟩ : ∃ s, mn - mx = s := ⟨_, rfl⟩
          have hsN : s + 1 = N := by have := HNK.out; unfold nrH at this; omega
          have hA := HSX.out
          have hB := HSK.out
          unfold smallB at hA hB
          have e1 : IntKind.i64.wrap (c' + 40) = p := ((w64 (x := c' + 40) (by omega)).1).trans hp
          have e2 : IntKind.i64.wrap (a' - 40) = q := ((w64 (x := a' - 40) (by omega)).1).trans hq
          have e3 : IntKind.i64.wrap (mn - mx) = s := ((w64 (x := mn - mx) (by omega)).1).trans hs
          have e4 : IntKind.i64.wrap (s + 1) = N := ((w64 (x := s + 1) (by omega)).1).trans hsN
          have g1 : wrap64 (c' + 40) = p := ((w64 (x := c' + 40) (by omega)).2).trans hp
          have g2 : wrap64 (a' - 40) = q := ((w64 (x := a' - 40) (by omega)).2).trans hq
          have g3 : wrap64 (mn - mx) = s := ((w64 (x := mn - mx) (by omega)).2).trans hs
          have g4 : wrap64 (s + 1) = N := ((w64 (x := s + 1) (by omega)).2).trans hsN
          have HMN := Lib.hid (fun W => min2S p x2 W)
          have HMX := Lib.hid (fun W => max2S q x1 W)
          rw [hmn] at HMN
          rw [hmx] at HMX
          clear hp hq hmn hmx hs hsN hA hB
          go_wp2_with fail
          refine (HBK.out _ HB3.out).mono ?_
          rintro e w4 ⟨rfl, hb4⟩
          have B4 := HB.out.trans (HB3.out.mono HB.out.size)
          have B5 := B4.trans (hb4.mono B4.size)
          obtain ⟨W4, hW4⟩ : ∃ W4, W4 = w4.alloc (.cells #[.int .i64 x1, .int .i64 y1, .int .i64 x2, .int .i64 y2] 90) := ⟨_, rfl⟩
          have BA := below_alloc1 w4 (.cells #[.int .i64 x1, .int .i64 y1, .int .i64 x2, .int .i64 y2] 90)
          have KK := heap_alloc_new w4 (.cells #[.int .i64 x1, .int .i64 y1, .int .i64 x2, .int .i64 y2] 90)
          rw [← hW4] at BA KK
          have HB4 := Lib.hid (B5.trans (BA.mono B5.size))
          have hq := HQ.out W4 HB4.out
          have hp := box_cells KK
          rw [hW4] at hq hp
          obtain ⟨q0, -, q2, -⟩ := hq
          obtain ⟨p0, -, p2, -⟩ := hp
          have HW4 := Lib.hid hW4
          clear hb4 B4 B5 BA KK hW4 HBK HPK d0 d1 HB3
          go_wp2
          go_region_held3 (fun W => W.cell? ⟨w2.heap.size, 0, none⟩ = some (.int .i64 a') ∧ W.cell? ⟨w2.heap.size, 2, none⟩ = some (.int .i64 c') ∧ W.cell? ⟨w4.heap.size, 0, none⟩ = some (.int .i64 x1) ∧ W.cell? ⟨w4.heap.size, 2, none⟩ = some (.int .i64 x2)) (go_keep)
            (first | (go_at_call 82; refine (HMN.out _).mono ?_; rintro e w' ⟨rfl, rfl⟩) | (go_at_call 94; refine (HMX.out _).mono ?_; rintro e w' ⟨rfl, rfl⟩))
          rename_i hh
          have HB6 := Lib.hid HB4.out.drew
          rw [HW4.out] at HB6
          clear hh q0 q2 p0 p2 HW4 HB4 e1 e2 e3 e4 g1 g2 g3 g4 HMN HMX
          by_cases hN0 : (0 : Int) < N
          · have dN0 : decide ((0 : Int) < N) = true := decide_eq_true hN0
            by_cases hge : m ≤ N
            · have HN2 := Lib.hid (show H (k + 1) = ((k : Int), N) by rw [HGK.out, if_pos ⟨by trivial, hN0, by rw [HM.out]; exact hge⟩])
              have dge : decide (m ≤ N) = true := decide_eq_true hge
              clear HGK
              go_wp2
              go_roundw
              case rel => exact ⟨k + 1, hk1, by go_num, by rw [HN2.out], by rw [HN2.out], HB6⟩
              case measure => simp [intOf]; omega
            · have HN2 := Lib.hid (show H (k + 1) = H k by rw [HGK.out, if_neg (fun h => hge (by rw [← HM.out]; exact h.2.2))])
              have dge : decide (m ≤ N) = false := decide_eq_false hge
              clear HGK
              go_wp2
              go_roundw
              case rel => exact ⟨k + 1, hk1, by go_num, by rw [HN2.out, HH0.out], by rw [HN2.out, HM.out], HB6⟩
              case measure => simp [intOf]; omega
          · have dN0 : decide ((0 : Int) < N) = false := decide_eq_false hN0
            have HN2 := Lib.hid (show H (k + 1) = H k by rw [HGK.out, if_neg (fun h => hN0 h.2.1)])
            clear HGK
            go_wp2
            go_roundw
            case rel => exact ⟨k + 1, hk1, by go_num, by rw [HN2.out, HH0.out], by rw [HN2.out, HM.out], HB6⟩
            case measure => simp [intOf]; omega
      · have hxe : k = x := by omega
        have hxn : ¬ (k : Int) < (x : Int) := by omega
        clear hlt
        have HFH := Lib.hid (show homeV ns ps x = (H k).1 by rw [HF.out, hxe])
        subst hxe
        go_wp2
        go_ret
        exact ⟨by rw [HFH.out]; rfl, HBB.out.trans (HB.out.mono hbW)⟩
end Go.Proofs.Ytofgdgdmmlgmnaa.lyt
