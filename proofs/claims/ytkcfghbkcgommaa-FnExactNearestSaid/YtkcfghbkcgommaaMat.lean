/-
  Proved: the list of the matches of a store, as the document's function returns it.
  Conditions: the store and the sequence are valid.
-/
import Derived.Test.YtkcfghbkcgommaaStoV
import Derived.Test.YtkcfghbkcgommaaNearS
import Derived.Test.YtkcfghbkcgommaaHp
namespace Go.Proofs.Ytkcfghbkcgommaa.mat
open Go.ChangeShapes Go.WideShapes Go.ChangeAt Go.RowKit Go.Joins
open Go.Proofs.Ytkcfghbkcgommaa.core Go.Proofs.Ytkcfghbkcgommaa.rown Go.Proofs.Ytkcfghbkcgommaa.stk Go.Proofs.Ytkcfghbkcgommaa.boxed Go.Proofs.Ytkcfghbkcgommaa.ft Go.Proofs.Ytkcfghbkcgommaa.seq Go.Proofs.Ytkcfghbkcgommaa.tab Go.Proofs.Ytkcfghbkcgommaa.env Go.Proofs.Ytkcfghbkcgommaa.lab Go.Proofs.Ytkcfghbkcgommaa.sto Go.Proofs.Ytkcfghbkcgommaa.revQ
set_option linter.unusedVariables false
set_option linter.unusedSimpArgs false
/-- One pair more. -/
def apd (s : Nat × (Nat → P2)) (p : P2) : Nat × (Nat → P2) := (s.1 + 1, put2 s.2 s.1 p)
/-- The matches of the first templates: how many, and which ones. -/
def mst (na : Nat) (fa : Nat → P3) (ln : Nat → Nat) (lf : Nat → Nat → P3) (band : Int) : Nat → Nat × (Nat → P2)
  | 0 => (0, fun _ => (0, 0))
  | i + 1 => if takes na ln band i = true then apd (mst na fa ln lf band i) ((i : Int), costL na fa ln lf band i) else mst na fa ln lf band i
theorem mst_le (na : Nat) (fa : Nat → P3) (ln : Nat → Nat) (lf : Nat → Nat → P3) (band : Int) : ∀ i, (mst na fa ln lf band i).1 ≤ i
  | 0 => Nat.le_refl _
  | i + 1 => by
    have := mst_le na fa ln lf band i
    unfold mst
    split
    · show _ + 1 ≤ _; omega
    · omega
theorem rws_apd (s : Nat × (Nat → P2)) (p : P2) : rws (sp2 (apd s p).2) (apd s p).1 = rws (sp2 s.2) s.1 ++ [.int .i64 p.1, .int .i64 p.2] := by
  show rws (sp2 (put2 s.2 s.1 p)) (s.1 + 1) = _
  rw [rws_succ]
  congr 1
  · refine rws_congr _ fun i hi => ?_
    unfold sp2 put2
    rw [if_neg (by omega)]
  · unfold sp2 put2
    rw [if_pos rfl]
theorem mixedR : Try.prog.follows .mixedOrders = true := by kernel_rfl
theorem infoM : (Try.prog.info? 101).map (fun i => (i.zero, i.size, i.bytes)) = some (some (.agg #[.int .i64 0, .int .i64 0]), 2, 16) := by kernel_rfl
/-- The cells that are read, and that nothing of the first world has turned. -/
abbrev S3 (w1 : World) (b o g p : Nat) (v0 v1 v2 : Value) (W : World) : Prop := W.cell? ⟨b, o, none⟩ = some v0 ∧ W.cell? ⟨b, o + 1, none⟩ = some v1 ∧ W.cell? ⟨g, p, none⟩ = some v2 ∧ b < W.heap.size ∧ g < W.heap.size ∧ Below w1.heap.size w1 W
theorem S3_of {w1 W : World} {b o g p : Nat} {v0 v1 v2 : Value} (hb : b < w1.heap.size) (hg : g < w1.heap.size) (c0 : w1.cell? ⟨b, o, none⟩ = some v0) (c1 : w1.cell? ⟨b, o + 1, none⟩ = some v1) (c2 : w1.cell? ⟨g, p, none⟩ = some v2) (hB : Below w1.heap.size w1 W) : S3 w1 b o g p v0 v1 v2 W :=
  ⟨(hB.cell (p := ⟨b, o, none⟩) hb).trans c0, (hB.cell (p := ⟨b, o + 1, none⟩) hb).trans c1, (hB.cell (p := ⟨g, p, none⟩) hg).trans c2, Nat.lt_of_lt_of_le hb hB.size, Nat.lt_of_lt_of_le hg hB.size, hB⟩
set_option maxRecDepth 100000 in
set_option maxHeartbeats 16000000 in
theorem matchesS {c ca : Nat} (b o : Nat) (band : Int) (T A : Option Addr) (n na : Nat) (lb : Nat → ByteArray) (ln : Nat → Nat) (lf : Nat → Nat → P3) (fa : Nat → P3) (w : World) (hb : b < w.heap.size) (c0 : w.cell? ⟨b, o, none⟩ = some (.int .i64 band)) (c1 : w.cell? ⟨b, o + 1, none⟩ = some (.slice T n c)) (hst : StOk band n lb ln lf) (va : okQ na fa = true) (hp : TsAt w T n lb ln lf) (pa : PtsAt w A na fa) :
    Calls Try.prog 72 #[.pointer (some ⟨b, o, none⟩), .slice A na ca] w fun e w' => ∃ (g d : Nat), e = .returned (.slice (some ⟨g, 0, none⟩) (mst na fa ln lf band n).1 d) ∧ w'.ownsRow w.heap.size 101 2 (.slice (some ⟨g, 0, none⟩) (mst na fa ln lf band n).1 d) (mst na fa ln lf band n).1 (rws (sp2 (mst na fa ln lf band n).2) (mst na fa ln lf band n).1) ∧ Below w.heap.size w w' := by
  obtain ⟨i0, hi0, hz0, hz1, hz2⟩ := rown.info_get infoM
  obtain ⟨hbd, hn40, vl⟩ := hst
  have a2 := (okQ_of va).2.1
  have vl' : ∀ i, i < n → okQ (ln i) (lf i) = true := fun i hi => by
    have := vl i hi
    unfold tmB at this
    rw [Bool.and_eq_true] at this
    exact this.2
  have HL := Lib.hid (fun W Ai ci i (hi : i < n) hA hB => leastS (ca := ca) (cb := ci) A Ai na (ln i) fa (lf i) band W hA hB va (vl' i hi))
  have HLN := Lib.hid (fun i (hi : i < n) => (okQ_of (vl' i hi)).2.1)
  have HT := Lib.hid (show ∀ i, bandOk (na : Int) (ln i : Int) band = takes na ln band i from fun _ => rfl)
  have HCC := Lib.hid (show ∀ i, leastE na (ln i) fa (lf i) band = costL na fa ln lf band i from fun _ => rfl)
  have HPL := Lib.hid (mst_le na fa ln lf band)
  obtain ⟨G, hG⟩ : ∃ G, mst na fa ln lf band = G := ⟨_, rfl⟩
  have HG := Lib.hid (show G 0 = (0, fun _ => (0, 0)) ∧ ∀ i, G (i + 1) = if takes na ln band i = true then apd (G i) ((i : Int), costL na fa ln lf band i) else G i by rw [← hG]; exact ⟨rfl, fun _ => rfl⟩)
  rw [hG] at HPL ⊢
  have HP := Lib.hid hp
  have HPA := Lib.hid pa
  have C0 := Lib.hid c0
  have C1 := Lib.hid c1
  clear hG va vl vl' hbd hp pa c0 c1
  go_enter Try.func72, Try.ntmps72
  go_wp2
  go_loopw [5, 6] (fun out i w' => ∃ (x L D d : Nat), x ≤ n ∧ L ≤ x ∧ i = .int .i64 (x : Int) ∧ out = .slice (some ⟨D, 0, none⟩) L d ∧ Hid ((G x).1 = L) ∧ Hid (w'.ownsRow w.heap.size 101 2 (.slice (some ⟨D, 0, none⟩) L d) L (rws (sp2 (G x).2) L)) ∧ Hid (Below w.heap.size w w')) (fun _ i _ => n - (intOf i).toNat)
  case atStart => exact ⟨0, 0, _, _, Nat.zero_le _, Nat.le_refl _, rfl, rfl, Lib.hid (by rw [HG.out.1]), Lib.hid (rown.empty_row w 101 2), Lib.hid (below_alloc1 w (.cells #[] 101))⟩
  case round =>
    obtain ⟨x, L, D, d, hx, hLx, rfl, rfl, HLL, HO, HB⟩ := hrel
    have s0 := (HB.out.cell (p := ⟨b, o, none⟩) hb).trans C0.out
    have s1 := (HB.out.cell (p := ⟨b, o + 1, none⟩) hb).trans C1.out
    have hbr := Nat.lt_of_lt_of_le hb HB.out.size
    by_cases hlt : x < n
    · have hli : (x : Int) < (n : Int) := by omega
      have hx1 : x + 1 ≤ n := by omega
      have hms : n - (x + 1) < n - x := by omega
      have hL1 : L ≤ x + 1 := by omega
      have hL2 : L + 1 ≤ x + 1 := by omega
      have hL40 : L ≤ 40 := by omega
      obtain ⟨g, og, Ai, ci, rfl, hg, -, q1, hq⟩ := HP.out x hlt
      have HS3 := Lib.hid (fun (W : World) (hB : Below w.heap.size w W) => S3_of hb hg C0.out C1.out q1 hB)
      have p1 := (HB.out.cell (p := ⟨g, og + x * 2 + 1, none⟩) hg).trans q1
      have hgr' := Nat.lt_of_lt_of_le hg HB.out.size
      have HI := Lib.hid (fun W => inS (ca := ca) (cb := ci) A Ai na (ln x) band W (by omega) (by have := HLN.out x hlt; omega))
      have HHq := Lib.hid hq
      have H1 := Lib.hid (fun (W : World) (hB : Below w.heap.size w W) => HL.out W Ai ci x hlt (HPA.out.kept hB) (HHq.out.kept hB))
      have HGX := Lib.hid (HG.out.2 x)
      rw [HT.out x] at HI
      rw [HCC.out x] at H1
      clear hq q1 hlt hLx
      generalize costL na fa ln lf band x = v at *
      generalize takes na ln band x = t at *
      generalize ln x = q at *
      have s0k := cell_kept hbr s0
      have s1k := cell_kept hbr s1
      have p1k := cell_kept hgr' p1
      have hmix := mixedR
      go_wp2
      refine wp_region_quiet_kept (by assumption) (by kernel_rfl) ?_
      repeat (first | go_big_quiet_step ((go_at_call 93; exact Calls.kept_of (still_b (HI.out _)))) | quiet_step ((go_at_call 93; exact Calls.kept_of (still_b (HI.out _)))))
      refine wpQuiet_nil ?_
      intro w2 hw'
      have hB : Below wr.heap.size wr w2 := by obtain ⟨⟨wk, hb0⟩, hw''⟩ := hw'; rw [hw'']; exact hb0
      have HB2 := Lib.hid (HB.out.trans (hB.mono HB.out.size))
      have HO2 := Lib.hid (rown.ownsRow_kept HO.out hB)
      clear hw' hB s0k s1k p1k s0 s1 p1 hmix HB HO HI hbr hgr'
      cases t with
      | false =>
        have HN := Lib.hid (show G (x + 1) = G x by rw [HGX.out]; rfl)
        clear HGX H1
        go_wp2
        go_roundw
        case rel => exact ⟨x + 1, L, D, d, hx1, hL1, by go_num, rfl, Lib.hid (by rw [HN.out]; exact HLL.out), Lib.hid (by rw [HN.out]; exact HO2.out), HB2⟩
        case measure => simp [intOf]; omega
      | true =>
        have HN := Lib.hid (show G (x + 1) = apd (G x) ((x : Int), v) by rw [HGX.out]; rfl)
        have HNL := Lib.hid (show (G (x + 1)).1 = L + 1 by rw [HN.out]; show (G x).1 + 1 = _; rw [HLL.out])
        have HNR := Lib.hid (show rws (sp2 (G (x + 1)).2) (L + 1) = rws (sp2 (G x).2) L ++ [.int .i64 (x : Int), .int .i64 v] by have := rws_apd (G x) ((x : Int), v); rw [← HN.out, HNL.out, HLL.out] at this; exact this)
        have Z3 := Lib.hid (show L + 1 ≤ maxLen by simp only [maxLen]; omega)
        have Z4 := Lib.hid (show (L + 1) * 16 ≤ 140737488355328 by omega)
        clear HGX
        have hk := HS3.out _ HB2.out
        have hkd := HS3.out _ HB2.out.drew
        have HOd := Lib.hid (rown.ownsRow_kept HO2.out (Below.refl w2.heap.size w2).drew)
        obtain ⟨s0, s1, p1, hbr, hgr', -⟩ := id hk
        go_wp2
        go_region_held3 (fun W => W.cell? ⟨b, o, none⟩ = some (.int .i64 band) ∧ W.cell? ⟨b, o + 1, none⟩ = some (.slice (some ⟨g, og, none⟩) n c) ∧ W.cell? ⟨g, og + x * 2 + 1, none⟩ = some (.slice Ai q ci) ∧ b < W.heap.size ∧ g < W.heap.size ∧ Below w.heap.size w W) (first | assumption | exact hkd | exact HS3.out _ (HBC.out.alloc HBC.out.size _) | go_keep)
          (first
            | (go_at_call 94; (with_reducible refine (H1.out _ (by first | exact (by assumption : S3 _ _ _ _ _ _ _ _ _).2.2.2.2.2 | exact hkd.2.2.2.2.2)).mono ?_); rintro e wc ⟨rfl, hbc⟩; have HBC := Lib.hid (HB2.out.drew.trans (hbc.mono HB2.out.drew.size)); have hkc := HS3.out _ HBC.out; have HOC := Lib.hid (rown.ownsRow_kept HOd.out hbc))
            | (refine step_append_lies _ (by rfl) (.tmp 31) (.tmp 48) _ (by rfl) w.heap.size 101 i0 _ 2 16 Try.underlying57 hi0 hz0 hz1 hz2 rfl (by decide) (.slice (some ⟨D, 0, none⟩) L d) L _ (by rfl) (rown.ownsRow_kept HOC.out (below_alloc1 _ _)) ⟨wc.heap.size, 0, none⟩ 1 1 [.int .i64 (x : Int), .int .i64 v] (by rfl) rfl (two_new rfl) (by simp [Value.oneCell']) (by decide) Z3.out Z4.out (Nat.le_trans HBC.out.size (by simp)) _ rfl ?_; intro g3 cap3 w5 hown hgr hat hlt3; have HO5 := Lib.hid hown; have HB5 := Lib.hid (HBC.out.trans (rown.under HOC.out HBC.out.size hgr)); have hk5 := HS3.out _ HB5.out; clear hown hgr hat))
        all_goals
          clear s0 s1 p1 hk hkd
          go_wp2
          go_roundw
          case rel => exact ⟨x + 1, L + 1, g3, cap3, hx1, hL2, by go_num, rfl, HNL, Lib.hid (by rw [HNR.out]; exact HO5.out), HB5⟩
          case measure => simp [intOf]; omega
    · have hxe : x = n := by omega
      clear hlt
      subst hxe
      go_wp2
      go_ret
      exact ⟨D, d, by rw [HLL.out]; rfl, by rw [HLL.out]; exact HO.out, HB.out⟩
end Go.Proofs.Ytkcfghbkcgommaa.mat
