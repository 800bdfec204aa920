/-
  Proved: both functions that return the scores of all labels return the same, in memory of their own.
  Conditions: none.
-/
import Derived.Test.YtimkochgnjggdaaScoI
import Derived.Test.YtimkochgnjggdaaInpI
import Derived.Test.YtimkochgnjggdaaPeV
import Derived.Deep.RegionHeld3
import Derived.Deep.DeepCutAuto
namespace Go.Proofs.Ytimkochgnjggdaa.wScoresOf
open Go.ChangeShapes Go.WideShapes Go.ChangeAt Go.RowKit Go.Joins
open Go.Proofs.Ytimkochgnjggdaa.core Go.Proofs.Ytimkochgnjggdaa.rown Go.Proofs.Ytimkochgnjggdaa.stk Go.Proofs.Ytimkochgnjggdaa.boxed Go.Proofs.Ytimkochgnjggdaa.ft Go.Proofs.Ytimkochgnjggdaa.one1 Go.Proofs.Ytimkochgnjggdaa.inp Go.Proofs.Ytimkochgnjggdaa.per Go.Proofs.Ytimkochgnjggdaa.sco
set_option linter.unusedVariables false
set_option linter.unusedSimpArgs false
theorem inX_of {f : Nat → P3} {n : Nat} (h : okF n f = true) : InX (inN f n) := fun j hj => inN_in (okF_of h).1 j
/-- A list of scores, or none, and a code. -/
def Sc (w : World) (m : Nat) (F : Nat → Int) (code : Int) (e : Ending) (w' : World) : Prop :=
  ∃ v, e = .returned (.tuple #[v, .int .i64 code]) ∧ w'.ownsRow w.heap.size 2 1 v m (rws (one F) m) ∧ Below w.heap.size w w'
/-- The box of the perceptron. -/
structure PB (w : World) (u v : Value) (W : World) : Prop where
  below : Below w.heap.size w W
  box : W.heap[w.heap.size]? = some (.cells #[u, v] 38 (0, 0))
theorem PB.start (w : World) (u v : Value) : PB w u v (w.alloc (.cells #[u, v] 38)) := ⟨below_alloc1 _ _, heap_alloc_new _ _⟩
theorem PB.lt {w W : World} {u v : Value} (h : PB w u v W) : w.heap.size < W.heap.size := block_size h.box
theorem PB.kept {w W V : World} {u v : Value} (h : PB w u v W) (hb : Below W.heap.size W V) : PB w u v V := ⟨h.below.trans (hb.mono h.below.size), (hb.block _ h.lt).trans h.box⟩
theorem PB.cells {w W : World} {u v : Value} (h : PB w u v W) : W.cell? ⟨w.heap.size, 0, none⟩ = some u ∧ W.cell? ⟨w.heap.size, 1, none⟩ = some v := ⟨by rw [cell_of_block h.box]; rfl, by rw [cell_of_block h.box]; rfl⟩
abbrev SP (w : World) (u v : Value) (W : World) : Prop := W.cell? ⟨w.heap.size, 0, none⟩ = some u ∧ W.cell? ⟨w.heap.size, 1, none⟩ = some v ∧ PB w u v W
theorem SP_of {w W : World} {u v : Value} (h : PB w u v W) : SP w u v W := ⟨h.cells.1, h.cells.2, h⟩
theorem SP_kept {w W V : World} {u v : Value} (hb : Below W.heap.size W V) (h : SP w u v W) : SP w u v V := SP_of (h.2.2.kept hb)
theorem SP_drew {w W : World} {u v : Value} (h : SP w u v W) : SP w u v W.drew := SP_kept ((Below.refl _ _).drew) h
theorem SP_b {w W : World} {u v : Value} (h : SP w u v W) : Below w.heap.size w W := h.2.2.below
set_option maxRecDepth 100000 in
set_option maxHeartbeats 4000000 in
theorem specSc {c d cf : Nat} (A B L : Option Addr) (n m k : Nat) (s : Nat → ByteArray) (wn : Nat → Nat) (wf : Nat → Nat → Int) (f : Nat → P3) (w : World) (hl : PeL n m s wn) (hp : SsAt w A n s) (hq : WsAt w B m wn wf) (hk : k ≤ 1048576) (hf : PtsAt w L k f) :
    Calls Try.prog 37 #[.agg #[.slice A n c, .slice B m d], .slice L k cf] w (if peB n m s wn wf = true ∧ okF k f = true then Sc w m (scr wf (inN f k)) 0 else Sc w 0 (fun _ => 0) 1) := by
  have HZ := Lib.hid (PB.start w (.slice A n c) (.slice B m d))
  have HO := Lib.hid (okPS (c := c) (d := d) w.heap.size 0 A B n m s wn wf _ HZ.out.lt HZ.out.cells.1 HZ.out.cells.2 hl (hp.kept HZ.out.below) (hq.kept HZ.out.below))
  cases hv : peB n m s wn wf with
  | false =>
    rw [hv] at HO
    rw [if_neg (fun h => by cases h.1)]
    unfold Sc
    clear hl hp hq hf hv
    go_enter Try.func37, Try.ntmps37
    go_wp2_with fail
    refine HO.out.mono ?_
    rintro e w1 ⟨rfl, hb⟩
    have HB := Lib.hid (HZ.out.kept hb).below
    clear hb
    go_wp2
    go_ret2
    exact ⟨.slice none 0 0, rfl, World.ownsRow_nil _ _ _ _, HB.out⟩
  | true =>
    rw [hv] at HO
    have HF := Lib.hid (fun (W : World) (hW : Below w.heap.size w W) => okS (c := cf) L k f W hk (hf.kept hW))
    cases hu : okF k f with
    | false =>
      rw [hu] at HF
      rw [if_neg (fun h => by cases h.2)]
      unfold Sc
      clear hl hp hq hf hv hu
      go_enter Try.func37, Try.ntmps37
      go_wp2_with fail
      refine HO.out.mono ?_
      rintro e w1 ⟨rfl, hb⟩
      have HZ1 := Lib.hid (HZ.out.kept hb)
      clear hb
      go_wp2_with fail
      refine (HF.out _ HZ1.out.below).mono ?_
      rintro e w2 ⟨rfl, hb⟩
      have HB := Lib.hid (HZ1.out.kept hb).below
      clear hb
      go_wp2
      go_ret2
      exact ⟨.slice none 0 0, rfl, World.ownsRow_nil _ _ _ _, HB.out⟩
    | true =>
      rw [hu] at HF
      rw [if_pos ⟨rfl, rfl⟩]
      unfold Sc
      obtain ⟨hlb, hmn, hrows⟩ := pe_iff.1 hv
      have hm12 : m ≤ 12 := by have := hlb.1; omega
      have HI := Lib.hid (fun (W : World) (hW : Below w.heap.size w W) => inputS (c := cf) L k f W (hf.kept hW) hu)
      have HS := Lib.hid (fun (W : World) (b0 : Nat) (X : Option Addr) (hW : Below w.heap.size w W) (hb : b0 < W.heap.size) (c1 : W.cell? ⟨b0, 0 + 1, none⟩ = some (.slice B m d)) (hx : NumAt W X 25 (inN f k)) => scoresS (dx := 25) b0 0 B X m wn wf (inN f k) W hb c1 hm12 hrows (inX_of hu) (hq.kept hW) hx)
      clear hl hp hq hf hv hu hlb hrows hmn
      go_enter Try.func37, Try.ntmps37
      go_wp2_with fail
      refine HO.out.mono ?_
      rintro e w1 ⟨rfl, hb⟩
      have HZ1 := Lib.hid (HZ.out.kept hb)
      clear hb
      go_wp2_with fail
      refine (HF.out _ HZ1.out.below).mono ?_
      rintro e w2 ⟨rfl, hb⟩
      have HZ2 := Lib.hid (HZ1.out.kept hb)
      clear hb
      go_wp2_with fail
      refine (HI.out _ HZ2.out.below).mono ?_
      rintro e w3 ⟨g, rfl, ho, hb⟩
      have HZ3 := Lib.hid (HZ2.out.kept hb)
      have HX := Lib.hid (num_row ho)
      clear ho hb
      go_wp2_with fail
      refine (HS.out _ _ _ HZ3.out.below HZ3.out.lt HZ3.out.cells.2 HX.out).mono ?_
      rintro e w4 ⟨v, rfl, ho, hb⟩
      have HR := Lib.hid (row_low ho HZ3.out.below.size)
      have HB := Lib.hid (HZ3.out.kept hb).below
      clear ho hb
      go_wp2
      go_ret2
      exact ⟨v, rfl, HR.out, HB.out⟩
set_option maxRecDepth 100000 in
set_option maxHeartbeats 4000000 in
theorem implSc {c d cf : Nat} (A B L : Option Addr) (n m k : Nat) (s : Nat → ByteArray) (wn : Nat → Nat) (wf : Nat → Nat → Int) (f : Nat → P3) (w : World) (hl : PeL n m s wn) (hp : SsAt w A n s) (hq : WsAt w B m wn wf) (hk : k ≤ 1048576) (hf : PtsAt w L k f) :
    Calls Try.prog 38 #[.agg #[.slice A n c, .slice B m d], .slice L k cf] w (if peB n m s wn wf = true ∧ okF k f = true then Sc w m (scr wf (inN f k)) 0 else Sc w 0 (fun _ => 0) 1) := by
  have HZ := Lib.hid (PB.start w (.slice A n c) (.slice B m d))
  have HO := Lib.hid (validPI (c := c) (d := d) A B n m s wn wf (w.alloc (.cells #[.slice A n c, .slice B m d] 38)) hl (hp.kept HZ.out.below) (hq.kept HZ.out.below))
  cases hv : peB n m s wn wf with
  | false =>
    rw [hv] at HO
    rw [if_neg (fun h => by cases h.1)]
    unfold Sc
    clear hl hp hq hf hv
    go_enter Try.func38, Try.ntmps38
    go_wp2_with fail
    refine HO.out.mono ?_
    rintro e w1 ⟨rfl, hb⟩
    have HB := Lib.hid (HZ.out.kept hb).below
    clear hb
    go_wp2
    go_ret2
    exact ⟨.slice none 0 0, rfl, World.ownsRow_nil _ _ _ _, HB.out⟩
  | true =>
    rw [hv] at HO
    have HF := Lib.hid (fun (W : World) (hW : Below w.heap.size w W) => okI (c := cf) L k f W hk (hf.kept hW))
    cases hu : okF k f with
    | false =>
      rw [hu] at HF
      rw [if_neg (fun h => by cases h.2)]
      unfold Sc
      clear hl hp hq hf hv hu
      go_enter Try.func38, Try.ntmps38
      go_wp2_with fail
      refine HO.out.mono ?_
      rintro e w1 ⟨rfl, hb⟩
      have HZ1 := Lib.hid (HZ.out.kept hb)
      clear hb
      go_wp2_with fail
      refine (HF.out _ HZ1.out.below).mono ?_
      rintro e w2 ⟨rfl, hb⟩
      have HB := Lib.hid (HZ1.out.kept hb).below
      clear hb
      go_wp2
      go_ret2
      exact ⟨.slice none 0 0, rfl, World.ownsRow_nil _ _ _ _, HB.out⟩
    | true =>
      rw [hu] at HF
      rw [if_pos ⟨rfl, rfl⟩]
      unfold Sc
      obtain ⟨hlb, hmn, hrows⟩ := pe_iff.1 hv
      have hm12 : m ≤ 12 := by have := hlb.1; omega
      have HI := Lib.hid (fun (W : World) (hW : Below w.heap.size w W) => (inputI (c := cf) L k f W (hf.kept hW) hu).mono (fun e w' h => (h.elim fun g h => ⟨g, h.1, num_row h.2.1, h.2.2⟩ : ∃ g, e = .returned (.slice (some ⟨g, 0, none⟩) 25 25) ∧ NumAt w' (some ⟨g, 0, none⟩) 25 (inN f k) ∧ Below W.heap.size W w')))
      have HS := Lib.hid (fun (W : World) (X : Option Addr) (hW : Below w.heap.size w W) (hx : NumAt W X 25 (inN f k)) => scoresI (c := c) (d := d) (dx := 25) A B X n m wn wf (inN f k) W hm12 hrows (inX_of hu) (hq.kept hW) hx)
      generalize inN f k = x at *
      generalize scr wf x = F at *
      clear hl hp hq hf hv hu hlb hrows hmn
      go_enter Try.func38, Try.ntmps38
      go_wp2_with fail
      refine HO.out.mono ?_
      rintro e w1 ⟨rfl, hb⟩
      have HZ1 := Lib.hid (HZ.out.kept hb)
      clear hb
      go_wp2_with fail
      refine (HF.out _ HZ1.out.below).mono ?_
      rintro e w2 ⟨rfl, hb⟩
      have HZ2 := Lib.hid (HZ1.out.kept hb)
      clear hb
      have hk : SP w (.slice A n c) (.slice B m d) w2 := SP_of HZ2.out
      go_upto_region 3 with fail
      go_region_held3 (fun W => W.cell? ⟨w.heap.size, 0, none⟩ = some (.slice A n c) ∧ W.cell? ⟨w.heap.size, 1, none⟩ = some (.slice B m d) ∧ PB w (.slice A n c) (.slice B m d) W) (first | assumption | exact SP_drew hk | go_keep) (first
        | (go_at_call 61; (with_reducible refine (HI.out _ (SP_b (by first | assumption | exact SP_drew hk))).mono ?_); rintro e wa ⟨g, rfl, hxa, hba⟩; have hk2 := SP_kept hba (by first | assumption | exact SP_drew hk))
        | (go_at_call 81; (with_reducible refine (HS.out _ _ (SP_b (by assumption)) (by assumption)).mono ?_); rintro e wd ⟨v, rfl, hod, hbd⟩; have hk3 := SP_kept hbd (by assumption)))
      all_goals
        have HR := Lib.hid (row_low hod (SP_b (by assumption)).size)
        have HB := Lib.hid (SP_b hk3)
        go_wp2
        go_ret2
        exact ⟨v, rfl, HR.out, HB.out⟩
theorem dot_i {f x : Nat → Int} (hf : ∀ j, j < 25 → InW (f j)) (hx : InX x) : inI64 (dot f x 25) := by
  have := dot_in hf hx 25 (Nat.le_refl _)
  unfold inI64
  omega
theorem fin1 {K : FuncId} {args : Array Value} {m : Nat} {w : World} {F : Nat → Int} {code : Int} (h : Calls Try.prog K args w (Sc w m F code)) (hF : ∀ i, i < m → inI64 (F i)) :
    Calls Try.prog K args w fun e W' => ∃ xs : Nat → Value, e = .returned (.tuple #[xs 0, .int .i64 code]) ∧ OwnRec W' 1 xs (datRows m 1 (fun i _ => F i)) (iv w.heap.size W'.heap.size) ∧ Below w.heap.size w W' :=
  fin (T := fun v => .tuple #[v, .int .i64 code]) (one_len _) (fun i j hj => one_get F i j hj) (fun i j hi _ => hF i hi) h
theorem ty_of (n : Nat) (f : Nat → Nat → Int) : tyrInt64S (datRows n 1 f) := ⟨n, _, rfl, fun i _ => ⟨_, rfl⟩⟩
theorem meat (vs0 : Nat → Value) (g0 : Nat → Dat) (vs1 : Nat → Value) (g1 : Nat → Dat) (ht0 : tyrPerceptron g0) (ht1 : tyrFeatS g1) :
    costRec 2 g0 ≤ 1048576 → costRec 1 g1 ≤ 1048576 → ∃ (R : Nat → Dat) (r1 : Int), tyrInt64S R ∧ cntRec 1 R ≤ 100000000000 ∧ (∀ (W : World) (us0 : Nat → Value) (us1 : Nat → Value), ReadsRec W 2 us0 g0 → ReadsRec W 1 us1 g1 → (∃ (A : Option Addr) (n c : Nat), us1 0 = .slice A n c ∧ n ≤ c) → Calls Try.prog 37 #[.agg #[us0 0, us0 1], us1 0] W fun e W' => ∃ xs : Nat → Value, e = .returned (.tuple #[xs 0, .int .i64 r1]) ∧ OwnRec W' 1 xs R (iv W.heap.size W'.heap.size) ∧ Below W.heap.size W W') ∧ (∀ (W : World) (us0 : Nat → Value) (us1 : Nat → Value), ReadsRec W 2 us0 g0 → ReadsRec W 1 us1 g1 → (∃ (A : Option Addr) (n c : Nat), us1 0 = .slice A n c ∧ n ≤ c) → Calls Try.prog 38 #[.agg #[us0 0, us0 1], us1 0] W fun e W' => ∃ xs : Nat → Value, e = .returned (.tuple #[xs 0, .int .i64 r1]) ∧ OwnRec W' 1 xs R (iv W.heap.size W'.heap.size) ∧ Below W.heap.size W W') := by
  intro hq hq'
  by_cases hv : peB (peN g0) (peM g0) (peS g0) (peW g0) (peF g0) = true ∧ okF (ftN g1) (ftF g1) = true
  · have hpe := pe_iff.1 hv.1
    have hF : ∀ i, i < peM g0 → inI64 (scr (peF g0) (inN (ftF g1) (ftN g1)) i) := fun i hi => dot_i (hpe.2.2 i hi).2 (inX_of hv.2)
    refine ⟨datRows (peM g0) 1 (fun i _ => scr (peF g0) (inN (ftF g1) (ftN g1)) i), 0, ty_of _ _, Nat.le_trans (datRows_cnt _ _ _) (by have := hpe.1.1; have := hpe.2.1; omega), fun W us us' h h' _ => ?_, fun W us us' h h' _ => ?_⟩
    · obtain ⟨A, c, B, d, e0, e1, -, -, hl, hp, hp'⟩ := reads_per h ht0 hq
      obtain ⟨L, cf, e, hn, hf⟩ := reads_fts h' ht1 hq'
      rw [e0, e1, e]
      have := specSc (c := c) (d := d) (cf := cf) A B L _ _ _ _ _ _ _ W hl hp hp' hn hf
      rw [if_pos hv] at this
      exact fin1 this hF
    · obtain ⟨A, c, B, d, e0, e1, -, -, hl, hp, hp'⟩ := reads_per h ht0 hq
      obtain ⟨L, cf, e, hn, hf⟩ := reads_fts h' ht1 hq'
      rw [e0, e1, e]
      have := implSc (c := c) (d := d) (cf := cf) A B L _ _ _ _ _ _ _ W hl hp hp' hn hf
      rw [if_pos hv] at this
      exact fin1 this hF
  · refine ⟨datRows 0 1 (fun i _ => (fun _ => 0) i), 1, ty_of _ _, Nat.le_trans (datRows_cnt _ _ _) (by omega), fun W us us' h h' _ => ?_, fun W us us' h h' _ => ?_⟩
    · obtain ⟨A, c, B, d, e0, e1, -, -, hl, hp, hp'⟩ := reads_per h ht0 hq
      obtain ⟨L, cf, e, hn, hf⟩ := reads_fts h' ht1 hq'
      rw [e0, e1, e]
      have := specSc (c := c) (d := d) (cf := cf) A B L _ _ _ _ _ _ _ W hl hp hp' hn hf
      rw [if_neg hv] at this
      exact fin1 this (fun i hi => absurd hi (by omega))
    · obtain ⟨A, c, B, d, e0, e1, -, -, hl, hp, hp'⟩ := reads_per h ht0 hq
      obtain ⟨L, cf, e, hn, hf⟩ := reads_fts h' ht1 hq'
      rw [e0, e1, e]
      have := implSc (c := c) (d := d) (cf := cf) A B L _ _ _ _ _ _ _ W hl hp hp' hn hf
      rw [if_neg hv] at this
      exact fin1 this (fun i hi => absurd hi (by omega))
end Go.Proofs.Ytimkochgnjggdaa.wScoresOf
