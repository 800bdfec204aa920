/-
  Proved: both functions return the same sum of the turns of a stroke.
  Conditions: the table of directions holds what the program's text lays in it.
-/
import Derived.Test.YtmpiijnhbeipiaaDoorDirJ
import Derived.Test.YtmpiijnhbeipiaaDoorBend
namespace Go.Proofs.YtmpiijnhbeipiaaDoor.wBendOf
open Go.ChangeShapes Go.WideShapes Go.ChangeAt Go.RowKit Go.Joins
open Go.Proofs.YtmpiijnhbeipiaaDoor.core Go.Proofs.YtmpiijnhbeipiaaDoor.geoM Go.Proofs.YtmpiijnhbeipiaaDoor.stk Go.Proofs.YtmpiijnhbeipiaaDoor.seg Go.Proofs.YtmpiijnhbeipiaaDoor.side Go.Proofs.YtmpiijnhbeipiaaDoor.all Go.Proofs.YtmpiijnhbeipiaaDoor.lenS Go.Proofs.YtmpiijnhbeipiaaDoor.segs Go.Proofs.YtmpiijnhbeipiaaDoor.lenI Go.Proofs.YtmpiijnhbeipiaaDoor.dirl Go.Proofs.YtmpiijnhbeipiaaDoor.bend
set_option linter.unusedVariables false
set_option linter.unusedSimpArgs false
def nth (L : List Int) (i : Nat) : Int := L[i]?.getD 0
def sumB (f : Nat → Int) : Nat → Int
  | 0 => 0
  | k + 1 => sumB f k + turnB (f k) (f (k + 1))
theorem sumB_rng (f : Nat → Int) : ∀ k : Nat, -(4 * (k : Int)) ≤ sumB f k ∧ sumB f k ≤ 4 * (k : Int)
  | 0 => ⟨by simp [sumB], by simp [sumB]⟩
  | k + 1 => by
    have := sumB_rng f k
    have h := turnB_rng (f k) (f (k + 1))
    unfold sumB
    omega
theorem nth_rng {L : List Int} (h : ∀ x ∈ L, 0 ≤ x ∧ x ≤ 7) (i : Nat) (hi : i < L.length) : 0 ≤ nth L i ∧ nth L i ≤ 7 := by
  unfold nth
  rw [List.getElem?_eq_getElem hi]
  exact h _ (List.getElem_mem hi)
theorem ints_of_row {w : World} {base m d : Nat} {B : Option Addr} {L : List Int} (hm : m = L.length) (h : w.ownsRow base 2 1 (.slice B m d) m (L.map (Value.int .i64))) (hr : ∀ x ∈ L, 0 ≤ x ∧ x ≤ 7) : dir.IntsAt w B m (nth L) := fun i hi => by
  obtain ⟨_, h'⟩ := id h
  rcases h' with ⟨_, hm'⟩ | ⟨g, cap, cur, hv, _⟩
  · omega
  · injection hv with hv
    subst hv
    obtain ⟨_, cur', hb⟩ := ownsRow_block h (g := g) rfl
    have hl : i < L.length := by omega
    have hx := nth_rng hr i hl
    have := h.cells (g := g) rfl i (.int .i64 (nth L i)) (by rw [List.getElem?_map, nth, List.getElem?_eq_getElem hl]; rfl)
    rw [add_at] at this
    exact ⟨g, 0, rfl, (Array.getElem?_eq_some_iff.1 hb).1, by rw [Nat.zero_add]; exact this, by unfold inI64; omega⟩
set_option maxRecDepth 100000 in
set_option maxHeartbeats 2000000 in
theorem spec_no {c : Nat} (A : Option Addr) (n : Nat) (pts : Nat → P3) (w : World) (hcap : n ≤ 1048576) (hp : PtsAt w A n pts) (hv : vS n pts = false) :
    Calls Tryd.prog 18 #[.agg #[.slice A n c]] w fun e w' => e = .returned (.tuple #[.int .i64 0, .int .i64 1]) ∧ Below w.heap.size w w' := by
  have B0 := Lib.hid (below_alloc1 w (.cells #[.slice A n c] 34))
  have HS := Lib.hid (l02Stroke_calls (c := c) (o := 0) A w.heap.size n pts (w.alloc (.cells #[.slice A n c] 34)) hcap (by simp) (by simp) (hp.kept B0.out))
  rw [hv] at HS
  clear hp hv
  go_enter Tryd.func18, Tryd.ntmps18
  go_wp2_with fail
  refine HS.out.mono ?_
  rintro e w1 ⟨rfl, hb1⟩
  have B1 := Lib.hid (B0.out.trans (hb1.mono B0.out.size))
  clear hb1 HS
  go_wp2
  go_ret2
  exact ⟨rfl, B1.out⟩
set_option maxRecDepth 100000 in
set_option maxHeartbeats 2000000 in
theorem impl_no {c : Nat} (A : Option Addr) (n : Nat) (pts : Nat → P3) (w : World) (hcap : n ≤ 1048576) (hp : PtsAt w A n pts) (hv : vS n pts = false) :
    Calls Tryd.prog 19 #[.agg #[.slice A n c]] w fun e w' => e = .returned (.tuple #[.int .i64 0, .int .i64 1]) ∧ Below w.heap.size w w' := by
  have B0 := Lib.hid (below_alloc1 w (.cells #[.slice A n c] 34))
  have HS := Lib.hid (implValid_calls (c := c) A n pts (w.alloc (.cells #[.slice A n c] 34)) hcap (hp.kept B0.out))
  rw [hv] at HS
  clear hp hv
  go_enter Tryd.func19, Tryd.ntmps19
  go_wp2_with fail
  refine HS.out.mono ?_
  rintro e w1 ⟨rfl, hb1⟩
  have B1 := Lib.hid (B0.out.trans (hb1.mono B0.out.size))
  clear hb1 HS
  go_wp2
  go_ret2
  exact ⟨rfl, B1.out⟩
set_option maxRecDepth 100000 in
set_option maxHeartbeats 4000000 in
theorem spec_yes {c : Nat} (A : Option Addr) (n : Nat) (pts : Nat → P3) (w : World) (hcap : n ≤ 1048576) (hp : PtsAt w A n pts) (hv : vS n pts = true) :
    Calls Tryd.prog 18 #[.agg #[.slice A n c]] w fun e w' => e = .returned (.tuple #[.int .i64 (sumB (nth (dirsL pts (n - 1))) ((dirsL pts (n - 1)).length - 1)), .int .i64 0]) ∧ Below w.heap.size w w' := by
  obtain ⟨h1, h60, -⟩ := vS_of hv
  have hr := vS_rg hv
  have B0 := Lib.hid (below_alloc1 w (.cells #[.slice A n c] 34))
  have HS := Lib.hid (l02Stroke_calls (c := c) (o := 0) A w.heap.size n pts (w.alloc (.cells #[.slice A n c] 34)) hcap (by simp) (by simp) (hp.kept B0.out))
  rw [hv] at HS
  have HP := Lib.hid (hp.kept B0.out)
  have HR := Lib.hid hr
  have hm := dir.mixedO
  clear hp hv hr
  go_enter Tryd.func18, Tryd.ntmps18
  go_wp2_with fail
  refine HS.out.mono ?_
  rintro e w1 ⟨rfl, hb1⟩
  have c0 := (hb1.cell (p := ⟨w.heap.size, 0, none⟩) (by simp)).trans (show _ = some (.slice A n c) by simp)
  have z1 : w.heap.size < w1.heap.size := by have := hb1.size; simp at this; omega
  have B1 := Lib.hid (B0.out.trans (hb1.mono B0.out.size))
  have HP1 := Lib.hid (HP.out.kept hb1)
  clear hb1 HS HP
  go_wp2_with fail
  refine (dirl.spec_calls (c := c) (o := 0) A w.heap.size n pts w1 h1 h60 HR.out z1 c0 HP1.out).mono ?_
  rintro e w2 ⟨B, d, m, hml, rfl, hown, hb2⟩
  have B2 := Lib.hid (B1.out.trans (hb2.mono B1.out.size))
  have hlen := dirsL_len pts (n - 1)
  have HRG := Lib.hid (fun i (hi : i < m) => nth_rng (dirsL_rng pts (n - 1)) i (hml ▸ hi))
  have HI := Lib.hid (ints_of_row hml hown (dirsL_rng pts (n - 1)))
  rw [← hml] at hlen
  have HML := Lib.hid hml
  have hm60 : m ≤ 60 := by omega
  obtain ⟨f, hf⟩ : ∃ f, nth (dirsL pts (n - 1)) = f := ⟨_, rfl⟩
  rw [hf] at HRG HI
  have HF := Lib.hid hf
  clear hf
  clear hb2 c0 hml hown hlen HP1 h1 h60 z1
  go_wp2
  go_loopw [5, 6] (fun s i w' => ∃ k : Nat, (k = 0 ∨ k + 1 ≤ m) ∧ i = .int .i64 ((k + 1 : Nat) : Int) ∧ s = .int .i64 (sumB f k) ∧ Hid (Below w2.heap.size w2 w')) (fun _ i _ => m - (intOf i).toNat)
  case atStart => exact ⟨0, .inl rfl, rfl, rfl, Lib.hid (Below.refl _ _)⟩
  case round =>
    obtain ⟨k, hk, rfl, rfl, HB⟩ := hrel
    by_cases hlt : k + 1 < m
    · obtain ⟨g, o', rfl, hg, p0, -⟩ := HI.out k (by omega)
      obtain ⟨g2, o2, e2, -, q0, -⟩ := HI.out (k + 1) hlt
      injection e2 with e2
      injection e2 with e2 e3
      subst e2 e3
      have r1 := HRG.out k (by omega)
      have r2 := HRG.out (k + 1) hlt
      have HL := Lib.hid (fun W => (specBend (f k) (f (k + 1)) r1.1 r1.2 r2.1 r2.2 W).mono fun e W' h => (show e = .returned (.int .i64 (turnB (f k) (f (k + 1)))) ∧ Below W.heap.size W W' from ⟨h.1, h.2 ▸ Below.refl _ _⟩))
      have HSU := Lib.hid (show sumB f (k + 1) = sumB f k + turnB (f k) (f (k + 1)) from rfl)
      have s1 := sumB_rng f k
      have s2 := turnB_rng (f k) (f (k + 1))
      have hgz : g < wr.heap.size := Nat.lt_of_lt_of_le hg HB.out.size
      have c0 := cell_kept (w := wr) (a := ⟨g, o' + k, none⟩) hgz ((HB.out.cell hg).trans p0)
      have c1 := cell_kept (w := wr) (a := ⟨g, o' + (k + 1), none⟩) hgz ((HB.out.cell hg).trans q0)
      generalize sumB f k = S at *
      generalize turnB (f k) (f (k + 1)) = T at *
      generalize f k = x at *
      generalize f (k + 1) = y at *
      have hw1 : IntKind.i64.wrap (S + T) = S + T := IntWalk.i64_in _ (by omega)
      have E3 : IntKind.i64.wrap (k : Int) = (k : Int) := IntWalk.i64_in _ (by omega)
      have hli : ((k + 1 : Nat) : Int) < (m : Int) := by omega
      clear p0 q0 r1 r2 s1 s2
      go_wp2
      refine wp_region_quiet_kept (by assumption) (by kernel_rfl) ?_
      repeat (first | go_big_quiet_step ((go_at_call 36; with_reducible exact Calls.kept_of (HL.out _))) | quiet_step ((go_at_call 36; with_reducible exact Calls.kept_of (HL.out _))))
      refine wpQuiet_nil ?_
      intro w3 hw'
      have hB : Below wr.heap.size wr w3 := by obtain ⟨⟨wk, hb0⟩, hw''⟩ := hw'; rw [hw'']; exact hb0
      have HB2 := Lib.hid (HB.out.trans (hB.mono HB.out.size))
      clear hw' hB c0 c1 hw1 E3
      go_wp2
      go_roundw
      case rel => exact ⟨k + 1, .inr (by omega), by go_num, by rw [HSU.out], HB2⟩
      case measure => simp [intOf]; omega
    · have hk1 : k = m - 1 := by omega
      have HE := Lib.hid (show sumB f (m - 1) = sumB (nth (dirsL pts (n - 1))) ((dirsL pts (n - 1)).length - 1) by rw [HF.out, ← HML.out])
      have hl0 : ¬ (((k + 1 : Nat) : Int) < (m : Int)) := by omega
      go_wp2
      go_ret2
      exact ⟨dir.ret22 HE.out rfl, B2.out.trans (HB.out.mono B2.out.size)⟩
set_option maxRecDepth 100000 in
set_option maxHeartbeats 4000000 in
theorem impl_yes {c : Nat} (A : Option Addr) (n : Nat) (pts : Nat → P3) (w : World) (hcap : n ≤ 1048576) (hp : PtsAt w A n pts) (hv : vS n pts = true) (hz : 0 < w.heap.size) (ht : TabAt w) :
    Calls Tryd.prog 19 #[.agg #[.slice A n c]] w fun e w' => e = .returned (.tuple #[.int .i64 (sumB (nth (dirsL pts (n - 1))) ((dirsL pts (n - 1)).length - 1)), .int .i64 0]) ∧ Below w.heap.size w w' := by
  obtain ⟨h1, h60, -⟩ := vS_of hv
  have hr := vS_rg hv
  have B0 := Lib.hid (below_alloc1 w (.cells #[.slice A n c] 34))
  have HS := Lib.hid (implValid_calls (c := c) A n pts (w.alloc (.cells #[.slice A n c] 34)) hcap (hp.kept B0.out))
  rw [hv] at HS
  have HP := Lib.hid (hp.kept B0.out)
  have HR := Lib.hid hr
  have hm := dir.mixedO
  have HZ := Lib.hid hz
  have HT := Lib.hid ht
  clear hz ht
  clear hp hv hr
  go_enter Tryd.func19, Tryd.ntmps19
  go_wp2_with fail
  refine HS.out.mono ?_
  rintro e w1 ⟨rfl, hb1⟩
  have c0 := (hb1.cell (p := ⟨w.heap.size, 0, none⟩) (by simp)).trans (show _ = some (.slice A n c) by simp)
  have z1 : w.heap.size < w1.heap.size := by have := hb1.size; simp at this; omega
  have B1 := Lib.hid (B0.out.trans (hb1.mono B0.out.size))
  have HP1 := Lib.hid (HP.out.kept hb1)
  clear hb1 HS HP
  go_wp2_with fail
  refine (dirl.impl_calls (c := c) A n pts w1 h1 h60 HR.out HP1.out (Nat.lt_of_lt_of_le HZ.out B1.out.size) (HT.out.kept HZ.out B1.out)).mono ?_
  rintro e w2 ⟨B, d, m, Lb, hml, rfl, hown, hb2⟩
  have B2 := Lib.hid (B1.out.trans (hb2.mono B1.out.size))
  have hlen := dirsL_len pts (n - 1)
  have HRG := Lib.hid (fun i (hi : i < m) => nth_rng (dirsL_rng pts (n - 1)) i (hml ▸ hi))
  have HI := Lib.hid (ints_of_row hml hown (dirsL_rng pts (n - 1)))
  rw [← hml] at hlen
  have HML := Lib.hid hml
  have hm60 : m ≤ 60 := by omega
  obtain ⟨f, hf⟩ : ∃ f, nth (dirsL pts (n - 1)) = f := ⟨_, rfl⟩
  rw [hf] at HRG HI
  have HF := Lib.hid hf
  clear hf
  clear hb2 c0 hml hown hlen HP1 h1 h60 z1
  go_wp2
  go_loopw [4, 6] (fun s i w' => ∃ k : Nat, (k = 0 ∨ k + 1 ≤ m) ∧ i = .int .i64 ((k + 1 : Nat) : Int) ∧ s = .int .i64 (sumB f k) ∧ Hid (Below w2.heap.size w2 w')) (fun _ i _ => m - (intOf i).toNat)
  case atStart => exact ⟨0, .inl rfl, rfl, rfl, Lib.hid (Below.refl _ _)⟩
  case round =>
    obtain ⟨k, hk, rfl, rfl, HB⟩ := hrel
    by_cases hlt : k + 1 < m
    · obtain ⟨g, o', rfl, hg, p0, -⟩ := HI.out k (by omega)
      obtain ⟨g2, o2, e2, -, q0, -⟩ := HI.out (k + 1) hlt
      injection e2 with e2
      injection e2 with e2 e3
      subst e2 e3
      have r1 := HRG.out k (by omega)
      have r2 := HRG.out (k + 1) hlt
      have HL := Lib.hid (fun W => (implBend (f k) (f (k + 1)) r1.1 r1.2 r2.1 r2.2 W).mono fun e W' h => (show e = .returned (.int .i64 (turnB (f k) (f (k + 1)))) ∧ Below W.heap.size W W' from ⟨h.1, h.2 ▸ Below.refl _ _⟩))
      have HSU := Lib.hid (show sumB f (k + 1) = sumB f k + turnB (f k) (f (k + 1)) from rfl)
      have s1 := sumB_rng f k
      have s2 := turnB_rng (f k) (f (k + 1))
      have hgz : g < wr.heap.size := Nat.lt_of_lt_of_le hg HB.out.size
      have c0 := cell_kept (w := wr) (a := ⟨g, o' + k, none⟩) hgz ((HB.out.cell hg).trans p0)
      have c1 := cell_kept (w := wr) (a := ⟨g, o' + (k + 1), none⟩) hgz ((HB.out.cell hg).trans q0)
      generalize sumB f k = S at *
      generalize turnB (f k) (f (k + 1)) = T at *
      generalize f k = x at *
      generalize f (k + 1) = y at *
      have hw1 : IntKind.i64.wrap (S + T) = S + T := IntWalk.i64_in _ (by omega)
      have E3 : IntKind.i64.wrap (k : Int) = (k : Int) := IntWalk.i64_in _ (by omega)
      have hli : ((k + 1 : Nat) : Int) < (m : Int) := by omega
      clear p0 q0 r1 r2 s1 s2
      go_wp2
      refine wp_region_quiet_kept (by assumption) (by kernel_rfl) ?_
      repeat (first | go_big_quiet_step ((go_at_call 37; with_reducible exact Calls.kept_of (HL.out _))) | quiet_step ((go_at_call 37; with_reducible exact Calls.kept_of (HL.out _))))
      refine wpQuiet_nil ?_
      intro w3 hw'
      have hB : Below wr.heap.size wr w3 := by obtain ⟨⟨wk, hb0⟩, hw''⟩ := hw'; rw [hw'']; exact hb0
      have HB2 := Lib.hid (HB.out.trans (hB.mono HB.out.size))
      clear hw' hB c0 c1 hw1 E3
      go_wp2
      go_roundw
      case rel => exact ⟨k + 1, .inr (by omega), by go_num, by rw [HSU.out], HB2⟩
      case measure => simp [intOf]; omega
    · have hk1 : k = m - 1 := by omega
      have HE := Lib.hid (show sumB f (m - 1) = sumB (nth (dirsL pts (n - 1))) ((dirsL pts (n - 1)).length - 1) by rw [HF.out, ← HML.out])
      have hl0 : ¬ (((k + 1 : Nat) : Int) < (m : Int)) := by omega
      go_wp2
      go_ret2
      exact ⟨dir.ret22 HE.out rfl, B2.out.trans (HB.out.mono B2.out.size)⟩
theorem meat (vs0 : Nat → Value) (g0 : Nat → Dat) (ht0 : tyrStroke g0) :
    costRec 1 g0 ≤ 1048576 → ∃ (r0 : Int) (r1 : Int), (∀ (W : World) (us0 : Nat → Value), ReadsRec W 1 us0 g0 → Calls Tryd.prog 18 #[.agg #[us0 0]] W fun e W' => e = .returned (.tuple #[.int .i64 r0, .int .i64 r1]) ∧ Below W.heap.size W W') ∧ (∀ (W : World) (us0 : Nat → Value), 0 < W.heap.size → TabAt W → ReadsRec W 1 us0 g0 → Calls Tryd.prog 19 #[.agg #[us0 0]] W fun e W' => e = .returned (.tuple #[.int .i64 r0, .int .i64 r1]) ∧ Below W.heap.size W W') := by
  intro hq
  cases hv : vS (strN g0) (strP g0) with
  | true => exact ⟨_, _, fun W us0 h0 => by
      obtain ⟨A, c, e, hn, hp⟩ := reads_str h0 ht0 hq
      rw [e]; exact spec_yes A _ _ W hn hp hv, fun W us0 hz ht h0 => by
      obtain ⟨A, c, e, hn, hp⟩ := reads_str h0 ht0 hq
      rw [e]; exact impl_yes A _ _ W hn hp hv hz ht⟩
  | false => exact ⟨_, _, fun W us0 h0 => by
      obtain ⟨A, c, e, hn, hp⟩ := reads_str h0 ht0 hq
      rw [e]; exact spec_no A _ _ W hn hp hv, fun W us0 hz ht h0 => by
      obtain ⟨A, c, e, hn, hp⟩ := reads_str h0 ht0 hq
      rw [e]; exact impl_no A _ _ W hn hp hv⟩
end Go.Proofs.YtmpiijnhbeipiaaDoor.wBendOf
