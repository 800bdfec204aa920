/-
  Proved: what the functions that add up the lengths of a stroke's segments return.
  Conditions: the points are in their range, and no more than 60.
-/
import Derived.Test.YtmpiijnhbeipiaaAll
import Derived.Deep.RegionHeld3
import Derived.Deep.AppendLies
namespace Go.Proofs.Ytmpiijnhbeipiaa.lenS
open Go.ChangeShapes Go.WideShapes Go.ChangeAt Go.RowKit Go.Joins
open Go.Proofs.Ytmpiijnhbeipiaa.core Go.Proofs.Ytmpiijnhbeipiaa.geoM Go.Proofs.Ytmpiijnhbeipiaa.stk Go.Proofs.Ytmpiijnhbeipiaa.seg Go.Proofs.Ytmpiijnhbeipiaa.side Go.Proofs.Ytmpiijnhbeipiaa.all
set_option linter.unusedVariables false
set_option linter.unusedSimpArgs false

/-- The lengths of the first segments. -/
def lens (pts : Nat → P3) (k : Nat) : Nat := sumTo (fun i => len (pts i) (pts (i + 1))) k
theorem lens_succ (pts : Nat → P3) (k : Nat) : lens pts (k + 1) = lens pts k + len (pts k) (pts (k + 1)) := rfl
theorem lens_le {pts : Nat → P3} {n : Nat} (hr : ∀ i, i < n → Rg (pts i)) : ∀ k, k + 1 ≤ n → lens pts k ≤ k * 92700
  | 0, _ => Nat.zero_le _
  | k + 1, h => by
    rw [lens_succ]
    have := lens_le hr k (by omega)
    have := len_le (hr k (by omega)) (hr (k + 1) (by omega))
    omega

set_option maxRecDepth 100000 in
set_option maxHeartbeats 2000000 in
theorem specSum {c o : Nat} (A : Option Addr) (b n : Nat) (pts : Nat → P3) (w : World) (h1 : 1 ≤ n) (h60 : n ≤ 60) (hr : ∀ i, i < n → Rg (pts i)) (hbz : b < w.heap.size) (hs : w.cell? ⟨b, o, none⟩ = some (.slice A n c)) (hp : PtsAt w A n pts) :
    Calls Try.prog 51 #[.pointer (some ⟨b, o, none⟩)] w fun e w' => e = .returned (.int .i64 (lens pts (n - 1) : Nat)) ∧ Below w.heap.size w w' := by
  have HP := Lib.hid hp
  have HS := Lib.hid hs
  have HR := Lib.hid hr
  have HLE := Lib.hid (lens_le hr)
  have hm := mixedO
  clear hp hs hr
  go_enter Try.func51, Try.ntmps51
  go_wp2
  go_loopw [3, 4] (fun s i w' => ∃ k : Nat, k + 1 ≤ n ∧ i = .int .i64 ((k + 1 : Nat) : Int) ∧ s = .int .i64 (lens pts k : Nat) ∧ Hid (Below w.heap.size w w')) (fun _ i _ => n - (intOf i).toNat)
  case atStart => exact ⟨0, h1, rfl, rfl, Lib.hid (Below.refl _ _)⟩
  case round =>
    obtain ⟨k, hk, rfl, rfl, HB⟩ := hrel
    have hs := (HB.out.cell (p := ⟨b, o, none⟩) hbz).trans HS.out
    by_cases hlt : k + 1 < n
    · obtain ⟨g, o', rfl, hg, p0, p1, p2⟩ := HP.out k (by omega)
      obtain ⟨g2, o2, e2, -, q0, q1, q2⟩ := HP.out (k + 1) hlt
      injection e2 with e2
      injection e2 with e2 e3
      subst e2 e3
      have HL := Lib.hid (fun W => specLen (pts k) (pts (k + 1)) (HR.out k (by omega)) (HR.out (k + 1) hlt) W)
      have HSU := Lib.hid (lens_succ pts k)
      have hle := HLE.out k (by omega)
      have hll := len_le (HR.out k (by omega)) (HR.out (k + 1) hlt)
      have hgz : g < wr.heap.size := Nat.lt_of_lt_of_le hg HB.out.size
      have hbz' : b < wr.heap.size := Nat.lt_of_lt_of_le hbz HB.out.size
      generalize lens pts k = S at *
      generalize len (pts k) (pts (k + 1)) = L at *
      obtain ⟨p, hpk⟩ : ∃ p, pts k = p := ⟨_, rfl⟩
      obtain ⟨q, hqk⟩ : ∃ q, pts (k + 1) = q := ⟨_, rfl⟩
      rw [hpk] at p0 p1 p2 HL
      rw [hqk] at q0 q1 q2 HL
      clear hpk hqk
      have c0 := cell_kept (w := wr) (a := ⟨g, o' + k * 3, none⟩) hgz ((HB.out.cell hg).trans p0)
      have c1 := cell_kept (w := wr) (a := ⟨g, o' + k * 3 + 1, none⟩) hgz ((HB.out.cell hg).trans p1)
      have c2 := cell_kept (w := wr) (a := ⟨g, o' + k * 3 + 2, none⟩) hgz ((HB.out.cell hg).trans p2)
      have d0 := cell_kept (w := wr) (a := ⟨g, o' + (k + 1) * 3, none⟩) hgz ((HB.out.cell hg).trans q0)
      have d1 := cell_kept (w := wr) (a := ⟨g, o' + (k + 1) * 3 + 1, none⟩) hgz ((HB.out.cell hg).trans q1)
      have d2 := cell_kept (w := wr) (a := ⟨g, o' + (k + 1) * 3 + 2, none⟩) hgz ((HB.out.cell hg).trans q2)
      have c4 := cell_kept (w := wr) (a := ⟨b, o, none⟩) hbz' hs
      have hw1 : IntKind.i64.wrap ((S : Int) + (L : Int)) = ((S + L : Nat) : Int) := by rw [IntWalk.i64_in _ (by omega)]; omega
      clear p0 p1 p2 q0 q1 q2
      have hli : ((k + 1 : Nat) : Int) < (n : Int) := by omega
      go_wp2
      clear hs
      refine wp_region_quiet_kept (by assumption) (by kernel_rfl) ?_
      repeat (first | go_big_quiet_step ((go_at_call 46; exact Calls.kept_of (HL.out _))) | quiet_step ((go_at_call 46; exact Calls.kept_of (HL.out _))))
      refine wpQuiet_nil ?_
      intro w2 hw'
      have hB : Below wr.heap.size wr w2 := by obtain ⟨⟨wk, hb0⟩, hw''⟩ := hw'; rw [hw'']; exact hb0
      have HB2 := Lib.hid (HB.out.trans (hB.mono HB.out.size))
      clear hw' hB c0 c1 c2 d0 d1 d2 c4 hw1
      go_wp2
      go_roundw
      case rel => exact ⟨k + 1, by omega, by go_num, by rw [HSU.out]; go_num, HB2⟩
      case measure => simp [intOf]; omega
    · obtain rfl : n = k + 1 := by omega
      go_wp2
      go_ret
      exact ⟨stk.ret_int (by simp), HB.out⟩
end Go.Proofs.Ytmpiijnhbeipiaa.lenS
