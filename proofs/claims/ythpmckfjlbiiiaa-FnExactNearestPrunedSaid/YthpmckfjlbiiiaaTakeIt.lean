/-
  Proved: the program's iterator over the lists that take part hands out all of them with what is matched (for every loop body that leaves the lists as they lie).
  Conditions: there are at most a million lists.
-/
import Derived.Test.YthpmckfjlbiiiaaTake
namespace Go.Proofs.Ythpmckfjlbiiiaa.env
open Go.ChangeShapes Go.WideShapes Go.ChangeAt Go.RowKit Go.Joins Go.Shelf
open Go.Proofs.Ythpmckfjlbiiiaa.core Go.Proofs.Ythpmckfjlbiiiaa.rown Go.Proofs.Ythpmckfjlbiiiaa.stk Go.Proofs.Ythpmckfjlbiiiaa.boxed Go.Proofs.Ythpmckfjlbiiiaa.ft Go.Proofs.Ythpmckfjlbiiiaa.seq Go.Proofs.Ythpmckfjlbiiiaa.tab Go.Proofs.Ythpmckfjlbiiiaa.dp
set_option linter.unusedVariables false
set_option linter.unusedSimpArgs false
attribute [local go_sem] Oper.semAt_some
/-- A list of lists whose headers are named. -/
def LsF (w : World) (B : Option Addr) (n : Nat) (ln : Nat → Nat) (lf : Nat → Nat → P3) (la : Nat → Option Addr) (lc : Nat → Nat) : Prop :=
  ∀ i, i < n → (∃ b o : Nat, B = some ⟨b, o, none⟩ ∧ b < w.heap.size ∧ w.cell? ⟨b, o + i, none⟩ = some (.slice (la i) (ln i) (lc i))) ∧ PtsAt w (la i) (ln i) (lf i)
theorem LsAt.fns {w : World} {B : Option Addr} {n : Nat} {ln : Nat → Nat} {lf : Nat → Nat → P3} (h : LsAt w B n ln lf) : ∃ la lc, LsF w B n ln lf la lc := by
  have key : ∀ i, ∃ (Ai : Option Addr) (ci : Nat), i < n → (∃ b o : Nat, B = some ⟨b, o, none⟩ ∧ b < w.heap.size ∧ w.cell? ⟨b, o + i, none⟩ = some (.slice Ai (ln i) ci)) ∧ PtsAt w Ai (ln i) (lf i) := fun i => by
    by_cases hi : i < n
    · obtain ⟨b, o, Ai, ci, e, h1, h2, h3⟩ := h i hi
      exact ⟨Ai, ci, fun _ => ⟨⟨b, o, e, h1, h2⟩, h3⟩⟩
    · exact ⟨none, 0, fun h' => absurd h' hi⟩
  exact ⟨fun i => (key i).choose, fun i => (key i).choose_spec.choose, fun i hi => (key i).choose_spec.choose_spec hi⟩
theorem LsF.kept {w w' : World} {B : Option Addr} {n : Nat} {ln : Nat → Nat} {lf : Nat → Nat → P3} {la : Nat → Option Addr} {lc : Nat → Nat} (h : LsF w B n ln lf la lc) (hb : Below w.heap.size w w') : LsF w' B n ln lf la lc := fun i hi => by
  obtain ⟨⟨b, o, e, h1, h2⟩, h3⟩ := h i hi
  exact ⟨⟨b, o, e, Nat.lt_of_lt_of_le h1 hb.size, (hb.cell (p := ⟨b, o + i, none⟩) h1).trans h2⟩, h3.kept hb⟩
/-- The indices below k of the lists that take part. -/
def tks (na : Nat) (ln : Nat → Nat) (band : Int) (k : Nat) : List Nat := (List.range k).filter fun i => takes na ln band i
theorem tks_yes {na : Nat} {ln : Nat → Nat} {band : Int} {k : Nat} (h : takes na ln band k = true) : tks na ln band (k + 1) = tks na ln band k ++ [k] := by
  unfold tks; rw [List.range_succ, List.filter_append]; simp [h]
theorem tks_no {na : Nat} {ln : Nat → Nat} {band : Int} {k : Nat} (h : takes na ln band k = false) : tks na ln band (k + 1) = tks na ln band k := by
  unfold tks; rw [List.range_succ, List.filter_append]; simp [h]
theorem tks_len (na : Nat) (ln : Nat → Nat) (band : Int) (k : Nat) : (tks na ln band k).length ≤ k := by
  unfold tks; exact Nat.le_trans (List.length_filter_le _ _) (by simp)
/-- An index below n of a list that takes part. -/
abbrev Tk (na n : Nat) (ln : Nat → Nat) (band : Int) : Type := { x : Nat // x < n ∧ takes na ln band x = true }
def tkl (na n : Nat) (ln : Nat → Nat) (band : Int) : Nat → List (Tk na n ln band)
  | 0 => []
  | k + 1 => if h : k < n ∧ takes na ln band k = true then tkl na n ln band k ++ [⟨k, h⟩] else tkl na n ln band k
theorem tkl_yes {na n : Nat} {ln : Nat → Nat} {band : Int} {k : Nat} (h : k < n ∧ takes na ln band k = true) : tkl na n ln band (k + 1) = tkl na n ln band k ++ [⟨k, h⟩] := by
  show (if h : k < n ∧ takes na ln band k = true then tkl na n ln band k ++ [⟨k, h⟩] else tkl na n ln band k) = _
  rw [dif_pos h]
theorem tkl_no {na n : Nat} {ln : Nat → Nat} {band : Int} {k : Nat} (h : takes na ln band k = false) : tkl na n ln band (k + 1) = tkl na n ln band k := by
  show (if h : k < n ∧ takes na ln band k = true then tkl na n ln band k ++ [⟨k, h⟩] else tkl na n ln band k) = _
  rw [dif_neg (fun h' => by rw [h] at h'; cases h'.2)]
theorem tkl_map {na n : Nat} {ln : Nat → Nat} {band : Int} : ∀ k, k ≤ n → (tkl na n ln band k).map (·.1) = tks na ln band k
  | 0, _ => rfl
  | k + 1, hk => by
    have ih := tkl_map (na := na) (n := n) (ln := ln) (band := band) k (by omega)
    cases h : takes na ln band k with
    | true => rw [tkl_yes ⟨by omega, h⟩, tks_yes h, List.map_append, ih]; rfl
    | false => rw [tkl_no h, tks_no h, ih]
theorem tkl_len (na n : Nat) (ln : Nat → Nat) (band : Int) : ∀ k, (tkl na n ln band k).length ≤ k
  | 0 => Nat.le_refl _
  | k + 1 => by
    have := tkl_len na n ln band k
    show (if h : k < n ∧ takes na ln band k = true then tkl na n ln band k ++ [⟨k, h⟩] else tkl na n ln band k).length ≤ _
    split
    · rw [List.length_append]; simp; omega
    · omega
/-- What is handed out: the index, and what is matched. -/
def encT (A : Option Addr) (na ca : Nat) (la : Nat → Option Addr) (ln lc : Nat → Nat) (bd : Nat) (k : Nat) : Array Value := #[.int .i64 (k : Int), .agg #[.slice A na ca, .slice (la k) (ln k) (lc k), .int .i64 (bd : Int)]]
set_option maxRecDepth 100000 in
set_option maxHeartbeats 4000000 in
theorem take1_in (m : Nat) (hm : 1 ≤ m) (l n0 bA bL bD : Nat) (A B : Option Addr) (na n ca cb bd : Nat) (la : Nat → Option Addr) (ln lc : Nat → Nat) (J Jx : List (Tk na n ln (bd : Int)) → World → Prop) (hn : n ≤ 1048576) (hna : na ≤ 1048576) (hln : ∀ i, i < n → ln i ≤ 1048576) (h0A : bA < n0) (h0L : bL < n0) (h0D : bD < n0)
    (hY : ∀ pre x W, J pre W → pre.length < n → YieldAt Fence.wide (m - 1) Try.prog l (encT A na ca la ln lc bd x.1) W fun e W' =>
      (e = .returned (.bool true) ∧ J (pre ++ [x]) W' ∧ Below n0 W W') ∨ (e = .returned (.bool false) ∧ Jx (pre ++ [x]) W'))
    (W : World) (hW0 : n0 ≤ W.heap.size) (hJ : AbidesFrom W.heap.size J) (hA : W.cell? ⟨bA, 0, none⟩ = some (.slice A na ca)) (hL : W.cell? ⟨bL, 0, none⟩ = some (.slice B n cb)) (hD : W.cell? ⟨bD, 0, none⟩ = some (.int .i64 (bd : Int)))
    (hc : ∀ i, i < n → ∃ b o : Nat, B = some ⟨b, o, none⟩ ∧ b < n0 ∧ W.cell? ⟨b, o + i, none⟩ = some (.slice (la i) (ln i) (lc i))) (h0 : J [] W) :
    CallsIn Fence.wide m Try.prog 110 #[.func (.yield l) #[] #[], .pointer (some ⟨bL, 0, none⟩), .pointer (some ⟨bA, 0, none⟩), .pointer (some ⟨bD, 0, none⟩)] W fun e W' => (∃ v, e = .returned v) ∧
      ((∃ ys, ys = tkl na n ln (bd : Int) n ∧ J ys W') ∨ (∃ pre, True ∧ Jx pre W')) := by
  have HBD := Lib.hid (fun k (hk : k < n) V => bandI (na : Int) (ln k : Int) (bd : Int) V (by omega) (by have := hln k hk; omega))
  have HC := Lib.hid hc
  have zL := World.block_lt_of_cell? W ⟨bL, 0, none⟩ hL
  refine callsIn_of_wp Try.func110 rfl trivial ?_ rfl
  simp only [Try.ntmps110, List.size_toArray, List.length_cons, List.length_nil, Nat.reduceAdd, Nat.reduceSub, Array.replicate_succ, Array.replicate_zero, List.push_toArray, List.append_toArray, List.nil_append, List.cons_append]
  gi_wp2
  gi_loopw [10] (fun i wr => ∃ k : Nat, k ≤ n ∧ i = .int .i64 (k : Int) ∧ J (tkl na n ln (bd : Int) k) wr ∧ Below n0 W wr)
    (fun i _ => n - (intOf i).toNat)
  case atStart => exact ⟨0, Nat.zero_le _, rfl, h0, Below.refl _ _⟩
  case round =>
    obtain ⟨k, hk, rfl, hJs, hK⟩ := hrel
    by_cases hlt : k < n
    · have hli : (k : Int) < (n : Int) := by omega
      obtain ⟨b, o, rfl, hb0, q0⟩ := HC.out k hlt
      have cA := (hK.cell (p := ⟨bA, 0, none⟩) h0A).trans hA
      have cD := (hK.cell (p := ⟨bD, 0, none⟩) h0D).trans hD
      have c0 := (hK.cell (p := ⟨b, o + k, none⟩) hb0).trans q0
      have zr := hK.size
      have zA := World.block_lt_of_cell? wr ⟨bA, 0, none⟩ cA
      have zD := World.block_lt_of_cell? wr ⟨bD, 0, none⟩ cD
      have zA1 : bA < wr.heap.size + 1 := Nat.lt_succ_of_lt zA
      have zD1 : bD < wr.heap.size + 1 := Nat.lt_succ_of_lt zD
      have neA : ¬ bA = wr.heap.size := Nat.ne_of_lt zA
      have neD : ¬ bD = wr.heap.size := Nat.ne_of_lt zD
      have hB := HBD.out k hlt
      have hJ2 := hJ (tkl na n ln (bd : Int) k) wr _ none hJs (World.grownBy_alloc wr (.cells #[.slice A na ca, .slice (la k) (ln k) (lc k), .int .i64 (bd : Int)] 87) none) (fun r e => by cases e)
      have hlen := tkl_len na n ln (bd : Int) k
      have hB2 : Below n0 W (wr.alloc (.cells #[.slice A na ca, .slice (la k) (ln k) (lc k), .int .i64 (bd : Int)] 87)) := hK.alloc (Nat.le_trans hW0 zr) _
      cases ht : takes na ln (bd : Int) k with
      | true =>
        have ht' : bandOk (na : Int) (ln k : Int) (bd : Int) = true := ht
        rw [ht'] at hB
        obtain ⟨fn, tmps, assign, body, hy, hR⟩ := hY _ ⟨k, hlt, ht⟩ _ hJ2 (by omega)
        unfold encT at hy
        gi_wp2_with (refine ⟨trivial, ?_⟩; gi_at_call 61; refine (callsIn_wide.2 (hB _)).mono ?_; rintro e w' ⟨rfl, rfl⟩)
        refine hR.mono ?_
        rintro e W3 (⟨rfl, hJ3, hk3⟩ | ⟨rfl, hJx3⟩)
        · gi_wp2
          go_roundw
          case rel => exact ⟨k + 1, by omega, by go_num, by rw [tkl_yes ⟨hlt, ht⟩]; exact hJ3, hB2.trans hk3⟩
          case measure => simp [intOf]; omega
        · gi_wp2
          refine bodyPost_ret (results_none rfl _ _ _) rfl ?_
          exact ⟨⟨_, rfl⟩, .inr ⟨_, trivial, hJx3⟩⟩
      | false =>
        have ht' : bandOk (na : Int) (ln k : Int) (bd : Int) = false := ht
        rw [ht'] at hB
        gi_wp2_with (refine ⟨trivial, ?_⟩; gi_at_call 61; refine (callsIn_wide.2 (hB _)).mono ?_; rintro e w' ⟨rfl, rfl⟩)
        refine ⟨fun _ h => (by cases h), ?_⟩
        gi_wp2
        go_roundw
        case rel => exact ⟨k + 1, by omega, by go_num, by rw [tkl_no ht]; exact hJ2, hB2⟩
        case measure => simp [intOf]; omega
    · obtain rfl : k = n := by omega
      gi_wp2
      go_end0
      exact ⟨⟨_, rfl⟩, .inl ⟨_, rfl, hJs⟩⟩
theorem take_stops (m : Nat) (hm : 1 ≤ m) (n0 bA bL bD : Nat) (A B : Option Addr) (na n ca cb bd : Nat) (la : Nat → Option Addr) (ln lc : Nat → Nat) (hn : n ≤ 1048576) (hna : na ≤ 1048576) (hln : ∀ i, i < n → ln i ≤ 1048576) (h0A : bA < n0) (h0L : bL < n0) (h0D : bD < n0) (w : World) (hw : n0 ≤ w.heap.size)
    (hA : w.cell? ⟨bA, 0, none⟩ = some (.slice A na ca)) (hL : w.cell? ⟨bL, 0, none⟩ = some (.slice B n cb)) (hD : w.cell? ⟨bD, 0, none⟩ = some (.int .i64 (bd : Int)))
    (hc : ∀ i, i < n → ∃ b o : Nat, B = some ⟨b, o, none⟩ ∧ b < n0 ∧ w.cell? ⟨b, o + i, none⟩ = some (.slice (la i) (ln i) (lc i))) :
    SeqStopsK Fence.wide m Try.prog 110 #[.pointer (some ⟨bL, 0, none⟩), .pointer (some ⟨bA, 0, none⟩), .pointer (some ⟨bD, 0, none⟩)] (fun x : Tk na n ln (bd : Int) => encT A na ca la ln lc bd x.1) (Below n0) (fun ys => ys = tkl na n ln (bd : Int) n) (fun _ => True) n w := fun l J Jx W hW hJ _ hY h0 => by
  have hz := hW.size
  refine take1_in m hm l n0 bA bL bD A B na n ca cb bd la ln lc J Jx hn hna hln h0A h0L h0D hY W (by omega) hJ ((hW.cell (p := ⟨bA, 0, none⟩) (by simp only; omega)).trans hA) ((hW.cell (p := ⟨bL, 0, none⟩) (by simp only; omega)).trans hL) ((hW.cell (p := ⟨bD, 0, none⟩) (by simp only; omega)).trans hD) (fun i hi => ?_) h0
  obtain ⟨b, o, e, h1, h2⟩ := hc i hi
  exact ⟨b, o, e, h1, (hW.cell (p := ⟨b, o + i, none⟩) (by simp only; omega)).trans h2⟩
end Go.Proofs.Ythpmckfjlbiiiaa.env
