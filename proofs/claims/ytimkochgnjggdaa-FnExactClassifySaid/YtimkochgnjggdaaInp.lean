/-
  Proved: both functions that return the input of a classifier, for valid features, return the same numbers, in memory of their own.
  Conditions: the features are valid.
-/
import Derived.Test.YtimkochgnjggdaaOne
import Derived.Test.YtimkochgnjggdaaPut
import Derived.Test.YtimkochgnjggdaaNear
import Derived.Deep.RegionHeld3
import Derived.Deep.DeepCutAuto
namespace Go.Proofs.Ytimkochgnjggdaa.inp
open Go.ChangeShapes Go.WideShapes Go.ChangeAt Go.RowKit Go.Joins
open Go.Proofs.Ytimkochgnjggdaa.core Go.Proofs.Ytimkochgnjggdaa.rown Go.Proofs.Ytimkochgnjggdaa.stk Go.Proofs.Ytimkochgnjggdaa.boxed Go.Proofs.Ytimkochgnjggdaa.ft Go.Proofs.Ytimkochgnjggdaa.put3 Go.Proofs.Ytimkochgnjggdaa.one1 Go.Proofs.Ytimkochgnjggdaa.near
set_option linter.unusedVariables false
set_option linter.unusedSimpArgs false
/-- The place of the field in which a feature lies. -/
def fld (p : P3) : Nat := (8 + p.2.1 / 64 * 4 + p.1 / 64).toNat
def dir (p : P3) : Nat := p.2.2.toNat
theorem fld_in {p : P3} (h : inF p = true) : 8 ≤ fld p ∧ fld p < 24 ∧ (fld p : Int) = 8 + p.2.1 / 64 * 4 + p.1 / 64 := by
  have h := inF_of h
  unfold fld
  omega
theorem dir_in {p : P3} (h : inF p = true) : dir p < 8 ∧ (dir p : Int) = p.2.2 := by
  have h := inF_of h
  unfold dir
  omega
/-- How many of the first k features count at place j. -/
def raw (f : Nat → P3) : Nat → Nat → Nat
  | 0, _ => 0
  | k + 1, j => raw f k j + (if j = dir (f k) then 1 else 0) + (if j = fld (f k) then 1 else 0)
theorem raw_le (f : Nat → P3) (j : Nat) : ∀ k, raw f k j ≤ 2 * k
  | 0 => Nat.le_refl _
  | k + 1 => by
    have := raw_le f j k
    rw [raw]
    split <;> split <;> omega
theorem raw_end (f : Nat → P3) : ∀ k, (∀ i, i < k → inF (f i) = true) → raw f k 24 = 0
  | 0, _ => rfl
  | k + 1, h => by
    have h1 := fld_in (h k (by omega))
    have h2 := dir_in (h k (by omega))
    rw [raw, raw_end f k fun i hi => h i (by omega), if_neg (by omega), if_neg (by omega)]
/-- The input of features. -/
def inN (f : Nat → P3) (n j : Nat) : Int := if j = 24 then 256 else nr (256 * (raw f n j : Int)) (n : Int)
/-- The input, of which the first i numbers are rounded. -/
def mid (f : Nat → P3) (n i j : Nat) : Int := if j < i then nr (256 * (raw f n j : Int)) (n : Int) else (raw f n j : Int)
theorem nr_in {a n : Nat} (h0 : 1 ≤ n) (h1 : a ≤ 2 * n) : 0 ≤ nr (256 * (a : Int)) (n : Int) ∧ nr (256 * (a : Int)) (n : Int) ≤ 513 := by
  unfold nr
  have hp : (0 : Int) < 2 * (n : Int) := by omega
  have e1 := Int.ediv_nonneg (a := 2 * (256 * (a : Int)) + (n : Int)) (b := 2 * (n : Int)) (by omega) (by omega)
  have e2 : (2 * (256 * (a : Int)) + (n : Int)) / (2 * (n : Int)) < 514 := (Int.ediv_lt_iff_lt_mul hp).2 (by omega)
  omega
theorem inN_in {f : Nat → P3} {n : Nat} (h0 : 1 ≤ n) (j : Nat) : 0 ≤ inN f n j ∧ inN f n j ≤ 513 := by
  unfold inN
  split
  · omega
  · exact nr_in h0 (raw_le f j n)
theorem infoJ : (Try.prog.info? 2).map (fun i => (i.zero, i.size, i.bytes)) = some (some (.int .i64 0), 1, 8) := by kernel_rfl
/-- The new list of zeros. -/
theorem make25 (w : World) : ∃ cur : Array Value, cur = (rws (one fun _ => 0) 25).toArray ∧
    (Instr.makeSlice 24 (.int .i64 25) (.int .i64 25)).run Try.prog w = .ok (.slice (some ⟨w.heap.size, 0, none⟩) 25 25) (w.alloc (.cells cur 2)) := by
  obtain ⟨i0, hi, hz0, hz1, hz2⟩ := rown.info_get infoJ
  have hr := run_make (P := Try.prog) w 24 2 i0 _ Try.underlying24 hi hz0 .i64 .i64 25 25 (by omega) (by omega) (by rw [hz2]; omega) (by omega)
  have e : madeCells (Value.int .i64 0).cells (Int.toNat 25 * i0.size) = (rws (one fun _ => 0) 25).toArray := by
    rw [hz1]
    first | rfl | kernel_rfl | decide
  rw [e] at hr
  exact ⟨_, rfl, hr⟩
theorem row25 (w : World) (E : Nat) : (w.alloc (.cells (rws (one fun _ => 0) 25).toArray E)).ownsRow w.heap.size E 1 (.slice (some ⟨w.heap.size, 0, none⟩) 25 25) 25 (rws (one fun _ => 0) 25) :=
  ⟨by rw [rws_len (one_len _)], .inr ⟨w.heap.size, 25, _, rfl, Nat.le_refl _, heap_alloc_new _ _, Nat.le_refl _, by simp [maxLen], by rw [List.size_toArray, rws_len (one_len _)], List.take_of_length_le (Nat.le_of_eq (rws_len (one_len _) 25))⟩⟩
/-- The first place of a feature is counted. -/
def mid1 (f : Nat → P3) (k d j : Nat) : Int := (raw f k j : Int) + if j = d then 1 else 0
theorem set_a (f : Nat → P3) (k d : Nat) (j : Nat) : mid1 f k d j = if j = d then ((raw f k d : Nat) : Int) + 1 else (raw f k j : Int) := by
  unfold mid1
  by_cases c : j = d
  · rw [if_pos c, if_pos c, c]
  · rw [if_neg c, if_neg c]
    omega
theorem set_b (f : Nat → P3) (k d e : Nat) (hin : inF (f k) = true) (hd : dir (f k) = d) (he : fld (f k) = e) (j : Nat) :
    ((raw f (k + 1) j : Nat) : Int) = if j = e then ((raw f k e : Nat) : Int) + 1 else mid1 f k d j := by
  have h1 := dir_in hin
  have h2 := fld_in hin
  rw [hd] at h1
  rw [he] at h2
  unfold mid1
  rw [raw, hd, he]
  by_cases c : j = e
  · have : ¬ j = d := by omega
    rw [if_pos c, if_pos c, if_neg this, c]
    omega
  · rw [if_neg c, if_neg c]
    split <;> simp
theorem mid1_at (f : Nat → P3) (k d e : Nat) (h : d ≠ e) : mid1 f k d e = (raw f k e : Nat) := by
  unfold mid1
  rw [if_neg (by omega)]
  omega
theorem set_mid (f : Nat → P3) (n j : Nat) (i : Nat) : mid f n (j + 1) i = if i = j then nr (256 * (raw f n j : Int)) (n : Int) else mid f n j i := by
  unfold mid
  by_cases c : i = j
  · rw [if_pos c, if_pos (by omega), c]
  · rw [if_neg c]
    by_cases c2 : i < j
    · rw [if_pos c2, if_pos (by omega)]
    · rw [if_neg c2, if_neg (by omega)]
theorem set_end (f : Nat → P3) (n m : Nat) (hm : 24 ≤ m) (i : Nat) (hi : i < 25) : inN f n i = if i = 24 then 256 else mid f n m i := by
  unfold mid inN
  by_cases c : i = 24
  · rw [if_pos c, if_pos c]
  · rw [if_neg c, if_neg c, if_pos (by omega)]
/-- The row of 25 numbers, in memory of its own. -/
structure RW (w : World) (F : Nat → Int) (W : World) : Prop where
  row : W.ownsRow w.heap.size 2 1 (.slice (some ⟨w.heap.size, 0, none⟩) 25 25) 25 (rws (one F) 25)
  below : Below w.heap.size w W
theorem RW.start (w : World) {cur : Array Value} (h : cur = (rws (one fun _ => 0) 25).toArray) {F : Nat → Int} (hF : ∀ j, F j = 0) : RW w F (w.alloc (.cells cur 2)) :=
  ⟨by rw [one_ext F (fun _ => 0) 25 fun j _ => hF j, h]; exact row25 w _, below_alloc1 _ _⟩
theorem RW.lt {w W : World} {F : Nat → Int} (h : RW w F W) : w.heap.size < W.heap.size := rown.row_lt h.row
theorem RW.free {w W : World} {F : Nat → Int} (h : RW w F W) : ∀ j, W.frozen? ⟨w.heap.size, j, none⟩ = false := free_row h.row
theorem RW.cell {w W : World} {F : Nat → Int} (h : RW w F W) {q : Nat} (hq : q < 25) {v : Int} (e : F q = v) : W.cell? ⟨w.heap.size, q, none⟩ = some (.int .i64 v) := by rw [← e]; exact one_cell h.row hq
theorem RW.kept {w W V : World} {F : Nat → Int} (h : RW w F W) (hb : Below W.heap.size W V) : RW w F V := ⟨rown.ownsRow_kept h.row hb, h.below.trans (hb.mono h.below.size)⟩
theorem RW.cast {w W : World} {F F' : Nat → Int} (h : RW w F W) (e : ∀ j, j < 25 → F j = F' j) : RW w F' W := ⟨by rw [← one_ext F F' 25 e]; exact h.row, h.below⟩
theorem RW.put {w W : World} {F F' : Nat → Int} {d : Nat} (h : RW w F W) (hd : d < 25) {v : Int} (e : ∀ j, j < 25 → F' j = if j = d then v else F j) : RW w F' (W.setCell ⟨w.heap.size, d, none⟩ (.int .i64 v)) :=
  ⟨by rw [← set1 F F' 25 d hd v e]; exact own_set1 h.row _ (by rw [rws_len (one_len _)]; omega), h.below.setCell (Nat.le_refl _) _⟩
/-- .. with a box behind it. -/
structure IN (w : World) (F : Nat → Int) (b : Nat) (p : P3) (W : World) : Prop where
  rw_ : RW w F W
  box : W.heap[b]? = some (.cells #[.int .i64 p.1, .int .i64 p.2.1, .int .i64 p.2.2] 83 (0, 0))
  ne : w.heap.size < b
theorem IN.lt {w W : World} {F : Nat → Int} {b : Nat} {p : P3} (h : IN w F b p W) : b < W.heap.size ∧ w.heap.size < W.heap.size := ⟨block_size h.box, h.rw_.lt⟩
theorem IN.cells {w W : World} {F : Nat → Int} {b : Nat} {p : P3} (h : IN w F b p W) : W.cell? ⟨b, 0, none⟩ = some (.int .i64 p.1) ∧ W.cell? ⟨b, 1, none⟩ = some (.int .i64 p.2.1) ∧ W.cell? ⟨b, 2, none⟩ = some (.int .i64 p.2.2) :=
  ⟨by rw [cell_of_block h.box]; rfl, by rw [cell_of_block h.box]; rfl, by rw [cell_of_block h.box]; rfl⟩
theorem IN.put {w W : World} {F F' : Nat → Int} {b d : Nat} {p : P3} (h : IN w F b p W) (hd : d < 25) {v : Int} (e : ∀ j, j < 25 → F' j = if j = d then v else F j) : IN w F' b p (W.setCell ⟨w.heap.size, d, none⟩ (.int .i64 v)) :=
  ⟨h.rw_.put hd e, (Below.heap_setCell _ _ _ _ (by intro e; simp at e; have := h.ne; omega)).trans h.box, h.ne⟩
theorem IN.start {w W : World} {F : Nat → Int} {p : P3} (h : RW w F W) : IN w F W.heap.size p (W.alloc (.cells #[.int .i64 p.1, .int .i64 p.2.1, .int .i64 p.2.2] 83)) := ⟨h.kept (below_alloc1 _ _), heap_alloc_new _ _, h.lt⟩
set_option maxRecDepth 100000 in
set_option maxHeartbeats 4000000 in
theorem inputS {c : Nat} (A : Option Addr) (n : Nat) (f : Nat → P3) (w : World) (hp : PtsAt w A n f) (hv : okF n f = true) :
    Calls Try.prog 58 #[.slice A n c] w fun e w' => ∃ g, e = .returned (.slice (some ⟨g, 0, none⟩) 25 25) ∧ w'.ownsRow w.heap.size 2 1 (.slice (some ⟨g, 0, none⟩) 25 25) 25 (rws (one (inN f n)) 25) ∧ Below w.heap.size w w' := by
  obtain ⟨h1, h384, hall⟩ := okF_of hv
  have HV := Lib.hid hall
  have HP := Lib.hid hp
  clear hp hv hall
  obtain ⟨cur, hcu, hmk⟩ := make25 w
  have R0 := Lib.hid (RW.start w hcu (F := fun j => (raw f 0 j : Int)) fun j => rfl)
  clear hcu
  go_enter Try.func58, Try.ntmps58
  go_wp2
  clear hmk
  go_loopw [4] (fun i w' => ∃ k : Nat, k ≤ n ∧ i = .int .i64 (k : Int) ∧ Hid (RW w (fun j => (raw f k j : Int)) w')) (fun i _ => n - (intOf i).toNat)
  case atStart => exact ⟨0, Nat.zero_le _, rfl, R0⟩
  case round =>
    obtain ⟨k, hk, rfl, HO⟩ := hrel
    by_cases hlt : k < n
    · obtain ⟨g, o, rfl, hg, p0, p1, p2⟩ := (HP.out.kept HO.out.below) k hlt
      have hF := HV.out k hlt
      have hin := inF_of hF
      obtain ⟨d, hd⟩ : ∃ d : Nat, dir (f k) = d := ⟨_, rfl⟩
      obtain ⟨e, he⟩ : ∃ e : Nat, fld (f k) = e := ⟨_, rfl⟩
      have HSA := Lib.hid (set_a f k d)
      have HSB := Lib.hid (set_b f k d e hF hd he)
      have hd1 := dir_in hF
      have he1 := fld_in hF
      rw [hd] at hd1
      rw [he] at he1
      have HMA := Lib.hid (mid1_at f k d e (by omega))
      have hle := raw_le f d k
      have hle2 := raw_le f e k
      obtain ⟨m, hm⟩ : ∃ m, raw f k d = m := ⟨_, rfl⟩
      obtain ⟨m2, hm2⟩ : ∃ m, raw f k e = m := ⟨_, rfl⟩
      rw [hm] at hle HSA
      rw [hm2] at hle2 HSB HMA
      have HM := Lib.hid hm
      obtain ⟨a, ha⟩ : ∃ a : Nat, (f k).2.1.tdiv 64 = (a : Int) := ⟨((f k).2.1 / 64).toNat, by rw [Int.tdiv_eq_ediv_of_nonneg (by omega)]; omega⟩
      obtain ⟨b, hb⟩ : ∃ b : Nat, (f k).1.tdiv 64 = (b : Int) := ⟨((f k).1 / 64).toNat, by rw [Int.tdiv_eq_ediv_of_nonneg (by omega)]; omega⟩
      have hab : a ≤ 3 ∧ b ≤ 3 ∧ e = 8 + a * 4 + b := by
        rw [Int.tdiv_eq_ediv_of_nonneg (by omega)] at ha hb
        omega
      rw [← hd1.2] at p2
      obtain ⟨x, hx⟩ : ∃ x, (f k).1 = x := ⟨_, rfl⟩
      obtain ⟨y, hy⟩ : ∃ y, (f k).2.1 = y := ⟨_, rfl⟩
      rw [hx] at p0 hb hin
      rw [hy] at p1 ha hin
      have hli : (k : Int) < (n : Int) := by omega
      have hd25 : d < 8 := hd1.1
      have he25 : 8 ≤ e ∧ e < 24 := ⟨he1.1, he1.2.1⟩
      have HI := Lib.hid (IN.start (p := (x, y, (d : Int))) HO.out)
      obtain ⟨Bx, hBx⟩ : ∃ Bx, wr.heap.size = Bx := ⟨_, rfl⟩
      rw [hBx] at HI
      have HBX := Lib.hid hBx
      clear hd he hx hy hF he1 hd1 hm hm2 HO hBx
      obtain ⟨ha3, hb3, rfl⟩ := hab
      go_upto_region 5 with fail
      go_cut [5] (fun s wx => s = .pointer (some ⟨Bx, 0, none⟩) ∧ Hid (IN w (fun j => (raw f k j : Int)) Bx (x, y, (d : Int)) wx))
      case first =>
        go_wp2
        go_meet
        exact ⟨by rw [HBX.out], HI⟩
      case rest =>
        obtain ⟨rfl, HI2⟩ := hcut
        clear HI p0 p1 p2
        obtain ⟨c0, c1, c2⟩ := HI2.out.cells
        obtain ⟨hbz, hwz⟩ := HI2.out.lt
        have hbn := HI2.out.ne
        have x0 : wc.cell? ⟨w.heap.size, d, none⟩ = some (.int .i64 (m : Int)) := HI2.out.rw_.cell (by omega) (by show ((raw f k d : Nat) : Int) = _; rw [HM.out])
        have xf := HI2.out.rw_.free
        go_upto_region 6 with fail
        go_cut [25] (fun s wx => Hid (IN w (mid1 f k d) Bx (x, y, (d : Int)) wx))
        case first =>
          go_wp2
          go_meet
          exact Lib.hid (HI2.out.put (by omega) fun j _ => HSA.out j)
        case rest =>
          have HI3 := hcut
          clear HI2 c0 c1 c2 hbz hwz x0 xf hcut
          obtain ⟨c0, c1, c2⟩ := HI3.out.cells
          obtain ⟨hbz, hwz⟩ := HI3.out.lt
          have x1 : wc.cell? ⟨w.heap.size, 8 + a * 4 + b, none⟩ = some (.int .i64 (m2 : Int)) := HI3.out.rw_.cell (by omega) HMA.out
          have xf := HI3.out.rw_.free
          have HI4 := Lib.hid (HI3.out.put (F' := fun j => (raw f (k + 1) j : Int)) (by omega) fun j _ => HSB.out j)
          go_wp2
          go_roundw
          case rel => exact ⟨k + 1, by omega, by go_num, Lib.hid HI4.out.rw_⟩
          case measure => simp [intOf]; omega
    · obtain rfl : k = n := by omega
      have HIN := Lib.hid (fun j => nr_in h1 (raw_le f j k))
      go_wp2
      go_loopw [7] (fun i w' => ∃ j : Nat, j ≤ 24 ∧ i = .int .i64 (j : Int) ∧ Hid (RW w (mid f k j) w')) (fun i _ => 24 - (intOf i).toNat)
      case atStart => exact ⟨0, Nat.zero_le _, rfl, Lib.hid (HO.out.cast fun j hj => by unfold mid; rw [if_neg (by omega)])⟩
      case round =>
        obtain ⟨j, hj, rfl, HO⟩ := hrel
        by_cases hlt2 : j < 24
        · have hle := raw_le f j k
          have HNR := Lib.hid (fun W => specNear (256 * (raw f k j : Int)) (k : Int) (by omega) (by omega) (by omega) (by omega) W)
          have x0 : wr.cell? ⟨w.heap.size, j, none⟩ = some (.int .i64 (raw f k j : Nat)) := HO.out.cell (by omega) (by unfold mid; rw [if_neg (by omega)])
          have HNX := Lib.hid (HO.out.put (by omega) fun i _ => set_mid f k j i)
          obtain ⟨m, hm⟩ : ∃ m, raw f k j = m := ⟨_, rfl⟩
          rw [hm] at x0 hle HNR HNX
          obtain ⟨q, hq⟩ : ∃ q, nr (256 * (m : Int)) (k : Int) = q := ⟨_, rfl⟩
          rw [hq] at HNR HNX
          have xf := HO.out.free
          have xz := HO.out.lt
          have hji : (j : Int) < 24 := by omega
          clear hm hq
          go_wp2_with fail
          with_reducible refine (HNR.out _).mono ?_
          rintro e _ ⟨rfl, rfl⟩
          go_wp2
          go_roundw
          case rel => exact ⟨j + 1, by omega, by go_num, HNX⟩
          case measure => simp [intOf]; omega
        · obtain rfl : j = 24 := by omega
          have xf := HO.out.free
          have xz := HO.out.lt
          have x24 : wr.cell? ⟨w.heap.size, 24, none⟩ = some (.int .i64 _) := HO.out.cell (by omega) rfl
          have HNX := Lib.hid (HO.out.put (by omega) fun i hi => set_end f k 24 (Nat.le_refl _) i hi)
          go_wp2
          go_ret
          exact ⟨_, rfl, HNX.out.row, HNX.out.below⟩
end Go.Proofs.Ytimkochgnjggdaa.inp
