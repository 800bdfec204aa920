/-
  Proved: the program's function that returns the input of a classifier, for valid features.
  Conditions: the features are valid.
-/
import Derived.Test.YtimkochgnjggdaaInp
namespace Go.Proofs.Ytimkochgnjggdaa.inp
open Go.ChangeShapes Go.WideShapes Go.ChangeAt Go.RowKit Go.Joins
open Go.Proofs.Ytimkochgnjggdaa.core Go.Proofs.Ytimkochgnjggdaa.rown Go.Proofs.Ytimkochgnjggdaa.stk Go.Proofs.Ytimkochgnjggdaa.boxed Go.Proofs.Ytimkochgnjggdaa.ft Go.Proofs.Ytimkochgnjggdaa.put3 Go.Proofs.Ytimkochgnjggdaa.one1 Go.Proofs.Ytimkochgnjggdaa.near
set_option linter.unusedVariables false
set_option linter.unusedSimpArgs false
set_option maxRecDepth 100000 in
set_option maxHeartbeats 4000000 in
theorem fieldI (p : P3) (a b : Nat) (ha : p.2.1.tdiv 64 = (a : Int)) (hb : p.1.tdiv 64 = (b : Int)) (h1 : a ≤ 3) (h2 : b ≤ 3) (w : World) :
    Calls Try.prog 100 #[pv p] w fun e w' => e = .returned (.int .i64 ((a : Int) * 4 + (b : Int))) ∧ Below w.heap.size w w' := by
  obtain ⟨x, y, z⟩ := p
  replace ha : y.tdiv 64 = (a : Int) := ha
  replace hb : x.tdiv 64 = (b : Int) := hb
  have HB := Lib.hid (below_alloc1 w (.cells #[.int .i64 x, .int .i64 y, .int .i64 z] 83))
  go_enter Try.func100, Try.ntmps100
  go_wp2
  go_ret
  exact ⟨rfl, HB.out⟩
set_option maxRecDepth 100000 in
set_option maxHeartbeats 4000000 in
theorem inputI {c : Nat} (A : Option Addr) (n : Nat) (f : Nat → P3) (w : World) (hp : PtsAt w A n f) (hv : okF n f = true) :
    Calls Try.prog 61 #[.slice A n c] w fun e w' => ∃ g, e = .returned (.slice (some ⟨g, 0, none⟩) 25 25) ∧ w'.ownsRow w.heap.size 2 1 (.slice (some ⟨g, 0, none⟩) 25 25) 25 (rws (one (inN f n)) 25) ∧ Below w.heap.size w w' := by
  obtain ⟨h1, h384, hall⟩ := okF_of hv
  have HV := Lib.hid hall
  have HP := Lib.hid hp
  clear hp hv hall
  obtain ⟨cur, hcu, hmk⟩ := make25 w
  have R0 := Lib.hid (RW.start w hcu (F := fun j => (raw f 0 j : Int)) fun j => rfl)
  clear hcu
  go_enter Try.func61, Try.ntmps61
  go_wp2
  clear hmk
  go_loopw [11] (fun i w' => ∃ k : Nat, k ≤ n ∧ i = .int .i64 (k : Int) ∧ Hid (RW w (fun j => (raw f k j : Int)) w')) (fun i _ => n - (intOf i).toNat)
  case atStart => exact ⟨0, Nat.zero_le _, rfl, R0⟩
  case round =>
    obtain ⟨k, hk, rfl, HO⟩ := hrel
    by_cases hlt : k < n
    · obtain ⟨g, o, rfl, hg, p0, p1, p2⟩ := (HP.out.kept HO.out.below) k hlt
      have hF := HV.out k hlt
      have hin := inF_of hF
      obtain ⟨d, hd⟩ : ∃ d : Nat, dir (f k) = d := ⟨_, rfl⟩
      obtain ⟨e, he⟩ : ∃ e : Nat, fld (f k) = e := ⟨_, rfl⟩
      have HSA := Lib.hid (set_a f k d)
      have HSB := Lib.hid (set_b f k d e hF hd he)
      have hd1 := dir_in hF
      have he1 := fld_in hF
      rw [hd] at hd1
      rw [he] at he1
      have HMA := Lib.hid (mid1_at f k d e (by omega))
      have hle := raw_le f d k
      have hle2 := raw_le f e k
      obtain ⟨m, hm⟩ : ∃ m, raw f k d = m := ⟨_, rfl⟩
      obtain ⟨m2, hm2⟩ : ∃ m, raw f k e = m := ⟨_, rfl⟩
      rw [hm] at hle HSA
      rw [hm2] at hle2 HSB HMA
      have HM := Lib.hid hm
      obtain ⟨a, ha⟩ : ∃ a : Nat, (f k).2.1.tdiv 64 = (a : Int) := ⟨((f k).2.1 / 64).toNat, by rw [Int.tdiv_eq_ediv_of_nonneg (by omega)]; omega⟩
      obtain ⟨b, hb⟩ : ∃ b : Nat, (f k).1.tdiv 64 = (b : Int) := ⟨((f k).1 / 64).toNat, by rw [Int.tdiv_eq_ediv_of_nonneg (by omega)]; omega⟩
      have hab : a ≤ 3 ∧ b ≤ 3 ∧ e = 8 + a * 4 + b := by
        rw [Int.tdiv_eq_ediv_of_nonneg (by omega)] at ha hb
        omega
      rw [← hd1.2] at p2
      obtain ⟨x, hx⟩ : ∃ x, (f k).1 = x := ⟨_, rfl⟩
      obtain ⟨y, hy⟩ : ∃ y, (f k).2.1 = y := ⟨_, rfl⟩
      rw [hx] at p0 hb hin
      rw [hy] at p1 ha hin
      have hli : (k : Int) < (n : Int) := by omega
      have hd25 : d < 8 := hd1.1
      have he25 : 8 ≤ e ∧ e < 24 := ⟨he1.1, he1.2.1⟩
      have HI := Lib.hid (IN.start (p := (x, y, (d : Int))) HO.out)
      obtain ⟨Bx, hBx⟩ : ∃ Bx, wr.heap.size = Bx := ⟨_, rfl⟩
      rw [hBx] at HI
      have HBX := Lib.hid hBx
      clear hd he hx hy hF he1 hd1 hm hm2 HO hBx
      obtain ⟨ha3, hb3, rfl⟩ := hab
      go_upto_region 4 with fail
      go_cut [5] (fun s wx => s = .pointer (some ⟨Bx, 0, none⟩) ∧ Hid (IN w (fun j => (raw f k j : Int)) Bx (x, y, (d : Int)) wx))
      case first =>
        go_wp2
        go_meet
        exact ⟨by rw [HBX.out], HI⟩
      case rest =>
        obtain ⟨rfl, HI2⟩ := hcut
        clear HI p0 p1 p2
        obtain ⟨c0, c1, c2⟩ := HI2.out.cells
        obtain ⟨hbz, hwz⟩ := HI2.out.lt
        have hbn := HI2.out.ne
        have x0 : wc.cell? ⟨w.heap.size, d, none⟩ = some (.int .i64 (m : Int)) := HI2.out.rw_.cell (by omega) (by show ((raw f k d : Nat) : Int) = _; rw [HM.out])
        have xf := HI2.out.rw_.free
        go_upto_region 5 with fail
        go_cut [21] (fun s wx => Hid (IN w (mid1 f k d) Bx (x, y, (d : Int)) wx))
        case first =>
          go_wp2
          go_meet
          exact Lib.hid (HI2.out.put (by omega) fun j _ => HSA.out j)
        case rest =>
          have HI3 := hcut
          clear HI2 c0 c1 c2 hbz hwz x0 xf hcut
          obtain ⟨c0, c1, c2⟩ := HI3.out.cells
          obtain ⟨hbz, hwz⟩ := HI3.out.lt
          have x1 : wc.cell? ⟨w.heap.size, 8 + a * 4 + b, none⟩ = some (.int .i64 (m2 : Int)) := HI3.out.rw_.cell (by omega) HMA.out
          have xf := HI3.out.rw_.free
          have HFD := Lib.hid (fun W => fieldI (x, y, (d : Int)) a b ha hb ha3 hb3 W)
          go_wp2_with fail
          with_reducible refine (HFD.out _).mono ?_
          rintro e' wd ⟨rfl, hbd⟩
          have HI5 := Lib.hid (show IN w (mid1 f k d) Bx (x, y, (d : Int)) wd from ⟨HI3.out.rw_.kept hbd, (hbd.block _ hbz).trans HI3.out.box, HI3.out.ne⟩)
          clear HI3 c0 c1 c2 hbz hwz x1 xf hbd
          obtain ⟨hbz, hwz⟩ := HI5.out.lt
          have x1 : wd.cell? ⟨w.heap.size, 8 + a * 4 + b, none⟩ = some (.int .i64 (m2 : Int)) := HI5.out.rw_.cell (by omega) HMA.out
          have xf := HI5.out.rw_.free
          have hs : IntKind.i64.wrap ((8 : Int) + ((a : Int) * 4 + (b : Int))) = ((8 + a * 4 + b : Nat) : Int) := by rw [show (8 : Int) + ((a : Int) * 4 + (b : Int)) = ((8 + a * 4 + b : Nat) : Int) by omega]; exact IntWalk.i64_in _ (by omega)
          have HI4 := Lib.hid (HI5.out.put (F' := fun j => (raw f (k + 1) j : Int)) (by omega) fun j _ => HSB.out j)
          go_wp2
          go_roundw
          case rel => exact ⟨k + 1, by omega, by go_num, Lib.hid HI4.out.rw_⟩
          case measure => simp [intOf]; omega
    · obtain rfl : k = n := by omega
      have HIN := Lib.hid (fun j => nr_in h1 (raw_le f j k))
      go_wp2
      go_loopw [33] (fun i w' => ∃ j : Nat, j ≤ 25 ∧ i = .int .i64 (j : Int) ∧ Hid (RW w (mid f k j) w')) (fun i _ => 25 - (intOf i).toNat)
      case atStart => exact ⟨0, Nat.zero_le _, rfl, Lib.hid (HO.out.cast fun j hj => by unfold mid; rw [if_neg (by omega)])⟩
      case round =>
        obtain ⟨j, hj, rfl, HO⟩ := hrel
        by_cases hlt2 : j < 25
        · have hle := raw_le f j k
          have HNR := Lib.hid (fun W => implNear ((raw f k j : Int) * 256) (k : Int) (by omega) (by omega) (by omega) (by omega) W)
          have x0 : wr.cell? ⟨w.heap.size, j, none⟩ = some (.int .i64 (raw f k j : Nat)) := HO.out.cell (by omega) (by unfold mid; rw [if_neg (by omega)])
          have HNX := Lib.hid (HO.out.put (by omega) fun i _ => set_mid f k j i)
          obtain ⟨m, hm⟩ : ∃ m, raw f k j = m := ⟨_, rfl⟩
          rw [hm] at x0 hle HNR HNX
          obtain ⟨q, hq⟩ : ∃ q, nr ((m : Int) * 256) (k : Int) = q := ⟨_, rfl⟩
          rw [show (256 : Int) * (m : Int) = (m : Int) * 256 from Int.mul_comm _ _, hq] at HNX
          rw [hq] at HNR
          have xf := HO.out.free
          have xz := HO.out.lt
          have hji : (j : Int) < 25 := by omega
          clear hm hq
          go_wp2_with fail
          with_reducible refine (HNR.out _).mono ?_
          rintro e _ ⟨rfl, rfl⟩
          go_wp2
          go_roundw
          case rel => exact ⟨j + 1, by omega, by go_num, HNX⟩
          case measure => simp [intOf]; omega
        · obtain rfl : j = 25 := by omega
          have xf := HO.out.free
          have xz := HO.out.lt
          have x24 : wr.cell? ⟨w.heap.size, 24, none⟩ = some (.int .i64 _) := HO.out.cell (by omega) rfl
          have HNX := Lib.hid (HO.out.put (by omega) fun i hi => set_end f k 25 (by omega) i hi)
          go_wp2
          go_ret
          exact ⟨_, rfl, HNX.out.row, HNX.out.below⟩
end Go.Proofs.Ytimkochgnjggdaa.inp
