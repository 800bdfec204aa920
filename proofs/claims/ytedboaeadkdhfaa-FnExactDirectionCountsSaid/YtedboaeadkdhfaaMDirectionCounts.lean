/-
  Proved: both functions that count the directions of features return the same numbers, in memory of their own.
  Conditions: none.
-/
import Derived.Test.YtedboaeadkdhfaaFt
import Derived.Test.YtedboaeadkdhfaaPut
import Derived.Maps.OwnOps
import Derived.Lib.AppendIntMem
namespace Go.Proofs.Ytedboaeadkdhfaa.wDirectionCounts
open Go.ChangeShapes Go.WideShapes Go.ChangeAt Go.RowKit Go.Joins Go.Maps
open Go.Proofs.Ytedboaeadkdhfaa.core Go.Proofs.Ytedboaeadkdhfaa.rown Go.Proofs.Ytedboaeadkdhfaa.stk Go.Proofs.Ytedboaeadkdhfaa.boxed Go.Proofs.Ytedboaeadkdhfaa.ft Go.Proofs.Ytedboaeadkdhfaa.put3
set_option linter.unusedVariables false
set_option linter.unusedSimpArgs false
/-- How many of the first k features have the direction. -/
def dc (f : Nat → P3) (v : Int) : Nat → Nat
  | 0 => 0
  | k + 1 => dc f v k + if (f k).2.2 = v then 1 else 0
theorem dc_le (f : Nat → P3) (v : Int) : ∀ k, dc f v k ≤ k
  | 0 => Nat.le_refl _
  | k + 1 => by
    have := dc_le f v k
    rw [dc]
    split <;> omega
theorem dc_yes (f : Nat → P3) (k : Nat) : dc f (f k).2.2 (k + 1) = dc f (f k).2.2 k + 1 := by rw [dc, if_pos rfl]
theorem dc_no (f : Nat → P3) {v : Int} {k : Nat} (h : ¬ (f k).2.2 = v) : dc f v (k + 1) = dc f v k := by rw [dc, if_neg h]; rfl
/-- Rows of one number. -/
def one (F : Nat → Int) (i : Nat) : List Value := [.int .i64 (F i)]
theorem one_len (F : Nat → Int) : ∀ i, (one F i).length = 1 := fun i => rfl
theorem one_get (F : Nat → Int) : ∀ i j, j < 1 → (one F i)[j]? = some (.int .i64 (F i)) := fun i j hj => by
  obtain rfl : j = 0 := by omega
  rfl
theorem set1 (F F' : Nat → Int) (n d : Nat) (hd : d < n) (v : Int) (h : ∀ j, F' j = if j = d then v else F j) : (rws (one F) n).set d (.int .i64 v) = rws (one F') n := by
  have hl := rws_len (one_len F) n
  have hl2 := rws_len (one_len F') n
  apply List.ext_getElem?
  intro j
  rcases Nat.lt_or_ge j n with hj | hj
  · have e1 := rws_get (one_len F) j 0 (by omega) n hj
    have e2 := rws_get (one_len F') j 0 (by omega) n hj
    rw [Nat.mul_one, Nat.add_zero] at e1 e2
    rw [e2, List.getElem?_set, hl]
    by_cases e : d = j
    · subst e
      rw [if_pos rfl, if_pos (by omega)]
      unfold one
      rw [h, if_pos rfl]
      rfl
    · rw [if_neg e, e1]
      unfold one
      rw [h, if_neg (by omega)]
  · rw [List.getElem?_eq_none (by simp only [List.length_set]; omega), List.getElem?_eq_none (by omega)]
/-- The counts of all directions after k features. -/
def cv (f : Nat → P3) (k : Nat) (j : Nat) : Int := (dc f (j : Int) k : Nat)
theorem infoI : (Try.prog.info? 2).map (fun i => (i.zero, i.size, i.bytes)) = some (some (.int .i64 0), 1, 8) := by kernel_rfl
theorem lawI : Keyed Try.prog 2 := int_keyed Try.underlying2
theorem zeroI (w : World) : (zeroValue 2).run Try.prog w = .ok (.int .i64 0) w := by kernel_rfl
theorem run_mk {P : Program} {t k e : TypeId} (ht : P.underlying t = some (.map k e)) (n : Nat) (w : World) : (Instr.makeMap t (some (.int .i64 (n : Int)))).run P w = .ok (.map (some w.heap.size)) (w.alloc (.map #[] 0)) := by
  simp [Instr.makeMap, go_sem, run_underlying ht]
theorem one_new {w : World} {a : Value} {E H : Nat} (h : w.heap.size = H) : ∀ j u, [a][j]? = some u → (w.alloc (.cells #[a] E)).cell? ((⟨H, 0, none⟩ : Addr).add j) = some u := by
  subst h
  exact new_cells (l := [a])
theorem map_below {w w' : World} {P : Program} {k b n : Nat} {R : Value → Option (DataW Unit × List MemPlace)} {D : DataW Unit} (h : w.ownsMap P k R b n D) (hb : Below w.heap.size w w') : w'.ownsMap P k R b n D := by
  have hlt := h.lt
  obtain ⟨es, clock, hm, F, hs, hD⟩ := h
  exact ⟨es, clock, (hb.block b hlt).trans hm, F, hs, hD⟩
/-- What the map holds after k features. -/
def CM (f : Nat → P3) : Nat → DataW Unit
  | 0 => .map []
  | k + 1 => (CM f k).put (.int .i64 (f k).2.2) (.lit (.int .i64 (dc f (f k).2.2 (k + 1) : Nat)))
theorem CM_map (f : Nat → P3) : ∀ k, IsMap (CM f k)
  | 0 => isMap_empty
  | k + 1 => (CM_map f k).put _ _
theorem CM_at (f : Nat → P3) (v : Int) : ∀ k, (CM f k).atKey (.int .i64 v) (.lit (.int .i64 0)) = .lit (.int .i64 (dc f v k : Nat))
  | 0 => rfl
  | k + 1 => by
    rw [CM]
    by_cases h : (f k).2.2 = v
    · subst h
      exact atKey_put_same (CM_map f k) (by trivial) _ _
    · rw [atKey_put_other (by intro e; injection e with _ e; exact h e.symm), CM_at f v k, dc_no f h]
set_option maxRecDepth 100000 in
set_option maxHeartbeats 4000000 in
theorem spec_no {c : Nat} (A : Option Addr) (n : Nat) (f : Nat → P3) (w : World) (hcap : n ≤ 1048576) (hp : PtsAt w A n f) (hv : okF n f = false) :
    Calls Try.prog 29 #[.slice A n c] w fun e w' => ∃ v, e = .returned (.tuple #[v, .int .i64 1]) ∧ w'.ownsRow w.heap.size 2 1 v 0 (rws (one fun _ => 0) 0) ∧ Below w.heap.size w w' := by
  have HS := Lib.hid (okS (c := c) A n f w hcap hp)
  rw [hv] at HS
  clear hp hv
  go_enter Try.func29, Try.ntmps29
  go_wp2_with fail
  refine HS.out.mono ?_
  rintro e w1 ⟨rfl, hb1⟩
  have B1 := Lib.hid hb1
  clear hb1 HS
  go_wp2
  go_ret2
  exact ⟨.slice none 0 0, rfl, World.ownsRow_nil _ _ _ _, B1.out⟩
set_option maxRecDepth 100000 in
set_option maxHeartbeats 4000000 in
theorem impl_no {c : Nat} (A : Option Addr) (n : Nat) (f : Nat → P3) (w : World) (hcap : n ≤ 1048576) (hp : PtsAt w A n f) (hv : okF n f = false) :
    Calls Try.prog 30 #[.slice A n c] w fun e w' => ∃ v, e = .returned (.tuple #[v, .int .i64 1]) ∧ w'.ownsRow w.heap.size 2 1 v 0 (rws (one fun _ => 0) 0) ∧ Below w.heap.size w w' := by
  have HS := Lib.hid (okI (c := c) A n f w hcap hp)
  rw [hv] at HS
  clear hp hv
  go_enter Try.func30, Try.ntmps30
  go_wp2_with fail
  refine HS.out.mono ?_
  rintro e w1 ⟨rfl, hb1⟩
  have B1 := Lib.hid hb1
  clear hb1 HS
  go_wp2
  go_ret2
  exact ⟨.slice none 0 0, rfl, World.ownsRow_nil _ _ _ _, B1.out⟩
/-- The new list of eight zeros. -/
theorem make8 (w : World) : ∃ cur : Array Value, cur = #[.int .i64 0, .int .i64 0, .int .i64 0, .int .i64 0, .int .i64 0, .int .i64 0, .int .i64 0, .int .i64 0] ∧
    (Instr.makeSlice 39 (.int .i64 8) (.int .i64 8)).run Try.prog w = .ok (.slice (some ⟨w.heap.size, 0, none⟩) 8 8) (w.alloc (.cells cur 2)) := by
  obtain ⟨i0, hi, hz0, hz1, hz2⟩ := rown.info_get infoI
  have hr := run_make (P := Try.prog) w 39 2 i0 _ Try.underlying39 hi hz0 .i64 .i64 8 8 (by omega) (by omega) (by rw [hz2]; omega) (by omega)
  have e : madeCells (Value.int .i64 0).cells (Int.toNat 8 * i0.size) = #[.int .i64 0, .int .i64 0, .int .i64 0, .int .i64 0, .int .i64 0, .int .i64 0, .int .i64 0, .int .i64 0] := by
    rw [hz1]
    first | rfl | kernel_rfl | (simp [madeCells, Value.cells]; done) | decide
  rw [e] at hr
  exact ⟨_, rfl, hr⟩
theorem make08 (w : World) : ∃ cur : Array Value, cur.size = 8 ∧
    (Instr.makeSlice 39 (.int .i64 0) (.int .i64 8)).run Try.prog w = .ok (.slice (some ⟨w.heap.size, 0, none⟩) 0 8) (w.alloc (.cells cur 2)) := by
  obtain ⟨i0, hi, hz0, hz1, hz2⟩ := rown.info_get infoI
  have hr := run_make (P := Try.prog) w 39 2 i0 _ Try.underlying39 hi hz0 .i64 .i64 0 8 (by omega) (by omega) (by rw [hz2]; omega) (by omega)
  refine ⟨_, ?_, hr⟩
  rw [hz1]
  simp [madeCells]
theorem row8 (w : World) (E : Nat) : (w.alloc (.cells #[.int .i64 0, .int .i64 0, .int .i64 0, .int .i64 0, .int .i64 0, .int .i64 0, .int .i64 0, .int .i64 0] E)).ownsRow w.heap.size E 1 (.slice (some ⟨w.heap.size, 0, none⟩) 8 8) 8 (rws (one fun _ => 0) 8) :=
  ⟨by simp [rws, one], .inr ⟨w.heap.size, 8, _, rfl, Nat.le_refl _, heap_alloc_new _ _, Nat.le_refl _, by simp [maxLen], by simp, by simp [rws, one]⟩⟩
theorem row0 (w : World) (E : Nat) (cur : Array Value) (hc : cur.size = 8) : (w.alloc (.cells cur E)).ownsRow w.heap.size E 1 (.slice (some ⟨w.heap.size, 0, none⟩) 0 8) 0 [] :=
  ⟨by simp, .inr ⟨w.heap.size, 8, _, rfl, Nat.le_refl _, heap_alloc_new _ _, Nat.zero_le _, by simp [maxLen], by simp [hc], by simp⟩⟩
set_option maxRecDepth 100000 in
set_option maxHeartbeats 4000000 in
theorem spec_yes {c : Nat} (A : Option Addr) (n : Nat) (f : Nat → P3) (w : World) (hcap : n ≤ 1048576) (hp : PtsAt w A n f) (hv : okF n f = true) :
    Calls Try.prog 29 #[.slice A n c] w fun e w' => ∃ v, e = .returned (.tuple #[v, .int .i64 0]) ∧ w'.ownsRow w.heap.size 2 1 v 8 (rws (one (cv f n)) 8) ∧ Below w.heap.size w w' := by
  obtain ⟨h1, h384, hall⟩ := okF_of hv
  have HV := Lib.hid hall
  have HS := Lib.hid (okS (c := c) A n f w hcap hp)
  rw [hv] at HS
  have HP := Lib.hid hp
  clear hp hv hall
  go_enter Try.func29, Try.ntmps29
  go_wp2_with fail
  refine HS.out.mono ?_
  rintro e w1 ⟨rfl, hb1⟩
  have B1 := Lib.hid hb1
  have HP1 := Lib.hid (HP.out.kept hb1)
  clear hb1 HS HP
  obtain ⟨cur, hcu, hmk⟩ := make8 w1
  have R0 := Lib.hid (show (w1.alloc (.cells cur 2)).ownsRow w1.heap.size 2 1 (.slice (some ⟨w1.heap.size, 0, none⟩) 8 8) 8 (rws (one (cv f 0)) 8) by rw [hcu]; exact row8 w1 _)
  clear hcu
  go_wp2
  clear hmk
  go_loopw [5] (fun i w' => ∃ k : Nat, k ≤ n ∧ i = .int .i64 (k : Int) ∧ Hid (w'.ownsRow w1.heap.size 2 1 (.slice (some ⟨w1.heap.size, 0, none⟩) 8 8) 8 (rws (one (cv f k)) 8)) ∧ Hid (Below w1.heap.size w1 w')) (fun i _ => n - (intOf i).toNat)
  case atStart => exact ⟨0, Nat.zero_le _, rfl, R0, Lib.hid (below_alloc1 _ _)⟩
  case round =>
    obtain ⟨k, hk, rfl, HO, HB⟩ := hrel
    by_cases hlt : k < n
    · obtain ⟨g, o, rfl, hg, p0, p1, p2⟩ := (HP1.out.kept HB.out) k hlt
      have hin := inF_of (HV.out k hlt)
      obtain ⟨d, hd⟩ : ∃ d : Nat, (f k).2.2 = (d : Int) := ⟨(f k).2.2.toNat, by omega⟩
      have hd8 : d < 8 := by omega
      have HST := Lib.hid (show (rws (one (cv f k)) 8).set d (.int .i64 ((dc f (d : Int) k : Nat) + 1)) = rws (one (cv f (k + 1))) 8 from set1 _ _ 8 d hd8 _ fun j => by
        unfold cv
        by_cases e : j = d
        · rw [if_pos e, e, ← hd, dc_yes]
          rfl
        · rw [if_neg e, dc_no f (by rw [hd]; omega)])
      have hle := dc_le f (d : Int) k
      have x0 : wr.cell? ⟨w1.heap.size, d, none⟩ = some (.int .i64 (dc f (d : Int) k : Nat)) := by have := row_cell HO.out (one_len _) hd8 (show 0 < 1 by omega) rfl; rw [Nat.mul_one, Nat.add_zero] at this; exact this
      have xf := free_row HO.out
      have xz := rown.row_lt HO.out
      obtain ⟨m, hm⟩ : ∃ m, dc f (d : Int) k = m := ⟨_, rfl⟩
      rw [hm] at x0 hle HST
      rw [hd] at p2
      have hli : (k : Int) < (n : Int) := by omega
      have hdi : (d : Int) < 8 := by omega
      clear hm hd hin p0 p1
      go_wp2
      go_roundw
      case rel => exact ⟨k + 1, by omega, by go_num, Lib.hid (by rw [← HST.out]; exact own_set1 HO.out _ (by rw [rws_len (one_len _)]; omega)), Lib.hid (HB.out.setCell (Nat.le_refl _) _)⟩
      case measure => simp [intOf]; omega
    · obtain rfl : k = n := by omega
      go_wp2
      go_ret2
      exact ⟨_, rfl, row_low HO.out B1.out.size, B1.out.trans (HB.out.mono B1.out.size)⟩
set_option maxRecDepth 100000 in
set_option maxHeartbeats 4000000 in
theorem impl_yes {c : Nat} (A : Option Addr) (n : Nat) (f : Nat → P3) (w : World) (hcap : n ≤ 1048576) (hp : PtsAt w A n f) (hv : okF n f = true) :
    Calls Try.prog 30 #[.slice A n c] w fun e w' => ∃ v, e = .returned (.tuple #[v, .int .i64 0]) ∧ w'.ownsRow w.heap.size 2 1 v 8 (rws (one (cv f n)) 8) ∧ Below w.heap.size w w' := by
  obtain ⟨h1, h384, hall⟩ := okF_of hv
  obtain ⟨i0, hi0, hz0, hz1, hz2⟩ := rown.info_get infoI
  have HV := Lib.hid hall
  have HS := Lib.hid (okI (c := c) A n f w hcap hp)
  rw [hv] at HS
  have HP := Lib.hid hp
  clear hp hv hall
  go_enter Try.func30, Try.ntmps30
  go_wp2_with fail
  refine HS.out.mono ?_
  rintro e w1 ⟨rfl, hb1⟩
  have B1 := Lib.hid hb1
  have HP1 := Lib.hid (HP.out.kept hb1)
  clear hb1 HS HP
  have hmm : (Instr.makeMap 67 (some (.int .i64 8))).run Try.prog w1 = .ok (.map (some w1.heap.size)) (w1.alloc (.map #[] 0)) := run_mk (P := Try.prog) Try.underlying67 8 w1
  go_wp2
  clear hmm
  go_loopw [15] (fun i w' => ∃ k : Nat, k ≤ n ∧ i = .int .i64 (k : Int) ∧ Hid (w'.ownsMap Try.prog 2 (plainElem Try.prog 2) w1.heap.size k (CM f k)) ∧ Hid (Below w1.heap.size w1 w')) (fun i _ => n - (intOf i).toNat)
  case atStart => exact ⟨0, Nat.zero_le _, rfl, Lib.hid (World.ownsMap_made _ _ _ _), Lib.hid ((Below.refl _ _).alloc (Nat.le_refl _) _)⟩
  case round =>
    obtain ⟨k, hk, rfl, HO, HB⟩ := hrel
    by_cases hlt : k < n
    · obtain ⟨g, o, rfl, hg, p0, p1, p2⟩ := (HP1.out.kept HB.out) k hlt
      have hin := inF_of (HV.out k hlt)
      have HAT := Lib.hid (CM_at f (f k).2.2 k)
      have HPUT := Lib.hid (show CM f (k + 1) = (CM f k).put (.int .i64 (f k).2.2) (.lit (.int .i64 (dc f (f k).2.2 (k + 1) : Nat))) from rfl)
      have HYES := Lib.hid (dc_yes f k)
      have hle := dc_le f (f k).2.2 k
      obtain ⟨p, hpk⟩ : ∃ p, f k = p := ⟨_, rfl⟩
      rw [hpk] at p0 p1 p2 hin HAT HPUT HYES hle
      have hli : (k : Int) < (n : Int) := by omega
      have hkey : keyOf Try.prog 2 (.int .i64 p.2.2) = some (.int .i64 p.2.2) := keyOf_int_mk Try.underlying2 (WalkArith.wf_i64 (by omega))
      have hown := HO.out.alloc (.cells #[.int .i64 p.1, .int .i64 p.2.1, .int .i64 p.2.2] 25)
      have HB1 := Lib.hid (HB.out.alloc HB.out.size (.cells #[.int .i64 p.1, .int .i64 p.2.1, .int .i64 p.2.2] 25))
      have hz := zeroI (wr.alloc (.cells #[.int .i64 p.1, .int .i64 p.2.1, .int .i64 p.2.2] 25))
      clear HO HB hpk
      go_wp2_with (first
        | (at_lookup; refine wpList_lookup_own_int _ rfl _ _ 67 rfl 2 2 .i64 lawI Try.underlying67 Try.underlying2 hz w1.heap.size k _ rfl hown _ _ rfl hkey ?_; intro cc hat hwc; obtain rfl : cc = (dc f p.2.2 k : Nat) := (by have := hat.symm.trans HAT.out; injection this with this; injection this with _ this))
        | (at_mapUpdate; refine wpList_mapUpdate_own _ rfl _ _ _ 67 rfl 2 2 lawI Try.underlying67 _ w1.heap.size k _ rfl hown (by unfold maxLen; omega) _ _ _ rfl rfl hkey _ [] (plainElem_int Try.underlying2 (WalkArith.wf_i64 (by omega))) ?_; intro w5 hown1 hgrow1))
      have R1 := Lib.hid (show w5.ownsMap Try.prog 2 (plainElem Try.prog 2) w1.heap.size (k + 1) (CM f (k + 1)) by rw [HPUT.out, HYES.out]; exact hown1)
      have R2 := Lib.hid (HB1.out.grown hgrow1 HB1.out.size (fun j hj => by cases hj; exact Nat.le_refl _))
      clear hown1 hgrow1
      go_roundw
      case rel => exact ⟨k + 1, by omega, by go_num, R1, R2⟩
      case measure => simp [intOf]; omega
    · obtain rfl : k = n := by omega
      obtain ⟨wm, hwm⟩ : ∃ v, v = wr := ⟨_, rfl⟩
      subst hwm
      obtain ⟨cur, hcu, hmk⟩ := make08 wm
      have R0 := Lib.hid (row0 wm 2 cur hcu)
      clear hcu
      go_wp2
      clear hmk
      go_loopw [7, 26] (fun o i w' => ∃ (j d : Nat) (B : Option Addr), j ≤ 8 ∧ i = .int .i64 (j : Int) ∧ o = .slice B j d ∧ Hid (w'.ownsRow wm.heap.size 2 1 (.slice B j d) j (rws (one (cv f k)) j)) ∧ Hid (Below wm.heap.size wm w')) (fun _ i _ => 8 - (intOf i).toNat)
      case atStart => exact ⟨0, 8, _, Nat.zero_le _, rfl, rfl, R0, Lib.hid (below_alloc1 _ _)⟩
      case round =>
        obtain ⟨j, d, B, hj, rfl, rfl, HR, HBR⟩ := hrel
        by_cases hlt2 : j < 8
        · have hown := map_below HO.out HBR.out
          have HAT := Lib.hid (CM_at f (j : Int) k)
          have HE := Lib.hid (show rws (one (cv f k)) (j + 1) = rws (one (cv f k)) j ++ [.int .i64 (dc f (j : Int) k : Nat)] from rfl)
          have hle := dc_le f (j : Int) k
          obtain ⟨m, hm⟩ : ∃ m, dc f (j : Int) k = m := ⟨_, rfl⟩
          rw [hm] at HAT HE hle
          have hkey : keyOf Try.prog 2 (.int .i64 (j : Int)) = some (.int .i64 (j : Int)) := keyOf_int_mk Try.underlying2 (WalkArith.wf_i64 (by omega))
          have hz := zeroI wr
          have hji : (j : Int) < 8 := by omega
          clear hm
          go_wp2_with (first
            | (at_lookup; refine wpList_lookup_own_int _ rfl _ _ 67 rfl 2 2 .i64 lawI Try.underlying67 Try.underlying2 hz w1.heap.size k _ rfl hown _ _ rfl hkey ?_; intro cc hat hwc; obtain rfl : cc = (m : Int) := (by have := hat.symm.trans HAT.out; injection this with this; injection this with _ this))
            | (at_builtin
               have z0 := rown.ownsRow_kept HR.out (below_alloc1 wr (.cells #[.int .i64 (m : Int)] 2))
               have z2 : ∀ u ∈ [Value.int .i64 (m : Int)], u.oneCell' = true := (by simp [Value.oneCell'])
               have z3 : j + 1 ≤ maxLen := (by simp only [maxLen]; omega)
               have z4 : (j + 1) * 8 ≤ 140737488355328 := (by omega)
               have z5 : wm.heap.size ≤ (wr.alloc (.cells #[.int .i64 (m : Int)] 2)).heap.size := (Nat.le_trans HBR.out.size (by simp))
               refine wpList_append_lies (wr.alloc (.cells #[.int .i64 (m : Int)] 2)) rfl _ _ 39 rfl wm.heap.size 2 i0 _ 1 8 Try.underlying39 hi0 hz0 hz1 hz2 rfl (by decide) (.slice B j d) j _ rfl z0 ⟨wr.heap.size, 0, none⟩ 1 1 [.int .i64 (m : Int)] rfl rfl (one_new rfl) z2 (by decide) z3 z4 z5 _ rfl ?_
               intro g3 cap3 w5 hown1 hgr hat hlt3
               have HO4 := Lib.hid hown1
               have HB4 := Lib.hid (HBR.out.trans (rown.under HR.out HBR.out.size hgr))
               clear hown1 hgr hat z0 z2 z3 z4 z5))
          go_roundw
          case rel => exact ⟨j + 1, cap3, some ⟨g3, 0, none⟩, by omega, by go_num, rfl, Lib.hid (by rw [HE.out]; exact HO4.out), HB4⟩
          case measure => simp [intOf]; omega
        · obtain rfl : j = 8 := by omega
          go_wp2
          go_ret2
          exact ⟨_, rfl, row_low HR.out (Nat.le_trans B1.out.size HB.out.size), B1.out.trans ((HB.out.trans (HBR.out.mono HB.out.size)).mono B1.out.size)⟩
theorem in_all (f : Nat → P3) (n : Nat) (hn : n ≤ 384) : ∀ i j, i < 8 → j < 1 → inI64 ((fun i _ => cv f n i) i j) := fun i j hi hj => by
  have := dc_le f (i : Int) n
  show inI64 (cv f n i)
  unfold cv inI64
  omega
theorem ty_of (n : Nat) (f : Nat → Nat → Int) : tyrInt64S (datRows n 1 f) := ⟨n, _, rfl, fun i _ => ⟨_, rfl⟩⟩
theorem meat (vs0 : Nat → Value) (g0 : Nat → Dat) (ht0 : tyrFeatS g0) :
    costRec 1 g0 ≤ 1048576 → ∃ (R : Nat → Dat) (r1 : Int), tyrInt64S R ∧ cntRec 1 R ≤ 100000000000 ∧ (∀ (W : World) (us0 : Nat → Value), ReadsRec W 1 us0 g0 → (∃ (A : Option Addr) (n c : Nat), us0 0 = .slice A n c ∧ n ≤ c) → Calls Try.prog 29 #[us0 0] W fun e W' => ∃ xs : Nat → Value, e = .returned (.tuple #[xs 0, .int .i64 r1]) ∧ OwnRec W' 1 xs R (iv W.heap.size W'.heap.size) ∧ Below W.heap.size W W') ∧ (∀ (W : World) (us0 : Nat → Value), ReadsRec W 1 us0 g0 → (∃ (A : Option Addr) (n c : Nat), us0 0 = .slice A n c ∧ n ≤ c) → Calls Try.prog 30 #[us0 0] W fun e W' => ∃ xs : Nat → Value, e = .returned (.tuple #[xs 0, .int .i64 r1]) ∧ OwnRec W' 1 xs R (iv W.heap.size W'.heap.size) ∧ Below W.heap.size W W') := by
  intro hq
  have hget : ∀ (F : Nat → Int) (i j : Nat), j < 1 → (one F i)[j]? = some (.int .i64 ((fun i (_ : Nat) => F i) i j)) := fun F i j hj => one_get F i j hj
  cases hv : okF (ftN g0) (ftF g0) with
  | true =>
    have hin := in_all (ftF g0) (ftN g0) (okF_of hv).2.1
    exact ⟨datRows 8 1 (fun i _ => cv (ftF g0) (ftN g0) i), 0, ty_of _ _, Nat.le_trans (datRows_cnt _ _ _) (by omega), fun W us0 h0 _ => by
        obtain ⟨A, c, e, hn, hp⟩ := reads_fts h0 ht0 hq
        rw [e]; exact fin (T := fun v => .tuple #[v, .int .i64 0]) (one_len _) (hget _) hin (spec_yes A _ _ W hn hp hv), fun W us0 h0 _ => by
        obtain ⟨A, c, e, hn, hp⟩ := reads_fts h0 ht0 hq
        rw [e]; exact fin (T := fun v => .tuple #[v, .int .i64 0]) (one_len _) (hget _) hin (impl_yes A _ _ W hn hp hv)⟩
  | false =>
    exact ⟨datRows 0 1 (fun i _ => (fun _ => 0) i), 1, ty_of _ _, Nat.le_trans (datRows_cnt _ _ _) (by omega), fun W us0 h0 _ => by
        obtain ⟨A, c, e, hn, hp⟩ := reads_fts h0 ht0 hq
        rw [e]; exact fin (T := fun v => .tuple #[v, .int .i64 1]) (one_len _) (hget _) (fun i j hi _ => absurd hi (by omega)) (spec_no A _ _ W hn hp hv), fun W us0 h0 _ => by
        obtain ⟨A, c, e, hn, hp⟩ := reads_fts h0 ht0 hq
        rw [e]; exact fin (T := fun v => .tuple #[v, .int .i64 1]) (one_len _) (hget _) (fun i j hi _ => absurd hi (by omega)) (impl_no A _ _ W hn hp hv)⟩
end Go.Proofs.Ytedboaeadkdhfaa.wDirectionCounts
