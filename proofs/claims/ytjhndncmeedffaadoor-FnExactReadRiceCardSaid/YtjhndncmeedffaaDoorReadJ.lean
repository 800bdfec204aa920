/-
  Proved: what the program's reader of Rice codes does.
  Conditions: none.
-/
import Derived.Test.YtjhndncmeedffaaDoorReadI
namespace Go.Proofs.YtjhndncmeedffaaDoor.readR
open Go.ChangeShapes Go.WideShapes Go.ChangeAt Go.RowKit Go.Joins
open Go.Proofs.YtjhndncmeedffaaDoor.core Go.Proofs.YtjhndncmeedffaaDoor.rows Go.Proofs.YtjhndncmeedffaaDoor.bits Go.Proofs.YtjhndncmeedffaaDoor.numS Go.Proofs.YtjhndncmeedffaaDoor.ints Go.Proofs.YtjhndncmeedffaaDoor.riceI
set_option linter.unusedVariables false
set_option linter.unusedSimpArgs false

theorem tail_list (t : ByteArray) (i : Nat) : (t.extract i t.size).data.toList = t.data.toList.drop i := by
  rw [ext_list, List.take_of_length_le (by simp)]
theorem tail_tail (t : ByteArray) (i j : Nat) : (t.extract i t.size).extract j (t.extract i t.size).size = t.extract (i + j) t.size := by
  apply ByteArray.ext
  apply Array.toList_inj.1
  rw [tail_list, tail_list, tail_list, List.drop_drop]
theorem tail_size (t : ByteArray) (i : Nat) : (t.extract i t.size).size = t.size - i := by simp
theorem tail_bits {t : ByteArray} (h : ∀ x ∈ t.data.toList, isBit x) (i : Nat) : ∀ x ∈ (t.extract i t.size).data.toList, isBit x := fun x hx => by
  rw [tail_list] at hx
  exact h x (List.mem_of_mem_drop hx)
theorem longV_calls (u k : Nat) (hu : u ≤ 4294967296) (hk : k ≤ 12) (r : Bool) (hr : r = true ↔ ¬ u / 2 ^ k < 20) (w : World) :
    Calls Tryd.prog 47 #[.int .i64 u, .int .i64 k] w fun e w' => e = .returned (.bool r) ∧ w = w' := by
  have e1 := two_quo u k
  generalize u / 2 ^ k = p at *
  obtain rfl : r = decide ((20 : Int) ≤ (p : Int)) := by
    rw [Bool.eq_iff_iff, hr]
    simp
    omega
  clear hr
  go_enter Tryd.func47, Tryd.ntmps47
  go_wp2
  go_ret
  exact ⟨rfl, by trivial⟩
set_option maxRecDepth 100000 in
set_option maxHeartbeats 1000000 in
theorem unfold_in (u : Nat) (hu : u ≤ 4294967296) : inI64 (unfold' u) := by
  unfold unfold' inI64
  split <;> omega

/-- What a long code's rest gives. -/
def lg (l : List UInt8) (k : Nat) : Got :=
  if l.length < 32 then .trunc
  else if val (l.take 32) / 2 ^ k < 20 ∨ ¬ (-1000000000 ≤ unfold' (val (l.take 32)) ∧ unfold' (val (l.take 32)) ≤ 1000000000) then .format
  else .ok (unfold' (val (l.take 32))) 32
def pr (g : Got) : Int × Int :=
  match g with
  | .ok n _ => (n, 0)
  | .trunc => (0, 9)
  | .format => (0, 8)
def Left (w' : World) (b : Nat) (t : ByteArray) (g : Got) : Prop := ∀ n len, g = .ok n len → Rd w' b (t.extract len t.size)
theorem Left.trunc (w' : World) (b : Nat) (t : ByteArray) : Left w' b t .trunc := fun n len h => by cases h
theorem Left.format (w' : World) (b : Nat) (t : ByteArray) : Left w' b t .format := fun n len h => by cases h
theorem Left.ok {w' : World} {b : Nat} {t : ByteArray} {n : Int} {len : Nat} (h : Rd w' b (t.extract len t.size)) : Left w' b t (.ok n len) := fun n len h' => by cases h'; exact h

set_option maxRecDepth 100000 in
set_option maxHeartbeats 2000000 in
theorem longR_calls (b : Nat) (t : ByteArray) (hs : t.size ≤ 100000) (hb : ∀ x ∈ t.data.toList, isBit x) (k : Nat) (hk : k ≤ 12) (w : World) (h : Rd w b t) (hbw : b < w.heap.size) :
    Calls Tryd.prog 41 #[.pointer (some ⟨b, 0, none⟩), .int .i64 k] w fun e w' => e = .returned (.tuple #[.int .i64 (pr (lg t.data.toList k)).1, .int .i64 (pr (lg t.data.toList k)).2]) ∧ Left w' b t (lg t.data.toList k) ∧ OnlyF (fun k => k = b) w w' := by
  by_cases hlt : t.size < 32
  · have H1 : Hid (Calls Tryd.prog 42 #[.pointer (some ⟨b, 0, none⟩), .int .i64 32] w fun e w' => e = .returned (.tuple #[.int .i64 0, .bool false]) ∧ w = w') := Lib.hid (numberR_no b t hs 32 (by omega) w h hlt)
    have HG := Lib.hid (show lg t.data.toList k = .trunc from if_pos (by rw [pack.len_eq]; exact hlt))
    clear h hlt hb
    go_enter Tryd.func41, Tryd.ntmps41
    go_wp2_with fail
    with_reducible refine H1.out.mono ?_
    rintro e w1 ⟨rfl, rfl⟩
    go_wp2
    go_ret2
    rw [HG.out]
    exact ⟨rfl, Left.trunc _ _ _, OnlyF.refl _ _⟩
  · have h0 := numberR_yes b t hs hb 32 (by omega) w h (by omega)
    have hv := val_32 (t.data.toList.take 32) (fun x hx => hb x (List.mem_of_mem_take hx)) (by rw [List.length_take]; omega)
    have hg : lg t.data.toList k = if val (t.data.toList.take 32) / 2 ^ k < 20 ∨ ¬ (-1000000000 ≤ unfold' (val (t.data.toList.take 32)) ∧ unfold' (val (t.data.toList.take 32)) ≤ 1000000000) then .format else .ok (unfold' (val (t.data.toList.take 32))) 32 := if_neg (by rw [pack.len_eq]; exact hlt)
    generalize val (t.data.toList.take 32) = v at *
    have H1 : Hid (Calls Tryd.prog 42 #[.pointer (some ⟨b, 0, none⟩), .int .i64 32] w fun e w' => e = .returned (.tuple #[.int .i64 (v : Int), .bool true]) ∧ Rd w' b (t.extract 32 t.size) ∧ OnlyF (fun k => k = b) w w') := Lib.hid h0
    have H2 := Lib.hid (fun W => unfoldI_calls v (by omega) W)
    have H3 := Lib.hid (fun W => longV_calls v k hv hk (decide (¬ v / 2 ^ k < 20)) (by simp) W)
    have H4 := Lib.hid (fun W => wRiceBits.in_call (unfold' v) (unfold_in v hv) (decide (-1000000000 ≤ unfold' v ∧ unfold' v ≤ 1000000000)) (by simp) W)
    have HG := Lib.hid hg
    generalize hx : unfold' v = x at *
    by_cases hlong : v / 2 ^ k < 20
    · rw [decide_eq_false (by omega)] at H3
      have HG2 := Lib.hid (HG.out.trans (if_pos (.inl hlong)))
      clear h0 hg HG hlong hlt hb h H4 hx
      go_enter Tryd.func41, Tryd.ntmps41
      go_wp2_with fail
      with_reducible refine H1.out.mono ?_
      rintro e w1 ⟨rfl, hr, ho⟩
      have HO := Lib.hid ho
      clear hr ho
      go_wp2_with fail
      with_reducible refine (H2.out _).mono ?_
      rintro e w2 ⟨rfl, rfl⟩
      go_wp2_with fail
      with_reducible refine (H3.out _).mono ?_
      rintro e w2 ⟨rfl, rfl⟩
      go_wp2
      go_ret2
      rw [HG2.out]
      exact ⟨rfl, Left.format _ _ _, HO.out⟩
    · rw [decide_eq_true (by omega)] at H3
      by_cases hin : -1000000000 ≤ x ∧ x ≤ 1000000000
      · rw [decide_eq_true hin] at H4
        have HG2 := Lib.hid (HG.out.trans (if_neg (by simp [hlong, hin])))
        clear h0 hg HG hlong hlt hb h hx hin
        go_enter Tryd.func41, Tryd.ntmps41
        go_wp2_with fail
        with_reducible refine H1.out.mono ?_
        rintro e w1 ⟨rfl, hr, ho⟩
        have HO := Lib.hid ho
        have HR := Lib.hid hr
        clear hr ho
        go_wp2_with fail
        with_reducible refine (H2.out _).mono ?_
        rintro e w2 ⟨rfl, rfl⟩
        go_wp2_with fail
        with_reducible refine (H3.out _).mono ?_
        rintro e w2 ⟨rfl, rfl⟩
        go_wp2_with fail
        with_reducible refine (H4.out _).mono ?_
        rintro e w2 ⟨rfl, rfl⟩
        go_wp2
        go_ret2
        rw [HG2.out]
        exact ⟨rfl, Left.ok ((Below.heap_alloc _ _ _ (Nat.lt_of_lt_of_le hbw HO.out.size)).trans HR.out), HO.out.then_below (below_alloc1 _ _)⟩
      · rw [decide_eq_false hin] at H4
        have HG2 := Lib.hid (HG.out.trans (if_pos (.inr hin)))
        clear h0 hg HG hlong hlt hb h hx hin
        go_enter Tryd.func41, Tryd.ntmps41
        go_wp2_with fail
        with_reducible refine H1.out.mono ?_
        rintro e w1 ⟨rfl, hr, ho⟩
        have HO := Lib.hid ho
        clear hr ho
        go_wp2_with fail
        with_reducible refine (H2.out _).mono ?_
        rintro e w2 ⟨rfl, rfl⟩
        go_wp2_with fail
        with_reducible refine (H3.out _).mono ?_
        rintro e w2 ⟨rfl, rfl⟩
        go_wp2_with fail
        with_reducible refine (H4.out _).mono ?_
        rintro e w2 ⟨rfl, rfl⟩
        go_wp2
        go_ret2
        rw [HG2.out]
        exact ⟨rfl, Left.format _ _ _, HO.out.then_below (below_alloc1 _ _)⟩
end Go.Proofs.YtjhndncmeedffaaDoor.readR
