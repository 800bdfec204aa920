/-
  Proved: both functions that return the input of features return the same, in memory of its own.
  Conditions: none.
-/
import Derived.Test.YtimkochgnjggdaaInp
import Derived.Test.YtimkochgnjggdaaInpI
namespace Go.Proofs.Ytimkochgnjggdaa.wInputOf
open Go.ChangeShapes Go.WideShapes Go.ChangeAt Go.RowKit Go.Joins
open Go.Proofs.Ytimkochgnjggdaa.core Go.Proofs.Ytimkochgnjggdaa.rown Go.Proofs.Ytimkochgnjggdaa.stk Go.Proofs.Ytimkochgnjggdaa.boxed Go.Proofs.Ytimkochgnjggdaa.ft Go.Proofs.Ytimkochgnjggdaa.put3 Go.Proofs.Ytimkochgnjggdaa.one1 Go.Proofs.Ytimkochgnjggdaa.near Go.Proofs.Ytimkochgnjggdaa.inp
set_option linter.unusedVariables false
set_option linter.unusedSimpArgs false
def call (K : FuncId) (A : Option Addr) (n c : Nat) (w : World) (m : Nat) (F : Nat → Int) (code : Int) : Prop :=
  Calls Try.prog K #[.slice A n c] w fun e w' => ∃ v, e = .returned (.tuple #[v, .int .i64 code]) ∧ w'.ownsRow w.heap.size 2 1 v m (rws (one F) m) ∧ Below w.heap.size w w'
set_option maxRecDepth 100000 in
set_option maxHeartbeats 4000000 in
theorem spec_no {c : Nat} (A : Option Addr) (n : Nat) (f : Nat → P3) (w : World) (hcap : n ≤ 1048576) (hp : PtsAt w A n f) (hv : okF n f = false) : call 14 A n c w 0 (fun _ => 0) 1 := by
  have HS := Lib.hid (okS (c := c) A n f w hcap hp)
  rw [hv] at HS
  clear hp hv
  unfold call
  go_enter Try.func14, Try.ntmps14
  go_wp2_with fail
  refine HS.out.mono ?_
  rintro e w1 ⟨rfl, hb1⟩
  have B1 := Lib.hid hb1
  clear hb1 HS
  go_wp2
  go_ret2
  exact ⟨.slice none 0 0, rfl, World.ownsRow_nil _ _ _ _, B1.out⟩
set_option maxRecDepth 100000 in
set_option maxHeartbeats 4000000 in
theorem impl_no {c : Nat} (A : Option Addr) (n : Nat) (f : Nat → P3) (w : World) (hcap : n ≤ 1048576) (hp : PtsAt w A n f) (hv : okF n f = false) : call 16 A n c w 0 (fun _ => 0) 1 := by
  have HS := Lib.hid (okI (c := c) A n f w hcap hp)
  rw [hv] at HS
  clear hp hv
  unfold call
  go_enter Try.func16, Try.ntmps16
  go_wp2_with fail
  refine HS.out.mono ?_
  rintro e w1 ⟨rfl, hb1⟩
  have B1 := Lib.hid hb1
  clear hb1 HS
  go_wp2
  go_ret2
  exact ⟨.slice none 0 0, rfl, World.ownsRow_nil _ _ _ _, B1.out⟩
set_option maxRecDepth 100000 in
set_option maxHeartbeats 4000000 in
theorem spec_yes {c : Nat} (A : Option Addr) (n : Nat) (f : Nat → P3) (w : World) (hcap : n ≤ 1048576) (hp : PtsAt w A n f) (hv : okF n f = true) : call 14 A n c w 25 (inN f n) 0 := by
  have HS := Lib.hid (okS (c := c) A n f w hcap hp)
  have HI := Lib.hid (fun (W : World) (hW : Below w.heap.size w W) => inputS (c := c) A n f W (hp.kept hW) hv)
  rw [hv] at HS
  clear hp hv
  unfold call
  go_enter Try.func14, Try.ntmps14
  go_wp2_with fail
  refine HS.out.mono ?_
  rintro e w1 ⟨rfl, hb1⟩
  have B1 := Lib.hid hb1
  clear hb1 HS
  go_wp2_with fail
  refine (HI.out _ B1.out).mono ?_
  rintro e w2 ⟨g, rfl, ho, hb⟩
  have HO := Lib.hid ho
  have B2 := Lib.hid (B1.out.trans (hb.mono B1.out.size))
  clear ho hb
  go_wp2
  go_ret2
  exact ⟨_, rfl, row_low HO.out B1.out.size, B2.out⟩
set_option maxRecDepth 100000 in
set_option maxHeartbeats 4000000 in
theorem impl_yes {c : Nat} (A : Option Addr) (n : Nat) (f : Nat → P3) (w : World) (hcap : n ≤ 1048576) (hp : PtsAt w A n f) (hv : okF n f = true) : call 16 A n c w 25 (inN f n) 0 := by
  have HS := Lib.hid (okI (c := c) A n f w hcap hp)
  have HI := Lib.hid (fun (W : World) (hW : Below w.heap.size w W) => inputI (c := c) A n f W (hp.kept hW) hv)
  rw [hv] at HS
  clear hp hv
  unfold call
  go_enter Try.func16, Try.ntmps16
  go_wp2_with fail
  refine HS.out.mono ?_
  rintro e w1 ⟨rfl, hb1⟩
  have B1 := Lib.hid hb1
  clear hb1 HS
  go_wp2_with fail
  refine (HI.out _ B1.out).mono ?_
  rintro e w2 ⟨g, rfl, ho, hb⟩
  have HO := Lib.hid ho
  have B2 := Lib.hid (B1.out.trans (hb.mono B1.out.size))
  clear ho hb
  go_wp2
  go_ret2
  exact ⟨_, rfl, row_low HO.out B1.out.size, B2.out⟩
theorem fin1 {K : FuncId} {A : Option Addr} {n c m : Nat} {w : World} {F : Nat → Int} {code : Int} (h : call K A n c w m F code) (hF : ∀ i, i < m → inI64 (F i)) :
    Calls Try.prog K #[.slice A n c] w fun e W' => ∃ xs : Nat → Value, e = .returned (.tuple #[xs 0, .int .i64 code]) ∧ OwnRec W' 1 xs (datRows m 1 (fun i _ => F i)) (iv w.heap.size W'.heap.size) ∧ Below w.heap.size w W' :=
  fin (T := fun v => .tuple #[v, .int .i64 code]) (one_len _) (fun i j hj => one_get F i j hj) (fun i j hi _ => hF i hi) h
theorem ty_of (n : Nat) (f : Nat → Nat → Int) : tyrInt64S (datRows n 1 f) := ⟨n, _, rfl, fun i _ => ⟨_, rfl⟩⟩
theorem meat (vs0 : Nat → Value) (g0 : Nat → Dat) (ht0 : tyrFeatS g0) :
    costRec 1 g0 ≤ 1048576 → ∃ (R : Nat → Dat) (r1 : Int), tyrInt64S R ∧ cntRec 1 R ≤ 100000000000 ∧ (∀ (W : World) (us0 : Nat → Value), ReadsRec W 1 us0 g0 → (∃ (A : Option Addr) (n c : Nat), us0 0 = .slice A n c ∧ n ≤ c) → Calls Try.prog 14 #[us0 0] W fun e W' => ∃ xs : Nat → Value, e = .returned (.tuple #[xs 0, .int .i64 r1]) ∧ OwnRec W' 1 xs R (iv W.heap.size W'.heap.size) ∧ Below W.heap.size W W') ∧ (∀ (W : World) (us0 : Nat → Value), ReadsRec W 1 us0 g0 → (∃ (A : Option Addr) (n c : Nat), us0 0 = .slice A n c ∧ n ≤ c) → Calls Try.prog 16 #[us0 0] W fun e W' => ∃ xs : Nat → Value, e = .returned (.tuple #[xs 0, .int .i64 r1]) ∧ OwnRec W' 1 xs R (iv W.heap.size W'.heap.size) ∧ Below W.heap.size W W') := by
  intro hq
  cases hv : okF (ftN g0) (ftF g0) with
  | true =>
    have hin : ∀ i, i < 25 → inI64 (inN (ftF g0) (ftN g0) i) := fun i _ => by
      have := inN_in (f := ftF g0) (okF_of hv).1 i
      unfold inI64
      omega
    exact ⟨datRows 25 1 (fun i _ => inN (ftF g0) (ftN g0) i), 0, ty_of _ _, Nat.le_trans (datRows_cnt _ _ _) (by omega), fun W us0 h0 _ => by
        obtain ⟨A, c, e, hn, hp⟩ := reads_fts h0 ht0 hq
        rw [e]; exact fin1 (spec_yes A _ _ W hn hp hv) hin, fun W us0 h0 _ => by
        obtain ⟨A, c, e, hn, hp⟩ := reads_fts h0 ht0 hq
        rw [e]; exact fin1 (impl_yes A _ _ W hn hp hv) hin⟩
  | false =>
    exact ⟨datRows 0 1 (fun i _ => (fun _ => 0) i), 1, ty_of _ _, Nat.le_trans (datRows_cnt _ _ _) (by omega), fun W us0 h0 _ => by
        obtain ⟨A, c, e, hn, hp⟩ := reads_fts h0 ht0 hq
        rw [e]; exact fin1 (spec_no A _ _ W hn hp hv) (fun i hi => absurd hi (by omega)), fun W us0 h0 _ => by
        obtain ⟨A, c, e, hn, hp⟩ := reads_fts h0 ht0 hq
        rw [e]; exact fin1 (impl_no A _ _ W hn hp hv) (fun i hi => absurd hi (by omega))⟩
end Go.Proofs.Ytimkochgnjggdaa.wInputOf
