/-
  Proved: both functions return the same list of numbers, in memory of its own.
  Conditions: none.
-/
import Derived.Test.YthpmckfjlbiiiaaLsV
import Derived.Test.YthpmckfjlbiiiaaOrd2
import Derived.Test.YthpmckfjlbiiiaaRowN
namespace Go.Proofs.Ythpmckfjlbiiiaa.wBoundOrder
open Go.ChangeShapes Go.WideShapes Go.ChangeAt Go.RowKit Go.Joins
open Go.Proofs.Ythpmckfjlbiiiaa.core Go.Proofs.Ythpmckfjlbiiiaa.rown Go.Proofs.Ythpmckfjlbiiiaa.stk Go.Proofs.Ythpmckfjlbiiiaa.boxed Go.Proofs.Ythpmckfjlbiiiaa.ft Go.Proofs.Ythpmckfjlbiiiaa.seq Go.Proofs.Ythpmckfjlbiiiaa.env Go.Proofs.Ythpmckfjlbiiiaa.tab
set_option linter.unusedVariables false
set_option linter.unusedSimpArgs false
theorem ost_in (na : Nat) (fa : Nat → P3) (ln : Nat → Nat) (lf : Nat → Nat → P3) (band : Int) (k : Nat) : ∀ x ∈ (ost na fa ln lf band k).1, 0 ≤ x ∧ x < (k : Int) := fun x h => by
  obtain ⟨j, h1, -, h2⟩ := (ost_mem k).1 h
  omega
theorem ty_of (n : Nat) (f : Nat → Nat → Int) : tyrInt64S (datRows n 1 f) := ⟨n, _, rfl, fun i _ => ⟨_, rfl⟩⟩
def fi1 (F : Nat → Int) (i _j : Nat) : Int := F i
theorem oneAt (F : Nat → Int) : ∀ i j, j < 1 → (one F i)[j]? = some (.int .i64 (fi1 F i j)) := fun i j hj => by
  obtain rfl : j = 0 := by omega
  rfl
theorem fIn {l : List Int} (h : ∀ x ∈ l, inI64 x) : ∀ i j, i < l.length → j < 1 → inI64 (fi1 (fun j => l.getD j 0) i j) := fun i j hi _ => by
  show inI64 (l.getD i 0)
  rw [List.getD_eq_getElem?_getD, List.getElem?_eq_getElem hi]
  exact h _ (List.getElem_mem _)
theorem meat (vs0 : Nat → Value) (g0 : Nat → Dat) (vs1 : Nat → Value) (g1 : Nat → Dat) (a2 : Int) (ht0 : tyrFeatS g0) (ht1 : tyrFeatSS g1) (hi2 : inI64 a2) :
    costRec 1 g0 ≤ 1048576 → costRec 1 g1 ≤ 1048576 → ∃ (R : Nat → Dat) (r1 : Int), tyrInt64S R ∧ cntRec 1 R ≤ 100000000000 ∧ (∀ (W : World) (us0 : Nat → Value) (us1 : Nat → Value), ReadsRec W 1 us0 g0 → (∃ (A : Option Addr) (n c : Nat), us0 0 = .slice A n c ∧ n ≤ c) → ReadsRec W 1 us1 g1 → (∃ (A : Option Addr) (n c : Nat), us1 0 = .slice A n c ∧ n ≤ c) → Calls Try.prog 46 #[us0 0, us1 0, .int .i64 a2] W fun e W' => ∃ xs : Nat → Value, e = .returned (.tuple #[xs 0, .int .i64 r1]) ∧ OwnRec W' 1 xs R (iv W.heap.size W'.heap.size) ∧ Below W.heap.size W W') ∧ (∀ (W : World) (us0 : Nat → Value) (us1 : Nat → Value), ReadsRec W 1 us0 g0 → (∃ (A : Option Addr) (n c : Nat), us0 0 = .slice A n c ∧ n ≤ c) → ReadsRec W 1 us1 g1 → (∃ (A : Option Addr) (n c : Nat), us1 0 = .slice A n c ∧ n ≤ c) → Calls Try.prog 47 #[us0 0, us1 0, .int .i64 a2] W fun e W' => ∃ xs : Nat → Value, e = .returned (.tuple #[xs 0, .int .i64 r1]) ∧ OwnRec W' 1 xs R (iv W.heap.size W'.heap.size) ∧ Below W.heap.size W W') := by
  intro hq0 hq1
  by_cases hc : liC (ftN g0) (ftF g0) (lsN g1) (lsL g1) (lsF g1) a2 = 0
  · obtain ⟨⟨_, hn40, _⟩, _⟩ := liC_of hc
    have hle := (ost_len (ftN g0) (ftF g0) (lsL g1) (lsF g1) a2 (lsN g1)).2
    refine ⟨datRows ((ost (ftN g0) (ftF g0) (lsL g1) (lsF g1) a2 (lsN g1)).1).length 1 (fi1 fun j => ((ost (ftN g0) (ftF g0) (lsL g1) (lsF g1) a2 (lsN g1)).1).getD j 0), 0, ty_of _ _, Nat.le_trans (datRows_cnt _ _ _) (by omega), fun W us0 us1 h0 _ h1 _ => ?_, fun W us0 us1 h0 _ h1 _ => ?_⟩
    · obtain ⟨A, ca, ea, hna, hpa⟩ := reads_fts h0 ht0 hq0
      obtain ⟨B, cb, eb, hnb, hlb, hpb⟩ := reads_lss h1 ht1 hq1
      rw [ea, eb]
      exact fin (T := fun v => .tuple #[v, .int .i64 0]) (one_len _) (oneAt _) (fIn (fun x hx => by have := ost_in (ftN g0) (ftF g0) (lsL g1) (lsF g1) a2 (lsN g1) x hx; unfold inI64; omega)) (by rw [← vals_rws]; exact orderS_yes A B _ _ _ _ _ a2 W hna hnb hlb hpa hpb hc)
    · obtain ⟨A, ca, ea, hna, hpa⟩ := reads_fts h0 ht0 hq0
      obtain ⟨B, cb, eb, hnb, hlb, hpb⟩ := reads_lss h1 ht1 hq1
      rw [ea, eb]
      exact fin (T := fun v => .tuple #[v, .int .i64 0]) (one_len _) (oneAt _) (fIn (fun x hx => by have := ost_in (ftN g0) (ftF g0) (lsL g1) (lsF g1) a2 (lsN g1) x hx; unfold inI64; omega)) (by rw [← vals_rws]; exact srt.orderI_yes A B _ _ _ _ _ a2 W hna hnb hlb hpa hpb hc)
  · refine ⟨datRows 0 1 (fi1 fun _ => 0), liC (ftN g0) (ftF g0) (lsN g1) (lsL g1) (lsF g1) a2, ty_of _ _, Nat.le_trans (datRows_cnt _ _ _) (by omega), fun W us0 us1 h0 _ h1 _ => ?_, fun W us0 us1 h0 _ h1 _ => ?_⟩
    · obtain ⟨A, ca, ea, hna, hpa⟩ := reads_fts h0 ht0 hq0
      obtain ⟨B, cb, eb, hnb, hlb, hpb⟩ := reads_lss h1 ht1 hq1
      rw [ea, eb]
      exact fin (E := 2) (T := fun v => .tuple #[v, .int .i64 _]) (one_len _) (oneAt _) (fun i j hi _ => absurd hi (by omega)) ((orderS_no A B _ _ _ _ _ a2 W hna hnb hlb hpa hpb hc).mono fun e W' ⟨he, hb⟩ => ⟨_, he, World.ownsRow_nil _ _ _ _, hb⟩)
    · obtain ⟨A, ca, ea, hna, hpa⟩ := reads_fts h0 ht0 hq0
      obtain ⟨B, cb, eb, hnb, hlb, hpb⟩ := reads_lss h1 ht1 hq1
      rw [ea, eb]
      exact fin (E := 2) (T := fun v => .tuple #[v, .int .i64 _]) (one_len _) (oneAt _) (fun i j hi _ => absurd hi (by omega)) ((srt.orderI_no A B _ _ _ _ _ a2 W hna hnb hlb hpa hpb hc).mono fun e W' ⟨he, hb⟩ => ⟨_, he, World.ownsRow_nil _ _ _ _, hb⟩)
end Go.Proofs.Ythpmckfjlbiiiaa.wBoundOrder
