/-
  Proved: both functions that tell a path of least cost return the same list, in memory of its own.
  Conditions: none.
-/
import Derived.Test.YthpmckfjlbiiiaaEPath
namespace Go.Proofs.Ythpmckfjlbiiiaa.wElasticPath
open Go.ChangeShapes Go.WideShapes Go.ChangeAt Go.RowKit Go.Joins
open Go.Proofs.Ythpmckfjlbiiiaa.core Go.Proofs.Ythpmckfjlbiiiaa.rown Go.Proofs.Ythpmckfjlbiiiaa.stk Go.Proofs.Ythpmckfjlbiiiaa.boxed Go.Proofs.Ythpmckfjlbiiiaa.ft Go.Proofs.Ythpmckfjlbiiiaa.seq Go.Proofs.Ythpmckfjlbiiiaa.tab Go.Proofs.Ythpmckfjlbiiiaa.dp
set_option linter.unusedVariables false
set_option linter.unusedSimpArgs false
def fi2 (f : Nat → P2) (i j : Nat) : Int := if j = 0 then (f i).1 else (f i).2
theorem sp2_get (f : Nat → P2) : ∀ i j, j < 2 → (sp2 f i)[j]? = some (.int .i64 (fi2 f i j)) := fun i j hj => by
  rcases (by omega : j = 0 ∨ j = 1) with rfl | rfl <;> rfl
theorem ty_of (n : Nat) (f : Nat → Nat → Int) : tyrPairS (datRows n 2 f) := ⟨n, _, rfl, fun i _ => ⟨⟨_, rfl⟩, ⟨_, rfl⟩⟩⟩
theorem prv_le (fa fb : Nat → P3) (band : Int) (p : Nat × Nat) : (prv fa fb band p).1 ≤ p.1 ∧ (prv fa fb band p).2 ≤ p.2 := by
  unfold prv
  split
  · exact ⟨Nat.sub_le _ _, Nat.sub_le _ _⟩
  · split
    · exact ⟨Nat.sub_le _ _, Nat.le_refl _⟩
    · exact ⟨Nat.le_refl _, Nat.sub_le _ _⟩
theorem pos_le (fa fb : Nat → P3) (band : Int) (p : Nat × Nat) : ∀ s, (pos fa fb band p s).1 ≤ p.1 ∧ (pos fa fb band p s).2 ≤ p.2
  | 0 => ⟨Nat.le_refl _, Nat.le_refl _⟩
  | s + 1 => by
    have h := pos_le fa fb band p s
    have k := prv_le fa fb band (pos fa fb band p s)
    exact ⟨Nat.le_trans k.1 h.1, Nat.le_trans k.2 h.2⟩
theorem path_in {fa fb : Nat → P3} {band : Int} {na nb s : Nat} (ha : na ≤ 1048576) (hb : nb ≤ 1048576) : ∀ i j, i < s + 1 → j < 2 → inI64 (fi2 (pathRow (pos fa fb band (na - 1, nb - 1)) s) i j) := by
  intro i j hi hj
  have h := pos_le fa fb band (na - 1, nb - 1) (s - i)
  simp only at h
  unfold inI64 fi2 pathRow prow
  obtain ⟨P, hP⟩ : ∃ P, pos fa fb band (na - 1, nb - 1) (s - i) = P := ⟨_, rfl⟩
  rw [hP] at h ⊢
  split <;> (simp only; omega)
open Classical in
/-- How long the path is. -/
noncomputable def lenOf (p : Nat → Nat × Nat) : Nat := if h : ∃ s, isLen p s then Classical.choose h else 0
theorem lenOf_eq {p : Nat → Nat × Nat} {s : Nat} (h : isLen p s) : lenOf p = s := by
  have hx : ∃ s, isLen p s := ⟨s, h⟩
  unfold lenOf
  rw [dif_pos hx]
  exact isLen_eq (Classical.choose_spec hx) h
theorem lenOf_le (p : Nat → Nat × Nat) : lenOf p ≤ 142 := by
  by_cases hx : ∃ s, isLen p s
  · obtain ⟨s, h⟩ := hx
    rw [lenOf_eq h]; exact h.2.2
  · unfold lenOf
    rw [dif_neg hx]; omega
theorem meat (vs0 : Nat → Value) (g0 : Nat → Dat) (vs1 : Nat → Value) (g1 : Nat → Dat) (a2 : Int) (ht0 : tyrFeatS g0) (ht1 : tyrFeatS g1) (hi2 : inI64 a2) :
    costRec 1 g0 ≤ 1048576 → costRec 1 g1 ≤ 1048576 → ∃ (R : Nat → Dat) (r1 : Int), tyrPairS R ∧ cntRec 1 R ≤ 100000000000 ∧ (∀ (W : World) (us0 : Nat → Value) (us1 : Nat → Value), ReadsRec W 1 us0 g0 → (∃ (A : Option Addr) (n c : Nat), us0 0 = .slice A n c ∧ n ≤ c) → ReadsRec W 1 us1 g1 → (∃ (A : Option Addr) (n c : Nat), us1 0 = .slice A n c ∧ n ≤ c) → Calls Try.prog 50 #[us0 0, us1 0, .int .i64 a2] W fun e W' => ∃ xs : Nat → Value, e = .returned (.tuple #[xs 0, .int .i64 r1]) ∧ OwnRec W' 1 xs R (iv W.heap.size W'.heap.size) ∧ Below W.heap.size W W') ∧ (∀ (W : World) (us0 : Nat → Value) (us1 : Nat → Value), ReadsRec W 1 us0 g0 → (∃ (A : Option Addr) (n c : Nat), us0 0 = .slice A n c ∧ n ≤ c) → ReadsRec W 1 us1 g1 → (∃ (A : Option Addr) (n c : Nat), us1 0 = .slice A n c ∧ n ≤ c) → Calls Try.prog 51 #[us0 0, us1 0, .int .i64 a2] W fun e W' => ∃ xs : Nat → Value, e = .returned (.tuple #[xs 0, .int .i64 r1]) ∧ OwnRec W' 1 xs R (iv W.heap.size W'.heap.size) ∧ Below W.heap.size W W') := by
  intro hq0 hq1
  by_cases hv : elC (ftN g0) (ftN g1) (ftF g0) (ftF g1) a2 = 0
  · obtain ⟨va, vb, hbd, -⟩ := el_of hv
    have na2 := (okQ_of va).2.1
    have nb2 := (okQ_of vb).2.1
    obtain ⟨bd, rfl⟩ : ∃ bd : Nat, a2 = (bd : Int) := ⟨a2.toNat, by omega⟩
    have hle := lenOf_le (pos (ftF g0) (ftF g1) (bd : Int) (ftN g0 - 1, ftN g1 - 1))
    refine ⟨datRows (lenOf (pos (ftF g0) (ftF g1) (bd : Int) (ftN g0 - 1, ftN g1 - 1)) + 1) 2 (fi2 (pathRow (pos (ftF g0) (ftF g1) (bd : Int) (ftN g0 - 1, ftN g1 - 1)) (lenOf (pos (ftF g0) (ftF g1) (bd : Int) (ftN g0 - 1, ftN g1 - 1))))), 0, ty_of _ _, Nat.le_trans (datRows_cnt _ _ _) (by omega), fun W us0 us1 h0 _ h1 _ => ?_, fun W us0 us1 h0 _ h1 _ => ?_⟩
    · obtain ⟨A, ca, ea, hna, hpa⟩ := reads_fts h0 ht0 hq0
      obtain ⟨B, cb, eb, hnb, hpb⟩ := reads_fts h1 ht1 hq1
      rw [ea, eb]
      exact fin (T := fun v => .tuple #[v, .int .i64 0]) (sp2_len _) (sp2_get _) (path_in hna hnb) ((epathS_yes A B _ _ _ _ (bd : Int) W hpa hpb hv).mono fun e W' ⟨s, v, hs, he, ho, hb⟩ => by
        rw [← lenOf_eq hs] at ho
        exact ⟨v, he, ho, hb⟩)
    · obtain ⟨A, ca, ea, hna, hpa⟩ := reads_fts h0 ht0 hq0
      obtain ⟨B, cb, eb, hnb, hpb⟩ := reads_fts h1 ht1 hq1
      rw [ea, eb]
      exact fin (T := fun v => .tuple #[v, .int .i64 0]) (sp2_len _) (sp2_get _) (path_in hna hnb) ((epathI_yes A B _ _ _ _ bd W hpa hpb hv).mono fun e W' ⟨s, v, hs, he, ho, hb⟩ => by
        rw [← lenOf_eq hs] at ho
        exact ⟨v, he, ho, hb⟩)
  · refine ⟨datRows 0 2 (fi2 fun _ => (0, 0)), elC (ftN g0) (ftN g1) (ftF g0) (ftF g1) a2, ty_of _ _, Nat.le_trans (datRows_cnt _ _ _) (by omega), fun W us0 us1 h0 _ h1 _ => ?_, fun W us0 us1 h0 _ h1 _ => ?_⟩
    · obtain ⟨A, ca, ea, hna, hpa⟩ := reads_fts h0 ht0 hq0
      obtain ⟨B, cb, eb, hnb, hpb⟩ := reads_fts h1 ht1 hq1
      rw [ea, eb]
      exact fin (T := fun v => .tuple #[v, .int .i64 _]) (sp2_len _) (sp2_get _) (fun i j hi _ => absurd hi (by omega)) (epathS_no A B _ _ _ _ a2 W hna hnb hpa hpb hv)
    · obtain ⟨A, ca, ea, hna, hpa⟩ := reads_fts h0 ht0 hq0
      obtain ⟨B, cb, eb, hnb, hpb⟩ := reads_fts h1 ht1 hq1
      rw [ea, eb]
      exact fin (T := fun v => .tuple #[v, .int .i64 _]) (sp2_len _) (sp2_get _) (fun i j hi _ => absurd hi (by omega)) (epathI_no A B _ _ _ _ a2 W hna hnb hi2 hpa hpb hv)
end Go.Proofs.Ythpmckfjlbiiiaa.wElasticPath
