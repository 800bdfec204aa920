/-
  Proved: both functions that exchange left and right in a list of features return the same list, in memory of its own.
  Conditions: none.
-/
import Derived.Test.YtedboaeadkdhfaaFt
import Derived.Test.YtedboaeadkdhfaaRevF
namespace Go.Proofs.Ytedboaeadkdhfaa.wMirrorFeats
open Go.ChangeShapes Go.WideShapes Go.ChangeAt Go.RowKit Go.Joins
open Go.Proofs.Ytedboaeadkdhfaa.core Go.Proofs.Ytedboaeadkdhfaa.rown Go.Proofs.Ytedboaeadkdhfaa.stk Go.Proofs.Ytedboaeadkdhfaa.boxed Go.Proofs.Ytedboaeadkdhfaa.ft
set_option linter.unusedVariables false
set_option linter.unusedSimpArgs false
def mir (p : P3) : P3 := (255 - p.1, p.2.1, (4 - p.2.2) % 8)
set_option maxRecDepth 100000 in
set_option maxHeartbeats 4000000 in
theorem spec_no {c : Nat} (A : Option Addr) (n : Nat) (f : Nat → P3) (w : World) (hcap : n ≤ 1048576) (hp : PtsAt w A n f) (hv : okF n f = false) :
    Calls Try.prog 23 #[.slice A n c] w fun e w' => ∃ v, e = .returned (.tuple #[v, .int .i64 1]) ∧ w'.ownsRow w.heap.size 25 3 v (0) (rws (row3 (fun _ => (0, 0, 0))) (0)) ∧ Below w.heap.size w w' := by
  have HS := Lib.hid (okS (c := c) A n f w hcap hp)
  rw [hv] at HS
  clear hp hv
  go_enter Try.func23, Try.ntmps23
  go_wp2_with fail
  refine HS.out.mono ?_
  rintro e w1 ⟨rfl, hb1⟩
  have B1 := Lib.hid hb1
  clear hb1 HS
  go_wp2
  go_ret2
  exact ⟨.slice none 0 0, rfl, World.ownsRow_nil _ _ _ _, B1.out⟩
set_option maxRecDepth 100000 in
set_option maxHeartbeats 4000000 in
theorem spec_yes {c : Nat} (A : Option Addr) (n : Nat) (f : Nat → P3) (w : World) (hcap : n ≤ 1048576) (hp : PtsAt w A n f) (hv : okF n f = true) :
    Calls Try.prog 23 #[.slice A n c] w fun e w' => ∃ v, e = .returned (.tuple #[v, .int .i64 0]) ∧ w'.ownsRow w.heap.size 25 3 v (n) (rws (row3 (fun j => mir (f j))) (n)) ∧ Below w.heap.size w w' := by
  obtain ⟨h1, h384, hall⟩ := okF_of hv
  obtain ⟨i0, hi0, hz0, hz1, hz2⟩ := rown.info_get infoFeat
  have HV := Lib.hid hall
  have HS := Lib.hid (okS (c := c) A n f w hcap hp)
  rw [hv] at HS
  have HP := Lib.hid hp
  obtain ⟨F, hF⟩ : ∃ F : Nat → P3, F = fun j => mir (f j) := ⟨_, rfl⟩
  have HF := Lib.hid (show ∀ j, mir (f j) = F j from fun j => by rw [hF])
  rw [← hF]
  clear hp hv hall hF
  go_enter Try.func23, Try.ntmps23
  go_wp2_with fail
  refine HS.out.mono ?_
  rintro e w1 ⟨rfl, hb1⟩
  have B1 := Lib.hid hb1
  have HP1 := Lib.hid (HP.out.kept hb1)
  clear hb1 HS HP
  go_wp2
  go_loopw [4, 5] (fun o i w' => ∃ (k d : Nat) (B : Option Addr), k ≤ n ∧ i = .int .i64 (k : Int) ∧ o = .slice B k d ∧ Hid (w'.ownsRow w1.heap.size 25 3 (.slice B k d) k (rws (row3 F) k)) ∧ Hid (Below w1.heap.size w1 w')) (fun _ i _ => n - (intOf i).toNat)
  case atStart => exact ⟨0, 0, _, Nat.zero_le _, rfl, rfl, Lib.hid (empty_row w1 _ _), Lib.hid (below_alloc1 _ _)⟩
  case round =>
    obtain ⟨k, d, B, hk, rfl, rfl, HO, HB⟩ := hrel
    by_cases hlt : k < n
    · obtain ⟨g0, o', rfl, hg, p0, p1, p2⟩ := (HP1.out.kept HB.out) k hlt
      have hin := inF_of (HV.out k hlt)
      have HE := Lib.hid (show rws (row3 F) (k + 1) = rws (row3 F) k ++ c3 (mir (f k)) by rw [rws_succ]; unfold row3; rw [← HF.out k])
      obtain ⟨p, hpk⟩ : ∃ p, f k = p := ⟨_, rfl⟩
      rw [hpk] at p0 p1 p2 hin HE
      clear hpk
      have hli : (k : Int) < (n : Int) := by omega
      have B3 := Lib.hid (below_alloc1 wr (.cells #[.int .i64 p.1, .int .i64 p.2.1, .int .i64 p.2.2] 25))
      have HB3 := Lib.hid (HB.out.trans (B3.out.mono HB.out.size))
      have HO3 := Lib.hid (rown.ownsRow_kept HO.out B3.out)
      go_wp2_with (at_builtin
                   have z0 := rown.ownsRow_kept HO3.out (below_alloc1 (wr.alloc (.cells #[.int .i64 p.1, .int .i64 p.2.1, .int .i64 p.2.2] 25)) (.cells #[.int .i64 (255 - p.1), .int .i64 (p.2.1), .int .i64 ((4 - p.2.2) % 8)] 25))
                   have z2 : ∀ u ∈ [Value.int .i64 (255 - p.1), Value.int .i64 (p.2.1), Value.int .i64 ((4 - p.2.2) % 8)], u.oneCell' = true := (by simp [Value.oneCell'])
                   have z3 : k + 1 ≤ maxLen := (by simp only [maxLen]; omega)
                   have z4 : (k + 1) * 24 ≤ 140737488355328 := (by omega)
                   have z5 : w1.heap.size ≤ ((wr.alloc (.cells #[.int .i64 p.1, .int .i64 p.2.1, .int .i64 p.2.2] 25)).alloc (.cells #[.int .i64 (255 - p.1), .int .i64 (p.2.1), .int .i64 ((4 - p.2.2) % 8)] 25)).heap.size := (Nat.le_trans HB3.out.size (by simp))
                   refine wpList_append_lies ((wr.alloc (.cells #[.int .i64 p.1, .int .i64 p.2.1, .int .i64 p.2.2] 25)).alloc (.cells #[.int .i64 (255 - p.1), .int .i64 (p.2.1), .int .i64 ((4 - p.2.2) % 8)] 25)) rfl _ _ 31 rfl w1.heap.size 25 i0 _ 3 24 Try.underlying31 hi0 hz0 hz1 hz2 rfl (by decide) (.slice B k d) k _ rfl z0 ⟨wr.heap.size + 1, 0, none⟩ 1 1 [.int .i64 (255 - p.1), .int .i64 (p.2.1), .int .i64 ((4 - p.2.2) % 8)] rfl rfl (three_new (by simp)) z2 (by decide) z3 z4 z5 _ rfl ?_
                   intro g3 cap3 w5 hown hgr hat hlt3
                   have HO4 := Lib.hid hown
                   have HB4 := Lib.hid (HB3.out.trans (rown.under HO3.out HB3.out.size hgr))
                   clear hown hgr hat z0 z2 z3 z4 z5)
      go_roundw
      case rel => exact ⟨k + 1, cap3, some ⟨g3, 0, none⟩, by omega, by go_num, rfl, Lib.hid (by rw [HE.out]; exact HO4.out), HB4⟩
      case measure => first | (simp [intOf]; done) | (simp [intOf]; omega)
    · obtain rfl : k = n := by omega
      go_wp2
      go_ret2
      exact ⟨_, rfl, row_low HO.out B1.out.size, B1.out.trans (HB.out.mono B1.out.size)⟩
set_option maxHeartbeats 1000000 in
theorem one_calls (p : P3) (h : inF p = true) (w : World) : Calls Try.prog 52 #[pt p.1 p.2.1 p.2.2] w fun e w' => e = .returned (pt (255 - p.1) (p.2.1) ((4 - p.2.2) % 8)) ∧ Below w.heap.size w w' := by
  have hin := inF_of h
  clear h
  go_enter Try.func52, Try.ntmps52
  go_wp2
  exact bodyPost_ret (v := pt (255 - p.1) (p.2.1) ((4 - p.2.2) % 8)) (by simp [results, Try.results52, go_sem]) rfl ⟨rfl, below_alloc2 _ _ _⟩
set_option maxRecDepth 100000 in
set_option maxHeartbeats 4000000 in
theorem change_no {c : Nat} (A : Option Addr) (n : Nat) (f : Nat → P3) (w : World) (hcap : n ≤ 1048576) (hp : PtsAt w A n f) (hv : okF n f = false) :
    Calls Try.prog 51 #[.slice A n c, .func (.func 52) #[] #[]] w fun e w' => e = .returned (.tuple #[.slice none 0 0, .int .i64 1]) ∧ Below w.heap.size w w' := by
  have HS := Lib.hid (okI (c := c) A n f w hcap hp)
  rw [hv] at HS
  clear hp hv
  go_enter Try.func51, Try.ntmps51
  go_wp2_with fail
  refine HS.out.mono ?_
  rintro e w1 ⟨rfl, hb1⟩
  have B1 := Lib.hid hb1
  clear hb1 HS
  go_wp2
  go_ret2
  exact ⟨rfl, B1.out⟩
set_option maxRecDepth 100000 in
set_option maxHeartbeats 4000000 in
theorem change_yes {c : Nat} (A : Option Addr) (n : Nat) (f : Nat → P3) (w : World) (hcap : n ≤ 1048576) (hp : PtsAt w A n f) (hv : okF n f = true) :
    Calls Try.prog 51 #[.slice A n c, .func (.func 52) #[] #[]] w fun e w' => ∃ G d, e = .returned (.tuple #[.slice (some ⟨G, 0, none⟩) n d, .int .i64 0]) ∧ w'.ownsRow w.heap.size 25 3 (.slice (some ⟨G, 0, none⟩) n d) n (rws (row3 fun j => mir (f j)) n) ∧ Below w.heap.size w w' := by
  obtain ⟨h1, h384, hall⟩ := okF_of hv
  obtain ⟨i0, hi0, hz0, hz1, hz2⟩ := rown.info_get infoFeat
  have HV := Lib.hid hall
  have HS := Lib.hid (okI (c := c) A n f w hcap hp)
  rw [hv] at HS
  have HP := Lib.hid hp
  obtain ⟨F, hF⟩ : ∃ F : Nat → P3, F = fun j => mir (f j) := ⟨_, rfl⟩
  have HF := Lib.hid (show ∀ j, mir (f j) = F j from fun j => by rw [hF])
  rw [← hF]
  clear hp hv hall hF
  go_enter Try.func51, Try.ntmps51
  go_wp2_with fail
  refine HS.out.mono ?_
  rintro e w1 ⟨rfl, hb1⟩
  have B1 := Lib.hid hb1
  have HP1 := Lib.hid (HP.out.kept hb1)
  clear hb1 HS HP
  obtain ⟨cur, hcu, hmk⟩ := makeF n hcap w1
  have HCU := Lib.hid hcu
  clear hcu
  go_wp2
  clear hmk
  go_loopw [6, 17] (fun o i w' => ∃ (k d : Nat) (B : Option Addr), k ≤ n ∧ i = .int .i64 (k : Int) ∧ o = .slice B k d ∧ Hid (w'.ownsRow w1.heap.size 25 3 (.slice B k d) k (rws (row3 F) k)) ∧ Hid (Below w1.heap.size w1 w')) (fun _ i _ => n - (intOf i).toNat)
  case atStart => exact ⟨0, n, _, Nat.zero_le _, rfl, rfl, Lib.hid (make_row _ _ _ _ HCU.out (by simp only [maxLen]; omega)), Lib.hid (below_alloc1 _ _)⟩
  case round =>
    obtain ⟨k, d, B, hk, rfl, rfl, HO, HB⟩ := hrel
    by_cases hlt : k < n
    · obtain ⟨g0, o', rfl, hg, p0, p1, p2⟩ := (HP1.out.kept HB.out) k hlt
      have HC := Lib.hid (fun W => one_calls (f k) (HV.out k hlt) W)
      have HE := Lib.hid (show rws (row3 F) (k + 1) = rws (row3 F) k ++ c3 (mir (f k)) by rw [rws_succ]; unfold row3; rw [← HF.out k])
      obtain ⟨p, hpk⟩ : ∃ p, f k = p := ⟨_, rfl⟩
      rw [hpk] at p0 p1 p2 HC HE
      clear hpk
      have hli : (k : Int) < (n : Int) := by omega
      obtain ⟨a0, h0⟩ : ∃ a, a = 255 - p.1 := ⟨_, rfl⟩
      rw [← h0] at HC
      obtain ⟨a2, h2⟩ : ∃ a, a = (4 - p.2.2) % 8 := ⟨_, rfl⟩
      rw [← h2] at HC
      have HA := Lib.hid (show c3 (mir p) = [.int .i64 (a0), .int .i64 (p.2.1), .int .i64 (a2)] by rw [h0, h2]; rfl)
      clear h0 h2
      go_wp2_with (first
        | (go_at_call 52; (first | (with_reducible refine (HC.out _).mono ?_) | refine (HC.out _).mono ?_); rintro e w3 ⟨rfl, hb⟩; have HK := Lib.hid ((below_alloc1 wr _).trans (hb.mono (below_alloc1 wr _).size)); clear hb; have HB3 := Lib.hid (HB.out.trans (HK.out.mono HB.out.size)); have HO3 := Lib.hid (rown.ownsRow_kept HO.out HK.out))
        | (at_builtin
           have z0 := rown.ownsRow_kept HO3.out (below_alloc1 w3 (.cells #[.int .i64 (a0), .int .i64 (p.2.1), .int .i64 (a2)] 25))
           have z2 : ∀ u ∈ [Value.int .i64 (a0), Value.int .i64 (p.2.1), Value.int .i64 (a2)], u.oneCell' = true := (by simp [Value.oneCell'])
           have z3 : k + 1 ≤ maxLen := (by simp only [maxLen]; omega)
           have z4 : (k + 1) * 24 ≤ 140737488355328 := (by omega)
           have z5 : w1.heap.size ≤ (w3.alloc (.cells #[.int .i64 (a0), .int .i64 (p.2.1), .int .i64 (a2)] 25)).heap.size := (Nat.le_trans HB3.out.size (by simp))
           refine wpList_append_lies (w3.alloc (.cells #[.int .i64 (a0), .int .i64 (p.2.1), .int .i64 (a2)] 25)) rfl _ _ 31 rfl w1.heap.size 25 i0 _ 3 24 Try.underlying31 hi0 hz0 hz1 hz2 rfl (by decide) (.slice B k d) k _ rfl z0 ⟨w3.heap.size, 0, none⟩ 1 1 [.int .i64 (a0), .int .i64 (p.2.1), .int .i64 (a2)] rfl rfl (three_new rfl) z2 (by decide) z3 z4 z5 _ rfl ?_
           intro g3 cap3 w5 hown hgr hat hlt3
           have HO4 := Lib.hid hown
           have HB4 := Lib.hid (HB3.out.trans (rown.under HO3.out HB3.out.size hgr))
           clear hown hgr hat z0 z2 z3 z4 z5))
      go_roundw
      case rel => exact ⟨k + 1, cap3, some ⟨g3, 0, none⟩, by omega, by go_num, rfl, Lib.hid (by rw [HE.out, HA.out]; exact HO4.out), HB4⟩
      case measure => simp [intOf]; omega
    · obtain rfl : k = n := by omega
      obtain ⟨G, rfl⟩ : ∃ G, B = some ⟨G, 0, none⟩ := by
        obtain ⟨_, h⟩ := HO.out
        rcases h with ⟨_, h⟩ | ⟨G, cap, cur, h, _⟩
        · omega
        · injection h with h _ _; exact ⟨G, h⟩
      go_wp2
      go_ret2
      exact ⟨G, d, rfl, row_low HO.out B1.out.size, B1.out.trans (HB.out.mono B1.out.size)⟩
theorem in_all (f : Nat → P3) (n : Nat) (hv : okF n f = true) : ∀ i j, i < n → j < 3 → inI64 (fi3 (fun j => mir (f j)) i j) := fun i j hi hj => by
  have h := inF_of ((okF_of hv).2.2 i (by omega))
  unfold fi3 inI64 mir
  split
  · simp only; omega
  · split <;> (simp only; omega)
theorem ty_of (n : Nat) (f : Nat → Nat → Int) : tyrFeatS (datRows n 3 f) := ⟨n, _, rfl, fun i _ => ⟨⟨_, rfl⟩, ⟨_, rfl⟩, ⟨_, rfl⟩⟩⟩
set_option maxRecDepth 100000 in
set_option maxHeartbeats 4000000 in
theorem impl_no {c : Nat} (A : Option Addr) (n : Nat) (f : Nat → P3) (w : World) (hcap : n ≤ 1048576) (hp : PtsAt w A n f) (hv : okF n f = false) :
    Calls Try.prog 24 #[.slice A n c] w fun e w' => ∃ v, e = .returned (.tuple #[v, .int .i64 1]) ∧ w'.ownsRow w.heap.size 25 3 v (0) (rws (row3 (fun _ => (0, 0, 0))) (0)) ∧ Below w.heap.size w w' := by
  have HS := Lib.hid (change_no (c := c) A n f w hcap hp hv)
  clear hp hv
  go_enter Try.func24, Try.ntmps24
  go_wp2_with fail
  refine HS.out.mono ?_
  rintro e w1 ⟨rfl, hb1⟩
  have B1 := Lib.hid hb1
  clear hb1 HS
  go_wp2
  go_ret2
  exact ⟨.slice none 0 0, rfl, World.ownsRow_nil _ _ _ _, B1.out⟩
set_option maxRecDepth 100000 in
set_option maxHeartbeats 4000000 in
theorem impl_yes {c : Nat} (A : Option Addr) (n : Nat) (f : Nat → P3) (w : World) (hcap : n ≤ 1048576) (hp : PtsAt w A n f) (hv : okF n f = true) :
    Calls Try.prog 24 #[.slice A n c] w fun e w' => ∃ v, e = .returned (.tuple #[v, .int .i64 0]) ∧ w'.ownsRow w.heap.size 25 3 v (n) (rws (row3 (fun j => mir (f j))) (n)) ∧ Below w.heap.size w w' := by
  have HS := Lib.hid (change_yes (c := c) A n f w hcap hp hv)
  clear hp hv
  go_enter Try.func24, Try.ntmps24
  go_wp2_with fail
  refine HS.out.mono ?_
  rintro e w1 ⟨G, d, rfl, ho, hb1⟩
  have B1 := Lib.hid hb1
  have HO := Lib.hid ho
  clear hb1 HS ho
  go_wp2
  go_ret2
  exact ⟨_, rfl, HO.out, B1.out⟩
theorem meat (vs0 : Nat → Value) (g0 : Nat → Dat) (ht0 : tyrFeatS g0) :
    costRec 1 g0 ≤ 1048576 → ∃ (R : Nat → Dat) (r1 : Int), tyrFeatS R ∧ cntRec 1 R ≤ 100000000000 ∧ (∀ (W : World) (us0 : Nat → Value), ReadsRec W 1 us0 g0 → (∃ (A : Option Addr) (n c : Nat), us0 0 = .slice A n c ∧ n ≤ c) → Calls Try.prog 23 #[us0 0] W fun e W' => ∃ xs : Nat → Value, e = .returned (.tuple #[xs 0, .int .i64 r1]) ∧ OwnRec W' 1 xs R (iv W.heap.size W'.heap.size) ∧ Below W.heap.size W W') ∧ (∀ (W : World) (us0 : Nat → Value), ReadsRec W 1 us0 g0 → (∃ (A : Option Addr) (n c : Nat), us0 0 = .slice A n c ∧ n ≤ c) → Calls Try.prog 24 #[us0 0] W fun e W' => ∃ xs : Nat → Value, e = .returned (.tuple #[xs 0, .int .i64 r1]) ∧ OwnRec W' 1 xs R (iv W.heap.size W'.heap.size) ∧ Below W.heap.size W W') := by
  intro hq
  cases hv : okF (ftN g0) (ftF g0) with
  | true =>
    have hin := in_all (ftF g0) _ hv
    have hle := (okF_of hv).2.1
    exact ⟨datRows (ftN g0) 3 (fi3 (fun j => mir (ftF g0 j))), 0, ty_of _ _, Nat.le_trans (datRows_cnt _ _ _) (by omega), fun W us0 h0 _ => by
        obtain ⟨A, c, e, hn, hp⟩ := reads_fts h0 ht0 hq
        rw [e]; exact fin (T := fun v => .tuple #[v, .int .i64 0]) (row3_len _) (row3_get _) (hin) (spec_yes A _ _ W hn hp hv), fun W us0 h0 _ => by
        obtain ⟨A, c, e, hn, hp⟩ := reads_fts h0 ht0 hq
        rw [e]; exact fin (T := fun v => .tuple #[v, .int .i64 0]) (row3_len _) (row3_get _) (hin) (impl_yes A _ _ W hn hp hv)⟩
  | false =>
    exact ⟨datRows 0 3 (fi3 (fun _ => (0, 0, 0))), 1, ty_of _ _, Nat.le_trans (datRows_cnt _ _ _) (by omega), fun W us0 h0 _ => by
        obtain ⟨A, c, e, hn, hp⟩ := reads_fts h0 ht0 hq
        rw [e]; exact fin (T := fun v => .tuple #[v, .int .i64 1]) (row3_len _) (row3_get _) (fun i j hi _ => absurd hi (by omega)) (spec_no A _ _ W hn hp hv), fun W us0 h0 _ => by
        obtain ⟨A, c, e, hn, hp⟩ := reads_fts h0 ht0 hq
        rw [e]; exact fin (T := fun v => .tuple #[v, .int .i64 1]) (row3_len _) (row3_get _) (fun i j hi _ => absurd hi (by omega)) (impl_no A _ _ W hn hp hv)⟩
end Go.Proofs.Ytedboaeadkdhfaa.wMirrorFeats
