/-
  Proved: what the program's function that reads a Rice code returns.
  Conditions: none.
-/
import Derived.Test.YtjhndncmeedffaaDoorReadJ
namespace Go.Proofs.YtjhndncmeedffaaDoor.readR
open Go.ChangeShapes Go.WideShapes Go.ChangeAt Go.RowKit Go.Joins
open Go.Proofs.YtjhndncmeedffaaDoor.core Go.Proofs.YtjhndncmeedffaaDoor.rows Go.Proofs.YtjhndncmeedffaaDoor.bits Go.Proofs.YtjhndncmeedffaaDoor.numS Go.Proofs.YtjhndncmeedffaaDoor.ints Go.Proofs.YtjhndncmeedffaaDoor.riceI
set_option linter.unusedVariables false
set_option linter.unusedSimpArgs false

/-- A code that begins with twenty ones is read as its rest. -/
theorem read_long {L : List UInt8} (k : Nat) (h : ones L 20 = 20) (h2 : 20 ≤ L.length) : read L k = match lg (L.drop 20) k with | .ok n len => .ok n (20 + len) | .trunc => .trunc | .format => .format := by
  unfold lg
  rw [bits.read, if_pos h, List.length_drop]
  by_cases h1 : L.length < 52
  · have h52 : L.length - 20 < 32 := by omega
    rw [if_pos h1, if_pos h52]
  · have h52 : ¬ (L.length - 20 < 32) := by omega
    rw [if_neg h1, if_neg h52]
    by_cases h3 : val (List.take 32 (List.drop 20 L)) / 2 ^ k < 20 ∨ ¬ (-1000000000 ≤ unfold' (val (List.take 32 (List.drop 20 L))) ∧ unfold' (val (List.take 32 (List.drop 20 L))) ≤ 1000000000)
    · rw [if_pos h3, if_pos h3]
    · rw [if_neg h3, if_neg h3]
theorem read_len {l : List UInt8} {k len : Nat} {n : Int} (h : read l k = .ok n len) : len ≤ l.length := by
  unfold bits.read at h
  split at h
  · split at h
    · cases h
    · split at h
      · cases h
      · cases h; omega
  · split at h
    · cases h
    · cases h; omega
theorem wrap_two (p v : Nat) (hp : p ≤ 81920) (hv : v ≤ 4294967296) (z : Int) (hz : z = (p : Int)) : wrap64 (wrap64 z + (v : Int)) = (p : Int) + (v : Int) := by
  subst hz
  unfold wrap64
  omega
theorem zero_first (l : List UInt8) (q k : Nat) (hq : q < l.length) (hb : ∀ x ∈ l, isBit x) (h : l[q].toNat ≠ 49) : val ((l.drop q).take (1 + k)) = val ((l.drop (q + 1)).take k) := by
  have hz : l[q].toNat = 48 := by
    rcases hb l[q] (List.getElem_mem _) with h' | h'
    · exact h'
    · exact absurd h' h
  rw [List.drop_eq_getElem_cons hq, Nat.add_comm 1 k, List.take_succ_cons, val_cons _ _ hz]

set_option maxRecDepth 100000 in
set_option maxHeartbeats 2000000 in
theorem rice_long (b : Nat) (t : ByteArray) (hs : t.size ≤ 100000) (hb : ∀ x ∈ t.data.toList, isBit x) (k : Nat) (hk : k ≤ 12) (w : World) (h : Rd w b t) (hbw : b < w.heap.size) (q : Nat) (hq : q = ones t.data.toList 20) (hq1 : q ≤ 20) (hq2 : q ≤ t.size) (hq4 : q < 20 → ∀ h2 : q < t.size, t[q].toNat ≠ 49) (h20 : q = 20) :
    Calls Tryd.prog 26 #[.pointer (some ⟨b, 0, none⟩), .int .i64 k] w fun e w' => e = .returned (.tuple #[.int .i64 (pr (read t.data.toList k)).1, .int .i64 (pr (read t.data.toList k)).2]) ∧ Left w' b t (read t.data.toList k) ∧ OnlyF (fun k => k = b) w w' := by
  have H1 := Lib.hid (onesR_calls b t hs w h q hq)
  have HL := Lib.hid (pack.len_eq t)
  subst h20
  have HG := Lib.hid (read_long k hq.symm (by rw [HL.out]; exact hq2))
  have H2 := Lib.hid (fun W hr hz => longR_calls b (t.extract 20 t.size) (by rw [tail_size]; omega) (tail_bits hb 20) k hk W hr hz)
  clear hq hq4 h
  go_enter Tryd.func26, Tryd.ntmps26
  go_wp2_with fail
  with_reducible refine H1.out.mono ?_
  rintro e w1 ⟨rfl, hr, ho⟩
  have HO := Lib.hid ho
  have H2' := Lib.hid (H2.out w1 hr (Nat.lt_of_lt_of_le hbw ho.size))
  rw [tail_list] at H2'
  clear hr ho H2 H1
  generalize hg : lg (t.data.toList.drop 20) k = g at *
  go_wp2_with fail
  refine H2'.out.mono ?_
  rintro e w2 ⟨rfl, hl, ho⟩
  have HO2 := Lib.hid (HO.out.trans ho)
  have HLf := Lib.hid hl
  clear hl ho H2' HO
  go_wp2
  go_ret2
  rw [HG.out]
  cases g with
  | ok n len =>
    refine ⟨rfl, Left.ok ?_, HO2.out⟩
    have := HLf.out n len rfl
    rwa [tail_tail] at this
  | trunc => exact ⟨rfl, Left.trunc _ _ _, HO2.out⟩
  | format => exact ⟨rfl, Left.format _ _ _, HO2.out⟩

set_option maxRecDepth 100000 in
set_option maxHeartbeats 2000000 in
theorem rice_trunc (b : Nat) (t : ByteArray) (hs : t.size ≤ 100000) (hb : ∀ x ∈ t.data.toList, isBit x) (k : Nat) (hk : k ≤ 12) (w : World) (h : Rd w b t) (hbw : b < w.heap.size) (q : Nat) (hq : q = ones t.data.toList 20) (hq1 : q ≤ 20) (hq2 : q ≤ t.size) (hq4 : q < 20 → ∀ h2 : q < t.size, t[q].toNat ≠ 49) (h20 : ¬ q = 20) (hlt : t.size < q + 1 + k) :
    Calls Tryd.prog 26 #[.pointer (some ⟨b, 0, none⟩), .int .i64 k] w fun e w' => e = .returned (.tuple #[.int .i64 (pr (read t.data.toList k)).1, .int .i64 (pr (read t.data.toList k)).2]) ∧ Left w' b t (read t.data.toList k) ∧ OnlyF (fun k => k = b) w w' := by
  have H1 := Lib.hid (onesR_calls b t hs w h q hq)
  have HL := Lib.hid (pack.len_eq t)
  have hqi : ((q : Int) == 20) = false := by simp; omega
  obtain ⟨V, hV⟩ : ∃ V, V = 1 + k := ⟨_, rfl⟩
  have HVk := Lib.hid (show (1 : Int) + (k : Int) = (V : Int) by omega)
  have HG := Lib.hid (read_b2 (k := k) hq.symm h20 (by rw [HL.out]; exact hlt))
  have H2 := Lib.hid (fun W hr => numberR_no b (t.extract q t.size) (by rw [tail_size]; omega) V (by omega) W hr (by rw [tail_size]; omega))
  clear hq hq4 h hV
  go_enter Tryd.func26, Tryd.ntmps26
  go_wp2_with fail
  with_reducible refine H1.out.mono ?_
  rintro e w1 ⟨rfl, hr, ho⟩
  have HO := Lib.hid ho
  have H2' := Lib.hid (H2.out w1 hr)
  clear hr ho H2 H1
  go_wp2_with fail
  rw [HVk.out]
  with_reducible refine H2'.out.mono ?_
  rintro e w2 ⟨rfl, rfl⟩
  go_wp2
  go_ret2
  rw [HG.out]
  exact ⟨rfl, Left.trunc _ _ _, HO.out⟩

set_option maxRecDepth 100000 in
set_option maxHeartbeats 2000000 in
theorem rice_ok (b : Nat) (t : ByteArray) (hs : t.size ≤ 100000) (hb : ∀ x ∈ t.data.toList, isBit x) (k : Nat) (hk : k ≤ 12) (w : World) (h : Rd w b t) (hbw : b < w.heap.size) (q : Nat) (hq : q = ones t.data.toList 20) (hq1 : q ≤ 20) (hq2 : q ≤ t.size) (hq4 : q < 20 → ∀ h2 : q < t.size, t[q].toNat ≠ 49) (h20 : ¬ q = 20) (hlt : ¬ t.size < q + 1 + k) :
    Calls Tryd.prog 26 #[.pointer (some ⟨b, 0, none⟩), .int .i64 k] w fun e w' => e = .returned (.tuple #[.int .i64 (pr (read t.data.toList k)).1, .int .i64 (pr (read t.data.toList k)).2]) ∧ Left w' b t (read t.data.toList k) ∧ OnlyF (fun k => k = b) w w' := by
  have H1 := Lib.hid (onesR_calls b t hs w h q hq)
  have HL := Lib.hid (pack.len_eq t)
  have hqi : ((q : Int) == 20) = false := by simp; omega
  obtain ⟨V, hV⟩ : ∃ V, V = 1 + k := ⟨_, rfl⟩
  have HVk := Lib.hid (show (1 : Int) + (k : Int) = (V : Int) by omega)
  have hz := zero_first t.data.toList q k (by rw [HL.out]; omega) hb (hq4 (by omega) (by omega))
  have hv : val ((t.data.toList.drop (q + 1)).take k) ≤ 4294967296 := val_32 _ (fun x hx => hb x (List.mem_of_mem_drop (List.mem_of_mem_take hx))) (by rw [List.length_take]; omega)
  have HG := Lib.hid (read_b1 (k := k) hq.symm h20 (by rw [HL.out]; exact hlt) rfl)
  have H2 := Lib.hid (fun W hr => numberR_yes b (t.extract q t.size) (by rw [tail_size]; omega) (tail_bits hb q) V (by omega) W hr (by rw [tail_size]; omega))
  simp only [tail_list, tail_tail, hV] at H2
  rw [hz] at H2
  rw [← hV] at H2
  generalize val ((t.data.toList.drop (q + 1)).take k) = v at *
  have hp : q * 2 ^ k ≤ 81920 := by
    have h1 : 2 ^ k ≤ 2 ^ 12 := Nat.pow_le_pow_right (by decide) hk
    have h2 : 2 ^ 12 = 4096 := by decide
    have := Nat.mul_le_mul (show q ≤ 20 by omega) (show 2 ^ k ≤ 4096 by omega)
    omega
  have HP := Lib.hid (show (q : Int) * 2 ^ k = ((q * 2 ^ k : Nat) : Int) by simp)
  have HE := Lib.hid (show q + V = q + 1 + k by omega)
  generalize q * 2 ^ k = p at *
  have HW := Lib.hid (show wrap64 (wrap64 ((q : Int) * 2 ^ k) + (v : Int)) = (p : Int) + (v : Int) by
    exact wrap_two p v hp hv _ HP.out)
  have HU : Hid (∀ W, Calls Tryd.prog 43 #[.int .i64 ((p : Int) + (v : Int))] W fun e w' => e = .returned (.int .i64 (unfold' (p + v))) ∧ W = w') := Lib.hid (fun W => unfoldI_calls (p + v) (by omega) W)
  generalize unfold' (p + v) = x at *
  clear hq hq4 h hV hz hp
  go_enter Tryd.func26, Tryd.ntmps26
  go_wp2_with fail
  with_reducible refine H1.out.mono ?_
  rintro e w1 ⟨rfl, hr, ho⟩
  have HO := Lib.hid ho
  have H2' := Lib.hid (H2.out w1 hr)
  clear hr ho H2 H1
  go_wp2_with fail
  rw [HVk.out]
  with_reducible refine H2'.out.mono ?_
  rintro e w2 ⟨rfl, hr, ho⟩
  have HO2 := Lib.hid (HO.out.trans ho)
  have HR := Lib.hid hr
  clear hr ho H2' HO
  go_wp2_with fail
  rw [HW.out]
  with_reducible refine (HU.out _).mono ?_
  rintro e w3 ⟨rfl, rfl⟩
  go_wp2
  go_ret2
  rw [HG.out]
  exact ⟨rfl, Left.ok (by rw [← HE.out]; exact HR.out), HO2.out⟩

theorem riceR_calls (b : Nat) (t : ByteArray) (hs : t.size ≤ 100000) (hb : ∀ x ∈ t.data.toList, isBit x) (k : Nat) (hk : k ≤ 12) (w : World) (h : Rd w b t) (hbw : b < w.heap.size) :
    Calls Tryd.prog 26 #[.pointer (some ⟨b, 0, none⟩), .int .i64 k] w fun e w' => e = .returned (.tuple #[.int .i64 (pr (read t.data.toList k)).1, .int .i64 (pr (read t.data.toList k)).2]) ∧ Left w' b t (read t.data.toList k) ∧ OnlyF (fun k => k = b) w w' := by
  obtain ⟨q, hq, hq1, hq2, hq3, hq4⟩ := ones_at0 t
  by_cases h20 : q = 20
  · exact rice_long b t hs hb k hk w h hbw q hq hq1 hq2 hq4 h20
  · by_cases hlt : t.size < q + 1 + k
    · exact rice_trunc b t hs hb k hk w h hbw q hq hq1 hq2 hq4 h20 hlt
    · exact rice_ok b t hs hb k hk w h hbw q hq hq1 hq2 hq4 h20 hlt

set_option maxRecDepth 100000 in
set_option maxHeartbeats 2000000 in
theorem impl_yes (s : ByteArray) (hs0 : s.size ≤ 1048576) (hbits : s.size ≤ 100000 ∧ pack.AllBits s s.size) (a k : Nat) (ha : a ≤ s.size) (hk : k ≤ 12) (w : World) :
    Calls Tryd.prog 10 #[.string s, .int .i64 a, .int .i64 k] w fun e w' => e = .returned (.tuple #[.int .i64 (out (read (s.data.toList.drop a) k) a).1, .int .i64 (out (read (s.data.toList.drop a) k) a).2.1, .int .i64 (out (read (s.data.toList.drop a) k) a).2.2]) ∧ Below w.heap.size w w' := by
  have H1 := Lib.hid (pack.okI_calls s hs0 w true (by simp [hbits]))
  have H2 := Lib.hid (fun W => par_yes (k : Int) (by omega) W)
  have hb := drop_isBit hbits.2
  have hs := hbits.1
  have H3 := Lib.hid (fun b W hr hz => riceR_calls b (s.extract a s.size) (by rw [tail_size]; omega) (tail_bits hb a) k hk W hr hz)
  simp only [tail_list] at H3
  have HLen := Lib.hid (fun n len (h : read (s.data.toList.drop a) k = .ok n len) => (read_len h))
  simp only [List.length_drop, pack.len_eq] at HLen
  have HT := Lib.hid (fun j => tail_tail s a j)
  generalize read (s.data.toList.drop a) k = g at *
  generalize hu : s.extract a s.size = u at *
  clear hbits hb
  have ha2 : ¬ (s.size : Int) < (a : Int) := by omega
  go_enter Tryd.func10, Tryd.ntmps10
  go_wp2_with fail
  with_reducible refine H1.out.mono ?_
  rintro e w1 ⟨rfl, hb1⟩
  have HB := Lib.hid hb1
  clear hb1 H1
  go_wp2_with fail
  with_reducible refine (H2.out _).mono ?_
  rintro e w2 ⟨rfl, rfl⟩
  go_wp2_with fail
  have hR0 : Rd (w1.alloc (.cells #[.string u] 41)) w1.heap.size u := heap_alloc_new w1 _
  have H3' := Lib.hid (H3.out w1.heap.size _ hR0 (by simp))
  clear hR0 H3 H2
  refine H3'.out.mono ?_
  rintro e w2 ⟨rfl, hl, ho⟩
  have HB2 := Lib.hid (HB.out.trans (((below_alloc1 w1 (.cells #[.string u] 41)).trans (ho.below (fun k hk => by omega) (by simp))).mono HB.out.size))
  cases g with
  | ok n len =>
    have c0 := ((HT.out len ▸ hl n len rfl : Rd w2 w1.heap.size (s.extract (a + len) s.size))).cell.1
    have hlen := HLen.out n len rfl
    have hz := tail_size s (a + len)
    generalize s.extract (a + len) s.size = y at *
    have HZ := Lib.hid (show (s.size : Int) - (y.size : Int) = (a : Int) + (len : Int) by omega)
    have HZ2 := Lib.hid (show wrap64 ((a : Int) + (len : Int)) = (a : Int) + (len : Int) by unfold wrap64; omega)
    clear hl ho H3' HB HT HLen hlen hz hu
    go_wp2
    go_region
    all_goals
      go_wp2
      go_ret3
      refine ⟨?_, by first | exact HB2.out | exact HB2.out.drew⟩
      simp [out, pr, HZ.out, HZ2.out]
  | trunc =>
    clear hl ho H3' HB HT HLen hu
    go_wp2
    go_ret3
    exact ⟨rfl, HB2.out⟩
  | format =>
    clear hl ho H3' HB HT HLen hu
    go_wp2
    go_ret3
    exact ⟨rfl, HB2.out⟩
end Go.Proofs.YtjhndncmeedffaaDoor.readR
