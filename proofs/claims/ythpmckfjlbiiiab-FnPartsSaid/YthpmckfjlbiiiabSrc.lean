/-
  Proved: what the source of choices does: each draw is a number in its range, and nothing but the source's own cells turns.
  Conditions: none.
-/
import Derived.Test.YthpmckfjlbiiiabBytes
import Derived.BigRegion
namespace Go.Proofs.Ythpmckfjlbiiiab.src
open Go.ChangeShapes Go.WideShapes Go.ChangeAt Go.RowKit Go.Joins
open Go.Proofs.Ythpmckfjlbiiiab.core Go.Proofs.Ythpmckfjlbiiiab.rows
set_option linter.unusedVariables false
set_option linter.unusedSimpArgs false

/-- The cells of a list of bytes, in a block below L. -/
def BytesAt (w : World) (L : Nat) (A : Option Addr) (n : Nat) : Prop :=
  ∀ i, i < n → ∃ b o v : Nat, A = some ⟨b, o, none⟩ ∧ b < L ∧ b < w.heap.size ∧ v ≤ 255 ∧ w.cell? ⟨b, o + i, none⟩ = some (.int .u8 (v : Int))
theorem BytesAt.kept {w w' : World} {L : Nat} {A : Option Addr} {n : Nat} (h : BytesAt w L A n) (hb : Below L w w') : BytesAt w' L A n := fun i hi => by
  obtain ⟨b, o, v, e, h1, h2, h3, h4⟩ := h i hi
  exact ⟨b, o, v, e, h1, Nat.lt_of_lt_of_le h2 hb.size, h3, (hb.cell (p := ⟨b, o + i, none⟩) h1).trans h4⟩
def inU64 (n : Int) : Prop := 0 ≤ n ∧ n ≤ 18446744073709551615
theorem wrap_u64 (n : Int) : inU64 (IntKind.u64.wrap n) := by
  have : IntKind.u64.wrap n = n % 18446744073709551616 := by simp [IntKind.wrap, IntKind.bits, IntKind.signed]
  rw [this]
  unfold inU64
  omega
/-- The source in block B: at most M numbers have been drawn. -/
structure Src (w : World) (B M : Nat) (A : Option Addr) (n c : Nat) : Prop where
  cells : ∃ (a : Nat) (s : Int), w.heap[B]? = some (.cells #[.slice A n c, .int .i64 (a : Int), .int .u64 s] 120 (0, 0)) ∧ a ≤ M ∧ inU64 s
  bytes : BytesAt w B A n
theorem Src.mono {w : World} {B M M' : Nat} {A : Option Addr} {n c : Nat} (h : Src w B M A n c) (hm : M ≤ M') : Src w B M' A n c := by
  obtain ⟨⟨a, s, h1, h2, h3⟩, h4⟩ := h
  exact ⟨⟨a, s, h1, Nat.le_trans h2 hm, h3⟩, h4⟩
theorem Src.lt {w : World} {B M : Nat} {A : Option Addr} {n c : Nat} (h : Src w B M A n c) : B < w.heap.size := by
  obtain ⟨⟨a, s, h1, _⟩, _⟩ := h
  exact (Array.getElem?_eq_some_iff.1 h1).1
theorem Src.kept {w w' : World} {B M : Nat} {A : Option Addr} {n c : Nat} (h : Src w B M A n c) (hb : Below w.heap.size w w') : Src w' B M A n c := by
  have hl := h.lt
  obtain ⟨⟨a, s, h1, h2, h3⟩, h4⟩ := h
  exact ⟨⟨a, s, (hb.block _ hl).trans h1, h2, h3⟩, h4.kept (hb.mono (Nat.le_of_lt hl))⟩
theorem low8 (s : Int) (hs : inU64 s) : ∃ x : Nat, x ≤ 255 ∧ wrap64 (bits BinOp.and IntKind.u64 (s / 2 ^ 40) 255) = (x : Int) := by
  obtain ⟨h0, h1⟩ := hs
  have e : bits BinOp.and IntKind.u64 (s / 2 ^ 40) 255 = s / 2 ^ 40 % 256 :=
    bits_mask .u64 63 (by decide) (fun n a b => IntWalk.u64_in _ (by omega)) 8 (by decide) (s / 2 ^ 40) (by omega) (by omega)
  rw [e]
  refine ⟨(s / 2 ^ 40 % 256).toNat, by omega, ?_⟩
  unfold wrap64
  omega

theorem src_end {w w' : World} {B M : Nat} {A : Option Addr} {n c a : Nat} {s S : Int} (hc : w.heap[B]? = some (.cells #[.slice A n c, .int .i64 (a : Int), .int .u64 s] 120 (0, 0))) (hb : BytesAt w B A n) (ha : a ≤ M) (hS : inU64 S)
    (hw : w'.heap = ((w.setCell ⟨B, 1, none⟩ (.int .i64 ((a : Int) + 1))).setCell ⟨B, 2, none⟩ (.int .u64 S)).heap) (h1 : w'.os = w.os) (h2 : w'.tape = w.tape) (h3 : w'.output = w.output) : Src w' B (M + 1) A n c ∧ OnlyF (fun k => k = B) w w' := by
  have b1 := block_setCell (i := 1) hc (.int .i64 ((a : Int) + 1))
  have b2 := block_setCell (i := 2) b1 (.int .u64 S)
  have hbl : w'.heap[B]? = some (.cells #[.slice A n c, .int .i64 (((a + 1 : Nat)) : Int), .int .u64 S] 120 (0, 0)) := by
    rw [hw, b2]
    simp
  have ho : OnlyF (fun k => k = B) w w' := by
    have h := ((OnlyF.refl (fun k => k = B) w).setCell (g := B) (i := 1) rfl (.int .i64 ((a : Int) + 1))).setCell (g := B) (i := 2) rfl (.int .u64 S)
    exact ⟨h1, h2, h3, by rw [hw]; exact h.size, fun k hk hf => by rw [hw]; exact h.block k hk hf⟩
  exact ⟨⟨⟨a + 1, S, hbl, by omega, hS⟩, hb.kept (ho.below (fun x hx => by omega) (Nat.le_of_lt (Array.getElem?_eq_some_iff.1 hc).1))⟩, ho⟩

set_option maxRecDepth 100000 in
set_option maxHeartbeats 4000000 in
theorem next_calls (B M : Nat) (A : Option Addr) (n c : Nat) (w : World) (hn : n ≤ 3000) (hM : M ≤ 1000000) (h : Src w B M A n c) :
    Calls Try.prog 78 #[.pointer (some ⟨B, 0, none⟩)] w fun e w' => ∃ x : Nat, x ≤ 255 ∧ e = .returned (.int .i64 (x : Int)) ∧ Src w' B (M + 1) A n c ∧ OnlyF (fun k => k = B) w w' := by
  obtain ⟨⟨a, s, hc, ha, hs⟩, hb⟩ := h
  have HB := Lib.hid hb
  have HC := Lib.hid hc
  have c0 := cell_of_block hc 0
  have c1 := cell_of_block hc 1
  have c2 := cell_of_block hc 2
  simp at c0 c1 c2
  have f1 := unfrozen_of_block hc 1
  have f2 := unfrozen_of_block hc 2
  clear hb hc hs
  by_cases hlt2 : a < n
  · obtain ⟨b, o, v, rfl, h1, h2, h3, h4⟩ := HB.out a hlt2
    have hne : ¬ b = B := by omega
    have hai : (a : Int) < (n : Int) := by omega
    have hai2 : (a : Int) + 1 ≤ (n : Int) := by omega
    have HS := Lib.hid (wrap_u64 (IntKind.u64.wrap (IntKind.u64.wrap (s * 6364136223846793005) + (v : Int)) + 1442695040888963407))
    go_enter Try.func78, Try.ntmps78
    go_wp2
    go_region
    go_wp2
    go_region
    go_wp2
    generalize IntKind.u64.wrap (IntKind.u64.wrap (IntKind.u64.wrap (s * 6364136223846793005) + (v : Int)) + 1442695040888963407) = S at HS ⊢
    go_region
    go_wp2
    go_ret
    exact ⟨v, h3, rfl, src_end HC.out HB.out ha HS.out rfl rfl rfl rfl⟩
  · have hai : ¬ (a : Int) < (n : Int) := by omega
    have hai2 : ¬ (a : Int) + 1 ≤ (n : Int) := by omega
    have HS := Lib.hid (wrap_u64 (IntKind.u64.wrap (IntKind.u64.wrap (s * 6364136223846793005)) + 1442695040888963407))
    go_enter Try.func78, Try.ntmps78
    go_wp2
    go_region
    go_wp2
    generalize IntKind.u64.wrap (IntKind.u64.wrap (IntKind.u64.wrap (s * 6364136223846793005)) + 1442695040888963407) = S at HS ⊢
    go_region
    go_wp2
    go_ret
    obtain ⟨x, hx, he⟩ := low8 S HS.out
    exact ⟨x, hx, by rw [← he]; rfl, src_end HC.out HB.out ha HS.out rfl rfl rfl rfl⟩

theorem onlyB_trans {B : Nat} {w w1 w2 : World} (h : OnlyF (fun k => k = B) w w1) (h' : OnlyF (fun k => k = B) w1 w2) : OnlyF (fun k => k = B) w w2 := h.trans h'
set_option maxRecDepth 100000 in
set_option maxHeartbeats 2000000 in
/-- A draw below m, where m is not one. -/
theorem pick_calls (B M m : Nat) (A : Option Addr) (n c : Nat) (w : World) (hm : 2 ≤ m) (hm2 : m ≤ 60000) (hn : n ≤ 3000) (hM : M ≤ 900000) (h : Src w B M A n c) :
    Calls Try.prog 39 #[.pointer (some ⟨B, 0, none⟩), .int .i64 m] w fun e w' => ∃ x : Nat, x < m ∧ e = .returned (.int .i64 (x : Int)) ∧ Src w' B (M + 2) A n c ∧ OnlyF (fun k => k = B) w w' := by
  have H1 := Lib.hid (next_calls B M A n c w hn (by omega) h)
  clear h
  have hm1 : ¬ (m : Int) ≤ 1 := by omega
  have hmz : ¬ (m : Int) = 0 := by omega
  have hmz2 : ((m : Int) == 0) = false := by simp; omega
  by_cases h2 : 200 < m
  · have h2' : (200 : Int) < (m : Int) := by omega
    go_enter Try.func39, Try.ntmps39
    go_wp2_with fail
    with_reducible refine H1.out.mono ?_
    rintro e w1 ⟨x, hx, rfl, hs, ho⟩
    have H2 := Lib.hid (next_calls B (M + 1) A n c w1 hn (by omega) hs)
    have HO := Lib.hid ho
    clear hs ho H1
    go_wp2_with fail
    with_reducible refine H2.out.mono ?_
    rintro e w2 ⟨y, hy, rfl, hs, ho⟩
    have HS := Lib.hid hs
    have HO2 := Lib.hid (HO.out.trans ho)
    clear hs ho H2
    go_wp2
    go_ret
    refine ⟨(x * 256 + y) % m, Nat.mod_lt _ (by omega), ?_, HS.out, HO2.out⟩
    simp
  · have h2' : ¬ (200 : Int) < (m : Int) := by omega
    go_enter Try.func39, Try.ntmps39
    go_wp2_with fail
    with_reducible refine H1.out.mono ?_
    rintro e w1 ⟨x, hx, rfl, hs, ho⟩
    have HS := Lib.hid (hs.mono (show M + 1 ≤ M + 2 by omega))
    have HO := Lib.hid ho
    clear hs ho H1
    go_wp2
    go_ret
    refine ⟨x % m, Nat.mod_lt _ (by omega), ?_, HS.out, HO.out⟩
    simp
end Go.Proofs.Ythpmckfjlbiiiab.src
