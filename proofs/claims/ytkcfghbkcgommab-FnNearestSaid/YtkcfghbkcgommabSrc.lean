/-
  Proved: a list of bytes or numbers grown by append, and what it reads as (plain lemmas); what the source of choices does: each draw is a number in its range, and nothing but the source's own cells turns; what a list of bytes that comes in holds.
  Conditions: those of each theorem.
-/
import Derived.Test.YtkcfghbkcgommabCore
import Derived.Deep.AppendLies
import Derived.OwnWalk
import Derived.Maps.AppendAt
import Derived.Lib.VarintMem
import Derived.Laws.IdiomStrings
import Derived.BigRegion
import Derived.Test.YtkcfghbkcgommabOpen
namespace Go.Proofs.Ytkcfghbkcgommab.rows
open Go.ChangeShapes Go.WideShapes Go.ChangeAt Go.RowKit Go.Joins
open Go.Proofs.Ytkcfghbkcgommab.core
set_option linter.unusedVariables false
set_option linter.unusedSimpArgs false

theorem infoByte : (Try.prog.info? 5).map (fun i => (i.zero, i.size, i.bytes)) = some (some (.int .u8 0), 1, 1) := by kernel_rfl
theorem infoInt : (Try.prog.info? 2).map (fun i => (i.zero, i.size, i.bytes)) = some (some (.int .i64 0), 1, 8) := by kernel_rfl
theorem info_get {t : TypeId} {z : Value} {s b : Nat} (h : (Try.prog.info? t).map (fun i => (i.zero, i.size, i.bytes)) = some (some z, s, b)) : ∃ i, Try.prog.info? t = some i ∧ i.zero = some z ∧ i.size = s ∧ i.bytes = b := by
  cases hi : Try.prog.info? t with
  | none => rw [hi] at h; cases h
  | some i =>
    rw [hi] at h
    simp only [Option.map_some, Option.some.injEq, Prod.mk.injEq] at h
    exact ⟨i, rfl, h.1, h.2.1, h.2.2⟩
theorem add_at (g j : Nat) : (⟨g, 0, none⟩ : Addr).add j = ⟨g, j, none⟩ := by unfold Addr.add; split <;> simp_all
theorem one_new {w : World} {v : Value} {E : Nat} : ∀ j u, [v][j]? = some u → (w.alloc (.cells #[v] E)).cell? ((⟨w.heap.size, 0, none⟩ : Addr).add j) = some u := by
  intro j u hu
  rw [add_at]
  match j, hu with
  | 0, hu => simp at hu; subst hu; simp
theorem empty_row (w : World) (E : Nat) : (w.alloc (.cells #[] E)).ownsRow w.heap.size E 1 (.slice (some ⟨w.heap.size, 0, none⟩) 0 0) 0 [] :=
  ⟨by simp, .inr ⟨w.heap.size, 0, #[], rfl, Nat.le_refl _, heap_alloc_new _ _, Nat.le_refl _, by simp [maxLen], by simp, by simp⟩⟩
theorem ownsRow_block {w : World} {base : Nat} {e : TypeId} {size : Nat} {v : Value} {n : Nat} {xs : List Value} (h : w.ownsRow base e size v n xs) {g : Nat} (hg : v.ownBlock = some g) : base ≤ g ∧ ∃ cur, w.heap[g]? = some (.cells cur e (0, 0)) := by
  obtain ⟨hl, h⟩ := h
  rcases h with ⟨rfl, _⟩ | ⟨g', cap, cur, rfl, h1, h2, h3⟩
  · cases hg
  · injection hg with hg
    subst hg
    exact ⟨h1, cur, h2⟩
theorem ownsRow_same {w w' : World} {base : Nat} {e : TypeId} {size : Nat} {v : Value} {n : Nat} {xs : List Value} (h : w.ownsRow base e size v n xs) (hb : ∀ g, v.ownBlock = some g → w'.heap[g]? = w.heap[g]?) : w'.ownsRow base e size v n xs := by
  obtain ⟨hl, h⟩ := h
  refine ⟨hl, ?_⟩
  rcases h with h | ⟨g, cap, cur, hv, h1, h2, h3⟩
  · exact .inl h
  · exact .inr ⟨g, cap, cur, hv, h1, (hb g (by rw [hv]; rfl)).trans h2, h3⟩
theorem ownsRow_kept {w w' : World} {base : Nat} {e : TypeId} {size : Nat} {v : Value} {n : Nat} {xs : List Value} (h : w.ownsRow base e size v n xs) (hb : Below w.heap.size w w') : w'.ownsRow base e size v n xs :=
  ownsRow_same h fun g hg => by
    obtain ⟨_, cur, hc⟩ := ownsRow_block h hg
    exact hb.block _ (Array.getElem?_eq_some_iff.1 hc).1
theorem under {W W' : World} {base n : Nat} {o : Obj} {v : Value} {xs : List Value} {E : TypeId} (hown : W.ownsRow base E 1 v n xs) (hbz : base ≤ W.heap.size) (hgr : (W.alloc o).grownBy W' v.ownBlock) : Below base W W' := by
  have hz := hgr.size
  simp at hz
  refine ⟨hgr.os, hgr.tape, hgr.output, by omega, fun j hj => ?_⟩
  rw [hgr.block j (by simp; omega) ?_, Below.heap_alloc _ _ _ (by omega)]
  intro e
  have := (ownsRow_block hown e.symm).1
  omega
/-- 'string(b)' of bytes that a row holds. -/
theorem row_string {w : World} {base g m c : Nat} {l : List UInt8} (h : w.ownsRow base 5 1 (.slice (some ⟨g, 0, none⟩) m c) m (Lib.byteCells l)) (hm : l.length = m) :
    (convert 22 9 (.slice (some ⟨g, 0, none⟩) m c)).run Try.prog w = .ok (.string ⟨l.toArray⟩) w := by
  subst hm
  refine run_convert_bytes_back w _ _ _ ⟨g, 0, none⟩ c l Try.underlying22 Try.underlying5 Try.underlying9 fun j hj => ?_
  exact h.cells (g := g) rfl j _ (by simp [Lib.byteCells, hj])
/-- A row of bytes that an append of one byte has left. -/
theorem row_snoc {w : World} {base g m c : Nat} {l : List UInt8} {a : Nat} (ha : a < 256) (h : w.ownsRow base 5 1 (.slice (some ⟨g, 0, none⟩) (m + 1) c) (m + 1) (Lib.byteCells l ++ [.int .u8 (a : Int)])) : w.ownsRow base 5 1 (.slice (some ⟨g, 0, none⟩) (m + 1) c) (m + 1) (Lib.byteCells (l ++ [a.toUInt8])) := by
  rw [Lib.byteCells_snoc l ha]
  exact h
theorem ownRec_nil : True := trivial
theorem ret_str {l l' : List UInt8} (h : l = l') : Ending.returned (.string ⟨l.toArray⟩) = .returned (.string ⟨l'.toArray⟩) := by rw [h]
theorem ret_int {k : IntKind} {a b : Int} (h : a = b) : Ending.returned (.int k a) = .returned (.int k b) := by rw [h]
end Go.Proofs.Ytkcfghbkcgommab.rows

namespace Go.Proofs.Ytkcfghbkcgommab.src

open Go.ChangeShapes Go.WideShapes Go.ChangeAt Go.RowKit Go.Joins

open Go.Proofs.Ytkcfghbkcgommab.core Go.Proofs.Ytkcfghbkcgommab.rows
set_option linter.unusedVariables false
set_option linter.unusedSimpArgs false

/-- The cells of a list of bytes, in a block below L. -/
def BytesAt (w : World) (L : Nat) (A : Option Addr) (n : Nat) : Prop :=
  ∀ i, i < n → ∃ b o v : Nat, A = some ⟨b, o, none⟩ ∧ b < L ∧ b < w.heap.size ∧ v ≤ 255 ∧ w.cell? ⟨b, o + i, none⟩ = some (.int .u8 (v : Int))
theorem BytesAt.kept {w w' : World} {L : Nat} {A : Option Addr} {n : Nat} (h : BytesAt w L A n) (hb : Below L w w') : BytesAt w' L A n := fun i hi => by
  obtain ⟨b, o, v, e, h1, h2, h3, h4⟩ := h i hi
  exact ⟨b, o, v, e, h1, Nat.lt_of_lt_of_le h2 hb.size, h3, (hb.cell (p := ⟨b, o + i, none⟩) h1).trans h4⟩
def inU64 (n : Int) : Prop := 0 ≤ n ∧ n ≤ 18446744073709551615
theorem wrap_u64 (n : Int) : inU64 (IntKind.u64.wrap n) := by
  have : IntKind.u64.wrap n = n % 18446744073709551616 := by simp [IntKind.wrap, IntKind.bits, IntKind.signed]
  rw [this]
  unfold inU64
  omega
/-- The source in block B: at most M numbers have been drawn. -/
structure Src (w : World) (B M : Nat) (A : Option Addr) (n c : Nat) : Prop where
  cells : ∃ (a : Nat) (s : Int), w.heap[B]? = some (.cells #[.slice A n c, .int .i64 (a : Int), .int .u64 s] 67 (0, 0)) ∧ a ≤ M ∧ inU64 s
  bytes : BytesAt w B A n
theorem Src.mono {w : World} {B M M' : Nat} {A : Option Addr} {n c : Nat} (h : Src w B M A n c) (hm : M ≤ M') : Src w B M' A n c := by
  obtain ⟨⟨a, s, h1, h2, h3⟩, h4⟩ := h
  exact ⟨⟨a, s, h1, Nat.le_trans h2 hm, h3⟩, h4⟩
theorem Src.lt {w : World} {B M : Nat} {A : Option Addr} {n c : Nat} (h : Src w B M A n c) : B < w.heap.size := by
  obtain ⟨⟨a, s, h1, _⟩, _⟩ := h
  exact (Array.getElem?_eq_some_iff.1 h1).1
theorem Src.kept {w w' : World} {B M : Nat} {A : Option Addr} {n c : Nat} (h : Src w B M A n c) (hb : Below w.heap.size w w') : Src w' B M A n c := by
  have hl := h.lt
  obtain ⟨⟨a, s, h1, h2, h3⟩, h4⟩ := h
  exact ⟨⟨a, s, (hb.block _ hl).trans h1, h2, h3⟩, h4.kept (hb.mono (Nat.le_of_lt hl))⟩
theorem low8 (s : Int) (hs : inU64 s) : ∃ x : Nat, x ≤ 255 ∧ wrap64 (bits BinOp.and IntKind.u64 (s / 2 ^ 40) 255) = (x : Int) := by
  obtain ⟨h0, h1⟩ := hs
  have e : bits BinOp.and IntKind.u64 (s / 2 ^ 40) 255 = s / 2 ^ 40 % 256 :=
    bits_mask .u64 63 (by decide) (fun n a b => IntWalk.u64_in _ (by omega)) 8 (by decide) (s / 2 ^ 40) (by omega) (by omega)
  rw [e]
  refine ⟨(s / 2 ^ 40 % 256).toNat, by omega, ?_⟩
  unfold wrap64
  omega

theorem src_end {w w' : World} {B M : Nat} {A : Option Addr} {n c a : Nat} {s S : Int} (hc : w.heap[B]? = some (.cells #[.slice A n c, .int .i64 (a : Int), .int .u64 s] 67 (0, 0))) (hb : BytesAt w B A n) (ha : a ≤ M) (hS : inU64 S)
    (hw : w'.heap = ((w.setCell ⟨B, 1, none⟩ (.int .i64 ((a : Int) + 1))).setCell ⟨B, 2, none⟩ (.int .u64 S)).heap) (h1 : w'.os = w.os) (h2 : w'.tape = w.tape) (h3 : w'.output = w.output) : Src w' B (M + 1) A n c ∧ OnlyF (fun k => k = B) w w' := by
  have b1 := block_setCell (i := 1) hc (.int .i64 ((a : Int) + 1))
  have b2 := block_setCell (i := 2) b1 (.int .u64 S)
  have hbl : w'.heap[B]? = some (.cells #[.slice A n c, .int .i64 (((a + 1 : Nat)) : Int), .int .u64 S] 67 (0, 0)) := by
    rw [hw, b2]
    simp
  have ho : OnlyF (fun k => k = B) w w' := by
    have h := ((OnlyF.refl (fun k => k = B) w).setCell (g := B) (i := 1) rfl (.int .i64 ((a : Int) + 1))).setCell (g := B) (i := 2) rfl (.int .u64 S)
    exact ⟨h1, h2, h3, by rw [hw]; exact h.size, fun k hk hf => by rw [hw]; exact h.block k hk hf⟩
  exact ⟨⟨⟨a + 1, S, hbl, by omega, hS⟩, hb.kept (ho.below (fun x hx => by omega) (Nat.le_of_lt (Array.getElem?_eq_some_iff.1 hc).1))⟩, ho⟩

set_option maxRecDepth 100000 in
set_option maxHeartbeats 4000000 in
theorem next_calls (B M : Nat) (A : Option Addr) (n c : Nat) (w : World) (hn : n ≤ 3000) (hM : M ≤ 1000000) (h : Src w B M A n c) :
    Calls Try.prog 27 #[.pointer (some ⟨B, 0, none⟩)] w fun e w' => ∃ x : Nat, x ≤ 255 ∧ e = .returned (.int .i64 (x : Int)) ∧ Src w' B (M + 1) A n c ∧ OnlyF (fun k => k = B) w w' := by
  obtain ⟨⟨a, s, hc, ha, hs⟩, hb⟩ := h
  have HB := Lib.hid hb
  have HC := Lib.hid hc
  have c0 := cell_of_block hc 0
  have c1 := cell_of_block hc 1
  have c2 := cell_of_block hc 2
  simp at c0 c1 c2
  have f1 := unfrozen_of_block hc 1
  have f2 := unfrozen_of_block hc 2
  clear hb hc hs
  by_cases hlt2 : a < n
  · obtain ⟨b, o, v, rfl, h1, h2, h3, h4⟩ := HB.out a hlt2
    have hne : ¬ b = B := by omega
    have hai : (a : Int) < (n : Int) := by omega
    have hai2 : (a : Int) + 1 ≤ (n : Int) := by omega
    have HS := Lib.hid (wrap_u64 (IntKind.u64.wrap (IntKind.u64.wrap (s * 6364136223846793005) + (v : Int)) + 1442695040888963407))
    go_enter Try.func27, Try.ntmps27
    go_wp2
    go_region
    go_wp2
    go_region
    go_wp2
    generalize IntKind.u64.wrap (IntKind.u64.wrap (IntKind.u64.wrap (s * 6364136223846793005) + (v : Int)) + 1442695040888963407) = S at HS ⊢
    go_region
    go_wp2
    go_ret
    exact ⟨v, h3, rfl, src_end HC.out HB.out ha HS.out rfl rfl rfl rfl⟩
  · have hai : ¬ (a : Int) < (n : Int) := by omega
    have hai2 : ¬ (a : Int) + 1 ≤ (n : Int) := by omega
    have HS := Lib.hid (wrap_u64 (IntKind.u64.wrap (IntKind.u64.wrap (s * 6364136223846793005)) + 1442695040888963407))
    go_enter Try.func27, Try.ntmps27
    go_wp2
    go_region
    go_wp2
    generalize IntKind.u64.wrap (IntKind.u64.wrap (IntKind.u64.wrap (s * 6364136223846793005)) + 1442695040888963407) = S at HS ⊢
    go_region
    go_wp2
    go_ret
    obtain ⟨x, hx, he⟩ := low8 S HS.out
    exact ⟨x, hx, by rw [← he]; rfl, src_end HC.out HB.out ha HS.out rfl rfl rfl rfl⟩

theorem onlyB_trans {B : Nat} {w w1 w2 : World} (h : OnlyF (fun k => k = B) w w1) (h' : OnlyF (fun k => k = B) w1 w2) : OnlyF (fun k => k = B) w w2 := h.trans h'
set_option maxRecDepth 100000 in
set_option maxHeartbeats 2000000 in
/-- A draw below m, where m is not one. -/
theorem pick_calls (B M m : Nat) (A : Option Addr) (n c : Nat) (w : World) (hm : 2 ≤ m) (hm2 : m ≤ 60000) (hn : n ≤ 3000) (hM : M ≤ 900000) (h : Src w B M A n c) :
    Calls Try.prog 14 #[.pointer (some ⟨B, 0, none⟩), .int .i64 m] w fun e w' => ∃ x : Nat, x < m ∧ e = .returned (.int .i64 (x : Int)) ∧ Src w' B (M + 2) A n c ∧ OnlyF (fun k => k = B) w w' := by
  have H1 := Lib.hid (next_calls B M A n c w hn (by omega) h)
  clear h
  have hm1 : ¬ (m : Int) ≤ 1 := by omega
  have hmz : ¬ (m : Int) = 0 := by omega
  have hmz2 : ((m : Int) == 0) = false := by simp; omega
  by_cases h2 : 200 < m
  · have h2' : (200 : Int) < (m : Int) := by omega
    go_enter Try.func14, Try.ntmps14
    go_wp2_with fail
    with_reducible refine H1.out.mono ?_
    rintro e w1 ⟨x, hx, rfl, hs, ho⟩
    have H2 := Lib.hid (next_calls B (M + 1) A n c w1 hn (by omega) hs)
    have HO := Lib.hid ho
    clear hs ho H1
    go_wp2_with fail
    with_reducible refine H2.out.mono ?_
    rintro e w2 ⟨y, hy, rfl, hs, ho⟩
    have HS := Lib.hid hs
    have HO2 := Lib.hid (HO.out.trans ho)
    clear hs ho H2
    go_wp2
    go_ret
    refine ⟨(x * 256 + y) % m, Nat.mod_lt _ (by omega), ?_, HS.out, HO2.out⟩
    simp
  · have h2' : ¬ (200 : Int) < (m : Int) := by omega
    go_enter Try.func14, Try.ntmps14
    go_wp2_with fail
    with_reducible refine H1.out.mono ?_
    rintro e w1 ⟨x, hx, rfl, hs, ho⟩
    have HS := Lib.hid (hs.mono (show M + 1 ≤ M + 2 by omega))
    have HO := Lib.hid ho
    clear hs ho H1
    go_wp2
    go_ret
    refine ⟨x % m, Nat.mod_lt _ (by omega), ?_, HS.out, HO.out⟩
    simp
end Go.Proofs.Ytkcfghbkcgommab.src

namespace Go.Proofs.Ytkcfghbkcgommab.src

open Go.ChangeShapes Go.WideShapes Go.ChangeAt Go.RowKit Go.Joins

open Go.Proofs.Ytkcfghbkcgommab.core
set_option linter.unusedVariables false
set_option linter.unusedSimpArgs false
theorem cellsB : Try.prog.cellsOf 5 = 1 := by kernel_rfl
set_option maxRecDepth 100000 in
theorem open_bytesAt {H : Type} {enc : TypeId × Value → H} {W : World} {r : Reach} {b0 : Nat} {v : Value} {d : DataW H} {p : List MemPlace} (hv : Value.okWide Try.prog W r b0 22 v) (h : DataW.Trod enc Try.prog W 0 (fun _ => true) true 22 v d p) :
    ∃ (A : Option Addr) (n c : Nat), v = .slice A n c ∧ n ≤ maxLen ∧ BytesAt W W.heap.size A n := by
  obtain ⟨A, n, c, rfl⟩ := okWide_slice Try.underlying22 hv
  obtain ⟨fuel, hf⟩ := h
  rcases open_ints Try.underlying22 Try.underlying5 cellsB hf with ⟨hcs, hx⟩ | ⟨a, len', cap', zs, hcs, _, hl, hm, hz, hx, hcell, hwz⟩
  · simp [Value.cells] at hcs
    obtain ⟨rfl, rfl, rfl⟩ := hcs
    exact ⟨none, 0, 0, rfl, Nat.zero_le _, fun i hi => absurd hi (by omega)⟩
  · simp [Value.cells] at hcs
    obtain ⟨rfl, rfl, rfl⟩ := hcs
    simp only [if_true] at hz
    refine ⟨some a, n, c, rfl, Nat.le_trans hl hm, fun i hi => ?_⟩
    have hc := hcell i (by omega)
    obtain ⟨ab, ao, spot⟩ := a
    have hspot : spot = none := by simpa [Addr.add] using World.cell?_spot (hcell 0 (by omega))
    subst hspot
    have hadd : (⟨ab, ao, none⟩ : Addr).add i = ⟨ab, ao + i, none⟩ := by unfold Addr.add; split <;> simp_all
    rw [hadd] at hc
    have hw := hwz (zs.getD i 0) (by
      rw [List.getD_eq_getElem?_getD, List.getElem?_eq_getElem (show i < zs.length by omega), Option.getD_some]
      exact List.getElem_mem _)
    have hb : 0 ≤ zs.getD i 0 ∧ zs.getD i 0 ≤ 255 := by simpa [Lit.wf, IntKind.min, IntKind.max, IntKind.signed, IntKind.bits] using hw
    have hlt : ab < W.heap.size := by
      rcases Nat.lt_or_ge ab W.heap.size with h' | h'
      · exact h'
      · simp [World.cell?, Array.getElem?_eq_none h'] at hc
    refine ⟨ab, ao, (zs.getD i 0).toNat, rfl, hlt, hlt, by omega, ?_⟩
    rw [hc]
    congr 2
    omega
end Go.Proofs.Ytkcfghbkcgommab.src
