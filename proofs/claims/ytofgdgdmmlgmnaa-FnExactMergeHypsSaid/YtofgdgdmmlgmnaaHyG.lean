/-
  Proved: appending any number of elements to a list of one's own or to nil; zero values appended to nil; slices.Grow of nil for hypotheses.
  Conditions: those of each theorem.
-/
import Derived.Test.YtofgdgdmmlgmnaaHyL
import Derived.Deep.Upon
namespace Go.Proofs.Ytofgdgdmmlgmnaa.gro
open Go.ChangeShapes Go.WideShapes Go.ChangeAt Go.RowKit Go.Joins
open Go.Proofs.Ytofgdgdmmlgmnaa.core Go.Proofs.Ytofgdgdmmlgmnaa.rown Go.Proofs.Ytofgdgdmmlgmnaa.stk Go.Proofs.Ytofgdgdmmlgmnaa.boxed Go.Proofs.Ytofgdgdmmlgmnaa.hyp Go.Proofs.Ytofgdgdmmlgmnaa.ft
set_option linter.unusedVariables false
set_option linter.unusedSimpArgs false
theorem run_nothing {P : Program} (w : World) (t ty e : TypeId) (i : TypeInfo) (ht : P.underlying t = some (.slice e)) (hi : P.info? e = some i) (ad : Option Addr) (n c : Nat) (hle : n ≤ c) (A : Option Addr) (d : Nat) :
    (Builtin.append_ #[t, t] ty #[.slice ad n c, .slice A 0 d]).run P w = .ok (.slice ad n c) w := by
  refine run_append_nothing w t t ty e i ht hi ad n c hle (.slice A 0 d) ?_
  cases A with
  | none => exact Src.ofNil w ht d
  | some a => exact Src.ofSlice w ht a 0 d [] (by simp) (fun j u h => by simp at h) (fun u h => by cases h)
theorem wpList_append_all {P : Program} (w : World) {ops : Array Oper} {rest : List Oper} {o : Oper} {a : Act} {Q : Exit → Act → World → Prop} (hgd : o.guard = none) (s x : Operand) (t : TypeId)
    (ho : o.op = .call { callee := .builtin .append, args := #[s, x], argTypes := #[t, t] })
    (base : Nat) (e : TypeId) (i : TypeInfo) (z : Value) (size bytes : Nat) (ht : P.underlying t = some (.slice e)) (hi : P.info? e = some i) (hz : i.zero = some z)
    (hsize : i.size = size) (hby : i.bytes = bytes) (hzs : z.cells.size = size) (hsz : 0 < size)
    (A0 : Option Addr) (c0 n : Nat) (xs : List Value) (hs : a.eval s = .slice A0 n c0) (hown : w.ownsRow base e size (.slice A0 n c0) n xs)
    (A : Option Addr) (m c : Nat) (news : List Value) (hx : a.eval x = .slice A m c) (hl : news.length = m * size) (hnews : 0 < m → ∃ ad, A = some ad ∧ ∀ j u, news[j]? = some u → w.cell? (ad.add j) = some u) (h1 : ∀ u ∈ news, u.oneCell' = true)
    (h63 : n + m ≤ maxLen) (hbytes : (n + m) * bytes ≤ 140737488355328) (hbase : base ≤ w.heap.size)
    (h : ∀ A' cap w', w'.ownsRow base e size (.slice A' (n + m) cap) (n + m) (xs ++ news) → Below base w w' → wpList P ops Q rest (a.put o.dst (.slice A' (n + m) cap)) w') : wpList P ops Q (o :: rest) a w := by
  rcases Nat.eq_zero_or_pos m with h0 | hm
  · have hle : n ≤ c0 := by
      obtain ⟨-, h⟩ := hown
      rcases h with ⟨h, _⟩ | ⟨g', cap, cur, e, h1, h2, h3, h4⟩
      · injection h with _ h _; omega
      · cases e; exact h3
    have hn0 : news = [] := List.length_eq_zero_iff.1 (by rw [hl, h0]; simp)
    have h2 := h A0 c0 w (by rw [hn0, h0]; simpa using hown) (Below.refl _ _)
    rw [h0] at h2
    refine wpList_plain hgd fun _ hK => ?_
    subst h0
    have hr := run_nothing (P := P) w t o.type e i ht hi A0 n c0 hle A c
    unfold Oper.wp execOp
    simp only [ho, resolve, invoke, builtin, Sem.run_bind, Sem.run_pure, Result.andThen_ok, List.map_toArray, List.map_cons, List.map_nil, hs, hx, hr]
    exact hK _ _ (by simpa using h2)
  · obtain ⟨ad, rfl, hn⟩ := hnews hm
    refine wpList_append_lies w hgd s x t ho base e i z size bytes ht hi hz hsize hby hzs hsz _ n xs hs hown ad m c news hx hl hn h1 hm h63 hbytes hbase _ rfl ?_
    intro g cap w' hown' hgr hat hlt
    exact h (some ⟨g, 0, none⟩) cap w' hown' ((Below.refl base w).grown hgr hbase (fun k hk => (rown.ownsRow_block hown hk).1))
theorem zero_len (z : Array Value) (n : Nat) : (Builtin.zeroCells z n).size = n * z.size := by unfold Builtin.zeroCells; simp
/-- Zero values are appended to nil. -/
theorem run_zeros {P : Program} (w : World) (t tx ty e : TypeId) (k : IntKind) (i : TypeInfo) (z : Value) (ht : P.underlying t = some (.slice e)) (hx : P.underlying tx = some (.int k)) (hi : P.info? e = some i) (hz : i.zero = some z) (hs : i.size = z.cells.size) (h0 : 0 < z.cells.size)
    (n : Nat) (h1 : 1 ≤ n) (hn : n ≤ 1000) (hb : i.bytes ≤ 1000) :
    ∃ cur : Array Value, cur.size = grownCap w n 0 e * z.cells.size ∧ (Builtin.append_ #[t, tx] ty #[.slice none 0 0, .int .i64 (n : Int)]).run P w = .ok (.slice (some ⟨w.heap.size, 0, none⟩) n (grownCap w n 0 e)) (w.drew.alloc (.cells cur e)) := by
  have hw : IntKind.i64.wrap (n : Int) = (n : Int) := IntWalk.i64_in _ (by omega)
  have hneg : ¬ ((n : Int) < 0) := by omega
  have hnb : n * i.bytes ≤ 1000000 := Nat.le_trans (Nat.mul_le_mul hn hb) (by omega)
  have hbig : ¬ (281474976710656 < (n : Int) * (i.bytes : Int)) := by
    have : ((n * i.bytes : Nat) : Int) = (n : Int) * (i.bytes : Int) := by simp
    omega
  have hn0 : ¬ n = 0 := by omega
  have hne : ¬ (n * z.cells.size = 0) := by
    have := Nat.mul_pos h1 h0
    omega
  have h63' : ¬ (9223372036854775807 < (n : Int)) := by omega
  have hnx : Builtin.nextslicecap n 0 = n := by unfold Builtin.nextslicecap; rw [if_pos (by omega)]
  have h48' : ¬ (281474976710656 < n * i.bytes) := by omega
  have hg := grownCap_ge w n 0 e
  refine ⟨Builtin.zeroCells z.cells n ++ Builtin.zeroCells z.cells (grownCap w n 0 e - n), ?_, ?_⟩
  · rw [Array.size_append, zero_len, zero_len, ← Nat.add_mul]
    congr 1
    omega
  · simp [Builtin.append_, run_underlying ht, run_underlying hx, sizeOf, typeInfo, zeroValue, hi, hz, hw, hneg, hbig, hn0, hne, hs, asInt, asIntOf, h63', hnx, h48', Question.forced, Builtin.firstCells, newRow, grownCap]
theorem wpList_append_zeros {P : Program} (w : World) {ops : Array Oper} {rest : List Oper} {o : Oper} {a : Act} {Q : Exit → Act → World → Prop} (hgd : o.guard = none) (s x : Operand) (t tx : TypeId)
    (ho : o.op = .call { callee := .builtin .append, args := #[s, x], argTypes := #[t, tx] })
    (e : TypeId) (k : IntKind) (i : TypeInfo) (z : Value) (ht : P.underlying t = some (.slice e)) (htx : P.underlying tx = some (.int k)) (hi : P.info? e = some i) (hz : i.zero = some z) (hs : i.size = z.cells.size) (h0 : 0 < z.cells.size) (hb : i.bytes ≤ 1000)
    (n : Nat) (h1 : 1 ≤ n) (hn : n ≤ 1000) (hsv : a.eval s = .slice none 0 0) (hx : a.eval x = .int .i64 (n : Int))
    (h : ∀ C w', w'.ownsRow w.heap.size e z.cells.size (.slice (some ⟨w.heap.size, 0, none⟩) 0 C) 0 [] → n ≤ C → Below w.heap.size w w' → wpList P ops Q rest (a.put o.dst (.slice (some ⟨w.heap.size, 0, none⟩) n C)) w') : wpList P ops Q (o :: rest) a w :=
  wpList_plain hgd fun _ hK => by
    obtain ⟨cur, hc, hr⟩ := run_zeros (P := P) w t tx o.type e k i z ht htx hi hz hs h0 n h1 hn hb
    have hcap := grownCap_le_maxLen w n 0 e (by unfold maxLen; omega)
    have hge := grownCap_ge w n 0 e
    unfold Oper.wp execOp
    simp only [ho, resolve, invoke, builtin, Sem.run_bind, Sem.run_pure, Result.andThen_ok, List.map_toArray, List.map_cons, List.map_nil, hsv, hx, hr]
    exact hK _ _ (h _ _ ⟨by simp, .inr ⟨w.heap.size, _, cur, rfl, Nat.le_refl _, heap_alloc_new w.drew _, Nat.zero_le _, hcap, hc, by simp⟩⟩ hge ((Below.refl w.heap.size w).drew.alloc (Nat.le_refl _) _))
set_option maxRecDepth 100000 in
set_option maxHeartbeats 4000000 in
theorem growH (n : Nat) (hn : n ≤ 40) (w : World) :
    Calls Try.prog 83 #[.slice none 0 0, .int .i64 (n : Int)] w fun e w' => ∃ A C, e = .returned (.slice A 0 C) ∧ w'.ownsRow w.heap.size 40 2 (.slice A 0 C) 0 [] ∧ Below w.heap.size w w' := by
  obtain ⟨j0, hj0, jz0, jz1, jz2⟩ := rown.info_get infoH
  by_cases h0 : n = 0
  · subst h0
    go_enter Try.func83, Try.ntmps83
    go_wp2
    go_ret
    exact ⟨none, 0, rfl, World.ownsRow_nil _ _ _ _, Below.refl _ _⟩
  · have h1 : 1 ≤ n := by omega
    have h2 : (0 : Int) < (n : Int) := by omega
    have h3 : ¬ (n : Int) < 0 := by omega
    have hw : IntKind.i64.wrap ((n : Int) - 0) = (n : Int) := by rw [Int.sub_zero]; exact IntWalk.i64_in _ (by omega)
    go_enter Try.func83, Try.ntmps83
    go_wp2_with (first
      | (at_builtin
         refine wpList_append_zeros w rfl _ _ 31 3 rfl 40 _ j0 _ Try.underlying31 Try.underlying3 hj0 jz0 (by rw [jz1]; rfl) (by decide) (by rw [jz2]; omega) n h1 (by omega) rfl rfl ?_
         intro C w' hown hC hb
         have HO := Lib.hid hown
         have HB := Lib.hid hb
         clear hown hb))
    go_ret
    exact ⟨_, C, rfl, HO.out, HB.out⟩
end Go.Proofs.Ytofgdgdmmlgmnaa.gro
