/-
  Proved: what a queue of waiting indices holds that is kept while a window moves on: its first one is the least of the window (plain lemmas); a list of whole numbers in a block of the call's own that is taken from in front and behind, and appended to (plain lemmas); what the program's functions that compare two numbers, and that look for the first one of each window, return.
  Conditions: those of each theorem.
-/
import Derived.Test.YtkcfghbkcgommabEnvS
import Derived.Test.YtkcfghbkcgommabEnvOf
import Derived.Deep.Upon
namespace Go.Proofs.Ytkcfghbkcgommab.env
open Go.ChangeShapes Go.WideShapes Go.ChangeAt Go.RowKit Go.Joins
open Go.Proofs.Ytkcfghbkcgommab.core Go.Proofs.Ytkcfghbkcgommab.rown Go.Proofs.Ytkcfghbkcgommab.stk Go.Proofs.Ytkcfghbkcgommab.boxed Go.Proofs.Ytkcfghbkcgommab.ft Go.Proofs.Ytkcfghbkcgommab.seq
set_option linter.unusedVariables false
set_option linter.unusedSimpArgs false
/-- The indices rise, and so do their keys. -/
def Ris (y : Nat → Int) (Q : List Nat) : Prop := Q.Pairwise fun a b => a < b ∧ y a ≤ y b
/-- The waiting indices before index e, for a window from lo on. -/
structure Wq (y : Nat → Int) (lo : Int) (e : Nat) (Q : List Nat) : Prop where
  ris : Ris y Q
  lt : ∀ q ∈ Q, q < e
  cov : ∀ j : Nat, lo ≤ (j : Int) → j < e → ∃ q ∈ Q, j ≤ q ∧ y q ≤ y j
/-- While index e enters. -/
structure Wm (y : Nat → Int) (lo : Int) (e : Nat) (Q : List Nat) : Prop where
  ris : Ris y Q
  lt : ∀ q ∈ Q, q < e
  cov : ∀ j : Nat, lo ≤ (j : Int) → j < e → (∃ q ∈ Q, j ≤ q ∧ y q ≤ y j) ∨ y e ≤ y j
theorem wq0 (y : Nat → Int) (lo : Int) : Wq y lo 0 [] := ⟨List.Pairwise.nil, fun q h => (by cases h), fun j _ h => absurd h (by omega)⟩
theorem Wq.mid {y : Nat → Int} {lo : Int} {e : Nat} {Q : List Nat} (h : Wq y lo e Q) : Wm y lo e Q := ⟨h.ris, h.lt, fun j h1 h2 => .inl (h.cov j h1 h2)⟩
theorem Wq.later {y : Nat → Int} {lo lo' : Int} {e : Nat} {Q : List Nat} (h : Wq y lo e Q) (hl : lo ≤ lo') : Wq y lo' e Q := ⟨h.ris, h.lt, fun j h1 h2 => h.cov j (by omega) h2⟩
theorem Wm.pop {y : Nat → Int} {lo : Int} {e l : Nat} {Q : List Nat} (h : Wm y lo e (Q ++ [l])) (hl : y e < y l) : Wm y lo e Q := by
  refine ⟨(List.pairwise_append.1 h.ris).1, fun q hq => h.lt q (List.mem_append_left _ hq), fun j h1 h2 => ?_⟩
  rcases h.cov j h1 h2 with ⟨q, hq, h3, h4⟩ | h3
  · rcases List.mem_append.1 hq with hq | hq
    · exact .inl ⟨q, hq, h3, h4⟩
    · obtain rfl : q = l := by simpa using hq
      exact .inr (by omega)
  · exact .inr h3
theorem Wm.push {y : Nat → Int} {lo : Int} {e : Nat} {Q : List Nat} (h : Wm y lo e Q) (hl : ∀ Q' l, Q = Q' ++ [l] → y l ≤ y e) : Wq y lo (e + 1) (Q ++ [e]) := by
  have hall : ∀ q ∈ Q, y q ≤ y e := fun q hq => by
    rcases List.eq_nil_or_concat Q with rfl | ⟨Q', l, rfl⟩
    · cases hq
    · have hle := hl Q' l (by simp)
      have hr := h.ris
      simp only [List.concat_eq_append] at hq hr
      rcases List.mem_append.1 hq with h1 | h1
      · have := ((List.pairwise_append.1 hr).2.2 q h1 l (by simp)).2
        omega
      · obtain rfl : q = l := by simpa using h1
        exact hle
  refine ⟨List.pairwise_append.2 ⟨h.ris, List.pairwise_singleton _ _, fun a ha b hb => ?_⟩, fun q hq => ?_, fun j h1 h2 => ?_⟩
  · obtain rfl : b = e := by simpa using hb
    exact ⟨h.lt a ha, hall a ha⟩
  · rcases List.mem_append.1 hq with h1 | h1
    · have := h.lt q h1; omega
    · obtain rfl : q = e := by simpa using h1
      omega
  · by_cases e' : j = e
    · subst e'; exact ⟨j, by simp, Nat.le_refl _, Int.le_refl _⟩
    · rcases h.cov j h1 (by omega) with ⟨q, hq, h3, h4⟩ | h3
      · exact ⟨q, List.mem_append_left _ hq, h3, h4⟩
      · exact ⟨e, by simp, by omega, h3⟩
theorem Wq.drop {y : Nat → Int} {lo : Int} {e q0 : Nat} {Q : List Nat} (h : Wq y lo e (q0 :: Q)) (hl : (q0 : Int) < lo) : Wq y lo e Q := by
  refine ⟨(List.pairwise_cons.1 h.ris).2, fun q hq => h.lt q (List.mem_cons_of_mem _ hq), fun j h1 h2 => ?_⟩
  obtain ⟨q, hq, h3, h4⟩ := h.cov j h1 h2
  rcases List.mem_cons.1 hq with rfl | hq
  · omega
  · exact ⟨q, hq, h3, h4⟩
/-- There is a waiting index while the window has one. -/
theorem Wq.some {y : Nat → Int} {lo : Int} {e : Nat} {Q : List Nat} (h : Wq y lo e Q) (hne : ∃ j : Nat, lo ≤ (j : Int) ∧ j < e) : ∃ q0 Q', Q = q0 :: Q' := by
  obtain ⟨j, h1, h2⟩ := hne
  obtain ⟨q, hq, -⟩ := h.cov j h1 h2
  cases Q with
  | nil => cases hq
  | cons a Q => exact ⟨a, Q, rfl⟩
/-- One that is dropped has another behind it. -/
theorem Wq.more {y : Nat → Int} {lo : Int} {e q0 : Nat} {Q : List Nat} (h : Wq y lo e (q0 :: Q)) (hl : (q0 : Int) < lo) (hne : ∃ j : Nat, lo ≤ (j : Int) ∧ j < e) : 0 < Q.length := by
  obtain ⟨q1, Q', e'⟩ := (h.drop hl).some hne
  rw [e']; simp
/-- The first one is the least of the window. -/
theorem Wq.first {y : Nat → Int} {lo : Int} {e q0 : Nat} {Q : List Nat} (h : Wq y lo e (q0 :: Q)) (j : Nat) (h1 : lo ≤ (j : Int)) (h2 : j < e) : y q0 ≤ y j := by
  obtain ⟨q, hq, h3, h4⟩ := h.cov j h1 h2
  rcases List.mem_cons.1 hq with rfl | hq
  · exact h4
  · have := ((List.pairwise_cons.1 h.ris).1 q hq).2
    omega
theorem ris_len {y : Nat → Int} : ∀ (Q : List Nat) (a e : Nat), Ris y Q → (∀ q ∈ Q, a ≤ q ∧ q < e) → Q.length ≤ e - a
  | [], _, _, _, _ => Nat.zero_le _
  | b :: Q, a, e, hr, hl => by
    have h1 := ris_len Q (b + 1) e (List.pairwise_cons.1 hr).2 fun q hq => ⟨((List.pairwise_cons.1 hr).1 q hq).1, (hl q (List.mem_cons_of_mem _ hq)).2⟩
    have h2 := hl b (by simp)
    rw [List.length_cons]
    omega
theorem Wq.short {y : Nat → Int} {lo : Int} {e : Nat} {Q : List Nat} (h : Wq y lo e Q) : Q.length ≤ e := ris_len Q 0 e h.ris fun q hq => ⟨Nat.zero_le _, h.lt q hq⟩
end Go.Proofs.Ytkcfghbkcgommab.env

namespace Go.Proofs.Ytkcfghbkcgommab.env

open Go.ChangeShapes Go.WideShapes Go.ChangeAt Go.RowKit Go.Joins

open Go.Proofs.Ytkcfghbkcgommab.core Go.Proofs.Ytkcfghbkcgommab.rown Go.Proofs.Ytkcfghbkcgommab.stk Go.Proofs.Ytkcfghbkcgommab.boxed Go.Proofs.Ytkcfghbkcgommab.ft Go.Proofs.Ytkcfghbkcgommab.seq
set_option linter.unusedVariables false
set_option linter.unusedSimpArgs false
/-- The list Q lies at A, in a block from base on. -/
def OffRow (w : World) (base : Nat) (A : Option Addr) (c : Nat) (Q : List Nat) : Prop :=
  (A = none ∧ c = 0 ∧ Q = []) ∨ ∃ (g o : Nat) (cur : Array Value), A = some ⟨g, o, none⟩ ∧ base ≤ g ∧ w.heap[g]? = some (.cells cur 3 (0, 0)) ∧ o + c ≤ cur.size ∧ Q.length ≤ c ∧ c ≤ maxLen ∧ ∀ (j q : Nat), Q[j]? = some q → cur[o + j]? = some (.int .i64 (q : Int))
theorem off0 (w : World) (base : Nat) : OffRow w base none 0 [] := .inl ⟨rfl, rfl, rfl⟩
section

variable {w w' : World} {base : Nat} {A : Option Addr} {c : Nat} {Q : List Nat}
theorem OffRow.frame (h : OffRow w base A c Q) (hb : ∀ g o, A = some ⟨g, o, none⟩ → g < w.heap.size → w'.heap[g]? = w.heap[g]?) : OffRow w' base A c Q := by
  rcases h with h | ⟨g, o, cur, e, h1, h2, h3⟩
  · exact .inl h
  · exact .inr ⟨g, o, cur, e, h1, (hb g o e (Array.getElem?_eq_some_iff.1 h2).1).trans h2, h3⟩
theorem OffRow.kept (h : OffRow w base A c Q) (hb : Below w.heap.size w w') : OffRow w' base A c Q := h.frame fun g o _ hl => hb.block g hl
theorem OffRow.lt (h : OffRow w base A c Q) {g o : Nat} (e : A = some ⟨g, o, none⟩) : base ≤ g ∧ g < w.heap.size := by
  rcases h with ⟨h, -⟩ | ⟨g', o', cur, e', h1, h2, -⟩
  · rw [h] at e; cases e
  · rw [e'] at e; cases e; exact ⟨h1, (Array.getElem?_eq_some_iff.1 h2).1⟩
theorem OffRow.pop {l : Nat} (h : OffRow w base A c (Q ++ [l])) : OffRow w base A c Q := by
  rcases h with ⟨_, _, h⟩ | ⟨g, o, cur, e, h1, h2, h3, h4, h5, h6⟩
  · simp at h
  · refine .inr ⟨g, o, cur, e, h1, h2, h3, by rw [List.length_append] at h4; omega, h5, fun j q hq => h6 j q ?_⟩
    rw [List.getElem?_append_left (Array.getElem?_eq_some_iff.1 (by simpa using hq) |>.1)]
    exact hq
theorem OffRow.drop {g o q0 : Nat} (h : OffRow w base (some ⟨g, o, none⟩) c (q0 :: Q)) : OffRow w base (some ⟨g, o + 1, none⟩) (c - 1) Q := by
  rcases h with ⟨h, -⟩ | ⟨g', o', cur, e, h1, h2, h3, h4, h5, h6⟩
  · cases h
  · cases e
    refine .inr ⟨g, o + 1, cur, rfl, h1, h2, ?_, ?_, by omega, fun j q hq => ?_⟩
    · simp at h4; omega
    · simp at h4; omega
    · have := h6 (j + 1) q (by simpa using hq)
      rw [show o + 1 + j = o + (j + 1) by omega]; exact this
theorem OffRow.some (h : OffRow w base A c Q) (hQ : 0 < Q.length) : ∃ g o, A = some ⟨g, o, none⟩ ∧ base ≤ g ∧ g < w.heap.size ∧ Q.length ≤ c ∧ c ≤ maxLen ∧ ∀ (j q : Nat), Q[j]? = Option.some q → w.cell? ⟨g, o + j, none⟩ = Option.some (.int .i64 (q : Int)) := by
  rcases h with ⟨_, _, h⟩ | ⟨g, o, cur, e, h1, h2, h3, h4, h5, h6⟩
  · subst h; cases hQ
  · exact ⟨g, o, e, h1, (Array.getElem?_eq_some_iff.1 h2).1, h4, h5, fun j q hq => by rw [cell_of_block h2]; exact h6 j q hq⟩
end
/-- The numbers of the list as values. -/
def nvs (Q : List Nat) : List Value := Q.map fun (q : Nat) => Value.int .i64 (q : Int)
theorem infoI : (Try.prog.info? 3).map (fun i => (i.zero, i.size, i.bytes)) = some (some (.int .i64 0), 1, 8) := by kernel_rfl
/-- One number is appended. -/
theorem run_append_off {w : World} {base : Nat} {A : Option Addr} {c : Nat} {Q : List Nat} (h : OffRow w base A c Q) (ty : TypeId) (n x nb : Nat) (hn : n = Q.length) (hx : w.cell? ⟨nb, 0, none⟩ = some (.int .i64 (x : Int))) (hlen : Q.length + 1 ≤ 1048576) (hbase : base ≤ w.heap.size) :
    ∃ g o c' w', (Builtin.append_ #[97, 97] ty #[.slice A n c, .slice (some ⟨nb, 0, none⟩) 1 1]).run Try.prog w = .ok (.slice (some ⟨g, o, none⟩) (n + 1) c') w' ∧ OffRow w' base (some ⟨g, o, none⟩) c' (Q ++ [x]) ∧ Below base w w' ∧
      (∀ k, k < w.heap.size → (∀ o', A ≠ some ⟨k, o', none⟩) → w'.heap[k]? = w.heap[k]?) ∧ (g = w.heap.size ∨ ∃ o', A = some ⟨g, o', none⟩) := by
  subst hn
  obtain ⟨i0, hi0, hz0, hz1, hz2⟩ := rown.info_get infoI
  have hs : Src Try.prog i0.size 97 (.slice (some ⟨nb, 0, none⟩) 1 1) 1 [.int .i64 (x : Int)] w := by
    rw [hz1]
    exact Src.ofSlice w Try.underlying97 ⟨nb, 0, none⟩ 1 1 [.int .i64 (x : Int)] rfl (fun j u hu => by
      cases j with
      | zero => rw [rown.add_at]; simp at hu; rw [← hu]; exact hx
      | succ j => simp at hu) (by simp [Value.oneCell'])
  have grow : ∀ (olds : List Value), (Builtin.firstCells i0.size Q.length (.slice A Q.length c)).run Try.prog w.drew = .ok olds.toArray w.drew → c < Q.length + 1 → olds = nvs Q →
      ∃ g o c' w', (Builtin.append_ #[97, 97] ty #[.slice A Q.length c, .slice (some ⟨nb, 0, none⟩) 1 1]).run Try.prog w = .ok (.slice (some ⟨g, o, none⟩) (Q.length + 1) c') w' ∧ OffRow w' base (some ⟨g, o, none⟩) c' (Q ++ [x]) ∧ Below base w w' ∧
      (∀ k, k < w.heap.size → (∀ o', A ≠ some ⟨k, o', none⟩) → w'.heap[k]? = w.heap[k]?) ∧ (g = w.heap.size ∨ ∃ o', A = some ⟨g, o', none⟩) := by
    intro olds hold hc ho
    have hrun := run_append_grow_src (P := Try.prog) w 97 97 ty 3 i0 _ Try.underlying97 hi0 hz0 A Q.length c olds hold _ 1 _ hs hc (by omega) (growslice_fits hc (by rw [hz2]; omega))
    have hge := grownCap_ge w (Q.length + 1) c 3
    have hle := grownCap_le_maxLen w (Q.length + 1) c 3 (by simp only [maxLen]; omega)
    refine ⟨_, 0, _, _, hrun, .inr ⟨_, 0, _, rfl, hbase, heap_alloc_new w.drew _, ?_, ?_, hle, ?_⟩, ?_, ?_, .inl rfl⟩
    · subst ho
      simp only [Array.size_append, List.size_toArray, List.length_append, List.length_cons, List.length_nil, size_zeroCells, nvs, List.length_map, Value.cells]
      have : (#[Value.int .i64 0] : Array Value).size = 1 := rfl
      omega
    · simp; omega
    · intro j q hq
      subst ho
      have hj : j < Q.length + 1 := by have := (List.getElem?_eq_some_iff.1 hq).1; simpa using this
      rw [Nat.zero_add, Array.getElem?_append_left (by simp [nvs]; omega), List.getElem?_toArray]
      have e : nvs Q ++ [Value.int .i64 (x : Int)] = nvs (Q ++ [x]) := by simp [nvs]
      rw [e]
      unfold nvs
      rw [List.getElem?_map, hq]
      rfl
    · have hb := ((Below.refl base w).drew).alloc (by simpa using hbase) (.cells ((olds ++ [Value.int .i64 (x : Int)]).toArray ++ Builtin.zeroCells (Value.int .i64 0).cells (grownCap w (Q.length + 1) c 3 - (Q.length + 1))) 3)
      exact hb
    · intro k hk _
      exact Below.heap_alloc w.drew _ k hk
  rcases h with ⟨rfl, rfl, rfl⟩ | ⟨g, o, cur, rfl, h1, h2, h3, h4, h5, h6⟩
  · exact grow [] (by rw [hz1]; exact run_firstCells_none w.drew 1 0 0 0) (by simp) rfl
  · have hlt := (Array.getElem?_eq_some_iff.1 h2).1
    by_cases hroom : Q.length + 1 ≤ c
    · have hrun := run_append_room_src (P := Try.prog) w 97 97 ty 3 i0 Try.underlying97 hi0 g o Q.length c _ 1 _ hs hroom
        (fun j hj => by
          have hj : j < 1 := by simpa using hj
          rw [hz1, cell_of_block h2, Array.getElem?_eq_getElem (by omega)]; rfl)
        (fun j hj => unfrozen_of_block h2 _)
      rw [hz1] at hrun
      simp only [World.setCells, Nat.mul_one] at hrun
      have hcell : (w.setCell ⟨g, o + Q.length, none⟩ (.int .i64 (x : Int))).heap[g]? = some (.cells (cur.setIfInBounds (o + Q.length) (.int .i64 (x : Int))) 3 (0, 0)) := block_setCell h2 _
      refine ⟨g, o, c, _, hrun, .inr ⟨g, o, _, rfl, h1, hcell, by simpa using h3, by simp; omega, h5, fun j q hq => ?_⟩, ?_, ?_, .inr ⟨o, rfl⟩⟩
      · have hj : j < Q.length + 1 := by have := (List.getElem?_eq_some_iff.1 hq).1; simpa using this
        by_cases e : j = Q.length
        · subst e
          rw [Array.getElem?_setIfInBounds_self_of_lt (by omega)]
          simp at hq
          rw [hq]
        · rw [Array.getElem?_setIfInBounds_ne (by omega)]
          refine h6 j q ?_
          rw [List.getElem?_append_left (by omega)] at hq
          exact hq
      · exact (Below.refl base w).setCell (p := ⟨g, o + Q.length, none⟩) h1 _
      · intro k hk hne
        exact Below.heap_setCell _ _ _ _ (by intro e; exact hne o (by simp at e; rw [e]))
    · refine grow (nvs Q) ?_ (by omega) rfl
      refine run_firstCells_some w.drew i0.size Q.length ⟨g, o, none⟩ Q.length c (nvs Q) (by rw [hz1]; simp [nvs]) (fun j u hu => ?_)
      unfold nvs at hu
      rw [List.getElem?_map] at hu
      obtain ⟨q, hq, rfl⟩ := Option.map_eq_some_iff.1 hu
      have hadd : (⟨g, o, none⟩ : Addr).add j = ⟨g, o + j, none⟩ := by unfold Addr.add; split <;> simp_all
      rw [hadd]
      show w.cell? ⟨g, o + j, none⟩ = _
      rw [cell_of_block h2]
      exact h6 j q hq
/-- For the walk. -/
theorem wpList_append_off {w : World} {ops : Array Oper} {rest : List Oper} {op : Oper} {a : Act} {R : Exit → Act → World → Prop} (hgd : op.guard = none) (s y : Operand)
    (ho : op.op = .call { callee := .builtin .append, args := #[s, y], argTypes := #[97, 97] }) {base : Nat} {A : Option Addr} {c : Nat} {Q : List Nat} (h : OffRow w base A c Q) (n x nb : Nat) (hn : n = Q.length)
    (hs : a.eval s = .slice A n c) (hy : a.eval y = .slice (some ⟨nb, 0, none⟩) 1 1) (hx : w.cell? ⟨nb, 0, none⟩ = some (.int .i64 (x : Int))) (hlen : Q.length + 1 ≤ 1048576) (hbase : base ≤ w.heap.size)
    (hK : ∀ g o c' w', OffRow w' base (some ⟨g, o, none⟩) c' (Q ++ [x]) → Below base w w' → (∀ k, k < w.heap.size → (∀ o', A ≠ some ⟨k, o', none⟩) → w'.heap[k]? = w.heap[k]?) → (g = w.heap.size ∨ ∃ o', A = some ⟨g, o', none⟩) → wpList Try.prog ops R rest (a.put op.dst (.slice (some ⟨g, o, none⟩) (n + 1) c')) w') : wpList Try.prog ops R (op :: rest) a w := by
  refine wpList_plain hgd fun K hK' => ?_
  obtain ⟨g, o, c', w', hrun, q1, q2, q3, q4⟩ := run_append_off h op.type n x nb hn hx hlen hbase
  unfold Oper.wp
  simp [execOp, ho, resolve, invoke, builtin, hs, hy, hrun, Result.andThen]
  exact hK' _ _ (hK g o c' w' q1 q2 q3 q4)
end Go.Proofs.Ytkcfghbkcgommab.env

namespace Go.Proofs.Ytkcfghbkcgommab.env

open Go.ChangeShapes Go.WideShapes Go.ChangeAt Go.RowKit Go.Joins

open Go.Proofs.Ytkcfghbkcgommab.core Go.Proofs.Ytkcfghbkcgommab.rown Go.Proofs.Ytkcfghbkcgommab.stk Go.Proofs.Ytkcfghbkcgommab.boxed Go.Proofs.Ytkcfghbkcgommab.ft Go.Proofs.Ytkcfghbkcgommab.seq Go.Proofs.Ytkcfghbkcgommab.tab
set_option linter.unusedVariables false
set_option linter.unusedSimpArgs false
theorem nanI (x : Int) (w : World) : Calls Try.prog 48 #[.int .i64 x] w fun e w' => e = .returned (.bool false) ∧ w = w' := by
  go_enter Try.func48, Try.ntmps48
  go_wp2
  go_ret
  exact ⟨by simp, rfl⟩
theorem lessI (x y : Int) (w : World) : Calls Try.prog 53 #[.int .i64 x, .int .i64 y] w fun e w' => e = .returned (.bool (decide (x < y))) ∧ w = w' := by
  have H := Lib.hid (fun W => nanI x W)
  go_enter Try.func53, Try.ntmps53
  go_wp2_with fail
  with_reducible refine (H.out _).mono ?_
  rintro e _ ⟨rfl, rfl⟩
  go_wp2
  go_ret
  exact ⟨rfl, rfl⟩
theorem moreI (x y : Int) (w : World) : Calls Try.prog 54 #[.int .i64 x, .int .i64 y] w fun e w' => e = .returned (.bool (decide (y < x))) ∧ w = w' := by
  go_enter Try.func54, Try.ntmps54
  go_wp2
  go_ret
  exact ⟨rfl, rfl⟩
theorem makeN0 (n : Nat) (hn : n ≤ 1048576) (w : World) : ∃ cur : Array Value, (Instr.makeSlice 32 (.int .i64 0) (.int .i64 (n : Int))).run Try.prog w = .ok (.slice (some ⟨w.heap.size, 0, none⟩) 0 n) (w.alloc (.cells cur 2)) ∧
    (w.alloc (.cells cur 2)).ownsRow w.heap.size 2 1 (.slice (some ⟨w.heap.size, 0, none⟩) 0 n) 0 [] := by
  obtain ⟨i0, hi, hz0, hz1, hz2⟩ := rown.info_get infoN
  have hr := run_make (P := Try.prog) w 32 2 i0 _ Try.underlying32 hi hz0 .i64 .i64 0 n (by omega) (by omega) (by rw [hz2]; omega) (by omega)
  simp only [Int.toNat_natCast] at hr
  refine ⟨_, hr, ⟨by simp, .inr ⟨w.heap.size, n, _, rfl, Nat.le_refl _, heap_alloc_new _ _, Nat.zero_le _, by simp only [maxLen]; omega, ?_, by simp⟩⟩⟩
  rw [hz1]
  simp [madeCells]
/-- The state: the numbers found, and those that wait. -/
structure Fst (w0 w : World) (i : Nat) (F : Nat → Int) (gF cF : Nat) (A : Option Addr) (c : Nat) (Q : List Nat) : Prop where
  own : w.ownsRow w0.heap.size 2 1 (.slice (some ⟨gF, 0, none⟩) i cF) i (rws (one F) i)
  off : OffRow w w0.heap.size A c Q
  apart : ∀ g o, A = some ⟨g, o, none⟩ → g ≠ gF
  bel : Below w0.heap.size w0 w
section

variable {w0 w w' : World} {i : Nat} {F : Nat → Int} {gF cF : Nat} {A : Option Addr} {c : Nat} {Q : List Nat}
theorem Fst.ltF (h : Fst w0 w i F gF cF A c Q) : gF < w.heap.size := rown.row_lt h.own
theorem Fst.kept (h : Fst w0 w i F gF cF A c Q) (hb : Below w.heap.size w w') : Fst w0 w' i F gF cF A c Q := ⟨rown.ownsRow_kept h.own hb, h.off.kept hb, h.apart, h.bel.trans (hb.mono h.bel.size)⟩
theorem Fst.pop {l : Nat} (h : Fst w0 w i F gF cF A c (Q ++ [l])) : Fst w0 w i F gF cF A c Q := ⟨h.own, h.off.pop, h.apart, h.bel⟩
theorem Fst.drop {g o q0 : Nat} (h : Fst w0 w i F gF cF (some ⟨g, o, none⟩) c (q0 :: Q)) : Fst w0 w i F gF cF (some ⟨g, o + 1, none⟩) (c - 1) Q :=
  ⟨h.own, h.off.drop, fun g' o' e => by cases e; exact h.apart g o rfl, h.bel⟩
theorem Fst.push (h : Fst w0 w i F gF cF A c Q) {o1 : Obj} {x g o c' : Nat} (h1 : OffRow w' w0.heap.size (some ⟨g, o, none⟩) c' (Q ++ [x])) (h2 : Below w0.heap.size (w.alloc o1) w') (h3 : ∀ k, k < (w.alloc o1).heap.size → (∀ o', A ≠ some ⟨k, o', none⟩) → w'.heap[k]? = (w.alloc o1).heap[k]?) (h4 : g = (w.alloc o1).heap.size ∨ ∃ o', A = some ⟨g, o', none⟩) : Fst w0 w' i F gF cF (some ⟨g, o, none⟩) c' (Q ++ [x]) := by
  have hF := h.ltF
  have hz : (w.alloc o1).heap.size = w.heap.size + 1 := by simp
  refine ⟨ownsRow_same h.own fun b hb => ?_, h1, fun g' o' e => ?_, (h.bel.trans ((below_alloc1 w o1).mono h.bel.size)).trans h2⟩
  · have : b = gF := by simpa [Value.ownBlock] using hb.symm
    subst this
    rw [h3 b (by omega) (fun o' e => h.apart b o' e rfl), Below.heap_alloc _ _ _ hF]
  · cases e
    rcases h4 with h4 | ⟨o2, h4⟩
    · omega
    · exact h.apart g o2 h4
theorem Fst.out (h : Fst w0 w i F gF cF A c Q) {o1 : Obj} {g c' : Nat} {v : Int} (hv : F i = v) (hown : w'.ownsRow w0.heap.size 2 1 (.slice (some ⟨g, 0, none⟩) (i + 1) c') (i + 1) (rws (one F) i ++ [.int .i64 v])) (hgr : (w.alloc o1).grownBy w' (some gF)) (hat : some gF = some g ∨ g = w.heap.size + 1) : Fst w0 w' (i + 1) F g c' A c Q := by
  have hF := h.ltF
  have hu := rown.under (base := w0.heap.size) h.own h.bel.size hgr
  refine ⟨by rw [rws_succ]; unfold one; rw [hv]; exact hown, h.off.frame fun b o e hl => ?_, fun b o e => ?_, h.bel.trans hu⟩
  · rw [hgr.block b (by simp; omega) (fun e2 => h.apart b o e (by simpa using e2)), Below.heap_alloc _ _ _ hl]
  · rcases hat with e2 | e2
    · cases e2; exact h.apart b o e
    · have := (h.off.lt e).2; omega
end
def lenV : Value → Nat
  | .slice _ n _ => n
  | _ => 0
set_option maxRecDepth 100000 in
set_option maxHeartbeats 16000000 in
theorem firstL {cN : Nat} (AX : Option Addr) (N : Nat) (X y : Nat → Int) (n band : Nat) (F : Nat → Int) (w : World) (hN : N ≤ 72) (hn : n ≤ 72) (hb : band ≤ 72) (hy : ∀ a b, y a < y b ↔ X a < X b) (hne : ∀ i, i < n → ∃ j : Nat, (i : Int) - (band : Int) ≤ (j : Int) ∧ j ≤ i + band ∧ j < N)
    (hF : ∀ i, i < n → ∀ q : Nat, (i : Int) - (band : Int) ≤ (q : Int) → q ≤ i + band → q < N → (∀ j : Nat, (i : Int) - (band : Int) ≤ (j : Int) → j ≤ i + band → j < N → y q ≤ y j) → X q = F i) (hp : NumAt w AX N X) :
    Calls Try.prog 52 #[.slice AX N cN, .int .i64 (n : Int), .int .i64 (band : Int), .func (.func 53) #[] #[]] w fun e w' => ∃ g c, e = .returned (.slice (some ⟨g, 0, none⟩) n c) ∧ w'.ownsRow w.heap.size 2 1 (.slice (some ⟨g, 0, none⟩) n c) n (rws (one F) n) ∧ Below w.heap.size w w' := by
  obtain ⟨i0, hi0, hz0, hz1, hz2⟩ := rown.info_get infoN
  have HP := Lib.hid hp
  have HF := Lib.hid hF
  have HNEA := Lib.hid hne
  have HYY := Lib.hid hy
  obtain ⟨cur, hmk, hrow⟩ := makeN0 n (by omega) w
  have HST := Lib.hid (show Fst w (w.alloc (.cells cur 2)) 0 F w.heap.size n none 0 [] from ⟨hrow, off0 _ _, fun g o e => (by cases e), below_alloc1 _ _⟩)
  have hmx : Try.prog.follows .mixedOrders = true := by kernel_rfl
  clear hp hF hne hy hrow
  go_enter Try.func52, Try.ntmps52
  go_wp2
  clear hmk
  go_loopw [9, 10, 11, 16] (fun fv wv ev iv w' => ∃ (i e gF cF c m : Nat) (A : Option Addr) (Q : List Nat), i ≤ n ∧ e ≤ N ∧ iv = .int .i64 (i : Int) ∧ ev = .int .i64 (e : Int) ∧ fv = .slice (some ⟨gF, 0, none⟩) i cF ∧ wv = .slice A m c ∧ Hid (m = Q.length ∧ e ≤ i + band ∧ Wq y ((i : Int) - (band : Int)) e Q) ∧ Hid (Fst w w' i F gF cF A c Q)) (fun _ _ _ iv _ => n - (intOf iv).toNat)
  case atStart => exact ⟨0, 0, w.heap.size, n, 0, 0, none, [], Nat.zero_le _, Nat.zero_le _, rfl, rfl, rfl, rfl, Lib.hid ⟨rfl, by omega, wq0 _ _⟩, HST⟩
  case round =>
    clear HST
    obtain ⟨i, e, gF, cF, c, m, A, Q, hi, heN, rfl, rfl, rfl, rfl, HQ, HS⟩ := hrel
    by_cases hlt : i < n
    rotate_left
    · have hin := Lib.hid (show i = n by omega)
      have hli : ¬ (i : Int) < (n : Int) := by omega
      have HFIN := Lib.hid (show wr.ownsRow w.heap.size 2 1 (.slice (some ⟨gF, 0, none⟩) n cF) n (rws (one F) n) by have := HS.out.own; rw [hin.out] at this; exact this)
      clear hlt
      go_wp2
      go_ret
      exact ⟨gF, cF, by rw [hin.out]; rfl, HFIN.out, HS.out.bel⟩
    have hli : (i : Int) < (n : Int) := by omega
    obtain ⟨lo, hlo⟩ : ∃ v, (i : Int) - (band : Int) = v := ⟨_, rfl⟩
    obtain ⟨to, hto⟩ : ∃ v, (i : Int) + (band : Int) = v := ⟨_, rfl⟩
    have E1 : IntKind.i64.wrap ((i : Int) - (band : Int)) = lo := by rw [hlo]; exact IntWalk.i64_in _ (by omega)
    have E2 : IntKind.i64.wrap ((i : Int) + (band : Int)) = to := by rw [hto]; exact IntWalk.i64_in _ (by omega)
    have HLO := Lib.hid hlo
    have HTO := Lib.hid hto
    clear hlo hto
    have F1 : wrap64 ((i : Int) - (band : Int)) = lo := by rw [← IntWalk.i64_left]; exact E1
    have F2 : wrap64 ((i : Int) + (band : Int)) = to := by rw [← IntWalk.i64_left]; exact E2
    have HWR := Lib.hid (show (IntKind.i64.wrap ((i : Int) - (band : Int)) = lo ∧ wrap64 ((i : Int) - (band : Int)) = lo) ∧ IntKind.i64.wrap ((i : Int) + (band : Int)) = to ∧ wrap64 ((i : Int) + (band : Int)) = to from ⟨⟨E1, F1⟩, E2, F2⟩)
    clear E1 E2 F1 F2
    have HQ2 := Lib.hid (show m = Q.length ∧ e ≤ i + band + 1 ∧ Wq y ((i : Int) - (band : Int)) e Q from ⟨HQ.out.1, by have := HQ.out.2.1; omega, HQ.out.2.2⟩)
    go_wp2
    go_loopw [10, 11] (fun wv ev w' => ∃ (e c m : Nat) (A : Option Addr) (Q : List Nat), e ≤ N ∧ ev = .int .i64 (e : Int) ∧ wv = .slice A m c ∧ Hid (m = Q.length ∧ e ≤ i + band + 1 ∧ Wq y ((i : Int) - (band : Int)) e Q) ∧ Hid (Fst w w' i F gF cF A c Q)) (fun _ ev _ => N - (intOf ev).toNat)
    case atStart => exact ⟨e, c, m, A, Q, heN, rfl, rfl, HQ2, HS⟩
    case round =>
      clear HQ HS HQ2 heN
      obtain ⟨e, c, m, A, Q, heN, rfl, rfl, HQ2, HS2⟩ := hrel
      have hei : e ≤ i + band + 1 := HQ2.out.2.1
      by_cases hc1 : (e : Int) ≤ to
      · have hc1d : decide ((e : Int) ≤ to) = true := decide_eq_true hc1
        by_cases hc2 : (e : Int) < (N : Int)
        · have hc2d : decide ((e : Int) < (N : Int)) = true := decide_eq_true hc2
          have HQ3 := Lib.hid (show m = Q.length ∧ Wm y ((i : Int) - (band : Int)) e Q ∧ Q.length ≤ e from ⟨HQ2.out.1, HQ2.out.2.2.mid, HQ2.out.2.2.short⟩)
          have heN2 : e < N := by omega
          have heto := HTO.out
          have hei2 : e ≤ i + band := by omega
          clear heto
          obtain ⟨-, E2, F2⟩ := HWR.out
          go_wp2
          clear E2 F2
          go_loopw [10] (fun wv w' => ∃ (c m : Nat) (A : Option Addr) (Q : List Nat), wv = .slice A m c ∧ Hid (m = Q.length ∧ Wm y ((i : Int) - (band : Int)) e Q ∧ Q.length ≤ e) ∧ Hid (Fst w w' i F gF cF A c Q)) (fun wv _ => lenV wv)
          case atStart => exact ⟨c, m, A, Q, rfl, HQ3, HS2⟩
          case round =>
            clear HQ2 HS2 HQ3
            obtain ⟨c, m, A, Q, rfl, HQ3, HS3⟩ := hrel
            obtain ⟨wq, hwq⟩ : ∃ v, v = wr := ⟨_, rfl⟩
            rcases List.eq_nil_or_concat Q with hQ | ⟨Q', l, hQ⟩
            · have hm0 : m = 0 := by have := HQ3.out.1; rw [hQ] at this; simpa using this
              have HP3 := Lib.hid (show m + 1 = (Q ++ [e]).length ∧ e + 1 ≤ i + band + 1 ∧ Wq y ((i : Int) - (band : Int)) (e + 1) (Q ++ [e]) from ⟨by simp [HQ3.out.1], by omega, HQ3.out.2.1.push (fun Q2 l2 h => by rw [hQ] at h; simp at h)⟩)
              have hd : decide ((0 : Int) < (m : Int)) = false := decide_eq_false (by omega)
              have hdn : ¬ (0 : Int) < (m : Int) := by omega
              have hd3 : decide (0 < m) = false := decide_eq_false (by omega)
              clear hQ hm0
              go_wp2
              refine wp_region_quiet_kept (by assumption) (by kernel_rfl) ?_
              repeat (first | go_big_quiet_step (fail) | quiet_step (fail))
              refine wpQuiet_nil ?_
              intro w5 hw'
              have hB : Below wr.heap.size wr w5 := by obtain ⟨⟨wk, hb0⟩, hw''⟩ := hw'; rw [hw'']; exact hb0
              have HS6 := Lib.hid (HS3.out.kept hB)
              clear hw' hB HS3
              have HS3 := HS6
              clear HS6 hwq wq
              obtain ⟨wq, hwq⟩ : ∃ v, v = w5 := ⟨_, rfl⟩
              rw [← hwq] at HS3 ⊢
              clear hwq
              have e1 : e + 1 ≤ N := by omega
              have hms : N - (e + 1) < N - e := by omega
              go_wp2_with (at_builtin
                           refine wpList_append_off rfl _ _ rfl (HS3.out.off.kept (below_alloc1 wq (.cells #[.int .i64 (e : Int)] 3))) m e wq.heap.size HQ3.out.1 rfl rfl (by simp) (by have := HQ3.out.2.2; omega) (Nat.le_trans HS3.out.bel.size (by simp)) ?_
                           intro pg po pc pw q1 q2 q3 q4
                           have HS4 := Lib.hid (HS3.out.push q1 q2 q3 q4)
                           clear q1 q2 q3 q4)
              go_wp2
              go_roundw
              case rel => exact ⟨e + 1, pc, m + 1, some ⟨pg, po, none⟩, Q ++ [e], e1, by go_num, rfl, HP3, HS4⟩
              case measure => simp [intOf]; omega
            · rw [List.concat_eq_append] at hQ
              obtain ⟨k, hk⟩ : ∃ k, k = Q'.length := ⟨_, rfl⟩
              have hmk : m = k + 1 := by have := HQ3.out.1; rw [hQ] at this; simp at this; omega
              have HK := Lib.hid hk
              have HQQ := Lib.hid hQ
              obtain ⟨g, o, hA, hg1, hg2, hg3, hg4, hcell⟩ := HS3.out.off.some (by rw [hQ]; simp)
              have xl := hcell k l (by rw [hQ, hk]; simp)
              have hkc : k + 1 ≤ c := by rw [hQ] at hg3; simp at hg3; omega
              have hle := HQ3.out.2.1.lt l (by rw [hQ]; simp)
              have hlN : l < N := by omega
              subst hmk
              subst hA
              obtain ⟨bx, ox, rfl, hbx, xe⟩ := (HP.out.kept HS3.out.bel) e heN2
              obtain ⟨bx2, ox2, eA2, -, xl2⟩ := (HP.out.kept HS3.out.bel) l hlN
              cases eA2
              have hli2 : (l : Int) < (N : Int) := by omega
              have hk1 : (k : Int) < (k : Int) + 1 := by omega
              have hk1n : k < k + 1 := by omega
              have hk2 : (0 : Int) ≤ (k : Int) := by omega
              have hk72 : k ≤ 72 := by have := HQ3.out.2.2; rw [hQ] at this; simp at this; omega
              have hkw : IntKind.i64.wrap (k : Int) = (k : Int) := IntWalk.i64_in _ (by omega)
              have hkw2 : IntKind.i64.wrap ((k : Int) + 1 - 1) = (k : Int) := by rw [show (k : Int) + 1 - 1 = (k : Int) by omega]; exact hkw
              have hd : decide ((0 : Int) < (k : Int) + 1) = true := decide_eq_true (by omega)
              have y0 := cell_kept (a := ⟨g, o + k, none⟩) hg2 xl
              have y1 := cell_kept (a := ⟨bx, ox + e, none⟩) hbx xe
              have y2 := cell_kept (a := ⟨bx, ox + l, none⟩) hbx xl2
              clear hQ hk xl xe xl2 hcell hg3 hg4 hle
              by_cases hbf : y e < y l
              · have HI := Lib.hid (fun W => lessI (X e) (X l) W)
                rw [decide_eq_true ((HYY.out e l).1 hbf)] at HI
                have HQ5 := Lib.hid (show k = Q'.length ∧ Wm y ((i : Int) - (band : Int)) e Q' ∧ Q'.length ≤ e from ⟨HK.out, Wm.pop (l := l) (by rw [← HQQ.out]; exact HQ3.out.2.1) hbf, by have := HQ3.out.2.2; rw [HQQ.out] at this; simp at this; omega⟩)
                have HS5 := Lib.hid (Fst.pop (l := l) (by rw [← HQQ.out]; exact HS3.out))
                have s2 : (k : Int) ≤ (c : Int) := by omega
                have s3 : ¬ (c : Int) < (k : Int) := by omega
                clear hbf
                generalize X e = xe at *
                generalize X l = xl at *
                go_wp2
                refine wp_region_quiet_kept (by assumption) (by kernel_rfl) ?_
                repeat (first | go_big_quiet_step ((go_at_call 53; with_reducible exact Calls.kept_of (still_b (HI.out _)))) | quiet_step ((go_at_call 53; with_reducible exact Calls.kept_of (still_b (HI.out _)))))
                refine wpQuiet_nil ?_
                intro w5 hw'
                have hB : Below wr.heap.size wr w5 := by obtain ⟨⟨wk, hb0⟩, hw''⟩ := hw'; rw [hw'']; exact hb0
                have HS6 := Lib.hid (HS5.out.kept hB)
                clear hw' hB y0 y1 y2 hg1 hg2 hbx
                go_wp2
                go_roundw
                case rel => exact ⟨c, k, some ⟨g, o, none⟩, Q', rfl, HQ5, HS6⟩
                case measure => simp [lenV]
              · have HI := Lib.hid (fun W => lessI (X e) (X l) W)
                rw [decide_eq_false (fun h => hbf ((HYY.out e l).2 h))] at HI
                have HP3 := Lib.hid (show k + 1 + 1 = (Q ++ [e]).length ∧ e + 1 ≤ i + band + 1 ∧ Wq y ((i : Int) - (band : Int)) (e + 1) (Q ++ [e]) from ⟨by simp [HQ3.out.1], by omega, HQ3.out.2.1.push (fun Q2 l2 h => by
                  rw [HQQ.out] at h
                  have := List.append_inj_right' h rfl
                  simp at this
                  subst this
                  omega)⟩)
                clear hbf
                generalize X e = xe at *
                generalize X l = xl at *
                go_wp2
                refine wp_region_quiet_kept (by assumption) (by kernel_rfl) ?_
                repeat (first | go_big_quiet_step ((go_at_call 53; with_reducible exact Calls.kept_of (still_b (HI.out _)))) | quiet_step ((go_at_call 53; with_reducible exact Calls.kept_of (still_b (HI.out _)))))
                refine wpQuiet_nil ?_
                intro w5 hw'
                have hB : Below wr.heap.size wr w5 := by obtain ⟨⟨wk, hb0⟩, hw''⟩ := hw'; rw [hw'']; exact hb0
                have HS6 := Lib.hid (HS3.out.kept hB)
                clear hw' hB y0 y1 y2 hg1 hg2 hbx HS3
                have HS3 := HS6
                clear HS6 hwq wq
                obtain ⟨wq, hwq⟩ : ∃ v, v = w5 := ⟨_, rfl⟩
                rw [← hwq] at HS3 ⊢
                clear hwq
                have e1 : e + 1 ≤ N := by omega
                have hms : N - (e + 1) < N - e := by omega
                go_wp2_with (at_builtin
                             refine wpList_append_off rfl _ _ rfl (HS3.out.off.kept (below_alloc1 wq (.cells #[.int .i64 (e : Int)] 3))) (k + 1) e wq.heap.size HQ3.out.1 rfl rfl (by simp) (by have := HQ3.out.2.2; omega) (Nat.le_trans HS3.out.bel.size (by simp)) ?_
                             intro pg po pc pw q1 q2 q3 q4
                             have HS4 := Lib.hid (HS3.out.push q1 q2 q3 q4)
                             clear q1 q2 q3 q4)
                go_wp2
                go_roundw
                case rel => exact ⟨e + 1, pc, (k + 1) + 1, some ⟨pg, po, none⟩, Q ++ [e], e1, by go_num, rfl, HP3, HS4⟩
                case measure => simp [intOf]; omega
        · have hc2d : decide ((e : Int) < (N : Int)) = false := decide_eq_false hc2
          have HNE := Lib.hid (show ∃ j : Nat, (i : Int) - (band : Int) ≤ (j : Int) ∧ j < e by obtain ⟨j, h1, h2, h3⟩ := HNEA.out i hlt; exact ⟨j, h1, by omega⟩)
          have HEE := Lib.hid (show ∀ j : Nat, j ≤ i + band → j < N → j < e from fun j _ h => by omega)
          have HWQ := Lib.hid (show m = Q.length ∧ Wq y ((i : Int) - (band : Int)) e Q from ⟨HQ2.out.1, HQ2.out.2.2⟩)
          obtain ⟨-, E2, F2⟩ := HWR.out
          go_wp2
          clear E2 F2 hc1 hc2
          go_loopw [10] (fun wv w' => ∃ (c m : Nat) (A : Option Addr) (Q : List Nat), wv = .slice A m c ∧ Hid (m = Q.length ∧ Wq y ((i : Int) - (band : Int)) e Q) ∧ Hid (Fst w w' i F gF cF A c Q)) (fun wv _ => lenV wv)
          case atStart => exact ⟨_, _, _, _, rfl, HWQ, HS2⟩
          case round =>
            obtain ⟨c, m, A, Q, rfl, HQ4, HS4⟩ := hrel
            obtain ⟨q0, Q', hQ⟩ := HQ4.out.2.some HNE.out
            subst hQ
            obtain ⟨k, hk⟩ : ∃ k, k = Q'.length := ⟨_, rfl⟩
            have hmk : m = k + 1 := by have := HQ4.out.1; simp at this; omega
            subst hmk
            obtain ⟨g, o, rfl, hg1, hg2, hg3, hg4, hcell⟩ := HS4.out.off.some (by simp)
            have x0 := hcell 0 q0 rfl
            rw [Nat.add_zero] at x0
            have hkc : k + 1 ≤ c := by simp at hg3; omega
            have hq0e := HQ4.out.2.lt q0 (by simp)
            have hq0N : q0 < N := by omega
            have hk0 : (0 : Int) < (k : Int) + 1 := by omega
            have hk0n : 0 < k + 1 := by omega
            have HK := Lib.hid hk
            clear hk hcell hg1 hg3 hg4
            by_cases hlo : (q0 : Int) < lo
            · have hlod : decide ((q0 : Int) < lo) = true := decide_eq_true hlo
              have hmore := HQ4.out.2.more (by rw [HLO.out]; exact hlo) HNE.out
              rw [← HK.out] at hmore
              have HQ5 := Lib.hid (show k = Q'.length ∧ Wq y ((i : Int) - (band : Int)) e Q' from ⟨HK.out, HQ4.out.2.drop (by rw [HLO.out]; exact hlo)⟩)
              have HS5 := Lib.hid HS4.out.drop
              have s1 : (1 : Int) ≤ (k : Int) + 1 := by omega
              have s2 : (k : Int) + 1 ≤ (c : Int) := by omega
              have s3 : ¬ (c : Int) < (k : Int) + 1 := by omega
              have s4 : ¬ (c : Int) = 1 := by omega
              have s5 : ¬ c = 1 := by omega
              have s6 : (1 : Int) ≤ (c : Int) := by omega
              have s7 : ¬ (k : Int) + 1 < 1 := by omega
              clear hmore hq0e hq0N
              obtain ⟨⟨E1, F1⟩, -⟩ := HWR.out
              go_wp2
              go_roundw
              case rel => exact ⟨_, _, _, _, rfl, HQ5, HS5⟩
              case measure => simp [lenV]
            · have hlod : decide ((q0 : Int) < lo) = false := decide_eq_false hlo
              have HV := Lib.hid (show F i = X q0 from (HF.out i hlt q0 (by rw [HLO.out]; omega) (by omega) hq0N (fun j h1 h2 h3 => HQ4.out.2.first j (by rw [HLO.out]; rw [HLO.out] at h1; exact h1) (HEE.out j h2 h3))).symm)
              obtain ⟨bx, ox, rfl, hbx, xq⟩ := (HP.out.kept HS4.out.bel) q0 hq0N
              have hq0i : (q0 : Int) < (N : Int) := by omega
              have hms2 : n - (i + 1) < n - i := by omega
              have hi1 : i + 1 ≤ n := by omega
              have HQ5 := Lib.hid (show k + 1 = (q0 :: Q').length ∧ e ≤ (i + 1) + band ∧ Wq y (((i + 1 : Nat) : Int) - (band : Int)) e (q0 :: Q') from ⟨HQ4.out.1, by omega, HQ4.out.2.later (by push_cast; omega)⟩)
              have Z3 := Lib.hid (show i + 1 ≤ maxLen by simp only [maxLen]; omega)
              have Z4 := Lib.hid (show (i + 1) * 8 ≤ 140737488355328 by omega)
              have hw0 := Lib.hid HS4.out.bel.size
              clear hq0e
              generalize X q0 = v at *
              obtain ⟨w4, hw4⟩ : ∃ v, v = wr := ⟨_, rfl⟩
              have HS4' := Lib.hid HS4.out
              obtain ⟨⟨E1, F1⟩, -⟩ := HWR.out
              go_wp2_with (at_builtin
                           have z0 := rown.ownsRow_kept HS4.out.own (below_alloc1 wr (.cells #[.int .i64 v] 2))
                           have z2 : ∀ u ∈ [Value.int .i64 v], u.oneCell' = true := (by simp [Value.oneCell'])
                           have zh : wr.heap.size = wr.heap.size := rfl
                           have z5 : w.heap.size ≤ (wr.alloc (.cells #[.int .i64 v] 2)).heap.size := (Nat.le_trans hw0.out (by simp))
                           refine wpList_append_lies (wr.alloc (.cells #[.int .i64 v] 2)) rfl _ _ 32 rfl (w.heap.size) 2 i0 _ 1 8 Try.underlying32 hi0 hz0 hz1 hz2 rfl (by decide) (.slice (some ⟨gF, 0, none⟩) i cF) i _ rfl z0 ⟨wr.heap.size, 0, none⟩ 1 1 [.int .i64 v] rfl rfl (one_new zh) z2 (by decide) Z3.out Z4.out z5 _ rfl ?_
                           intro pg pc pw hown hgr hat hlt3
                           have HS5 := Lib.hid (HS4.out.out HV.out hown hgr (hat.imp (fun h => h) (fun h => h.trans (by simp))))
                           clear hown hgr hat hlt3 z0 z2 z5)
              go_wp2
              go_roundw
              case rel => exact ⟨i + 1, e, pg, pc, c, k + 1, _, _, hi1, heN, by go_num, rfl, rfl, rfl, HQ5, HS5⟩
              case measure => simp [intOf]; omega
      · have hc1d : decide ((e : Int) ≤ to) = false := decide_eq_false hc1
        have hc2 := hc1
        have HNE := Lib.hid (show ∃ j : Nat, (i : Int) - (band : Int) ≤ (j : Int) ∧ j < e by obtain ⟨j, h1, h2, h3⟩ := HNEA.out i hlt; have := HTO.out; exact ⟨j, h1, by omega⟩)
        have HEE := Lib.hid (show ∀ j : Nat, j ≤ i + band → j < N → j < e from fun j h _ => by have := HTO.out; omega)
        have HWQ := Lib.hid (show m = Q.length ∧ Wq y ((i : Int) - (band : Int)) e Q from ⟨HQ2.out.1, HQ2.out.2.2⟩)
        obtain ⟨-, E2, F2⟩ := HWR.out
        go_wp2
        clear E2 F2 hc1 hc2
        go_loopw [10] (fun wv w' => ∃ (c m : Nat) (A : Option Addr) (Q : List Nat), wv = .slice A m c ∧ Hid (m = Q.length ∧ Wq y ((i : Int) - (band : Int)) e Q) ∧ Hid (Fst w w' i F gF cF A c Q)) (fun wv _ => lenV wv)
        case atStart => exact ⟨_, _, _, _, rfl, HWQ, HS2⟩
        case round =>
          obtain ⟨c, m, A, Q, rfl, HQ4, HS4⟩ := hrel
          obtain ⟨q0, Q', hQ⟩ := HQ4.out.2.some HNE.out
          subst hQ
          obtain ⟨k, hk⟩ : ∃ k, k = Q'.length := ⟨_, rfl⟩
          have hmk : m = k + 1 := by have := HQ4.out.1; simp at this; omega
          subst hmk
          obtain ⟨g, o, rfl, hg1, hg2, hg3, hg4, hcell⟩ := HS4.out.off.some (by simp)
          have x0 := hcell 0 q0 rfl
          rw [Nat.add_zero] at x0
          have hkc : k + 1 ≤ c := by simp at hg3; omega
          have hq0e := HQ4.out.2.lt q0 (by simp)
          have hq0N : q0 < N := by omega
          have hk0 : (0 : Int) < (k : Int) + 1 := by omega
          have hk0n : 0 < k + 1 := by omega
          have HK := Lib.hid hk
          clear hk hcell hg1 hg3 hg4
          by_cases hlo : (q0 : Int) < lo
          · have hlod : decide ((q0 : Int) < lo) = true := decide_eq_true hlo
            have hmore := HQ4.out.2.more (by rw [HLO.out]; exact hlo) HNE.out
            rw [← HK.out] at hmore
            have HQ5 := Lib.hid (show k = Q'.length ∧ Wq y ((i : Int) - (band : Int)) e Q' from ⟨HK.out, HQ4.out.2.drop (by rw [HLO.out]; exact hlo)⟩)
            have HS5 := Lib.hid HS4.out.drop
            have s1 : (1 : Int) ≤ (k : Int) + 1 := by omega
            have s2 : (k : Int) + 1 ≤ (c : Int) := by omega
            have s3 : ¬ (c : Int) < (k : Int) + 1 := by omega
            have s4 : ¬ (c : Int) = 1 := by omega
            have s5 : ¬ c = 1 := by omega
            have s6 : (1 : Int) ≤ (c : Int) := by omega
            have s7 : ¬ (k : Int) + 1 < 1 := by omega
            clear hmore hq0e hq0N
            obtain ⟨⟨E1, F1⟩, -⟩ := HWR.out
            go_wp2
            go_roundw
            case rel => exact ⟨_, _, _, _, rfl, HQ5, HS5⟩
            case measure => simp [lenV]
          · have hlod : decide ((q0 : Int) < lo) = false := decide_eq_false hlo
            have HV := Lib.hid (show F i = X q0 from (HF.out i hlt q0 (by rw [HLO.out]; omega) (by omega) hq0N (fun j h1 h2 h3 => HQ4.out.2.first j (by rw [HLO.out]; rw [HLO.out] at h1; exact h1) (HEE.out j h2 h3))).symm)
            obtain ⟨bx, ox, rfl, hbx, xq⟩ := (HP.out.kept HS4.out.bel) q0 hq0N
            have hq0i : (q0 : Int) < (N : Int) := by omega
            have hms2 : n - (i + 1) < n - i := by omega
            have hi1 : i + 1 ≤ n := by omega
            have HQ5 := Lib.hid (show k + 1 = (q0 :: Q').length ∧ e ≤ (i + 1) + band ∧ Wq y (((i + 1 : Nat) : Int) - (band : Int)) e (q0 :: Q') from ⟨HQ4.out.1, by omega, HQ4.out.2.later (by push_cast; omega)⟩)
            have Z3 := Lib.hid (show i + 1 ≤ maxLen by simp only [maxLen]; omega)
            have Z4 := Lib.hid (show (i + 1) * 8 ≤ 140737488355328 by omega)
            have hw0 := Lib.hid HS4.out.bel.size
            clear hq0e
            generalize X q0 = v at *
            obtain ⟨w4, hw4⟩ : ∃ v, v = wr := ⟨_, rfl⟩
            have HS4' := Lib.hid HS4.out
            obtain ⟨⟨E1, F1⟩, -⟩ := HWR.out
            go_wp2_with (at_builtin
                         have z0 := rown.ownsRow_kept HS4.out.own (below_alloc1 wr (.cells #[.int .i64 v] 2))
                         have z2 : ∀ u ∈ [Value.int .i64 v], u.oneCell' = true := (by simp [Value.oneCell'])
                         have zh : wr.heap.size = wr.heap.size := rfl
                         have z5 : w.heap.size ≤ (wr.alloc (.cells #[.int .i64 v] 2)).heap.size := (Nat.le_trans hw0.out (by simp))
                         refine wpList_append_lies (wr.alloc (.cells #[.int .i64 v] 2)) rfl _ _ 32 rfl (w.heap.size) 2 i0 _ 1 8 Try.underlying32 hi0 hz0 hz1 hz2 rfl (by decide) (.slice (some ⟨gF, 0, none⟩) i cF) i _ rfl z0 ⟨wr.heap.size, 0, none⟩ 1 1 [.int .i64 v] rfl rfl (one_new zh) z2 (by decide) Z3.out Z4.out z5 _ rfl ?_
                         intro pg pc pw hown hgr hat hlt3
                         have HS5 := Lib.hid (HS4.out.out HV.out hown hgr (hat.imp (fun h => h) (fun h => h.trans (by simp))))
                         clear hown hgr hat hlt3 z0 z2 z5)
            go_wp2
            go_roundw
            case rel => exact ⟨i + 1, e, pg, pc, c, k + 1, _, _, hi1, heN, by go_num, rfl, rfl, rfl, HQ5, HS5⟩
            case measure => simp [intOf]; omega
set_option maxRecDepth 100000 in
set_option maxHeartbeats 16000000 in
theorem firstG {cN : Nat} (AX : Option Addr) (N : Nat) (X y : Nat → Int) (n band : Nat) (F : Nat → Int) (w : World) (hN : N ≤ 72) (hn : n ≤ 72) (hb : band ≤ 72) (hy : ∀ a b, y a < y b ↔ X b < X a) (hne : ∀ i, i < n → ∃ j : Nat, (i : Int) - (band : Int) ≤ (j : Int) ∧ j ≤ i + band ∧ j < N)
    (hF : ∀ i, i < n → ∀ q : Nat, (i : Int) - (band : Int) ≤ (q : Int) → q ≤ i + band → q < N → (∀ j : Nat, (i : Int) - (band : Int) ≤ (j : Int) → j ≤ i + band → j < N → y q ≤ y j) → X q = F i) (hp : NumAt w AX N X) :
    Calls Try.prog 52 #[.slice AX N cN, .int .i64 (n : Int), .int .i64 (band : Int), .func (.func 54) #[] #[]] w fun e w' => ∃ g c, e = .returned (.slice (some ⟨g, 0, none⟩) n c) ∧ w'.ownsRow w.heap.size 2 1 (.slice (some ⟨g, 0, none⟩) n c) n (rws (one F) n) ∧ Below w.heap.size w w' := by
  obtain ⟨i0, hi0, hz0, hz1, hz2⟩ := rown.info_get infoN
  have HP := Lib.hid hp
  have HF := Lib.hid hF
  have HNEA := Lib.hid hne
  have HYY := Lib.hid hy
  obtain ⟨cur, hmk, hrow⟩ := makeN0 n (by omega) w
  have HST := Lib.hid (show Fst w (w.alloc (.cells cur 2)) 0 F w.heap.size n none 0 [] from ⟨hrow, off0 _ _, fun g o e => (by cases e), below_alloc1 _ _⟩)
  have hmx : Try.prog.follows .mixedOrders = true := by kernel_rfl
  clear hp hF hne hy hrow
  go_enter Try.func52, Try.ntmps52
  go_wp2
  clear hmk
  go_loopw [9, 10, 11, 16] (fun fv wv ev iv w' => ∃ (i e gF cF c m : Nat) (A : Option Addr) (Q : List Nat), i ≤ n ∧ e ≤ N ∧ iv = .int .i64 (i : Int) ∧ ev = .int .i64 (e : Int) ∧ fv = .slice (some ⟨gF, 0, none⟩) i cF ∧ wv = .slice A m c ∧ Hid (m = Q.length ∧ e ≤ i + band ∧ Wq y ((i : Int) - (band : Int)) e Q) ∧ Hid (Fst w w' i F gF cF A c Q)) (fun _ _ _ iv _ => n - (intOf iv).toNat)
  case atStart => exact ⟨0, 0, w.heap.size, n, 0, 0, none, [], Nat.zero_le _, Nat.zero_le _, rfl, rfl, rfl, rfl, Lib.hid ⟨rfl, by omega, wq0 _ _⟩, HST⟩
  case round =>
    clear HST
    obtain ⟨i, e, gF, cF, c, m, A, Q, hi, heN, rfl, rfl, rfl, rfl, HQ, HS⟩ := hrel
    by_cases hlt : i < n
    rotate_left
    · have hin := Lib.hid (show i = n by omega)
      have hli : ¬ (i : Int) < (n : Int) := by omega
      have HFIN := Lib.hid (show wr.ownsRow w.heap.size 2 1 (.slice (some ⟨gF, 0, none⟩) n cF) n (rws (one F) n) by have := HS.out.own; rw [hin.out] at this; exact this)
      clear hlt
      go_wp2
      go_ret
      exact ⟨gF, cF, by rw [hin.out]; rfl, HFIN.out, HS.out.bel⟩
    have hli : (i : Int) < (n : Int) := by omega
    obtain ⟨lo, hlo⟩ : ∃ v, (i : Int) - (band : Int) = v := ⟨_, rfl⟩
    obtain ⟨to, hto⟩ : ∃ v, (i : Int) + (band : Int) = v := ⟨_, rfl⟩
    have E1 : IntKind.i64.wrap ((i : Int) - (band : Int)) = lo := by rw [hlo]; exact IntWalk.i64_in _ (by omega)
    have E2 : IntKind.i64.wrap ((i : Int) + (band : Int)) = to := by rw [hto]; exact IntWalk.i64_in _ (by omega)
    have HLO := Lib.hid hlo
    have HTO := Lib.hid hto
    clear hlo hto
    have F1 : wrap64 ((i : Int) - (band : Int)) = lo := by rw [← IntWalk.i64_left]; exact E1
    have F2 : wrap64 ((i : Int) + (band : Int)) = to := by rw [← IntWalk.i64_left]; exact E2
    have HWR := Lib.hid (show (IntKind.i64.wrap ((i : Int) - (band : Int)) = lo ∧ wrap64 ((i : Int) - (band : Int)) = lo) ∧ IntKind.i64.wrap ((i : Int) + (band : Int)) = to ∧ wrap64 ((i : Int) + (band : Int)) = to from ⟨⟨E1, F1⟩, E2, F2⟩)
    clear E1 E2 F1 F2
    have HQ2 := Lib.hid (show m = Q.length ∧ e ≤ i + band + 1 ∧ Wq y ((i : Int) - (band : Int)) e Q from ⟨HQ.out.1, by have := HQ.out.2.1; omega, HQ.out.2.2⟩)
    go_wp2
    go_loopw [10, 11] (fun wv ev w' => ∃ (e c m : Nat) (A : Option Addr) (Q : List Nat), e ≤ N ∧ ev = .int .i64 (e : Int) ∧ wv = .slice A m c ∧ Hid (m = Q.length ∧ e ≤ i + band + 1 ∧ Wq y ((i : Int) - (band : Int)) e Q) ∧ Hid (Fst w w' i F gF cF A c Q)) (fun _ ev _ => N - (intOf ev).toNat)
    case atStart => exact ⟨e, c, m, A, Q, heN, rfl, rfl, HQ2, HS⟩
    case round =>
      clear HQ HS HQ2 heN
      obtain ⟨e, c, m, A, Q, heN, rfl, rfl, HQ2, HS2⟩ := hrel
      have hei : e ≤ i + band + 1 := HQ2.out.2.1
      by_cases hc1 : (e : Int) ≤ to
      · have hc1d : decide ((e : Int) ≤ to) = true := decide_eq_true hc1
        by_cases hc2 : (e : Int) < (N : Int)
        · have hc2d : decide ((e : Int) < (N : Int)) = true := decide_eq_true hc2
          have HQ3 := Lib.hid (show m = Q.length ∧ Wm y ((i : Int) - (band : Int)) e Q ∧ Q.length ≤ e from ⟨HQ2.out.1, HQ2.out.2.2.mid, HQ2.out.2.2.short⟩)
          have heN2 : e < N := by omega
          have heto := HTO.out
          have hei2 : e ≤ i + band := by omega
          clear heto
          obtain ⟨-, E2, F2⟩ := HWR.out
          go_wp2
          clear E2 F2
          go_loopw [10] (fun wv w' => ∃ (c m : Nat) (A : Option Addr) (Q : List Nat), wv = .slice A m c ∧ Hid (m = Q.length ∧ Wm y ((i : Int) - (band : Int)) e Q ∧ Q.length ≤ e) ∧ Hid (Fst w w' i F gF cF A c Q)) (fun wv _ => lenV wv)
          case atStart => exact ⟨c, m, A, Q, rfl, HQ3, HS2⟩
          case round =>
            clear HQ2 HS2 HQ3
            obtain ⟨c, m, A, Q, rfl, HQ3, HS3⟩ := hrel
            obtain ⟨wq, hwq⟩ : ∃ v, v = wr := ⟨_, rfl⟩
            rcases List.eq_nil_or_concat Q with hQ | ⟨Q', l, hQ⟩
            · have hm0 : m = 0 := by have := HQ3.out.1; rw [hQ] at this; simpa using this
              have HP3 := Lib.hid (show m + 1 = (Q ++ [e]).length ∧ e + 1 ≤ i + band + 1 ∧ Wq y ((i : Int) - (band : Int)) (e + 1) (Q ++ [e]) from ⟨by simp [HQ3.out.1], by omega, HQ3.out.2.1.push (fun Q2 l2 h => by rw [hQ] at h; simp at h)⟩)
              have hd : decide ((0 : Int) < (m : Int)) = false := decide_eq_false (by omega)
              have hdn : ¬ (0 : Int) < (m : Int) := by omega
              have hd3 : decide (0 < m) = false := decide_eq_false (by omega)
              clear hQ hm0
              go_wp2
              refine wp_region_quiet_kept (by assumption) (by kernel_rfl) ?_
              repeat (first | go_big_quiet_step (fail) | quiet_step (fail))
              refine wpQuiet_nil ?_
              intro w5 hw'
              have hB : Below wr.heap.size wr w5 := by obtain ⟨⟨wk, hb0⟩, hw''⟩ := hw'; rw [hw'']; exact hb0
              have HS6 := Lib.hid (HS3.out.kept hB)
              clear hw' hB HS3
              have HS3 := HS6
              clear HS6 hwq wq
              obtain ⟨wq, hwq⟩ : ∃ v, v = w5 := ⟨_, rfl⟩
              rw [← hwq] at HS3 ⊢
              clear hwq
              have e1 : e + 1 ≤ N := by omega
              have hms : N - (e + 1) < N - e := by omega
              go_wp2_with (at_builtin
                           refine wpList_append_off rfl _ _ rfl (HS3.out.off.kept (below_alloc1 wq (.cells #[.int .i64 (e : Int)] 3))) m e wq.heap.size HQ3.out.1 rfl rfl (by simp) (by have := HQ3.out.2.2; omega) (Nat.le_trans HS3.out.bel.size (by simp)) ?_
                           intro pg po pc pw q1 q2 q3 q4
                           have HS4 := Lib.hid (HS3.out.push q1 q2 q3 q4)
                           clear q1 q2 q3 q4)
              go_wp2
              go_roundw
              case rel => exact ⟨e + 1, pc, m + 1, some ⟨pg, po, none⟩, Q ++ [e], e1, by go_num, rfl, HP3, HS4⟩
              case measure => simp [intOf]; omega
            · rw [List.concat_eq_append] at hQ
              obtain ⟨k, hk⟩ : ∃ k, k = Q'.length := ⟨_, rfl⟩
              have hmk : m = k + 1 := by have := HQ3.out.1; rw [hQ] at this; simp at this; omega
              have HK := Lib.hid hk
              have HQQ := Lib.hid hQ
              obtain ⟨g, o, hA, hg1, hg2, hg3, hg4, hcell⟩ := HS3.out.off.some (by rw [hQ]; simp)
              have xl := hcell k l (by rw [hQ, hk]; simp)
              have hkc : k + 1 ≤ c := by rw [hQ] at hg3; simp at hg3; omega
              have hle := HQ3.out.2.1.lt l (by rw [hQ]; simp)
              have hlN : l < N := by omega
              subst hmk
              subst hA
              obtain ⟨bx, ox, rfl, hbx, xe⟩ := (HP.out.kept HS3.out.bel) e heN2
              obtain ⟨bx2, ox2, eA2, -, xl2⟩ := (HP.out.kept HS3.out.bel) l hlN
              cases eA2
              have hli2 : (l : Int) < (N : Int) := by omega
              have hk1 : (k : Int) < (k : Int) + 1 := by omega
              have hk1n : k < k + 1 := by omega
              have hk2 : (0 : Int) ≤ (k : Int) := by omega
              have hk72 : k ≤ 72 := by have := HQ3.out.2.2; rw [hQ] at this; simp at this; omega
              have hkw : IntKind.i64.wrap (k : Int) = (k : Int) := IntWalk.i64_in _ (by omega)
              have hkw2 : IntKind.i64.wrap ((k : Int) + 1 - 1) = (k : Int) := by rw [show (k : Int) + 1 - 1 = (k : Int) by omega]; exact hkw
              have hd : decide ((0 : Int) < (k : Int) + 1) = true := decide_eq_true (by omega)
              have y0 := cell_kept (a := ⟨g, o + k, none⟩) hg2 xl
              have y1 := cell_kept (a := ⟨bx, ox + e, none⟩) hbx xe
              have y2 := cell_kept (a := ⟨bx, ox + l, none⟩) hbx xl2
              clear hQ hk xl xe xl2 hcell hg3 hg4 hle
              by_cases hbf : y e < y l
              · have HI := Lib.hid (fun W => moreI (X e) (X l) W)
                rw [decide_eq_true ((HYY.out e l).1 hbf)] at HI
                have HQ5 := Lib.hid (show k = Q'.length ∧ Wm y ((i : Int) - (band : Int)) e Q' ∧ Q'.length ≤ e from ⟨HK.out, Wm.pop (l := l) (by rw [← HQQ.out]; exact HQ3.out.2.1) hbf, by have := HQ3.out.2.2; rw [HQQ.out] at this; simp at this; omega⟩)
                have HS5 := Lib.hid (Fst.pop (l := l) (by rw [← HQQ.out]; exact HS3.out))
                have s2 : (k : Int) ≤ (c : Int) := by omega
                have s3 : ¬ (c : Int) < (k : Int) := by omega
                clear hbf
                generalize X e = xe at *
                generalize X l = xl at *
                go_wp2
                refine wp_region_quiet_kept (by assumption) (by kernel_rfl) ?_
                repeat (first | go_big_quiet_step ((go_at_call 54; with_reducible exact Calls.kept_of (still_b (HI.out _)))) | quiet_step ((go_at_call 54; with_reducible exact Calls.kept_of (still_b (HI.out _)))))
                refine wpQuiet_nil ?_
                intro w5 hw'
                have hB : Below wr.heap.size wr w5 := by obtain ⟨⟨wk, hb0⟩, hw''⟩ := hw'; rw [hw'']; exact hb0
                have HS6 := Lib.hid (HS5.out.kept hB)
                clear hw' hB y0 y1 y2 hg1 hg2 hbx
                go_wp2
                go_roundw
                case rel => exact ⟨c, k, some ⟨g, o, none⟩, Q', rfl, HQ5, HS6⟩
                case measure => simp [lenV]
              · have HI := Lib.hid (fun W => moreI (X e) (X l) W)
                rw [decide_eq_false (fun h => hbf ((HYY.out e l).2 h))] at HI
                have HP3 := Lib.hid (show k + 1 + 1 = (Q ++ [e]).length ∧ e + 1 ≤ i + band + 1 ∧ Wq y ((i : Int) - (band : Int)) (e + 1) (Q ++ [e]) from ⟨by simp [HQ3.out.1], by omega, HQ3.out.2.1.push (fun Q2 l2 h => by
                  rw [HQQ.out] at h
                  have := List.append_inj_right' h rfl
                  simp at this
                  subst this
                  omega)⟩)
                clear hbf
                generalize X e = xe at *
                generalize X l = xl at *
                go_wp2
                refine wp_region_quiet_kept (by assumption) (by kernel_rfl) ?_
                repeat (first | go_big_quiet_step ((go_at_call 54; with_reducible exact Calls.kept_of (still_b (HI.out _)))) | quiet_step ((go_at_call 54; with_reducible exact Calls.kept_of (still_b (HI.out _)))))
                refine wpQuiet_nil ?_
                intro w5 hw'
                have hB : Below wr.heap.size wr w5 := by obtain ⟨⟨wk, hb0⟩, hw''⟩ := hw'; rw [hw'']; exact hb0
                have HS6 := Lib.hid (HS3.out.kept hB)
                clear hw' hB y0 y1 y2 hg1 hg2 hbx HS3
                have HS3 := HS6
                clear HS6 hwq wq
                obtain ⟨wq, hwq⟩ : ∃ v, v = w5 := ⟨_, rfl⟩
                rw [← hwq] at HS3 ⊢
                clear hwq
                have e1 : e + 1 ≤ N := by omega
                have hms : N - (e + 1) < N - e := by omega
                go_wp2_with (at_builtin
                             refine wpList_append_off rfl _ _ rfl (HS3.out.off.kept (below_alloc1 wq (.cells #[.int .i64 (e : Int)] 3))) (k + 1) e wq.heap.size HQ3.out.1 rfl rfl (by simp) (by have := HQ3.out.2.2; omega) (Nat.le_trans HS3.out.bel.size (by simp)) ?_
                             intro pg po pc pw q1 q2 q3 q4
                             have HS4 := Lib.hid (HS3.out.push q1 q2 q3 q4)
                             clear q1 q2 q3 q4)
                go_wp2
                go_roundw
                case rel => exact ⟨e + 1, pc, (k + 1) + 1, some ⟨pg, po, none⟩, Q ++ [e], e1, by go_num, rfl, HP3, HS4⟩
                case measure => simp [intOf]; omega
        · have hc2d : decide ((e : Int) < (N : Int)) = false := decide_eq_false hc2
          have HNE := Lib.hid (show ∃ j : Nat, (i : Int) - (band : Int) ≤ (j : Int) ∧ j < e by obtain ⟨j, h1, h2, h3⟩ := HNEA.out i hlt; exact ⟨j, h1, by omega⟩)
          have HEE := Lib.hid (show ∀ j : Nat, j ≤ i + band → j < N → j < e from fun j _ h => by omega)
          have HWQ := Lib.hid (show m = Q.length ∧ Wq y ((i : Int) - (band : Int)) e Q from ⟨HQ2.out.1, HQ2.out.2.2⟩)
          obtain ⟨-, E2, F2⟩ := HWR.out
          go_wp2
          clear E2 F2 hc1 hc2
          go_loopw [10] (fun wv w' => ∃ (c m : Nat) (A : Option Addr) (Q : List Nat), wv = .slice A m c ∧ Hid (m = Q.length ∧ Wq y ((i : Int) - (band : Int)) e Q) ∧ Hid (Fst w w' i F gF cF A c Q)) (fun wv _ => lenV wv)
          case atStart => exact ⟨_, _, _, _, rfl, HWQ, HS2⟩
          case round =>
            obtain ⟨c, m, A, Q, rfl, HQ4, HS4⟩ := hrel
            obtain ⟨q0, Q', hQ⟩ := HQ4.out.2.some HNE.out
            subst hQ
            obtain ⟨k, hk⟩ : ∃ k, k = Q'.length := ⟨_, rfl⟩
            have hmk : m = k + 1 := by have := HQ4.out.1; simp at this; omega
            subst hmk
            obtain ⟨g, o, rfl, hg1, hg2, hg3, hg4, hcell⟩ := HS4.out.off.some (by simp)
            have x0 := hcell 0 q0 rfl
            rw [Nat.add_zero] at x0
            have hkc : k + 1 ≤ c := by simp at hg3; omega
            have hq0e := HQ4.out.2.lt q0 (by simp)
            have hq0N : q0 < N := by omega
            have hk0 : (0 : Int) < (k : Int) + 1 := by omega
            have hk0n : 0 < k + 1 := by omega
            have HK := Lib.hid hk
            clear hk hcell hg1 hg3 hg4
            by_cases hlo : (q0 : Int) < lo
            · have hlod : decide ((q0 : Int) < lo) = true := decide_eq_true hlo
              have hmore := HQ4.out.2.more (by rw [HLO.out]; exact hlo) HNE.out
              rw [← HK.out] at hmore
              have HQ5 := Lib.hid (show k = Q'.length ∧ Wq y ((i : Int) - (band : Int)) e Q' from ⟨HK.out, HQ4.out.2.drop (by rw [HLO.out]; exact hlo)⟩)
              have HS5 := Lib.hid HS4.out.drop
              have s1 : (1 : Int) ≤ (k : Int) + 1 := by omega
              have s2 : (k : Int) + 1 ≤ (c : Int) := by omega
              have s3 : ¬ (c : Int) < (k : Int) + 1 := by omega
              have s4 : ¬ (c : Int) = 1 := by omega
              have s5 : ¬ c = 1 := by omega
              have s6 : (1 : Int) ≤ (c : Int) := by omega
              have s7 : ¬ (k : Int) + 1 < 1 := by omega
              clear hmore hq0e hq0N
              obtain ⟨⟨E1, F1⟩, -⟩ := HWR.out
              go_wp2
              go_roundw
              case rel => exact ⟨_, _, _, _, rfl, HQ5, HS5⟩
              case measure => simp [lenV]
            · have hlod : decide ((q0 : Int) < lo) = false := decide_eq_false hlo
              have HV := Lib.hid (show F i = X q0 from (HF.out i hlt q0 (by rw [HLO.out]; omega) (by omega) hq0N (fun j h1 h2 h3 => HQ4.out.2.first j (by rw [HLO.out]; rw [HLO.out] at h1; exact h1) (HEE.out j h2 h3))).symm)
              obtain ⟨bx, ox, rfl, hbx, xq⟩ := (HP.out.kept HS4.out.bel) q0 hq0N
              have hq0i : (q0 : Int) < (N : Int) := by omega
              have hms2 : n - (i + 1) < n - i := by omega
              have hi1 : i + 1 ≤ n := by omega
              have HQ5 := Lib.hid (show k + 1 = (q0 :: Q').length ∧ e ≤ (i + 1) + band ∧ Wq y (((i + 1 : Nat) : Int) - (band : Int)) e (q0 :: Q') from ⟨HQ4.out.1, by omega, HQ4.out.2.later (by push_cast; omega)⟩)
              have Z3 := Lib.hid (show i + 1 ≤ maxLen by simp only [maxLen]; omega)
              have Z4 := Lib.hid (show (i + 1) * 8 ≤ 140737488355328 by omega)
              have hw0 := Lib.hid HS4.out.bel.size
              clear hq0e
              generalize X q0 = v at *
              obtain ⟨w4, hw4⟩ : ∃ v, v = wr := ⟨_, rfl⟩
              have HS4' := Lib.hid HS4.out
              obtain ⟨⟨E1, F1⟩, -⟩ := HWR.out
              go_wp2_with (at_builtin
                           have z0 := rown.ownsRow_kept HS4.out.own (below_alloc1 wr (.cells #[.int .i64 v] 2))
                           have z2 : ∀ u ∈ [Value.int .i64 v], u.oneCell' = true := (by simp [Value.oneCell'])
                           have zh : wr.heap.size = wr.heap.size := rfl
                           have z5 : w.heap.size ≤ (wr.alloc (.cells #[.int .i64 v] 2)).heap.size := (Nat.le_trans hw0.out (by simp))
                           refine wpList_append_lies (wr.alloc (.cells #[.int .i64 v] 2)) rfl _ _ 32 rfl (w.heap.size) 2 i0 _ 1 8 Try.underlying32 hi0 hz0 hz1 hz2 rfl (by decide) (.slice (some ⟨gF, 0, none⟩) i cF) i _ rfl z0 ⟨wr.heap.size, 0, none⟩ 1 1 [.int .i64 v] rfl rfl (one_new zh) z2 (by decide) Z3.out Z4.out z5 _ rfl ?_
                           intro pg pc pw hown hgr hat hlt3
                           have HS5 := Lib.hid (HS4.out.out HV.out hown hgr (hat.imp (fun h => h) (fun h => h.trans (by simp))))
                           clear hown hgr hat hlt3 z0 z2 z5)
              go_wp2
              go_roundw
              case rel => exact ⟨i + 1, e, pg, pc, c, k + 1, _, _, hi1, heN, by go_num, rfl, rfl, rfl, HQ5, HS5⟩
              case measure => simp [intOf]; omega
      · have hc1d : decide ((e : Int) ≤ to) = false := decide_eq_false hc1
        have hc2 := hc1
        have HNE := Lib.hid (show ∃ j : Nat, (i : Int) - (band : Int) ≤ (j : Int) ∧ j < e by obtain ⟨j, h1, h2, h3⟩ := HNEA.out i hlt; have := HTO.out; exact ⟨j, h1, by omega⟩)
        have HEE := Lib.hid (show ∀ j : Nat, j ≤ i + band → j < N → j < e from fun j h _ => by have := HTO.out; omega)
        have HWQ := Lib.hid (show m = Q.length ∧ Wq y ((i : Int) - (band : Int)) e Q from ⟨HQ2.out.1, HQ2.out.2.2⟩)
        obtain ⟨-, E2, F2⟩ := HWR.out
        go_wp2
        clear E2 F2 hc1 hc2
        go_loopw [10] (fun wv w' => ∃ (c m : Nat) (A : Option Addr) (Q : List Nat), wv = .slice A m c ∧ Hid (m = Q.length ∧ Wq y ((i : Int) - (band : Int)) e Q) ∧ Hid (Fst w w' i F gF cF A c Q)) (fun wv _ => lenV wv)
        case atStart => exact ⟨_, _, _, _, rfl, HWQ, HS2⟩
        case round =>
          obtain ⟨c, m, A, Q, rfl, HQ4, HS4⟩ := hrel
          obtain ⟨q0, Q', hQ⟩ := HQ4.out.2.some HNE.out
          subst hQ
          obtain ⟨k, hk⟩ : ∃ k, k = Q'.length := ⟨_, rfl⟩
          have hmk : m = k + 1 := by have := HQ4.out.1; simp at this; omega
          subst hmk
          obtain ⟨g, o, rfl, hg1, hg2, hg3, hg4, hcell⟩ := HS4.out.off.some (by simp)
          have x0 := hcell 0 q0 rfl
          rw [Nat.add_zero] at x0
          have hkc : k + 1 ≤ c := by simp at hg3; omega
          have hq0e := HQ4.out.2.lt q0 (by simp)
          have hq0N : q0 < N := by omega
          have hk0 : (0 : Int) < (k : Int) + 1 := by omega
          have hk0n : 0 < k + 1 := by omega
          have HK := Lib.hid hk
          clear hk hcell hg1 hg3 hg4
          by_cases hlo : (q0 : Int) < lo
          · have hlod : decide ((q0 : Int) < lo) = true := decide_eq_true hlo
            have hmore := HQ4.out.2.more (by rw [HLO.out]; exact hlo) HNE.out
            rw [← HK.out] at hmore
            have HQ5 := Lib.hid (show k = Q'.length ∧ Wq y ((i : Int) - (band : Int)) e Q' from ⟨HK.out, HQ4.out.2.drop (by rw [HLO.out]; exact hlo)⟩)
            have HS5 := Lib.hid HS4.out.drop
            have s1 : (1 : Int) ≤ (k : Int) + 1 := by omega
            have s2 : (k : Int) + 1 ≤ (c : Int) := by omega
            have s3 : ¬ (c : Int) < (k : Int) + 1 := by omega
            have s4 : ¬ (c : Int) = 1 := by omega
            have s5 : ¬ c = 1 := by omega
            have s6 : (1 : Int) ≤ (c : Int) := by omega
            have s7 : ¬ (k : Int) + 1 < 1 := by omega
            clear hmore hq0e hq0N
            obtain ⟨⟨E1, F1⟩, -⟩ := HWR.out
            go_wp2
            go_roundw
            case rel => exact ⟨_, _, _, _, rfl, HQ5, HS5⟩
            case measure => simp [lenV]
          · have hlod : decide ((q0 : Int) < lo) = false := decide_eq_false hlo
            have HV := Lib.hid (show F i = X q0 from (HF.out i hlt q0 (by rw [HLO.out]; omega) (by omega) hq0N (fun j h1 h2 h3 => HQ4.out.2.first j (by rw [HLO.out]; rw [HLO.out] at h1; exact h1) (HEE.out j h2 h3))).symm)
            obtain ⟨bx, ox, rfl, hbx, xq⟩ := (HP.out.kept HS4.out.bel) q0 hq0N
            have hq0i : (q0 : Int) < (N : Int) := by omega
            have hms2 : n - (i + 1) < n - i := by omega
            have hi1 : i + 1 ≤ n := by omega
            have HQ5 := Lib.hid (show k + 1 = (q0 :: Q').length ∧ e ≤ (i + 1) + band ∧ Wq y (((i + 1 : Nat) : Int) - (band : Int)) e (q0 :: Q') from ⟨HQ4.out.1, by omega, HQ4.out.2.later (by push_cast; omega)⟩)
            have Z3 := Lib.hid (show i + 1 ≤ maxLen by simp only [maxLen]; omega)
            have Z4 := Lib.hid (show (i + 1) * 8 ≤ 140737488355328 by omega)
            have hw0 := Lib.hid HS4.out.bel.size
            clear hq0e
            generalize X q0 = v at *
            obtain ⟨w4, hw4⟩ : ∃ v, v = wr := ⟨_, rfl⟩
            have HS4' := Lib.hid HS4.out
            obtain ⟨⟨E1, F1⟩, -⟩ := HWR.out
            go_wp2_with (at_builtin
                         have z0 := rown.ownsRow_kept HS4.out.own (below_alloc1 wr (.cells #[.int .i64 v] 2))
                         have z2 : ∀ u ∈ [Value.int .i64 v], u.oneCell' = true := (by simp [Value.oneCell'])
                         have zh : wr.heap.size = wr.heap.size := rfl
                         have z5 : w.heap.size ≤ (wr.alloc (.cells #[.int .i64 v] 2)).heap.size := (Nat.le_trans hw0.out (by simp))
                         refine wpList_append_lies (wr.alloc (.cells #[.int .i64 v] 2)) rfl _ _ 32 rfl (w.heap.size) 2 i0 _ 1 8 Try.underlying32 hi0 hz0 hz1 hz2 rfl (by decide) (.slice (some ⟨gF, 0, none⟩) i cF) i _ rfl z0 ⟨wr.heap.size, 0, none⟩ 1 1 [.int .i64 v] rfl rfl (one_new zh) z2 (by decide) Z3.out Z4.out z5 _ rfl ?_
                         intro pg pc pw hown hgr hat hlt3
                         have HS5 := Lib.hid (HS4.out.out HV.out hown hgr (hat.imp (fun h => h) (fun h => h.trans (by simp))))
                         clear hown hgr hat hlt3 z0 z2 z5)
            go_wp2
            go_roundw
            case rel => exact ⟨i + 1, e, pg, pc, c, k + 1, _, _, hi1, heN, by go_num, rfl, rfl, rfl, HQ5, HS5⟩
            case measure => simp [intOf]; omega
end Go.Proofs.Ytkcfghbkcgommab.env
