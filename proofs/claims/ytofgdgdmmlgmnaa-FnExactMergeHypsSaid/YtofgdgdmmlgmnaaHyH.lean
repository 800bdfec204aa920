/-
  Proved: slices.Concat of two lists of hypotheses.
  Conditions: those of the theorem.
-/
import Derived.Test.YtofgdgdmmlgmnaaHyG
namespace Go.Proofs.Ytofgdgdmmlgmnaa.gro
open Go.ChangeShapes Go.WideShapes Go.ChangeAt Go.RowKit Go.Joins
open Go.Proofs.Ytofgdgdmmlgmnaa.core Go.Proofs.Ytofgdgdmmlgmnaa.rown Go.Proofs.Ytofgdgdmmlgmnaa.stk Go.Proofs.Ytofgdgdmmlgmnaa.boxed Go.Proofs.Ytofgdgdmmlgmnaa.hyp Go.Proofs.Ytofgdgdmmlgmnaa.ft
set_option linter.unusedVariables false
set_option linter.unusedSimpArgs false
/-- The cells of a list of n hypotheses. -/
structure Cells (w : World) (T : Option Addr) (n : Nat) (r : List Value) : Prop where
  len : r.length = n * 2
  one : ∀ u ∈ r, u.oneCell' = true
  at_ : 0 < n → ∃ ad, T = some ad ∧ ad.block < w.heap.size ∧ ∀ j u, r[j]? = some u → w.cell? (ad.add j) = some u
theorem add_block (ad : Addr) (j : Nat) : (ad.add j).block = ad.block := by unfold Addr.add; split <;> rfl
theorem Cells.kept {w w' : World} {T : Option Addr} {n : Nat} {r : List Value} (h : Cells w T n r) (hb : Below w.heap.size w w') : Cells w' T n r :=
  ⟨h.len, h.one, fun hn => by
    obtain ⟨ad, e, hlt, hc⟩ := h.at_ hn
    exact ⟨ad, e, Nat.lt_of_lt_of_le hlt hb.size, fun j u hu => (hb.cell (p := ad.add j) (by rw [add_block]; exact hlt)).trans (hc j u hu)⟩⟩
theorem Cells.news {w : World} {T : Option Addr} {n : Nat} {r : List Value} (h : Cells w T n r) : 0 < n → ∃ ad, T = some ad ∧ ∀ j u, r[j]? = some u → w.cell? (ad.add j) = some u := fun hn => by
  obtain ⟨ad, e, -, hc⟩ := h.at_ hn
  exact ⟨ad, e, hc⟩
set_option maxRecDepth 100000 in
set_option maxHeartbeats 2000000 in
theorem concatH {c1 c2 : Nat} (gq : Nat) (T1 T2 : Option Addr) (n1 n2 : Nat) (r1 r2 : List Value) (w : World) (hn : n1 + n2 ≤ 40) (hgq : gq < w.heap.size) (q0 : w.cell? ⟨gq, 0, none⟩ = some (.slice T1 n1 c1)) (q1 : w.cell? ⟨gq, 1, none⟩ = some (.slice T2 n2 c2)) (h1 : Cells w T1 n1 r1) (h2 : Cells w T2 n2 r2) :
    Calls Try.prog 55 #[.slice (some ⟨gq, 0, none⟩) 2 2] w fun e w' => ∃ A C, e = .returned (.slice A (n1 + n2) C) ∧ w'.ownsRow w.heap.size 40 2 (.slice A (n1 + n2) C) (n1 + n2) (r1 ++ r2) ∧ Below w.heap.size w w' := by
  obtain ⟨j0, hj0, jz0, jz1, jz2⟩ := rown.info_get infoH
  have H1 := Lib.hid h1
  have H2 := Lib.hid h2
  have Q0 := Lib.hid (fun W (hB : Below w.heap.size w W) => (hB.cell (p := ⟨gq, 0, none⟩) hgq).trans q0)
  have Q1 := Lib.hid (fun W (hB : Below w.heap.size w W) => (hB.cell (p := ⟨gq, 1, none⟩) hgq).trans q1)
  have HG := Lib.hid (growH (n1 + n2) hn w)
  obtain ⟨N, hN⟩ : ∃ N : Nat, n1 + n2 = N := ⟨_, rfl⟩
  have ZN := Lib.hid (show n1 + n2 ≤ 40 ∧ n1 ≤ 40 by omega)
  have HW1 := Lib.hid (show IntKind.i64.wrap ((n1 : Int) + (n2 : Int)) = (N : Int) by rw [IntWalk.i64_in _ (by omega)]; omega)
  have HW0 := Lib.hid (show IntKind.i64.wrap (0 + (n1 : Int)) = (n1 : Int) by rw [Int.zero_add]; exact IntWalk.i64_in _ (by omega))
  rw [hN] at HG ⊢
  have HNN := Lib.hid hN
  clear hN hn
  clear h1 h2
  go_enter Try.func55, Try.ntmps55
  go_wp2
  go_loopw [3, 11] (fun s i w' => w = w' ∧ ((i = .int .i64 0 ∧ s = .int .i64 0) ∨ (i = .int .i64 1 ∧ s = .int .i64 (n1 : Int)) ∨ (i = .int .i64 2 ∧ s = .int .i64 (N : Int)))) (fun _ i _ => 2 - (intOf i).toNat)
  case atStart => exact ⟨by first | rfl | trivial, .inl ⟨rfl, rfl⟩⟩
  case round =>
    obtain ⟨rfl, ⟨rfl, rfl⟩ | ⟨rfl, rfl⟩ | ⟨rfl, rfl⟩⟩ := hrel
    · have hn1 := ZN.out.2
      go_wp2
      go_roundw
      case rel => exact ⟨by first | rfl | trivial, .inr (.inl ⟨rfl, by first | rfl | go_num⟩)⟩
      case measure => simp [intOf]
    · have hw := HW1.out
      have hnn : (0 : Int) ≤ (N : Int) := by omega
      go_wp2
      go_roundw
      case rel => exact ⟨by first | rfl | trivial, .inr (.inr ⟨rfl, by first | rfl | go_num⟩)⟩
      case measure => simp [intOf]
    · clear q0 q1
      go_wp2_with fail
      refine HG.out.mono ?_
      rintro e w1 ⟨A, C, rfl, hown, hb⟩
      have HO1 := Lib.hid hown
      have HB1 := Lib.hid hb
      clear hown hb HG
      go_wp2
      go_loopw [6, 27] (fun s i w' => ∃ (A : Option Addr) (C : Nat), Hid (Below w.heap.size w w') ∧ ((i = .int .i64 0 ∧ s = .slice A 0 C ∧ Hid (w'.ownsRow w.heap.size 40 2 (.slice A 0 C) 0 [])) ∨ (i = .int .i64 1 ∧ s = .slice A n1 C ∧ Hid (w'.ownsRow w.heap.size 40 2 (.slice A n1 C) n1 r1)) ∨ (i = .int .i64 2 ∧ s = .slice A N C ∧ Hid (w'.ownsRow w.heap.size 40 2 (.slice A N C) N (r1 ++ r2))))) (fun _ i _ => 2 - (intOf i).toNat)
      case atStart => exact ⟨A, C, HB1, .inl ⟨rfl, rfl, HO1⟩⟩
      case round =>
        obtain ⟨A, C, HB, ⟨rfl, rfl, HO⟩ | ⟨rfl, rfl, HO⟩ | ⟨rfl, rfl, HO⟩⟩ := hrel
        · have q0 := Q0.out _ HB.out
          have N1 := Lib.hid (H1.out.kept HB.out)
          go_wp2_with (first
            | (at_builtin
               refine gro.wpList_append_all wr rfl _ _ 31 rfl w.heap.size 40 j0 _ 2 24 Try.underlying31 hj0 jz0 jz1 jz2 rfl (by decide) A C 0 [] rfl HO.out T1 n1 c1 r1 rfl N1.out.len N1.out.news N1.out.one (by have := ZN.out; unfold maxLen; omega) (by have := ZN.out; omega) HB.out.size ?_
               intro A' C' w2 hown2 hb2
               have HO2 := Lib.hid (show w2.ownsRow w.heap.size 40 2 (.slice A' n1 C') n1 r1 by simpa using hown2)
               have HB2 := Lib.hid (HB.out.trans hb2)
               rw [Nat.zero_add]
               clear hown2 hb2))
          go_wp2
          go_roundw
          case rel => exact ⟨A', C', HB2, .inr (.inl ⟨rfl, rfl, HO2⟩)⟩
          case measure => simp [intOf]
        · have q1 := Q1.out _ HB.out
          have N2 := Lib.hid (H2.out.kept HB.out)
          go_wp2_with (first
            | (at_builtin
               refine gro.wpList_append_all wr rfl _ _ 31 rfl w.heap.size 40 j0 _ 2 24 Try.underlying31 hj0 jz0 jz1 jz2 rfl (by decide) A C n1 r1 rfl HO.out T2 n2 c2 r2 rfl N2.out.len N2.out.news N2.out.one (by have := ZN.out; unfold maxLen; omega) (by have := ZN.out; omega) HB.out.size ?_
               intro A' C' w2 hown2 hb2
               rw [HNN.out] at hown2 ⊢
               have HO2 := Lib.hid hown2
               have HB2 := Lib.hid (HB.out.trans hb2)
               clear hown2 hb2))
          go_wp2
          go_roundw
          case rel => exact ⟨A', C', HB2, .inr (.inr ⟨rfl, rfl, HO2⟩)⟩
          case measure => simp [intOf]
        · go_wp2
          go_ret
          exact ⟨A, C, rfl, HO.out, HB.out⟩
end Go.Proofs.Ytofgdgdmmlgmnaa.gro
