/-
  Proved: the trail that the program makes of a stroke; and that a place lies among numbers of 64 bits.
  Conditions: the points are in their range, and no more than 60.
-/
import Derived.Test.YtmphnhffelfbgaaSpotI
import Derived.Test.YtmphnhffelfbgaaClone
namespace Go.Proofs.Ytmphnhffelfbgaa.trail
open Go.ChangeShapes Go.WideShapes Go.ChangeAt Go.RowKit Go.Joins
open Go.Proofs.Ytmphnhffelfbgaa.core Go.Proofs.Ytmphnhffelfbgaa.stk Go.Proofs.Ytmphnhffelfbgaa.seg Go.Proofs.Ytmphnhffelfbgaa.lenS Go.Proofs.Ytmphnhffelfbgaa.rown Go.Proofs.Ytmphnhffelfbgaa.boxed Go.Proofs.Ytmphnhffelfbgaa.near Go.Proofs.Ytmphnhffelfbgaa.arcs Go.Proofs.Ytmphnhffelfbgaa.spot Go.Proofs.Ytmphnhffelfbgaa.clone
set_option linter.unusedVariables false
set_option linter.unusedSimpArgs false
theorem row_shape {w : World} {base E k n : Nat} {v : Value} {xs : List Value} (h : w.ownsRow base E k v n xs) (h1 : 1 ≤ n) : ∃ g d, v = .slice (some ⟨g, 0, none⟩) n d := by
  rcases h with ⟨-, ⟨-, h0⟩ | ⟨g, d, _, rfl, -⟩⟩
  · omega
  · exact ⟨g, d, rfl⟩
theorem one_in {p x r al : Int} (hp : 0 ≤ p ∧ p ≤ 4095) (hx : 0 ≤ x ∧ x ≤ 4095) (hr : 0 ≤ r ∧ r ≤ 5469300000) (ha : 1 ≤ al ∧ al ≤ 5469300000) : inI64 (p + nr ((x - p) * r) al) := by
  have hm := mul_bd2 (x := x - p) (y := r) (B := 4095) (C := 5469300000) (by omega) (by omega) hr.1 hr.2
  generalize (x - p) * r = m at *
  have := down_le (n := 2 * m + al) (d := 2 * al) (B := 100000000000000) (by omega) (by omega) (by omega)
  unfold nr inI64
  omega
theorem sp_in {pts : Nat → P3} {n e : Nat} {part parts : Int} (h1 : 1 ≤ n) (h60 : n ≤ 60) (hr : ∀ i, i < n → Rg (pts i)) (hq : 1 ≤ parts ∧ parts ≤ 1000) (hpa : 0 ≤ part ∧ part ≤ parts) (hE : IsE (lens pts) (wantOf pts n part) parts n e) : inI64 (spX pts n e part parts) ∧ inI64 (spY pts n e part parts) := by
  by_cases hen : e = n
  · unfold spX spY
    rw [if_pos hen, if_pos hen]
    have := hr 0 (by omega)
    unfold Rg at this
    unfold inI64
    omega
  · have hepos := e_pos h1 hE
    obtain ⟨j, rfl⟩ : ∃ j, e = j + 1 := ⟨e - 1, by omega⟩
    have hlt : j + 1 < n := by have := hE.1; omega
    have hlo0 := hE.2.1 j (by omega)
    have hhi := (hE.2.2 (j + 1) (Nat.le_refl _) hlt)
    unfold Hit at hlo0 hhi
    have bx := lens_bd h60 hr hlt
    have bN := lens_bd h60 hr (show n - 1 < n by omega)
    have hmo := lens_mono pts (show j ≤ j + 1 by omega)
    have hwb := prod_bd (a := (lens pts (n - 1) : Int)) (parts := part) (by omega) bN hpa.1 (by omega)
    have hrp := hr j (by omega)
    have hrq := hr (j + 1) hlt
    unfold spX spY
    rw [if_neg hen, if_neg hen]
    unfold restOf allOf
    rw [show wantOf pts n part = (lens pts (n - 1) : Int) * part from rfl] at *
    rw [Nat.add_sub_cancel]
    generalize (lens pts (n - 1) : Int) * part = want at *
    have hlo0' : (lens pts j : Int) < 1 ∨ (lens pts j : Int) * parts < want := by
      by_cases h1 : 1 ≤ lens pts j
      · right
        rcases Int.lt_or_le ((lens pts j : Int) * parts) want with h2 | h2
        · exact h2
        · exact absurd ⟨h1, h2⟩ hlo0
      · left; omega
    have hx1 : 1 ≤ (lens pts (j + 1) : Int) := by omega
    have hx2 := hhi.2
    have hyx : (lens pts j : Int) ≤ (lens pts (j + 1) : Int) := by omega
    have hy0 : 0 ≤ (lens pts j : Int) := by omega
    clear hlo0 hhi hmo bN
    generalize (lens pts (j + 1) : Int) = x at *
    generalize (lens pts j : Int) = y at *
    have hyz : y < 1 → y * parts = 0 := fun h => by rw [show y = 0 by omega, Int.zero_mul]
    have hxy : x = y → x * parts = y * parts := fun h => by rw [h]
    have hyb := prod_bd hy0 (show y ≤ 5469300 by omega) (show (0 : Int) ≤ parts by omega) hq.2
    have hc : ¬ x = y := fun h => by have := hxy h; omega
    have hal : 1 ≤ (x - y) * parts := by
      have := Int.mul_le_mul (show (1 : Int) ≤ x - y by omega) (show (1 : Int) ≤ parts by omega) (by omega) (by omega)
      omega
    have hal2 := prod_bd (a := x - y) (parts := parts) (by omega) (by omega) (by omega) hq.2
    unfold Rg at hrp hrq
    have hrb : 0 ≤ want - y * parts ∧ want - y * parts ≤ 5469300000 := by omega
    exact ⟨one_in ⟨hrp.1, by omega⟩ ⟨hrq.1, by omega⟩ hrb ⟨hal, hal2.2⟩, one_in ⟨by omega, by omega⟩ ⟨by omega, by omega⟩ hrb ⟨hal, hal2.2⟩⟩
set_option maxRecDepth 100000 in
set_option maxHeartbeats 4000000 in
theorem trail_calls {c : Nat} (A : Option Addr) (n : Nat) (pts : Nat → P3) (w : World) (h1 : 1 ≤ n) (h60 : n ≤ 60) (hr : ∀ i, i < n → Rg (pts i)) (hp : PtsAt w A n pts) :
    Calls Try.prog 63 #[.agg #[.slice A n c]] w fun e w' => ∃ g d, e = .returned (.agg #[.slice A n c, .slice (some ⟨g, 0, none⟩) n d]) ∧ w'.ownsRow w.heap.size 2 1 (.slice (some ⟨g, 0, none⟩) n d) n (rws (arc pts) n) ∧ Below w.heap.size w w' := by
  have B0 := Lib.hid (below_alloc2 w (.cells #[.slice A n c] 31) (.cells #[.slice none 0 0, .slice none 0 0] 82))
  have K1 := Lib.hid (show ((w.alloc (.cells #[.slice A n c] 31)).alloc (.cells #[.slice none 0 0, .slice none 0 0] 82)).heap[w.heap.size]? = some (.cells #[.slice A n c] 31 (0, 0)) by rw [Below.heap_alloc _ _ _ (by simp)]; exact heap_alloc_new _ _)
  have K2 := Lib.hid (show ((w.alloc (.cells #[.slice A n c] 31)).alloc (.cells #[.slice none 0 0, .slice none 0 0] 82)).heap[w.heap.size + 1]? = some (.cells #[.slice none 0 0, .slice none 0 0] 82 (0, 0)) by have := heap_alloc_new (w.alloc (.cells #[.slice A n c] 31)) (.cells #[.slice none 0 0, .slice none 0 0] 82); simpa using this)
  have HARC := Lib.hid (fun (V : World) (hV : Below w.heap.size w V) => implArcs (c := c) A n pts V h1 h60 hr (hp.kept hV))
  have H1 := Lib.hid h1
  clear hp hr
  go_enter Try.func63, Try.ntmps63
  go_wp2_with fail
  obtain ⟨w0, hw0⟩ : ∃ v, v = ((w.alloc (.cells #[.slice A n c] 31)).alloc (.cells #[.slice none 0 0, .slice none 0 0] 82)) := ⟨_, rfl⟩
  rw [← hw0] at B0 K1 K2 ⊢
  clear hw0
  have c1 : w0.cell? ⟨w.heap.size, 0, none⟩ = some (.slice A n c) := by rw [cell_of_block K1.out]; rfl
  have c1d : w0.drew.cell? ⟨w.heap.size, 0, none⟩ = some (.slice A n c) := c1
  have z1 : w.heap.size < w0.heap.size := block_size K1.out
  have r0 : w0.cell? ⟨w.heap.size + 1, 0, none⟩ = some (.slice none 0 0) := by rw [cell_of_block K2.out]; rfl
  have r1 : w0.cell? ⟨w.heap.size + 1, 1, none⟩ = some (.slice none 0 0) := by rw [cell_of_block K2.out]; rfl
  have rf := unfrozen_of_block K2.out
  have rz : w.heap.size + 1 < w0.heap.size := block_size K2.out
  go_region_with (go_at_call 56; (with_reducible refine (HARC.out _ (by first | exact B0.out | exact B0.out.drew)).mono ?_); rintro e w2 ⟨v, rfl, ho, hb⟩; obtain ⟨g, d, rfl⟩ := row_shape ho H1.out; have hb0 := (Below.refl w0.heap.size w0).drew.trans hb; have L1 := Lib.hid ((hb0.block _ (block_size K1.out)).trans K1.out); have L2 := Lib.hid ((hb0.block _ (block_size K2.out)).trans K2.out); have HO := Lib.hid (row_low ho (show w.heap.size ≤ w0.drew.heap.size from B0.out.size)); have B2 := Lib.hid (B0.out.trans (hb0.mono B0.out.size)); have c2 : w2.cell? ⟨w.heap.size, 0, none⟩ = some (.slice A n c) := (by rw [cell_of_block L1.out]; rfl); have s0 : w2.cell? ⟨w.heap.size + 1, 0, none⟩ = some (.slice none 0 0) := (by rw [cell_of_block L2.out]; rfl); have s1 : w2.cell? ⟨w.heap.size + 1, 1, none⟩ = some (.slice none 0 0) := (by rw [cell_of_block L2.out]; rfl); have sf := unfrozen_of_block L2.out; have sz : w.heap.size + 1 < w2.heap.size := block_size L2.out; clear ho hb hb0)
  all_goals
    obtain ⟨w9, hw9⟩ : ∃ v, v = ((w2.setCell ⟨w.heap.size + 1, 0, none⟩ (.slice A n c)).setCell ⟨w.heap.size + 1, 1, none⟩ (.slice (some ⟨g, 0, none⟩) n d)) := ⟨_, rfl⟩
    have M2 := Lib.hid (show (w2.setCell ⟨w.heap.size + 1, 0, none⟩ (.slice A n c)).heap[w.heap.size + 1]? = some (.cells #[.slice A n c, .slice none 0 0] 82 (0, 0)) by rw [block_setCell (i := 0) L2.out]; rfl)
    have N2 := Lib.hid (show w9.heap[w.heap.size + 1]? = some (.cells #[.slice A n c, .slice (some ⟨g, 0, none⟩) n d] 82 (0, 0)) by rw [hw9, block_setCell (i := 1) M2.out]; rfl)
    have HO9 := Lib.hid (show w9.ownsRow w.heap.size 2 1 (.slice (some ⟨g, 0, none⟩) n d) n (rws (arc pts) n) by rw [hw9]; exact own_far (own_far HO.out L2.out (by decide) 0) M2.out (by decide) 1)
    have B9 := Lib.hid (show Below w.heap.size w w9 by rw [hw9]; exact (B2.out.setCell (show w.heap.size ≤ w.heap.size + 1 by omega) _).setCell (show w.heap.size ≤ w.heap.size + 1 by omega) _)
    rw [← hw9]
    clear hw9 c1 c1d c2 s0 s1 sf sz r0 r1 rf rz L1 L2 HO B2 M2 K1 K2 B0
    have r0 : w9.cell? ⟨w.heap.size + 1, 0, none⟩ = some (.slice A n c) := by rw [cell_of_block N2.out]; rfl
    have r1 : w9.cell? ⟨w.heap.size + 1, 1, none⟩ = some (.slice (some ⟨g, 0, none⟩) n d) := by rw [cell_of_block N2.out]; rfl
    go_wp2
    exact bodyPost_ret (v := .agg #[.slice A n c, .slice (some ⟨g, 0, none⟩) n d]) (by simp [results, Try.results63, go_sem, r0, r1]) rfl ⟨_, _, rfl, HO9.out, B9.out⟩
end Go.Proofs.Ytmphnhffelfbgaa.trail
