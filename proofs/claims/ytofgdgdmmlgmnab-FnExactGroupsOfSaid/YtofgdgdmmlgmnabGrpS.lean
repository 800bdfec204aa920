/-
  Proved: the list of all groups of strokes, as the document's function returns it.
  Conditions: no more strokes than ink may have.
-/
import Derived.Test.YtofgdgdmmlgmnabInkV
import Derived.Test.YtofgdgdmmlgmnabFt
namespace Go.Proofs.Ytofgdgdmmlgmnab.grp
open Go.ChangeShapes Go.WideShapes Go.ChangeAt Go.RowKit Go.Joins
open Go.Proofs.Ytofgdgdmmlgmnab.core Go.Proofs.Ytofgdgdmmlgmnab.rown Go.Proofs.Ytofgdgdmmlgmnab.stk Go.Proofs.Ytofgdgdmmlgmnab.boxed Go.Proofs.Ytofgdgdmmlgmnab.ft Go.Proofs.Ytofgdgdmmlgmnab.ink Go.Proofs.Ytofgdgdmmlgmnab.inkV
set_option linter.unusedVariables false
set_option linter.unusedSimpArgs false
def put2 (f : Nat → P2) (i : Nat) (p : P2) : Nat → P2 := fun j => if j = i then p else f j
/-- One pair more. -/
def apd (s : Nat × (Nat → P2)) (p : P2) : Nat × (Nat → P2) := (s.1 + 1, put2 s.2 s.1 p)
theorem rws_apd (s : Nat × (Nat → P2)) (p : P2) : rws (sp2 (apd s p).2) (apd s p).1 = rws (sp2 s.2) s.1 ++ [.int .i64 p.1, .int .i64 p.2] := by
  show rws (sp2 (put2 s.2 s.1 p)) (s.1 + 1) = _
  rw [rws_succ]
  congr 1
  · refine rws_congr _ fun i hi => ?_
    unfold sp2 put2
    rw [if_neg (by omega)]
  · unfold sp2 put2
    rw [if_pos rfl]
/-- The groups from place x on: k of them. -/
def gI (s : Nat × (Nat → P2)) (x : Nat) : Nat → Nat × (Nat → P2)
  | 0 => s
  | k + 1 => apd (gI s x k) ((x : Int), ((x + 1 + k : Nat) : Int))
/-- The groups that begin at one of the first places. -/
def gO (n : Nat) : Nat → Nat × (Nat → P2)
  | 0 => (0, fun _ => (0, 0))
  | x + 1 => gI (gO n x) x (min 3 (n - x))
theorem gI_len (s : Nat × (Nat → P2)) (x : Nat) : ∀ k, (gI s x k).1 = s.1 + k
  | 0 => rfl
  | k + 1 => by
    show (gI s x k).1 + 1 = _
    rw [gI_len s x k]; omega
theorem gO_le (n : Nat) : ∀ x, (gO n x).1 ≤ 3 * x
  | 0 => Nat.le_refl _
  | x + 1 => by
    have := gO_le n x
    unfold gO
    rw [gI_len]; omega
def inG (s : Nat × (Nat → P2)) (n : Nat) : Prop := ∀ i, i < s.1 → (0 ≤ (s.2 i).1 ∧ (s.2 i).1 ≤ n) ∧ 0 ≤ (s.2 i).2 ∧ (s.2 i).2 ≤ n
theorem in_apd {s : Nat × (Nat → P2)} {n : Nat} {p : P2} (h : inG s n) (hp : (0 ≤ p.1 ∧ p.1 ≤ n) ∧ 0 ≤ p.2 ∧ p.2 ≤ n) : inG (apd s p) n := fun i hi => by
  show (0 ≤ (put2 s.2 s.1 p i).1 ∧ (put2 s.2 s.1 p i).1 ≤ (n : Int)) ∧ 0 ≤ (put2 s.2 s.1 p i).2 ∧ (put2 s.2 s.1 p i).2 ≤ (n : Int)
  unfold put2
  by_cases e : i = s.1
  · simp only [if_pos e]; exact hp
  · have : i < s.1 := by
      have : i < s.1 + 1 := hi
      omega
    simp only [if_neg e]
    exact h i this
theorem in_gI {s : Nat × (Nat → P2)} {n x : Nat} (h : inG s n) : ∀ k, x + k ≤ n → inG (gI s x k) n
  | 0, _ => h
  | k + 1, hk => in_apd (in_gI h k (by omega)) ⟨⟨by simp, by simp; omega⟩, by simp; omega, by simp; omega⟩
theorem in_gO (n : Nat) : ∀ x, x ≤ n → inG (gO n x) n
  | 0, _ => fun i hi => absurd hi (by simp [gO])
  | x + 1, hx => in_gI (in_gO n x (by omega)) _ (by omega)
theorem infoG : (Try.prog.info? 60).map (fun i => (i.zero, i.size, i.bytes)) = some (some (.agg #[.int .i64 0, .int .i64 0]), 2, 16) := by kernel_rfl
theorem wrp {x : Nat} {c : Int} {y : Nat} (h : (x : Int) + c = (y : Int)) (hy : y ≤ 1000) : IntKind.i64.wrap ((x : Int) + c) = (y : Int) := by
  rw [h]; simp [IntKind.wrap, IntKind.bits, IntKind.signed]; omega
set_option maxRecDepth 100000 in
set_option maxHeartbeats 8000000 in
theorem groupsS (n : Nat) (hn : n ≤ 16) (w : World) :
    Calls Try.prog 34 #[.int .i64 (n : Int)] w fun e w' => ∃ (g d : Nat), e = .returned (.slice (some ⟨g, 0, none⟩) (gO n n).1 d) ∧ w'.ownsRow w.heap.size 60 2 (.slice (some ⟨g, 0, none⟩) (gO n n).1 d) (gO n n).1 (rws (sp2 (gO n n).2) (gO n n).1) ∧ Below w.heap.size w w' := by
  obtain ⟨i0, hi0, hz0, hz1, hz2⟩ := rown.info_get infoG
  have HLE := Lib.hid (gO_le n)
  obtain ⟨G, hG⟩ : ∃ G, gO n = G := ⟨_, rfl⟩
  have HG := Lib.hid (show G 0 = (0, fun _ => (0, 0)) ∧ ∀ i, G (i + 1) = gI (G i) i (min 3 (n - i)) by rw [← hG]; exact ⟨rfl, fun _ => rfl⟩)
  rw [hG] at HLE ⊢
  clear hG
  have HN16 := Lib.hid hn
  clear hn
  go_enter Try.func34, Try.ntmps34
  go_wp2
  go_loopw [3, 4] (fun out i w' => ∃ (x L D d : Nat), x ≤ n ∧ i = .int .i64 (x : Int) ∧ out = .slice (some ⟨D, 0, none⟩) L d ∧ Hid ((G x).1 = L) ∧ Hid (w'.ownsRow w.heap.size 60 2 (.slice (some ⟨D, 0, none⟩) L d) L (rws (sp2 (G x).2) L)) ∧ Hid (Below w.heap.size w w')) (fun _ i _ => n - (intOf i).toNat)
  case atStart => exact ⟨0, 0, _, _, Nat.zero_le _, rfl, rfl, Lib.hid (by rw [HG.out.1]), Lib.hid (rown.empty_row w 60 2), Lib.hid (below_alloc1 w (.cells #[] 60))⟩
  case round =>
    obtain ⟨x, L, D, d, hx, rfl, rfl, HLL, HO, HB⟩ := hrel
    by_cases hlt : x < n
    · have hli : (x : Int) < (n : Int) := by omega
      have hx1 : x + 1 ≤ n := by omega
      have hms : n - (x + 1) < n - x := by omega
      have HGX := Lib.hid (HG.out.2 x)
      have HLX := Lib.hid (gI_len (G x) x)
      have HL48 := Lib.hid (show L + 3 ≤ 60 by have := HLL.out; have := HLE.out x; have := HN16.out; omega)
      obtain ⟨y0, hy0⟩ : ∃ y, y = x + 1 := ⟨_, rfl⟩
      obtain ⟨z, hz⟩ : ∃ z, z = x + 3 := ⟨_, rfl⟩
      have w1 : IntKind.i64.wrap ((x : Int) + 1) = (y0 : Int) := wrp (by omega) (by have := HN16.out; omega)
      have w3 : IntKind.i64.wrap ((x : Int) + 3) = (z : Int) := wrp (by omega) (by have := HN16.out; omega)
      have HY0 := Lib.hid hy0
      have HZ := Lib.hid hz
      have HLT := Lib.hid hlt
      clear hy0 hz hlt
      go_wp2
      go_loopw [3, 5] (fun out t w' => ∃ (k y L1 D d : Nat), t = .int .i64 (y : Int) ∧ out = .slice (some ⟨D, 0, none⟩) L1 d ∧ Hid (y = x + 1 + k ∧ k ≤ min 3 (n - x)) ∧ Hid (L1 = L + k) ∧ Hid (w'.ownsRow w.heap.size 60 2 (.slice (some ⟨D, 0, none⟩) L1 d) L1 (rws (sp2 (gI (G x) x k).2) L1)) ∧ Hid (Below w.heap.size w w')) (fun _ t _ => n + 1 - (intOf t).toNat)
      case atStart => exact ⟨0, y0, L, D, d, rfl, rfl, Lib.hid ⟨HY0.out, Nat.zero_le _⟩, Lib.hid rfl, HO, HB⟩
      case round =>
        obtain ⟨k, y, L1, D, d, rfl, rfl, HYK, HL1, HO1, HB1⟩ := hrel
        by_cases hy1 : y ≤ n
        · have hyi : (y : Int) ≤ (n : Int) := by omega
          by_cases hy2 : y ≤ z
          · have hyz : (y : Int) ≤ (z : Int) := by omega
            obtain ⟨y', hy'⟩ : ∃ t, t = y + 1 := ⟨_, rfl⟩
            have w4 : IntKind.i64.wrap ((y : Int) + 1) = (y' : Int) := wrp (by omega) (by have := HN16.out; omega)
            have HYN := Lib.hid (show y' = x + 1 + (k + 1) ∧ k + 1 ≤ min 3 (n - x) by have := HYK.out; have := HZ.out; omega)
            have HMS := Lib.hid (show n + 1 - y' < n + 1 - y by omega)
            have HLN := Lib.hid (show L1 + 1 = L + (k + 1) by have := HL1.out; omega)
            have HNR := Lib.hid (show rws (sp2 (gI (G x) x (k + 1)).2) (L1 + 1) = rws (sp2 (gI (G x) x k).2) L1 ++ [.int .i64 (x : Int), .int .i64 (y : Int)] by
              have h := rws_apd (gI (G x) x k) ((x : Int), ((x + 1 + k : Nat) : Int))
              have e1 := HLX.out k
              rw [HLL.out, ← HL1.out] at e1
              rw [← HYK.out.1] at h
              show rws (sp2 (apd (gI (G x) x k) ((x : Int), ((x + 1 + k : Nat) : Int))).2) (L1 + 1) = _
              rw [← HYK.out.1]
              have e2 : (apd (gI (G x) x k) ((x : Int), (y : Int))).1 = L1 + 1 := by show (gI (G x) x k).1 + 1 = _; rw [e1]
              rw [e2, e1] at h
              exact h)
            have Z3 := Lib.hid (show L1 + 1 ≤ maxLen by have := HL1.out; have := HYN.out; have := HL48.out; simp only [maxLen]; omega)
            have Z4 := Lib.hid (show (L1 + 1) * 16 ≤ 140737488355328 by have := HL1.out; have := HYN.out; have := HL48.out; omega)
            have hzw : w.heap.size ≤ wr.heap.size := HB1.out.size
            clear hy1 hy2 hy'
            go_wp2_with (first
              | (at_builtin
                 refine wpList_append_lies (wr.alloc (.cells #[.int .i64 (x : Int), .int .i64 (y : Int)] 60)) rfl _ _ 38 rfl w.heap.size 60 i0 _ 2 16 Try.underlying38 hi0 hz0 hz1 hz2 rfl (by decide) (.slice (some ⟨D, 0, none⟩) L1 d) L1 _ rfl (rown.ownsRow_kept HO1.out (below_alloc1 _ _)) ⟨wr.heap.size, 0, none⟩ 1 1 [.int .i64 (x : Int), .int .i64 (y : Int)] rfl rfl (two_new rfl) (by simp [Value.oneCell']) (by decide) Z3.out Z4.out (Nat.le_trans hzw (by simp)) _ rfl ?_
                 intro g3 cap3 w5 hown hgr hat hlt3
                 have HO5 := Lib.hid hown
                 have HB5 := Lib.hid (HB1.out.trans (rown.under HO1.out hzw hgr))
                 clear hown hgr hat))
            go_wp2
            go_roundw
            case rel => exact ⟨k + 1, y', L1 + 1, g3, cap3, rfl, rfl, HYN, HLN, Lib.hid (by rw [HNR.out]; exact HO5.out), HB5⟩
            case measure => simp [intOf]; exact HMS.out
          · have hyz : ¬ (y : Int) ≤ (z : Int) := by omega
            have dz : decide ((y : Int) ≤ (z : Int)) = false := decide_eq_false hyz
            have HKE := Lib.hid (show min 3 (n - x) = k by have := HYK.out; have := HZ.out; omega)
            have HNL := Lib.hid (show (G (x + 1)).1 = L1 by rw [HGX.out, HKE.out, HLX.out, HLL.out, HL1.out])
            have HO2 := Lib.hid (show wr.ownsRow w.heap.size 60 2 (.slice (some ⟨D, 0, none⟩) L1 d) L1 (rws (sp2 (G (x + 1)).2) L1) by rw [HGX.out, HKE.out]; exact HO1.out)
            clear hy1 hy2
            go_wp2
            go_roundw
            case rel => exact ⟨x + 1, L1, D, d, hx1, by first | rfl | go_num | (rw [HY0.out]), rfl, HNL, HO2, HB1⟩
            case measure => simp [intOf]; have := HY0.out; have := HLT.out; omega
        · have hyi : ¬ (y : Int) ≤ (n : Int) := by omega
          have dz : decide ((y : Int) ≤ (n : Int)) = false := decide_eq_false hyi
          have HKE := Lib.hid (show min 3 (n - x) = k by have := HYK.out; have := HZ.out; omega)
          have HNL := Lib.hid (show (G (x + 1)).1 = L1 by rw [HGX.out, HKE.out, HLX.out, HLL.out, HL1.out])
          have HO2 := Lib.hid (show wr.ownsRow w.heap.size 60 2 (.slice (some ⟨D, 0, none⟩) L1 d) L1 (rws (sp2 (G (x + 1)).2) L1) by rw [HGX.out, HKE.out]; exact HO1.out)
          clear hy1
          go_wp2
          go_roundw
          case rel => exact ⟨x + 1, L1, D, d, hx1, by first | rfl | go_num | (rw [HY0.out]), rfl, HNL, HO2, HB1⟩
          case measure => simp [intOf]; have := HY0.out; have := HLT.out; omega
    · have hxe : x = n := by omega
      have hxn : ¬ (x : Int) < (n : Int) := by omega
      clear hlt
      subst hxe
      go_wp2
      go_ret
      exact ⟨D, d, by rw [HLL.out]; rfl, by rw [HLL.out]; exact HO.out, HB.out⟩
end Go.Proofs.Ytofgdgdmmlgmnab.grp
