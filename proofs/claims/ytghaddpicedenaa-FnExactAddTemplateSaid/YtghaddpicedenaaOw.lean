/-
  Proved: what the document's function that copies the templates of a store but one returns: a store in memory of its own.
  Conditions: those of the theorem.
-/
import Derived.Test.YtghaddpicedenaaTmp
import Derived.Test.YtghaddpicedenaaOwnS
import Derived.Test.YtghaddpicedenaaRound
import Derived.Deep.RegionHeld3
import Derived.Deep.DeepCutAuto
namespace Go.Proofs.Ytghaddpicedenaa.tmp
open Go.ChangeShapes Go.WideShapes Go.ChangeAt Go.RowKit Go.Joins
open Go.Proofs.Ytghaddpicedenaa.core Go.Proofs.Ytghaddpicedenaa.rown Go.Proofs.Ytghaddpicedenaa.stk Go.Proofs.Ytghaddpicedenaa.boxed Go.Proofs.Ytghaddpicedenaa.ft Go.Proofs.Ytghaddpicedenaa.seq Go.Proofs.Ytghaddpicedenaa.lab Go.Proofs.Ytghaddpicedenaa.sto Go.Proofs.Ytghaddpicedenaa.cln Go.Proofs.Ytghaddpicedenaa.tab Go.Proofs.Ytghaddpicedenaa.env Go.Proofs.Ytghaddpicedenaa.put3
set_option linter.unusedVariables false
set_option linter.unusedSimpArgs false
/-- How many of the first x places are not left out, and which place comes to place i. -/
def kK (a : Int) (x : Nat) : Nat := if 0 ≤ a ∧ a < (x : Int) then x - 1 else x
def kE (a : Int) (i : Nat) : Nat := if 0 ≤ a ∧ a ≤ (i : Int) then i + 1 else i
theorem kK_ne {a : Int} {x : Nat} (h : (x : Int) ≠ a) : kK a (x + 1) = kK a x + 1 ∧ kE a (kK a x) = x := by
  unfold kK kE
  constructor
  · split <;> split <;> omega
  · split <;> split <;> omega
theorem kK_eq {a : Int} {x : Nat} (h : (x : Int) = a) : kK a (x + 1) = kK a x := by
  unfold kK
  split <;> split <;> omega
theorem kK_le (a : Int) (x : Nat) : kK a x ≤ x := by unfold kK; split <;> omega
theorem kE_lt {a : Int} {n i : Nat} (h : i < kK a n) : kE a i < n := by unfold kK at h; unfold kE; split at h <;> split <;> omega
/-- The store that is made, in its box. -/
structure OW (w : World) (band : Int) (D : Option Addr) (q C : Nat) (W : World) : Prop where
  below : Below w.heap.size w W
  z : w.heap.size + 2 ≤ W.heap.size
  b4 : W.heap[w.heap.size]? = some (.cells #[.int .i64 0, .slice none 0 0] 32 (0, 0))
  b5 : W.heap[w.heap.size + 1]? = some (.cells #[.int .i64 band, .slice D q C] 32 (0, 0))
theorem OW.start (w : World) (band : Int) : OW w band none 0 0 ((w.alloc (.cells #[.int .i64 0, .slice none 0 0] 32)).alloc (.cells #[.int .i64 band, .slice none 0 0] 32)) := by
  have e : (w.alloc (.cells #[.int .i64 0, .slice none 0 0] 32)).heap.size = w.heap.size + 1 := by simp
  refine ⟨below_alloc2 _ _ _, by simp, ?_, ?_⟩
  · rw [Below.heap_alloc _ _ _ (by simp)]
    exact heap_alloc_new _ _
  · rw [← e]; exact heap_alloc_new _ _
/-- What a round reads is as it was, whatever lies from behind the boxes on has turned. -/
theorem OW.seen {w wr W : World} {band : Int} {D : Option Addr} {k C : Nat} (h : OW w band D k C wr) (hB : Below (w.heap.size + 2) wr W) {p q : Addr} {u v : Value} (hp : p.block < w.heap.size) (hq : q.block < w.heap.size) (c0 : w.cell? p = some u) (c1 : w.cell? q = some v) :
    W.cell? ⟨w.heap.size + 1, 1, none⟩ = some (.slice D k C) ∧ W.cell? p = some u ∧ W.cell? q = some v ∧ W.frozen? ⟨w.heap.size + 1, 1, none⟩ = false := by
  have e5 : W.heap[w.heap.size + 1]? = _ := (hB.block _ (by omega)).trans h.b5
  refine ⟨by rw [cell_of_block e5]; rfl, ?_, ?_, unfrozen_of_block e5 1⟩
  · rw [World.cell?_of_block ((hB.block _ (by omega)).trans (h.below.block _ hp))]; exact c0
  · rw [World.cell?_of_block ((hB.block _ (by omega)).trans (h.below.block _ hq))]; exact c1
theorem OW.put {w wr W : World} {band : Int} {D : Option Addr} {k C : Nat} (h : OW w band D k C wr) (hB : Below (w.heap.size + 2) wr W) (g q c : Nat) : OW w band (some ⟨g, 0, none⟩) q c (W.setCell ⟨w.heap.size + 1, 1, none⟩ (.slice (some ⟨g, 0, none⟩) q c)) := by
  have e5 : W.heap[w.heap.size + 1]? = _ := (hB.block _ (by omega)).trans h.b5
  have e4 : W.heap[w.heap.size]? = _ := (hB.block _ (by omega)).trans h.b4
  have hs := hB.size
  have hz := h.z
  refine ⟨(h.below.trans (hB.mono (by omega))).setCell (by simp) _, by simpa [World.setCell] using (by omega : w.heap.size + 2 ≤ W.heap.size), ?_, ?_⟩
  · rw [Below.heap_setCell _ _ _ _ (by simp)]; exact e4
  · exact block_setCell e5 _
set_option maxRecDepth 100000 in
set_option maxHeartbeats 16000000 in
theorem ownS {c : Nat} (b o : Nat) (band : Int) (T : Option Addr) (n : Nat) (a : Int) (lb : Nat → ByteArray) (ln : Nat → Nat) (lf : Nat → Nat → P3) (w : World) (hb : b < w.heap.size) (c0 : w.cell? ⟨b, o, none⟩ = some (.int .i64 band)) (c1 : w.cell? ⟨b, o + 1, none⟩ = some (.slice T n c)) (hn : n ≤ 40) (hl : ∀ i, i < n → 1 ≤ ln i ∧ ln i ≤ 72) (hp : TsAt w T n lb ln lf) :
    Calls Try.prog 19 #[.pointer (some ⟨b, o, none⟩), .int .i64 a] w fun e w' => ∃ (D : Option Addr) (C : Nat) (gi ci : Nat → Nat), e = .returned (.agg #[.int .i64 band, .slice D (kK a n) C]) ∧ TD w' (w.heap.size + 2) D (kK a n) C (fun i => lb (kE a i)) gi (fun i => ln (kE a i)) ci (fun i => lf (kE a i)) ∧ Below w.heap.size w w' := by
  obtain ⟨i0, hi0, hz0, hz1, hz2⟩ := rown.info_get infoFeat
  obtain ⟨j0, hj0, jz0, jz1, jz2⟩ := rown.info_get infoT
  obtain ⟨LB, hLB⟩ : ∃ LB : Nat → ByteArray, (fun i => lb (kE a i)) = LB := ⟨_, rfl⟩
  obtain ⟨LN, hLN⟩ : ∃ LN : Nat → Nat, (fun i => ln (kE a i)) = LN := ⟨_, rfl⟩
  obtain ⟨LF, hLF⟩ : ∃ LF : Nat → Nat → P3, (fun i => lf (kE a i)) = LF := ⟨_, rfl⟩
  have HE := Lib.hid (show ∀ i x, kE a i = x → LB i = lb x ∧ LN i = ln x ∧ LF i = lf x by
    intro i x h
    subst h
    rw [← hLB, ← hLN, ← hLF]
    exact ⟨rfl, rfl, rfl⟩)
  rw [hLB, hLN, hLF]
  have HP := Lib.hid hp
  have HL := Lib.hid hl
  have C0 := Lib.hid c0
  have C1 := Lib.hid c1
  have HK := Lib.hid (kK_le a)
  have HKS := Lib.hid (fun x => @kK_ne a x)
  have HKE := Lib.hid (fun x => @kK_eq a x)
  have HK0 := Lib.hid (show kK a 0 = 0 by unfold kK; split <;> omega)
  obtain ⟨K, hK⟩ : ∃ K, kK a = K := ⟨_, rfl⟩
  rw [hK] at HK HKS HKE HK0 ⊢
  clear hp hl c1 hLB hLN hLF hK
  go_enter Try.func19, Try.ntmps19
  go_wp2
  go_loopw [6] (fun i w' => ∃ (x : Nat) (D : Option Addr) (C : Nat) (gi ci : Nat → Nat), x ≤ n ∧ i = .int .i64 (x : Int) ∧ Hid (OW w band D (K x) C w') ∧ Hid (TD w' (w.heap.size + 2) D (K x) C LB gi LN ci LF)) (fun i _ => n - (intOf i).toNat)
  case atStart => exact ⟨0, none, 0, fun _ => 0, fun _ => 0, Nat.zero_le _, rfl, Lib.hid (by rw [HK0.out]; exact OW.start w band), Lib.hid (by rw [HK0.out]; exact TD.nil _ _ _ _ _ _ _)⟩
  case round =>
    obtain ⟨x, D, C, gi, ci, hx, rfl, HO, HT⟩ := hrel
    have HB := Lib.hid HO.out.below
    have hbr : b < wr.heap.size := Nat.lt_of_lt_of_le hb HB.out.size
    have q1 := (HB.out.cell (p := ⟨b, o + 1, none⟩) hb).trans C1.out
    by_cases hlt : x < n
    · have hli : (x : Int) < (n : Int) := by omega
      have hx1 : x + 1 ≤ n := by omega
      have hms : n - (x + 1) < n - x := by omega
      by_cases hxa : (x : Int) = a
      · have HN := Lib.hid (HKE.out x hxa)
        subst hxa
        go_wp2
        go_roundw
        case rel => exact ⟨x + 1, D, C, gi, ci, hx1, by go_num, Lib.hid (by rw [HN.out]; exact HO.out), Lib.hid (by rw [HN.out]; exact HT.out)⟩
        case measure => simp [intOf]; omega
      · obtain ⟨hN, hE⟩ := HKS.out x hxa
        have HN := Lib.hid hN
        obtain ⟨f1, f2, f3'⟩ := HE.out _ _ hE
        obtain ⟨g, og, Ai, cA, rfl, hg, p0, p1, hpt⟩ := HP.out x hlt
        have hlx := HL.out x hlt
        have hkx := HK.out x
        rw [← f1] at p0
        rw [← f2] at p1 hpt hlx
        rw [← f3'] at hpt
        generalize K x = k at *
        obtain ⟨ga, oa, rfl, hga, -, -, -⟩ := hpt 0 (by omega)
        have HPT := Lib.hid hpt
        have HS := Lib.hid (fun W (hB : Below (w.heap.size + 2) wr W) => OW.seen HO.out hB (p := ⟨g, og + x * 2, none⟩) (q := ⟨g, og + x * 2 + 1, none⟩) hg hg p0 p1)
        have hz := HO.out.z
        have hk := HS.out wr (Below.refl _ _)
        have hkd := HS.out wr.drew (Below.refl _ _).drew
        have BD := Lib.hid ((Below.refl (w.heap.size + 2) wr).drew)
        have BR := Lib.hid ((Below.refl wr.heap.size wr).drew.alloc (Nat.le_refl _) (.cells #[] 66))
        have BE := Lib.hid (BD.out.alloc (show w.heap.size + 2 ≤ wr.drew.heap.size from hz) (.cells #[] 66))
        have hke := HS.out _ BE.out
        have HPE := Lib.hid ((hpt.kept HB.out).kept ((Below.refl wr.heap.size wr).drew.alloc (Nat.le_refl _) (.cells #[] 66)))
        have EM := Lib.hid (empty_row wr.drew 66 3)
        have TE := Lib.hid (HT.out.kept ((Below.refl wr.heap.size wr).drew.alloc (Nat.le_refl _) (.cells #[] 66)))
        have Z3 := Lib.hid (show 0 + LN k ≤ maxLen by simp only [maxLen]; omega)
        have Z4 := Lib.hid (show (0 + LN k) * 24 ≤ 140737488355328 by omega)
        have Z5 := Lib.hid (show k + 1 ≤ maxLen by simp only [maxLen]; omega)
        have Z6 := Lib.hid (show (k + 1) * 40 ≤ 140737488355328 by omega)
        have hl0 : 0 < LN k := by omega
        have r0 := (HB.out.cell (p := ⟨g, og + x * 2, none⟩) hg).trans p0
        have r1 := (HB.out.cell (p := ⟨g, og + x * 2 + 1, none⟩) hg).trans p1
        have hgr0 : g < wr.heap.size := Nat.lt_of_lt_of_le hg HB.out.size
        clear hpt p0 p1 f1 f2 f3' hE hN hlt hlx
        go_wp2
        refine rnd.wp_regionU (fun V => V.cell? ⟨g, og + x * 2, none⟩ = some (.string (LB k)) ∧ V.cell? ⟨g, og + x * 2 + 1, none⟩ = some (.slice (some ⟨ga, oa, none⟩) (LN k) cA) ∧ V.frozen? ⟨w.heap.size + 1, 1, none⟩ = false) (fun V => V.cell? ⟨w.heap.size + 1, 1, none⟩ = some (.slice D k C)) 16 (by kernel_rfl) ⟨hkd.2, hkd.1⟩ (fun hH => ?_)
        refine rnd.wpAnyU_take (i := 0) (oi := { dst := some 31, op := Op.fieldAddr 32 (Operand.tmp 5) 1, type := 0, pos := "l11_templates.go:62", after := #[], guard := none }) (v := ?_) rfl (by kernel_rfl) (by kernel_rfl) (by kernel_rfl) (by kernel_rfl) (fun _ _ _ h => h) (Or.inl ⟨by rfl, ?_⟩) hH ?_
        rotate_left
        · intro V hSw
          obtain ⟨⟨s1, s2, s3⟩, s0⟩ := hSw
          go_simp
          try with_reducible rfl
        simp only [Act.put, List.setIfInBounds_toArray, List.set_cons_zero, List.set_cons_succ]
        refine rnd.wpAnyU_take (i := 1) (oi := { dst := some 32, op := Op.load 30 (Operand.tmp 31), type := 30, pos := "l11_templates.go:62", after := #[{ on := 0, ground := Ground.data }], guard := none }) (v := ?_) rfl (by kernel_rfl) (by kernel_rfl) (by kernel_rfl) (by kernel_rfl) (fun _ _ _ h => h) (Or.inl ⟨by rfl, ?_⟩) hH ?_
        rotate_left
        · intro V hSw
          obtain ⟨⟨s1, s2, s3⟩, s0⟩ := hSw
          go_simp
          try with_reducible rfl
        simp only [Act.put, List.setIfInBounds_toArray, List.set_cons_zero, List.set_cons_succ]
        refine rnd.wpAnyU_take (i := 2) (oi := { dst := some 33, op := Op.move (Operand.tmp 7), type := 50, pos := "l11_templates.go:62", after := #[], guard := none }) (v := ?_) rfl (by kernel_rfl) (by kernel_rfl) (by kernel_rfl) (by kernel_rfl) (fun _ _ _ h => h) (Or.inl ⟨by rfl, ?_⟩) hH ?_
        rotate_left
        · intro V hSw
          obtain ⟨⟨s1, s2, s3⟩, s0⟩ := hSw
          go_simp
          try with_reducible rfl
        simp only [Act.put, List.setIfInBounds_toArray, List.set_cons_zero, List.set_cons_succ]
        refine rnd.wpAnyU_take (i := 3) (oi := { dst := some 34, op := Op.nilCheck (Operand.tmp 33), type := 0, pos := "l11_templates.go:62", after := #[{ on := 2, ground := Ground.data }], guard := none }) (v := ?_) rfl (by kernel_rfl) (by kernel_rfl) (by kernel_rfl) (by kernel_rfl) (fun _ _ _ h => h) (Or.inl ⟨by rfl, ?_⟩) hH ?_
        rotate_left
        · intro V hSw
          obtain ⟨⟨s1, s2, s3⟩, s0⟩ := hSw
          go_simp
          try with_reducible rfl
        simp only [Act.put, List.setIfInBounds_toArray, List.set_cons_zero, List.set_cons_succ]
        refine rnd.wpAnyU_take (i := 4) (oi := { dst := some 35, op := Op.fieldAddr 38 (Operand.tmp 34) 0, type := 0, pos := "l11_templates.go:62", after := #[{ on := 3, ground := Ground.data }], guard := none }) (v := ?_) rfl (by kernel_rfl) (by kernel_rfl) (by kernel_rfl) (by kernel_rfl) (fun _ _ _ h => h) (Or.inl ⟨by rfl, ?_⟩) hH ?_
        rotate_left
        · intro V hSw
          obtain ⟨⟨s1, s2, s3⟩, s0⟩ := hSw
          go_simp
          try with_reducible rfl
        simp only [Act.put, List.setIfInBounds_toArray, List.set_cons_zero, List.set_cons_succ]
        refine rnd.wpAnyU_take (i := 5) (oi := { dst := some 36, op := Op.load 9 (Operand.tmp 35), type := 9, pos := "l11_templates.go:62", after := #[{ on := 4, ground := Ground.data }], guard := none }) (v := ?_) rfl (by kernel_rfl) (by kernel_rfl) (by kernel_rfl) (by kernel_rfl) (fun _ _ _ h => h) (Or.inl ⟨by rfl, ?_⟩) hH ?_
        rotate_left
        · intro V hSw
          obtain ⟨⟨s1, s2, s3⟩, s0⟩ := hSw
          go_simp
          try with_reducible rfl
        simp only [Act.put, List.setIfInBounds_toArray, List.set_cons_zero, List.set_cons_succ]
        refine rnd.wpAnyU_take (i := 7) (oi := { dst := some 38, op := Op.move (Operand.tmp 7), type := 50, pos := "l11_templates.go:62", after := #[], guard := none }) (v := ?_) rfl (by kernel_rfl) (by kernel_rfl) (by kernel_rfl) (by kernel_rfl) (fun _ _ _ h => h) (Or.inl ⟨by rfl, ?_⟩) hH ?_
        rotate_left
        · intro V hSw
          obtain ⟨⟨s1, s2, s3⟩, s0⟩ := hSw
          go_simp
          try with_reducible rfl
        simp only [Act.put, List.setIfInBounds_toArray, List.set_cons_zero, List.set_cons_succ]
        refine rnd.wpAnyU_take (i := 8) (oi := { dst := some 39, op := Op.nilCheck (Operand.tmp 38), type := 0, pos := "l11_templates.go:62", after := #[{ on := 7, ground := Ground.data }], guard := none }) (v := ?_) rfl (by kernel_rfl) (by kernel_rfl) (by kernel_rfl) (by kernel_rfl) (fun _ _ _ h => h) (Or.inl ⟨by rfl, ?_⟩) hH ?_
        rotate_left
        · intro V hSw
          obtain ⟨⟨s1, s2, s3⟩, s0⟩ := hSw
          go_simp
          try with_reducible rfl
        simp only [Act.put, List.setIfInBounds_toArray, List.set_cons_zero, List.set_cons_succ]
        refine rnd.wpAnyU_take (i := 9) (oi := { dst := some 40, op := Op.fieldAddr 38 (Operand.tmp 39) 1, type := 0, pos := "l11_templates.go:62", after := #[{ on := 8, ground := Ground.data }], guard := none }) (v := ?_) rfl (by kernel_rfl) (by kernel_rfl) (by kernel_rfl) (by kernel_rfl) (fun _ _ _ h => h) (Or.inl ⟨by rfl, ?_⟩) hH ?_
        rotate_left
        · intro V hSw
          obtain ⟨⟨s1, s2, s3⟩, s0⟩ := hSw
          go_simp
          try with_reducible rfl
        simp only [Act.put, List.setIfInBounds_toArray, List.set_cons_zero, List.set_cons_succ]
        refine rnd.wpAnyU_take (i := 10) (oi := { dst := some 41, op := Op.load 36 (Operand.tmp 40), type := 36, pos := "l11_templates.go:62", after := #[{ on := 9, ground := Ground.data }], guard := none }) (v := ?_) rfl (by kernel_rfl) (by kernel_rfl) (by kernel_rfl) (by kernel_rfl) (fun _ _ _ h => h) (Or.inl ⟨by rfl, ?_⟩) hH ?_
        rotate_left
        · intro V hSw
          obtain ⟨⟨s1, s2, s3⟩, s0⟩ := hSw
          go_simp
          try with_reducible rfl
        simp only [Act.put, List.setIfInBounds_toArray, List.set_cons_zero, List.set_cons_succ]
        clear hH
        refine rnd.wpAnyU_one (i := 6) (by kernel_rfl) rfl (fun K' hK' => ?_)
        go_simp
        refine hK'.out _ _ hke.2 (fun _ => hke.1) ?_
        clear hK'
        refine rnd.wpAnyU_one (i := 11) (by kernel_rfl) rfl (fun K' hK' => ?_)
        refine step_append_lies _ (by rfl) (.tmp 37) (.tmp 41) _ (by rfl) wr.drew.heap.size 66 i0 _ 3 24 Try.underlying36 hi0 hz0 hz1 hz2 rfl (by decide) (.slice (some ⟨wr.drew.heap.size, 0, none⟩) 0 0) 0 [] (by rfl) EM.out ⟨ga, oa, none⟩ (LN k) cA (rws (row3 (LF k)) (LN k)) (by rfl) (rws_len (row3_len (LF k)) (LN k)) (pts_news HPE.out) (rws_one (LF k) (LN k)) hl0 Z3.out Z4.out (by simp) _ rfl ?_
        intro gb Cb V1 hown hgr hat hlt9
        rw [Nat.zero_add] at hown ⊢
        have HF := Lib.hid (show V1.ownsRow (w.heap.size + 2) 66 3 (.slice (some ⟨gb, 0, none⟩) (LN k) Cb) (LN k) (rws (row3 (LF k)) (LN k)) by simpa using row_low hown hz)
        have HG := Lib.hid (rown.ownsRow_block hown (g := gb) rfl).1
        have HV0 := Lib.hid (BR.out.grown hgr BR.out.size (fun kk hkk => (by simp [Value.ownBlock] at hkk; omega)))
        have HV1 := Lib.hid (HV0.out.mono hz)
        have T1 := Lib.hid (HT.out.kept HV0.out)
        have hk1 := HS.out _ HV1.out
        have hk1a := HS.out _ (HV1.out.alloc (Nat.le_trans hz HV1.out.size) (.cells #[.string (LB k), .slice (some ⟨gb, 0, none⟩) (LN k) Cb] 38))
        clear hown hgr hat
        simp only [Act.put, List.setIfInBounds_toArray, List.set_cons_zero, List.set_cons_succ]
        refine hK'.out _ _ hk1.2 (fun _ => hk1.1) ?_
        clear hK'
        refine rnd.wpAnyU_one (i := 12) (by kernel_rfl) rfl (fun K' hK' => ?_)
        go_simp
        refine hK'.out _ _ hk1.2 (fun _ => hk1.1) ?_
        clear hK'
        refine rnd.wpAnyU_one (i := 13) (by kernel_rfl) rfl (fun K' hK' => ?_)
        go_simp
        refine hK'.out _ _ hk1a.2 (fun _ => hk1a.1) ?_
        clear hK'
        refine rnd.wpAnyU_one (i := 14) (by kernel_rfl) rfl (fun K' hK' => ?_)
        refine step_append_lies _ (by rfl) (.tmp 32) (.tmp 44) _ (by rfl) (w.heap.size + 2) 38 j0 _ 2 40 Try.underlying30 hj0 jz0 jz1 jz2 rfl (by decide) (.slice D k C) k _ (by rfl) (T1.out.kept (below_alloc1 V1 (.cells #[.string (LB k), .slice (some ⟨gb, 0, none⟩) (LN k) Cb] 38))).row ⟨V1.heap.size, 0, none⟩ 1 1 [.string (LB k), .slice (some ⟨gb, 0, none⟩) (LN k) Cb] (by rfl) rfl (two_new rfl) (by simp [Value.oneCell']) (by decide) Z5.out Z6.out (Nat.le_trans (Nat.le_trans hz HV1.out.size) (by simp)) _ rfl ?_
        intro g2 C2 V2 hown2 hgr2 hat2 hlt2
        have HV2 := Lib.hid (HV1.out.trans (rown.under T1.out.row (Nat.le_trans hz HV1.out.size) hgr2))
        have T2 := Lib.hid (T1.out.push HF.out (fun i hi => by have h1 := (HT.out.lt hi).2; have h2 : wr.heap.size ≤ gb := HG.out; omega) hgr2 hown2)
        have hk2 := HS.out V2 HV2.out
        have O2 := Lib.hid (OW.put HO.out HV2.out g2 (k + 1) C2)
        have T3 := Lib.hid (T2.out.set (show w.heap.size + 1 < w.heap.size + 2 by omega) (q := 1) (.slice (some ⟨g2, 0, none⟩) (k + 1) C2))
        have hn2 : ∀ (p : Addr), p.block < w.heap.size → (V2.setCell ⟨w.heap.size + 1, 1, none⟩ (.slice (some ⟨g2, 0, none⟩) (k + 1) C2)).cell? p = V2.cell? p := fun p hp => World.cell?_of_block (Below.heap_setCell _ _ _ _ (by simp; omega))
        have hk3 : (V2.setCell ⟨w.heap.size + 1, 1, none⟩ (.slice (some ⟨g2, 0, none⟩) (k + 1) C2)).cell? ⟨g, og + x * 2, none⟩ = some (.string (LB k)) ∧ (V2.setCell ⟨w.heap.size + 1, 1, none⟩ (.slice (some ⟨g2, 0, none⟩) (k + 1) C2)).cell? ⟨g, og + x * 2 + 1, none⟩ = some (.slice (some ⟨ga, oa, none⟩) (LN k) cA) ∧ (V2.setCell ⟨w.heap.size + 1, 1, none⟩ (.slice (some ⟨g2, 0, none⟩) (k + 1) C2)).frozen? ⟨w.heap.size + 1, 1, none⟩ = false := ⟨(hn2 _ hg).trans hk2.2.1, (hn2 _ hg).trans hk2.2.2.1, unfrozen_of_block O2.out.b5 1⟩
        obtain ⟨k21, k22, k23, k24⟩ := id hk2
        clear hown2 hgr2 hat2 hn2
        simp only [Act.put, List.setIfInBounds_toArray, List.set_cons_zero, List.set_cons_succ]
        refine hK'.out _ _ hk2.2 (fun _ => hk2.1) ?_
        clear hK'
        refine rnd.wpAnyU_one (i := 15) (by kernel_rfl) rfl (fun K' hK' => ?_)
        go_simp
        refine hK'.out _ _ hk2.2 (fun _ => hk2.1) ?_
        clear hK'
        refine rnd.wpAnyU_one (i := 16) (by kernel_rfl) rfl (fun K' hK' => ?_)
        go_simp
        refine hK'.out _ _ hk3 (fun h => absurd rfl h) ?_
        clear hK'
        refine rnd.wpAnyU_done (by kernel_rfl) ?_ _
        clear hk hkd hke hk1 hk1a hk2 hk3 T2 HV2 HS k21 k22 k23 k24
        go_wp2
        go_roundw
        case rel => exact ⟨x + 1, some ⟨g2, 0, none⟩, C2, _, _, hx1, by go_num, Lib.hid (by rw [HN.out]; exact O2.out), Lib.hid (by rw [HN.out]; exact T3.out)⟩
        case measure => simp [intOf]; omega
    · have hxn : ¬ (x : Int) < (n : Int) := by omega
      obtain rfl : x = n := by omega
      have e5 := HO.out.b5
      have s0 : wr.cell? ⟨w.heap.size + 1, 0, none⟩ = some (.int .i64 band) := by rw [cell_of_block e5]; rfl
      have s1 : wr.cell? ⟨w.heap.size + 1, 1, none⟩ = some (.slice D (K x) C) := by rw [cell_of_block e5]; rfl
      have e4 := HO.out.b4
      have f0 := unfrozen_of_block e4 0
      have f1 := unfrozen_of_block e4 1
      have s2 : wr.cell? ⟨w.heap.size, 0, none⟩ = some (.int .i64 0) := by rw [cell_of_block e4]; rfl
      have s3 : wr.cell? ⟨w.heap.size, 1, none⟩ = some (.slice none 0 0) := by rw [cell_of_block e4]; rfl
      have BB := Lib.hid ((HB.out.setCell (p := ⟨w.heap.size, 0, none⟩) (Nat.le_refl _) (.int .i64 band)).setCell (p := ⟨w.heap.size, 1, none⟩) (Nat.le_refl _) (.slice D (K x) C))
      have T3 := Lib.hid ((HT.out.set (show w.heap.size < w.heap.size + 2 by omega) (q := 0) (.int .i64 band)).set (show w.heap.size < w.heap.size + 2 by omega) (q := 1) (.slice D (K x) C))
      clear hlt HT HB
      go_wp2
      refine bodyPost_ret (v := .agg #[.int .i64 band, .slice D (K x) C]) (by simp [results, Try.results19, go_sem, s0, s1, s2, s3]) rfl ⟨D, C, rfl, ⟨gi, ci, T3.out⟩, BB.out⟩
end Go.Proofs.Ytghaddpicedenaa.tmp
