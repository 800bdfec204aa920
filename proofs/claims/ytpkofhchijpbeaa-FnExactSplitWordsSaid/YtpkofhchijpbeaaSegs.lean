/-
  Proved: the document's function that splits a text into its words gives the parts between blanks that are not empty (contracts of callees of the law on SplitWords).
  Conditions: none.
-/
import Derived.Test.YtpkofhchijpbeaaStrs
import Derived.Deep.AppendLies
import Derived.OwnWalk
import Derived.Maps.AppendAt
namespace Go.Proofs.Ytpkofhchijpbeaa.words
open Go.ChangeShapes Go.WideShapes Go.ChangeAt Go.RowKit Go.Joins
open Go.Proofs.Ytpkofhchijpbeaa.strs
set_option linter.unusedVariables false

/-- The parts of the first i bytes, and where the next one begins. -/
def sp (s : ByteArray) : Nat → List (Nat × Nat) × Nat
  | 0 => ([], 0)
  | i + 1 => if (s.get! i).toNat = 32 then ((sp s i).1 ++ [((sp s i).2, i)], i + 1) else sp s i
theorem sp_le (s : ByteArray) (i : Nat) : (sp s i).2 ≤ i ∧ ∀ x ∈ (sp s i).1, x.1 ≤ x.2 ∧ x.2 ≤ i := by
  induction i with
  | zero => simp [sp]
  | succ i ih =>
    unfold sp
    split
    · refine ⟨Nat.le_refl _, fun x hx => ?_⟩
      rw [List.mem_append, List.mem_singleton] at hx
      rcases hx with hx | rfl
      · have := ih.2 x hx
        omega
      · exact ⟨ih.1, by simp⟩
    · refine ⟨by omega, fun x hx => ?_⟩
      have := ih.2 x hx
      omega
def segs (s : ByteArray) : List (Nat × Nat) := (sp s s.size).1 ++ [((sp s s.size).2, s.size)]
theorem segs_le (s : ByteArray) : ∀ x ∈ segs s, x.1 ≤ x.2 ∧ x.2 ≤ s.size := by
  intro x hx
  unfold segs at hx
  rw [List.mem_append, List.mem_singleton] at hx
  rcases hx with hx | rfl
  · exact (sp_le s s.size).2 x hx
  · exact ⟨(sp_le s s.size).1, Nat.le_refl _⟩
def cuts (s : ByteArray) : List ByteArray := (segs s).map fun x => s.extract x.1 x.2
def wordsOf (s : ByteArray) : List ByteArray := (cuts s).filter fun t => decide (t.size ≠ 0)

theorem get_eq (s : ByteArray) (j : Nat) (h : j < s.size) : s.get! j = s[j]'h := by
  obtain ⟨a⟩ := s
  exact getElem!_pos a j h

theorem infoString : (Try.prog.info? 9).map (fun i => (i.zero, i.size, i.bytes)) = some (some (.string ⟨#[]⟩), 1, 16) := by kernel_rfl
theorem add_zero (g j : Nat) : (⟨g, 0, none⟩ : Addr).add j = ⟨g, j, none⟩ := by unfold Addr.add; split <;> simp_all
theorem one_new {w : World} {v : Value} : ∀ j u, [v][j]? = some u → (w.alloc (.cells #[v] 9)).cell? ((⟨w.heap.size, 0, none⟩ : Addr).add j) = some u := by
  intro j u hu
  rw [add_zero]
  match j, hu with
  | 0, hu => simp at hu; subst hu; simp
theorem empty_row (w : World) : (w.alloc (.cells #[] 9)).ownsRow w.heap.size 9 1 (.slice (some ⟨w.heap.size, 0, none⟩) 0 0) 0 [] :=
  ⟨by simp, .inr ⟨w.heap.size, 0, #[], rfl, Nat.le_refl _, heap_alloc_new _ _, Nat.le_refl _, by simp [maxLen], by simp, by simp⟩⟩
theorem ownsRow_block {w : World} {base : Nat} {e : TypeId} {size : Nat} {v : Value} {n : Nat} {xs : List Value} (h : w.ownsRow base e size v n xs) {g : Nat} (hg : v.ownBlock = some g) : base ≤ g ∧ ∃ cur, w.heap[g]? = some (.cells cur e (0, 0)) := by
  obtain ⟨hl, h⟩ := h
  rcases h with ⟨rfl, _⟩ | ⟨g', cap, cur, rfl, h1, h2, h3⟩
  · cases hg
  · injection hg with hg
    subst hg
    exact ⟨h1, cur, h2⟩
theorem ownsRow_same {w w' : World} {base : Nat} {e : TypeId} {size : Nat} {v : Value} {n : Nat} {xs : List Value} (h : w.ownsRow base e size v n xs) (hb : ∀ g, v.ownBlock = some g → w'.heap[g]? = w.heap[g]?) : w'.ownsRow base e size v n xs := by
  obtain ⟨hl, h⟩ := h
  refine ⟨hl, ?_⟩
  rcases h with h | ⟨g, cap, cur, hv, h1, h2, h3⟩
  · exact .inl h
  · exact .inr ⟨g, cap, cur, hv, h1, (hb g (by rw [hv]; rfl)).trans h2, h3⟩
theorem ownsRow_kept {w w' : World} {base : Nat} {e : TypeId} {size : Nat} {v : Value} {n : Nat} {xs : List Value} (h : w.ownsRow base e size v n xs) (hb : Below w.heap.size w w') : w'.ownsRow base e size v n xs :=
  ownsRow_same h fun g hg => by
    obtain ⟨_, cur, hc⟩ := ownsRow_block h hg
    exact hb.block _ (Array.getElem?_eq_some_iff.1 hc).1
theorem under {W W' : World} {base n : Nat} {o : Obj} {v : Value} {xs : List Value} (hown : W.ownsRow base 9 1 v n xs) (hbz : base ≤ W.heap.size) (hgr : (W.alloc o).grownBy W' v.ownBlock) : Below base W W' := by
  have hz := hgr.size
  simp at hz
  refine ⟨hgr.os, hgr.tape, hgr.output, by omega, fun j hj => ?_⟩
  rw [hgr.block j (by simp; omega) ?_, Below.heap_alloc _ _ _ (by omega)]
  intro e
  have := (ownsRow_block hown e.symm).1
  omega

set_option maxRecDepth 100000 in
set_option maxHeartbeats 4000000 in
theorem l01Split_calls (s : ByteArray) (w : World) (hs : s.size ≤ 1048576) :
    Calls Try.prog 19 #[.string s, .int .u8 32] w fun e w' => ∃ g c, e = .returned (.slice (some ⟨g, 0, none⟩) (cuts s).length c) ∧ w'.ownsRow w.heap.size 9 1 (.slice (some ⟨g, 0, none⟩) (cuts s).length c) (cuts s).length ((cuts s).map Value.string) ∧ Below w.heap.size w w' := by
  obtain ⟨i0, hi0, hz0, hz1, hz2⟩ := info_parts infoString
  go_enter Try.func19, Try.ntmps19
  go_wp2
  go_loopw [5, 6, 7] (fun o fr i w' => ∃ (j m g c : Nat), j ≤ s.size ∧ i = .int .i64 (j : Int) ∧ fr = .int .i64 ((sp s j).2 : Int) ∧ (sp s j).1.length = m ∧ m ≤ j ∧ o = .slice (some ⟨g, 0, none⟩) m c ∧ Hid (w'.ownsRow w.heap.size 9 1 (.slice (some ⟨g, 0, none⟩) m c) m ((sp s j).1.map fun x => Value.string (s.extract x.1 x.2))) ∧ Hid (Below w.heap.size w w')) (fun _ _ i _ => s.size - (intOf i).toNat)
  case atStart => exact ⟨0, 0, _, _, Nat.zero_le _, rfl, rfl, rfl, Nat.le_refl _, rfl, Lib.hid (by simpa [sp] using empty_row w), Lib.hid (below_alloc1 _ _)⟩
  case round =>
    obtain ⟨j, m, g, c, hj, rfl, rfl, hm, hmj, rfl, HO, HB⟩ := hrel
    have hle := (sp_le s j).1
    have HM := Lib.hid hm
    clear hm
    by_cases hlt : j < s.size
    · have hli : (j : Int) < (s.size : Int) := by omega
      have hge := get_eq s j hlt
      by_cases hb : (s.get! j).toNat = 32
      · have HSP := Lib.hid (show sp s (j + 1) = ((sp s j).1 ++ [((sp s j).2, j)], j + 1) by conv => lhs; unfold sp; rw [if_pos hb])
        have hbg : s[j]'hlt = 32 := by
          rw [← hge]
          exact UInt8.toNat_inj.1 hb
        clear hge
        generalize hfr : (sp s j).2 = fr at hle HSP
        have i1 : (fr : Int) ≤ (j : Int) := by omega
        have i2 : (j : Int) ≤ (s.size : Int) := by omega
        go_wp2_with (first
          | (at_builtin
             have z0 := ownsRow_kept HO.out (below_alloc1 wr (.cells #[.string (s.extract fr j)] 9))
             have z1 := one_new (w := wr) (v := .string (s.extract fr j))
             have z2 : ∀ u ∈ [Value.string (s.extract fr j)], u.oneCell' = true := (by simp [Value.oneCell'])
             have z3 : m + 1 ≤ maxLen := (by simp only [maxLen]; omega)
             have z4 : (m + 1) * 16 ≤ 140737488355328 := (by omega)
             have z5 : w.heap.size ≤ (wr.alloc (.cells #[.string (s.extract fr j)] 9)).heap.size := (Nat.le_trans HB.out.size (by simp))
             refine wpList_append_lies (wr.alloc (.cells #[.string (s.extract fr j)] 9)) rfl (.tmp 20) (.tmp 25) 23 rfl w.heap.size 9 i0 (.string ⟨#[]⟩) 1 16 Try.underlying23 hi0 hz0 hz1 hz2 rfl (by decide) (.slice (some ⟨g, 0, none⟩) m c) m _ rfl z0 ⟨wr.heap.size, 0, none⟩ 1 1 [.string (s.extract fr j)] rfl rfl z1 z2 (by decide) z3 z4 z5 _ rfl ?_
             intro g3 cap3 w3 hown hgr hat hlt3
             have HO3 := Lib.hid hown
             have HB3 := Lib.hid (HB.out.trans (under HO.out HB.out.size hgr))
             clear hown hgr hat))
        go_roundw
        case rel =>
          refine ⟨j + 1, m + 1, g3, cap3, by omega, by go_num, by rw [HSP.out]; go_num, by rw [HSP.out]; simp [HM.out], by omega, rfl, Lib.hid ?_, HB3⟩
          rw [HSP.out]
          simpa using HO3.out
        case measure => simp [intOf]; omega
      · have HSP := Lib.hid (show sp s (j + 1) = sp s j by conv => lhs; unfold sp; rw [if_neg hb])
        have hbg : ¬ s[j]'hlt = 32 := by
          rw [← hge]
          intro h
          exact hb (by rw [h]; rfl)
        have hbi : ¬ ((s[j]'hlt).toNat : Int) = 32 := by
          rw [← hge]
          omega
        clear hge
        generalize hfr : (sp s j).2 = fr at hle
        have HFR := Lib.hid hfr
        clear hfr
        go_wp2
        go_roundw
        case rel => exact ⟨j + 1, m, g, c, by omega, by go_num, by rw [HSP.out, HFR.out], by rw [HSP.out]; exact HM.out, by omega, rfl, by rw [HSP.out]; exact HO, HB⟩
        case measure => simp [intOf]; omega
    · obtain rfl : j = s.size := by omega
      have HCL := Lib.hid (show (cuts s).length = m + 1 by simp [cuts, segs, HM.out])
      have HCU := Lib.hid (show (cuts s).map Value.string = ((sp s s.size).1.map fun x => Value.string (s.extract x.1 x.2)) ++ [.string (s.extract (sp s s.size).2 s.size)] by simp [cuts, segs])
      generalize hfr : (sp s s.size).2 = fr at hle HCU
      have i1 : (fr : Int) ≤ (s.size : Int) := by omega
      go_wp2_with (first
        | (at_builtin
           have z0 := ownsRow_kept HO.out (below_alloc1 wr (.cells #[.string (s.extract fr s.size)] 9))
           have z1 := one_new (w := wr) (v := .string (s.extract fr s.size))
           have z2 : ∀ u ∈ [Value.string (s.extract fr s.size)], u.oneCell' = true := (by simp [Value.oneCell'])
           have z3 : m + 1 ≤ maxLen := (by simp only [maxLen]; omega)
           have z4 : (m + 1) * 16 ≤ 140737488355328 := (by omega)
           have z5 : w.heap.size ≤ (wr.alloc (.cells #[.string (s.extract fr s.size)] 9)).heap.size := (Nat.le_trans HB.out.size (by simp))
           refine wpList_append_lies (wr.alloc (.cells #[.string (s.extract fr s.size)] 9)) rfl (.tmp 29) (.tmp 33) 23 rfl w.heap.size 9 i0 (.string ⟨#[]⟩) 1 16 Try.underlying23 hi0 hz0 hz1 hz2 rfl (by decide) (.slice (some ⟨g, 0, none⟩) m c) m _ rfl z0 ⟨wr.heap.size, 0, none⟩ 1 1 [.string (s.extract fr s.size)] rfl rfl z1 z2 (by decide) z3 z4 z5 _ rfl ?_
           intro g3 cap3 w3 hown hgr hat hlt3
           have HO3 := Lib.hid hown
           have HB3 := Lib.hid (HB.out.trans (under HO.out HB.out.size hgr))
           clear hown hgr hat))
      exact bodyPost_ret (v := .slice (some ⟨g3, 0, none⟩) (m + 1) cap3) (by simp [results, Try.results19, go_sem]) rfl ⟨g3, cap3, by rw [HCL.out], by rw [HCU.out, HCL.out]; exact HO3.out, HB3.out⟩

theorem cuts_size (s : ByteArray) : (cuts s).length ≤ s.size + 1 := by
  have h : ∀ i, (sp s i).1.length ≤ i := by
    intro i
    induction i with
    | zero => simp [sp]
    | succ i ih =>
      unfold sp
      split
      · simp; omega
      · omega
  have := h s.size
  simp [cuts, segs]
  omega
theorem row_cell {w : World} {base g n c : Nat} {L : List ByteArray} (h : w.ownsRow base 9 1 (.slice (some ⟨g, 0, none⟩) n c) n (L.map Value.string)) {i : Nat} {t : ByteArray} (hi : L[i]? = some t) (hn : L.length = n) : w.cell? ⟨g, i, none⟩ = some (.string t) ∧ g < w.heap.size := by
  obtain ⟨hl, h⟩ := h
  rcases h with ⟨h, _⟩ | ⟨g', cap, cur, hv, h1, h2, h3, h4, h5, h6⟩
  · cases h
  · injection hv with hv
    injection hv with hv
    injection hv with hv
    subst hv
    refine ⟨?_, (Array.getElem?_eq_some_iff.1 h2).1⟩
    have hlt : i < n := by have := (List.getElem?_eq_some_iff.1 hi).1; omega
    have e : (L.map Value.string)[i]? = some (.string t) := by simp [hi]
    rw [← h6, List.getElem?_take, if_pos (by omega)] at e
    rw [cell_of_block h2]
    simpa using e

set_option maxRecDepth 100000 in
set_option maxHeartbeats 4000000 in
theorem specSplit_calls (s : ByteArray) (w : World) (hs : s.size ≤ 1048576) :
    Calls Try.prog 8 #[.string s] w fun e w' => ∃ g c, e = .returned (.slice (some ⟨g, 0, none⟩) (wordsOf s).length c) ∧ w'.ownsRow w.heap.size 9 1 (.slice (some ⟨g, 0, none⟩) (wordsOf s).length c) (wordsOf s).length ((wordsOf s).map Value.string) ∧ Below w.heap.size w w' := by
  obtain ⟨i0, hi0, hz0, hz1, hz2⟩ := info_parts infoString
  go_enter Try.func8, Try.ntmps8
  go_wp2_with fail
  refine (l01Split_calls s _ hs).mono ?_
  rintro e w1 ⟨gl, cl, rfl, hl, hb1⟩
  have HL := Lib.hid hl
  have HB1 := Lib.hid hb1
  have hcz := cuts_size s
  obtain ⟨n, hn⟩ : ∃ n, (cuts s).length = n := ⟨_, rfl⟩
  rw [hn] at hcz
  have HN := Lib.hid hn
  rw [hn] at HL
  rw [hn]
  clear hl hb1 hn
  go_wp2
  go_loopw [4, 5] (fun o i w' => ∃ (j m g c : Nat), j ≤ n ∧ i = .int .i64 (j : Int) ∧ m ≤ j ∧ o = .slice (some ⟨g, 0, none⟩) m c ∧ Hid ((((cuts s).take j).filter fun t => decide (t.size ≠ 0)).length = m) ∧ Hid (w'.ownsRow w1.heap.size 9 1 (.slice (some ⟨g, 0, none⟩) m c) m ((((cuts s).take j).filter fun t => decide (t.size ≠ 0)).map Value.string)) ∧ Hid (Below w1.heap.size w1 w')) (fun _ i _ => n - (intOf i).toNat)
  case atStart => exact ⟨0, 0, _, _, Nat.zero_le _, rfl, Nat.le_refl _, rfl, Lib.hid (by simp), Lib.hid (by simpa using empty_row w1), Lib.hid (below_alloc1 _ _)⟩
  case round =>
    obtain ⟨j, m, g, c, hj, rfl, hmj, rfl, HM, HO, HB⟩ := hrel
    by_cases hlt : j < n
    · have hli : (j : Int) < (n : Int) := by omega
      have hjl : j < (cuts s).length := by rw [HN.out]; exact hlt
      have hk := List.getElem?_eq_getElem hjl
      obtain ⟨pc, pz⟩ := row_cell HL.out hk HN.out
      have pc' := (HB.out.cell (p := ⟨gl, j, none⟩) pz).trans pc
      have pz' : gl < wr.heap.size := Nat.lt_of_lt_of_le pz HB.out.size
      generalize (cuts s)[j] = t at hk pc'
      have HK := Lib.hid (show (cuts s).take (j + 1) = (cuts s).take j ++ [t] by rw [List.take_add_one, hk]; rfl)
      clear hk pc
      by_cases ht : t.size = 0
      · obtain rfl : t = ⟨#[]⟩ := by
          obtain ⟨a⟩ := t
          have : a = #[] := Array.eq_empty_of_size_eq_zero ht
          subst this; rfl
        have HF := Lib.hid (show ((cuts s).take (j + 1)).filter (fun t => decide (t.size ≠ 0)) = ((cuts s).take j).filter (fun t => decide (t.size ≠ 0)) by rw [HK.out, List.filter_append, List.filter_cons_of_neg (by rw [ht]; decide), List.filter_nil, List.append_nil])
        go_wp2
        go_roundw
        case rel => exact ⟨j + 1, m, g, c, by omega, by go_num, by omega, rfl, Lib.hid (by rw [HF.out]; exact HM.out), Lib.hid (by rw [HF.out]; exact HO.out), HB⟩
        case measure => simp [intOf]; omega
      · have HF := Lib.hid (show ((cuts s).take (j + 1)).filter (fun t => decide (t.size ≠ 0)) = ((cuts s).take j).filter (fun t => decide (t.size ≠ 0)) ++ [t] by rw [HK.out, List.filter_append, List.filter_cons_of_pos (by exact decide_eq_true ht), List.filter_nil])
        have htn : ¬ t = ⟨#[]⟩ := fun h => ht (by rw [h]; rfl)
        have htl : t.toList ≠ [] := by
          intro h
          rw [ByteArray.toList_eq] at h
          have h2 := congrArg List.length h
          rw [Array.length_toList] at h2
          exact ht h2
        have htb : (t.toList == []) = false := by simpa using htl
        go_wp2_with (first
          | (at_builtin
             have z0 := ownsRow_kept HO.out (below_alloc1 wr (.cells #[.string t] 9))
             have z2 : ∀ u ∈ [Value.string t], u.oneCell' = true := (by simp [Value.oneCell'])
             have z3 : m + 1 ≤ maxLen := (by simp only [maxLen]; omega)
             have z4 : (m + 1) * 16 ≤ 140737488355328 := (by omega)
             have z5 : w1.heap.size ≤ (wr.alloc (.cells #[.string t] 9)).heap.size := (Nat.le_trans HB.out.size (by simp))
             refine wpList_append_lies (wr.alloc (.cells #[.string t] 9)) rfl (.tmp 20) (.tmp 25) 23 rfl w1.heap.size 9 i0 (.string ⟨#[]⟩) 1 16 Try.underlying23 hi0 hz0 hz1 hz2 rfl (by decide) (.slice (some ⟨g, 0, none⟩) m c) m _ rfl z0 ⟨wr.heap.size, 0, none⟩ 1 1 [.string t] rfl rfl one_new z2 (by decide) z3 z4 z5 _ rfl ?_
             intro g3 cap3 w3 hown hgr hat hlt3
             have HO3 := Lib.hid hown
             have HB3 := Lib.hid (HB.out.trans (under HO.out HB.out.size hgr))
             clear hown hgr hat z0 z2 z3 z4 z5))
        go_roundw
        case rel => exact ⟨j + 1, m + 1, g3, cap3, by omega, by go_num, by omega, rfl, Lib.hid (by rw [HF.out, List.length_append, HM.out]; rfl), Lib.hid (by rw [HF.out, List.map_append]; exact HO3.out), HB3⟩
        case measure => simp [intOf]; omega
    · obtain rfl : j = n := by omega
      have HT := Lib.hid (show ((cuts s).take j).filter (fun t => decide (t.size ≠ 0)) = wordsOf s by rw [List.take_of_length_le (by rw [HN.out]; exact Nat.le_refl _)]; rfl)
      have HF := Lib.hid (HB1.out.trans (HB.out.mono HB1.out.size))
      rw [HT.out] at HM HO
      go_wp2
      go_ret
      refine ⟨g, c, by rw [HM.out]; rfl, ?_, HF.out⟩
      rw [HM.out]
      obtain ⟨hl, ho⟩ := HO.out
      refine ⟨hl, ?_⟩
      rcases ho with ho | ⟨k, cap, cur, hv, h1, h2⟩
      · exact .inl ho
      · exact .inr ⟨k, cap, cur, hv, Nat.le_trans HB1.out.size h1, h2⟩
end Go.Proofs.Ytpkofhchijpbeaa.words
