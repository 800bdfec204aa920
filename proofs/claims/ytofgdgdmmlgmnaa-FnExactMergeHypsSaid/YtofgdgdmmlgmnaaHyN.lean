/-
  Proved: the document's function that puts a hypothesis in its place returns the list with it, in memory of its own.
  Conditions: the list is memory of one's own, and not long.
-/
import Derived.Test.YtofgdgdmmlgmnaaHyP
import Derived.Test.YtofgdgdmmlgmnaaHyK
import Derived.Test.YtofgdgdmmlgmnaaHyG
namespace Go.Proofs.Ytofgdgdmmlgmnaa.hyp
open Go.ChangeShapes Go.WideShapes Go.ChangeAt Go.RowKit Go.Joins
open Go.Proofs.Ytofgdgdmmlgmnaa.core Go.Proofs.Ytofgdgdmmlgmnaa.rown Go.Proofs.Ytofgdgdmmlgmnaa.stk Go.Proofs.Ytofgdgdmmlgmnaa.boxed Go.Proofs.Ytofgdgdmmlgmnaa.ft Go.Proofs.Ytofgdgdmmlgmnaa.lab
set_option linter.unusedVariables false
set_option linter.unusedSimpArgs false
theorem take_one {l : List Hy} {k : Nat} (hk : k < l.length) : l.take (k + 1) = l.take k ++ [atH l k] := by
  rw [List.take_add_one, List.getElem?_eq_getElem hk, atH_get hk]; rfl
theorem own_cap {w : World} {base E k n g c : Nat} {xs : List Value} (h : w.ownsRow base E k (.slice (some ⟨g, 0, none⟩) n c) n xs) : n ≤ c := by
  obtain ⟨-, h⟩ := h
  rcases h with ⟨h, _⟩ | ⟨g', cap, cur, e, h1, h2, h3, h4⟩
  · cases h
  · cases e; exact h3
theorem hy_ones (f : Nat → Hy) : ∀ n, ∀ u ∈ rws (hyR f) n, u.oneCell' = true
  | 0, u, hu => by simp [rws] at hu
  | n + 1, u, hu => by
    rw [rws] at hu
    rcases List.mem_append.1 hu with h | h
    · exact hy_ones f n u h
    · simp [hyR] at h
      rcases h with rfl | rfl <;> rfl
theorem cls_of (l : List Hy) (f : Nat → Hy) (n : Nat) (h : l.length = n) (hf : ∀ i, i < n → atH l i = f i) : cls l = rws (hyR f) n := by
  unfold cls
  rw [h]
  exact rws_ext hf
theorem ins_split {G r : List Hy} {h : Hy} {P m : Nat} {s : ByteArray} {d : Int} (hs : h.1 = s) (hd : h.2 = d) (hm : G.length = m) (hP : P ≤ m) (hr : r = G.take P ++ [h] ++ G.drop P) :
    r.length = P + 1 + (m - P) ∧ cls r = (rws (hyR (atH G)) P ++ [.string s, .int .i64 d]) ++ rws (hyR fun i => atH G (P + i)) (m - P) := by
  subst hr hs hd
  have h1 : (G.take P).length = P := by simp; omega
  have h2 : (G.drop P).length = m - P := by simp; omega
  refine ⟨by simp; omega, ?_⟩
  rw [cls_app, cls_snoc]
  congr 1
  · rw [cls_of (G.take P) (atH G) P h1 fun i hi => by
      unfold atH
      rw [List.getD_eq_getElem?_getD, List.getD_eq_getElem?_getD, List.getElem?_take_of_lt hi]]
  · exact cls_of (G.drop P) _ (m - P) h2 fun i hi => by
      unfold atH
      rw [List.getD_eq_getElem?_getD, List.getD_eq_getElem?_getD, List.getElem?_drop]
theorem ins_zero {G r : List Hy} {h : Hy} {m : Nat} {s : ByteArray} {d : Int} (hsd : h.1 = s ∧ h.2 = d) (hm : G.length = m) (hr : r = G.take 0 ++ [h] ++ G.drop 0) :
    r.length = 0 + 1 + m ∧ cls r = ([] ++ [.string s, .int .i64 d]) ++ rws (hyR (atH G)) m := by
  have h1 := ins_split hsd.1 hsd.2 hm (Nat.zero_le _) hr
  refine ⟨by omega, ?_⟩
  rw [h1.2, Nat.sub_zero]
  simp only [Nat.zero_add]
  rfl
theorem row_tail {w : World} {base E n g c : Nat} {f : Nat → Hy} (h : w.ownsRow base E 2 (.slice (some ⟨g, 0, none⟩) n c) n (rws (hyR f) n)) (j : Nat) (hj : j ≤ n) :
    ∀ i u, (rws (hyR fun i => f (j + i)) (n - j))[i]? = some u → w.cell? ((⟨g, j * 2, none⟩ : Addr).add i) = some u := fun i u hu => by
  have hlen := rws_len (hyR_len fun i => f (j + i)) (n - j)
  have hi : i < (n - j) * 2 := by
    have := (List.getElem?_eq_some_iff.1 hu).1
    omega
  have h2 := rws_get (hyR_len fun i => f (j + i)) (i / 2) (i % 2) (by omega) (n - j) (by omega)
  rw [show i / 2 * 2 + i % 2 = i by omega, hu] at h2
  have h3 := row_cell h (hyR_len f) (i := j + i / 2) (j := i % 2) (by omega) (by omega) h2.symm
  have e : (⟨g, j * 2, none⟩ : Addr).add i = ⟨g, (j + i / 2) * 2 + i % 2, none⟩ := by
    have e1 : (⟨g, j * 2, none⟩ : Addr).add i = ⟨g, j * 2 + i, none⟩ := by unfold Addr.add; split <;> simp_all
    rw [e1, show j * 2 + i = (j + i / 2) * 2 + i % 2 by omega]
  rw [e]
  exact h3
theorem str_neT {s t : ByteArray} (h : s ≠ t) : (s.toList != t.toList) = true := by
  have : (s.toList == t.toList) = false := by rw [beq_eq_false_iff_ne]; exact fun e => h (toList_inj e)
  simp [bne, this]
set_option maxRecDepth 100000 in
set_option maxHeartbeats 16000000 in
theorem insS {base c : Nat} (l : List Hy) (h : Hy) (A : Option Addr) (w : World) (hn : l.length ≤ 1000) (hbs : base ≤ w.heap.size) (hrow : w.ownsRow base 40 2 (.slice A l.length c) l.length (cls l)) :
    Calls Try.prog 53 #[.slice A l.length c, .agg #[.string h.1, .int .i64 h.2]] w fun e w' => ∃ A' c', e = .returned (.slice A' (ins l h).length c') ∧ w'.ownsRow base 40 2 (.slice A' (ins l h).length c') (ins l h).length (cls (ins l h)) ∧ Below w.heap.size w w' := by
  obtain ⟨i0, hi0, hz0, hz1, hz2⟩ := rown.info_get infoH
  obtain ⟨A1, c1, e1, hat⟩ := hy_row hrow
  injection e1 with e1 _ e2
  subst e1 e2
  have HROW := Lib.hid hrow
  have HP := Lib.hid hat
  have BL := Lib.hid (below_alloc1 w (.cells #[.string h.1, .int .i64 h.2] 40))
  have KB := Lib.hid (heap_alloc_new w (.cells #[.string h.1, .int .i64 h.2] 40))
  have R0 := Lib.hid (rown.empty_row (w.alloc (.cells #[.string h.1, .int .i64 h.2] 40)) 40 2)
  rw [show (w.alloc (.cells #[.string h.1, .int .i64 h.2] 40)).heap.size = w.heap.size + 1 by simp] at R0
  have B0 := Lib.hid (BL.out.alloc BL.out.size (.cells #[] 40))
  have KB0 := Lib.hid ((below_alloc1 (w.alloc (.cells #[.string h.1, .int .i64 h.2] 40)) (.cells #[] 40)).block w.heap.size (by simp) |>.trans KB.out)
  obtain ⟨n, hln⟩ : ∃ n, l.length = n := ⟨_, rfl⟩
  have HLN := Lib.hid hln
  have HINS := Lib.hid (show ∀ v w', (∃ A' c', v = Value.slice A' (ins l h).length c' ∧ w'.ownsRow base 40 2 (.slice A' (ins l h).length c') (ins l h).length (cls (ins l h)) ∧ Below w.heap.size w w') → (∃ A' c', Ending.returned v = .returned (.slice A' (ins l h).length c') ∧ w'.ownsRow base 40 2 (.slice A' (ins l h).length c') (ins l h).length (cls (ins l h)) ∧ Below w.heap.size w w') from fun v w' ⟨A', c', a, b, d⟩ => ⟨A', c', by rw [a], b, d⟩)
  rw [hln] at hn HP ⊢
  clear hrow hat hln BL KB
  obtain ⟨s, hs⟩ : ∃ s, h.1 = s := ⟨_, rfl⟩
  obtain ⟨d, hd⟩ : ∃ d, h.2 = d := ⟨_, rfl⟩
  have HS := Lib.hid hs
  have HD := Lib.hid hd
  rw [hs, hd] at R0 B0 KB0 ⊢
  clear hs hd
  go_enter Try.func53, Try.ntmps53
  go_wp2
  go_loopw [5, 6] (fun out i w' => ∃ (k m g q : Nat), k ≤ n ∧ m ≤ k ∧ i = .int .i64 (k : Int) ∧ out = .slice (some ⟨g, 0, none⟩) m q ∧ Hid ((oth (l.take k) s).length = m) ∧ Hid (∀ p ∈ l.take k, ¬ (p.1 = s ∧ p.2 ≤ d)) ∧ Hid (w'.ownsRow (w.heap.size + 1) 40 2 (.slice (some ⟨g, 0, none⟩) m q) m (cls (oth (l.take k) s))) ∧ Hid (w'.heap[w.heap.size]? = some (.cells #[.string s, .int .i64 d] 40 (0, 0))) ∧ Hid (Below w.heap.size w w')) (fun _ i _ => n - (intOf i).toNat)
  case atStart => exact ⟨0, 0, _, _, Nat.zero_le _, Nat.le_refl _, rfl, rfl, Lib.hid rfl, Lib.hid (fun p hp => by simp at hp), R0, KB0, B0⟩
  case round =>
    obtain ⟨k, m, g, q, hk, hmk, rfl, rfl, HM, HE, HR, HK, HB⟩ := hrel
    have hkz := (Array.getElem?_eq_some_iff.1 HK.out).1
    by_cases hlt : k < n
    · obtain ⟨b1, o1, rfl, hb1, c0, c1'⟩ := (HP.out.kept HB.out) k hlt
      have hli : (k : Int) < (n : Int) := by omega
      have b0 : wr.cell? ⟨w.heap.size, 0, none⟩ = some (.string s) := by rw [cell_of_block HK.out]; rfl
      have b1' : wr.cell? ⟨w.heap.size, 1, none⟩ = some (.int .i64 d) := by rw [cell_of_block HK.out]; rfl
      have HT := Lib.hid (take_one (l := l) (k := k) (by rw [HLN.out]; exact hlt))
      obtain ⟨x, hx⟩ : ∃ x, atH l k = x := ⟨_, rfl⟩
      obtain ⟨xs, xc⟩ := x
      rw [hx] at c0 c1' HT
      dsimp only at c0 c1'
      have HMEM := Lib.hid (show (xs, xc) ∈ l by rw [← hx, atH_get (by rw [HLN.out]; exact hlt)]; exact List.getElem_mem _)
      clear hx
      have q0 := core.cell_kept (a := ⟨b1, _, none⟩) hb1 c0
      have q1 := core.cell_kept (a := ⟨b1, _, none⟩) hb1 c1'
      have q2 := core.cell_kept (a := ⟨w.heap.size, _, none⟩) hkz b0
      have q3 := core.cell_kept (a := ⟨w.heap.size, _, none⟩) hkz b1'
      have hmix := mixedH
      by_cases e : xs = s
      · subst e
        have e2 : (xs.toList != xs.toList) = false := by simp
        have HO := Lib.hid (show oth (l.take (k + 1)) xs = oth (l.take k) xs by rw [HT.out, oth_snoc, if_pos rfl])
        have HYES := Lib.hid (fun (hc : xc ≤ d) => ins_yes (l := l) (h := h) ⟨(xs, xc), HMEM.out, HS.out.symm, by rw [HD.out]; exact hc⟩)
        have HE2 := Lib.hid (fun (hc : ¬ xc ≤ d) => (show ∀ p ∈ l.take (k + 1), ¬ (p.1 = xs ∧ p.2 ≤ d) from fun p hp => by
          rw [HT.out] at hp
          rcases List.mem_append.1 hp with hh | hh
          · exact HE.out p hh
          · simp at hh
            subst hh
            exact fun h => hc h.2))
        clear HE HT b0 b1' HMEM
        go_wp2
        refine wp_region_quiet_kept (by assumption) (by kernel_rfl) ?_
        repeat (first | go_big_quiet_step (fail) | quiet_step (fail))
        refine wpQuiet_nil ?_
        intro w2 hw'
        have hB : Below wr.heap.size wr w2 := by obtain ⟨⟨wk, hb0⟩, hw''⟩ := hw'; rw [hw'']; exact hb0
        have HB2 := Lib.hid (HB.out.trans (hB.mono HB.out.size))
        have HR2 := Lib.hid (rown.ownsRow_kept HR.out hB)
        have HK2 := Lib.hid ((hB.block _ hkz).trans HK.out)
        have hkz2 := (Array.getElem?_eq_some_iff.1 HK2.out).1
        have p1 := core.cell_kept (a := ⟨b1, _, none⟩) (Nat.lt_of_lt_of_le hb1 hB.size) ((hB.cell (p := ⟨b1, o1 + k * 2 + 1, none⟩) hb1).trans c1')
        have p2 := core.cell_kept (a := ⟨w.heap.size, 1, none⟩) hkz2 (v := .int .i64 d) (by rw [cell_of_block HK2.out]; rfl)
        clear hw' hB q0 q1 q2 q3 c0 c1' HB HR HK hb1
        by_cases hc : xc ≤ d
        · have d1 : decide (xc ≤ d) = true := decide_eq_true hc
          have HY := Lib.hid (HYES.out hc)
          clear HYES HE2
          go_wp2
          refine wp_region_quiet_kept (by assumption) (by kernel_rfl) ?_
          repeat (first | go_big_quiet_step (fail) | quiet_step (fail))
          refine wpQuiet_nil ?_
          intro w3 hw'
          have hB : Below w2.heap.size w2 w3 := by obtain ⟨⟨wk, hb0⟩, hw''⟩ := hw'; rw [hw'']; exact hb0
          have HB3 := Lib.hid (HB2.out.trans (hB.mono HB2.out.size))
          clear hw' hB p1 p2
          go_wp2
          go_ret
          refine ⟨some ⟨b1, o1, none⟩, c, ?_, ?_, HB3.out⟩
          · rw [HY.out, HLN.out]; rfl
          · rw [HY.out]; exact rown.ownsRow_same HROW.out (fun g hg => by
              have hlt := (Array.getElem?_eq_some_iff.1 (rown.ownsRow_block HROW.out hg).2.choose_spec).1
              exact HB3.out.block g hlt)
        · have d1 : decide (xc ≤ d) = false := decide_eq_false hc
          have HE3 := Lib.hid (HE2.out (by omega))
          clear HYES HE2
          go_wp2
          refine wp_region_quiet_kept (by assumption) (by kernel_rfl) ?_
          repeat (first | go_big_quiet_step (fail) | quiet_step (fail))
          refine wpQuiet_nil ?_
          intro w3 hw'
          have hB : Below w2.heap.size w2 w3 := by obtain ⟨⟨wk, hb0⟩, hw''⟩ := hw'; rw [hw'']; exact hb0
          have HB3 := Lib.hid (HB2.out.trans (hB.mono HB2.out.size))
          have HR3 := Lib.hid (rown.ownsRow_kept HR2.out hB)
          have HK3 := Lib.hid ((hB.block _ hkz2).trans HK2.out)
          clear hw' hB p1 p2
          go_wp2
          go_roundw
          case rel => exact ⟨k + 1, m, g, q, by omega, by omega, by go_num, rfl, Lib.hid (by rw [HO.out]; exact HM.out), HE3, Lib.hid (by rw [HO.out]; exact HR3.out), HK3, HB3⟩
          case measure => simp [intOf]; omega
      · have e2 := str_neT e
        have e3 : (xs.toList == s.toList) = false := by rw [beq_eq_false_iff_ne]; exact fun h => e (toList_inj h)
        have HO := Lib.hid (show oth (l.take (k + 1)) s = oth (l.take k) s ++ [(xs, xc)] by rw [HT.out, oth_snoc, if_neg e])
        have HE2 := Lib.hid (show ∀ p ∈ l.take (k + 1), ¬ (p.1 = s ∧ p.2 ≤ d) from fun p hp => by
          rw [HT.out] at hp
          rcases List.mem_append.1 hp with hh | hh
          · exact HE.out p hh
          · simp at hh
            subst hh
            exact fun h => e h.1)
        have HM2 := Lib.hid (show (oth (l.take (k + 1)) s).length = m + 1 by rw [HO.out, List.length_append, HM.out]; rfl)
        have HC := Lib.hid (show cls (oth (l.take (k + 1)) s) = cls (oth (l.take k) s) ++ [.string xs, .int .i64 xc] by rw [HO.out, cls_snoc])
        have Z3 := Lib.hid (show m + 1 ≤ maxLen by simp only [maxLen]; omega)
        have Z4 := Lib.hid (show (m + 1) * 24 ≤ 140737488355328 by omega)
        clear HE HO HM HT b0 b1' HMEM
        go_wp2
        refine wp_region_quiet_kept (by assumption) (by kernel_rfl) ?_
        repeat (first | go_big_quiet_step (fail) | quiet_step (fail))
        refine wpQuiet_nil ?_
        intro w2 hw'
        have hB : Below wr.heap.size wr w2 := by obtain ⟨⟨wk, hb0⟩, hw''⟩ := hw'; rw [hw'']; exact hb0
        have HB2 := Lib.hid (HB.out.trans (hB.mono HB.out.size))
        have HR2 := Lib.hid (rown.ownsRow_kept HR.out hB)
        have HK2 := Lib.hid ((hB.block _ hkz).trans HK.out)
        have p0 := (hB.cell (p := ⟨b1, o1 + k * 2, none⟩) hb1).trans c0
        have p1 := (hB.cell (p := ⟨b1, o1 + k * 2 + 1, none⟩) hb1).trans c1'
        have hkz2 := (Array.getElem?_eq_some_iff.1 HK2.out).1
        have hzw : w.heap.size + 1 ≤ w2.heap.size := hkz2
        clear hw' hB q0 q1 q2 q3 c0 c1' hmix HB HR HK hb1
        go_wp2_with (first
          | (at_builtin
             go_loud (refine wpList_append_lies (w2.alloc (.cells #[.string xs, .int .i64 xc] 40)) rfl _ _ 31 rfl (w.heap.size + 1) 40 i0 _ 2 24 Try.underlying31 hi0 hz0 hz1 hz2 rfl (by decide) (.slice (some ⟨g, 0, none⟩) m q) m _ rfl (rown.ownsRow_kept HR2.out (below_alloc1 _ _)) ⟨w2.heap.size, 0, none⟩ 1 1 [.string xs, .int .i64 xc] rfl rfl (two_new rfl) (by simp [Value.oneCell']) (by decide) Z3.out Z4.out (Nat.le_trans hzw (by simp)) _ rfl ?_)
             intro g3 cap3 w5 hown hgr hatl hlt3
             have HO5 := Lib.hid hown
             have HB5 := Lib.hid (HB2.out.trans ((rown.under HR2.out hzw hgr).mono (Nat.le_succ _)))
             have HK5 := Lib.hid (((rown.under HR2.out hzw hgr).block w.heap.size (Nat.lt_succ_self _)).trans HK2.out)
             clear hown hgr hatl))
        clear p0 p1 hzw hkz2
        go_wp2
        go_roundw
        case rel => exact ⟨k + 1, m + 1, g3, cap3, by omega, by omega, by go_num, rfl, HM2, HE2, Lib.hid (by rw [HC.out]; exact HO5.out), HK5, HB5⟩
        case measure => simp [intOf]; omega
    · obtain rfl : k = n := by omega
      have HTK := Lib.hid (show l.take k = l from List.take_of_length_le (by rw [HLN.out]; exact Nat.le_refl _))
      have HNO := Lib.hid (ins_no (l := l) (h := h) (fun ⟨p, hp, e, hc⟩ => HE.out p (by rw [HTK.out]; exact hp) ⟨by rw [e, HS.out], by rw [← HD.out]; exact hc⟩))
      rw [HTK.out] at HM HR
      obtain ⟨G, hG⟩ : ∃ G, oth l s = G := ⟨_, rfl⟩
      have HGG := Lib.hid (show oth l h.1 = G by rw [HS.out]; exact hG)
      rw [hG] at HM HR
      rw [HGG.out, HM.out] at HNO
      have HBX := Lib.hid (fun j => befS h (atH G j))
      have HPL := Lib.hid (show ∀ j, plc G h (j + 1) = if bef h (atH G j) = true then plc G h j else j + 1 from fun _ => rfl)
      have HP0 := Lib.hid (show plc G h 0 = 0 from rfl)
      obtain ⟨P, hPP⟩ : ∃ P, plc G h m = P := ⟨_, rfl⟩
      rw [hPP] at HNO
      have hPm : P ≤ m := by rw [← hPP]; exact plc_le G h m
      rw [HS.out, HD.out] at HBX
      have HPP := Lib.hid hPP
      have HMM := HM
      have HRW := Lib.hid (show wr.ownsRow (w.heap.size + 1) 40 2 (.slice (some ⟨g, 0, none⟩) m q) m (rws (hyR (atH G)) m) from by have h1 := HR.out; unfold cls at h1; rwa [HMM.out] at h1)
      clear hG HE HP hPP hlt HTK HGG HM HR
      go_wp2
      go_loopw [7] (fun i w' => ∃ (j : Nat), j ≤ m ∧ i = .int .i64 (j : Int) ∧ Hid (plc G h j = P) ∧ Hid (w'.ownsRow (w.heap.size + 1) 40 2 (.slice (some ⟨g, 0, none⟩) m q) m (rws (hyR (atH G)) m)) ∧ Hid (w'.heap[w.heap.size]? = some (.cells #[.string s, .int .i64 d] 40 (0, 0))) ∧ Hid (Below w.heap.size w w')) (fun i _ => (intOf i).toNat)
      case atStart => exact ⟨m, Nat.le_refl _, rfl, HPP, HRW, HK, HB⟩
      case round =>
        clear HB HK HRW
        obtain ⟨j, hj, rfl, HJ, HR, HK, HB⟩ := hrel
        have hkz := (Array.getElem?_eq_some_iff.1 HK.out).1
        have hmix := mixedH
        rcases Nat.eq_zero_or_pos j with hj0 | hj0
        · subst hj0
          have HP1 := Lib.hid (show P = 0 by rw [← HJ.out, HP0.out])
          go_wp2
          refine wp_region_quiet_kept (by assumption) (by kernel_rfl) ?_
          repeat (first | go_big_quiet_step (fail) | quiet_step (fail))
          refine wpQuiet_nil ?_
          intro w2 hw'
          have hB : Below wr.heap.size wr w2 := by obtain ⟨⟨wk, hb0⟩, hw''⟩ := hw'; rw [hw'']; exact hb0
          have HB2 := Lib.hid (HB.out.trans (hB.mono HB.out.size))
          have HR2 := Lib.hid (rown.ownsRow_kept HR.out hB)
          have HK2 := Lib.hid ((hB.block _ hkz).trans HK.out)
          clear hw' hB hmix HR HK HB
          have hkz2 := (Array.getElem?_eq_some_iff.1 HK2.out).1
          have hgz := row_lt HR2.out
          have hmq : m ≤ q := own_cap HR2.out
          have HBZ := Lib.hid (below_alloc1 w2 (.cells #[] 40))
          have HE0 := Lib.hid (rown.empty_row w2 40 2)
          have HRA := Lib.hid (rown.ownsRow_kept HR2.out HBZ.out)
          have hP1 := HP1.out
          subst hP1
          have HNI := Lib.hid (ins_zero ⟨HS.out, HD.out⟩ HMM.out HNO.out)
          have hszZ : w2.heap.size ≤ (w2.alloc (.cells #[] 40)).heap.size := HBZ.out.size
          have b0 : (w2.alloc (.cells #[] 40)).cell? ⟨w.heap.size, 0, none⟩ = some (.string s) := by rw [cell_of_block ((HBZ.out.block w.heap.size hkz2).trans HK2.out)]; rfl
          have b1' : (w2.alloc (.cells #[] 40)).cell? ⟨w.heap.size, 1, none⟩ = some (.int .i64 d) := by rw [cell_of_block ((HBZ.out.block w.heap.size hkz2).trans HK2.out)]; rfl
          have Z3 := Lib.hid (show 0 + 1 ≤ maxLen by simp only [maxLen]; omega)
          have Z4 := Lib.hid (show (0 + 1) * 24 ≤ 140737488355328 by omega)
          have Z5 := Lib.hid (show 0 + 1 + m ≤ maxLen by simp only [maxLen]; omega)
          have Z6 := Lib.hid (show (0 + 1 + m) * 24 ≤ 140737488355328 by omega)
          go_wp2_with (first
            | (at_builtin
               refine wpList_append_lies ((w2.alloc (.cells #[] 40)).alloc (.cells #[.string s, .int .i64 d] 40)) rfl _ _ 31 rfl w2.heap.size 40 i0 _ 2 24 Try.underlying31 hi0 hz0 hz1 hz2 rfl (by decide) (.slice (some ⟨w2.heap.size, 0, none⟩) 0 0) 0 _ rfl (rown.ownsRow_kept HE0.out (below_alloc1 _ _)) ⟨w2.heap.size + 1, 0, none⟩ 1 1 [.string s, .int .i64 d] rfl rfl (two_new (by simp)) (by simp [Value.oneCell']) (by decide) Z3.out Z4.out (Nat.le_trans hszZ (by simp)) _ rfl ?_
               intro g6 cap6 w6 hown hgr hatl hlt3
               have HO6 := Lib.hid hown
               have HB6 := Lib.hid (HBZ.out.trans (rown.under HE0.out hszZ hgr))
               have HR6 := Lib.hid (rown.ownsRow_kept HR2.out HB6.out)
               have hz6 := HB6.out.size
               have HC6 := Lib.hid (fun (_ : 0 < m) => (⟨⟨g, 0, none⟩, rfl, HR6.out.cells (g := g) rfl⟩ : ∃ ad, some (⟨g, 0, none⟩ : Addr) = some ad ∧ ∀ j u, (rws (hyR (atH G)) m)[j]? = some u → w6.cell? (ad.add j) = some u))
               clear hown hgr hatl b0 b1')
            | (at_builtin
               refine gro.wpList_append_all w6 rfl _ _ 31 rfl w2.heap.size 40 i0 _ 2 24 Try.underlying31 hi0 hz0 hz1 hz2 rfl (by decide) (some ⟨g6, 0, none⟩) cap6 (0 + 1) _ rfl HO6.out (some ⟨g, 0, none⟩) m q (rws (hyR (atH G)) m) rfl (rws_len (hyR_len _) _) HC6.out (hy_ones _ _) Z5.out Z6.out hz6 ?_
               intro A7 cap7 w7 hown7 hb7
               have HO7 := Lib.hid hown7
               have HB7 := Lib.hid (HB2.out.trans ((HB6.out.trans hb7).mono HB2.out.size))
               clear hown7 hb7))
          go_wp2
          go_ret
          refine ⟨A7, cap7, ?_, ?_, HB7.out⟩
          · rw [HNI.out.1]; first | rfl | (congr 2; omega)
          · rw [HNI.out.1, HNI.out.2]; exact row_low HO7.out (Nat.le_trans hbs HB2.out.size)


        · obtain ⟨j1, hj1⟩ : ∃ j1, j1 + 1 = j := ⟨j - 1, by omega⟩
          have e0 : (0 : Int) < (j : Int) := by omega
          have hsub : (j : Int) - 1 = (j1 : Int) := by omega
          have hw1 : IntKind.i64.wrap ((j : Int) - 1) = (j1 : Int) := by rw [hsub]; simp [IntKind.wrap, IntKind.bits, IntKind.signed]; omega
          have hw2 : wrap64 ((j : Int) - 1) = (j1 : Int) := by rw [hsub]; unfold wrap64; omega
          have hj1m : j1 < m := by omega
          have hj1j : j1 < j := by omega
          have HLJ := Lib.hid (show j1 ≤ m ∧ j1 < j by omega)
          have hj1i : (j1 : Int) < (m : Int) := by omega
          have HPJ := Lib.hid (show plc G h j = if bef h (atH G j1) = true then plc G h j1 else j by rw [← hj1]; exact HPL.out j1)
          have HBJ := Lib.hid (HBX.out j1)
          have hgz0 := row_lt HR.out
          have x0 := row_cell HR.out (hyR_len _) hj1m (show 0 < 2 by omega) rfl
          have x1 := row_cell HR.out (hyR_len _) hj1m (show 1 < 2 by omega) rfl
          have b0 : wr.cell? ⟨w.heap.size, 0, none⟩ = some (.string s) := by rw [cell_of_block HK.out]; rfl
          have b1' : wr.cell? ⟨w.heap.size, 1, none⟩ = some (.int .i64 d) := by rw [cell_of_block HK.out]; rfl
          rw [Nat.add_zero] at x0
          replace x0 := core.cell_kept (a := ⟨g, _, none⟩) hgz0 x0
          replace x1 := core.cell_kept (a := ⟨g, _, none⟩) hgz0 x1
          replace b0 := core.cell_kept (a := ⟨w.heap.size, _, none⟩) hkz b0
          replace b1' := core.cell_kept (a := ⟨w.heap.size, _, none⟩) hkz b1'
          clear hj1 hsub
          cases hbf : bef h (atH G j1) with
          | true =>
            have HJ2 := Lib.hid (show plc G h j1 = P by rw [← HJ.out, HPJ.out, hbf, if_pos rfl])
            rw [hbf] at HBJ
            clear hbf HPJ HJ
            go_wp2
            refine wp_region_quiet_kept (by assumption) (by kernel_rfl) ?_
            repeat (first | go_big_quiet_step ((go_at_call 75; exact Calls.kept_of (HBJ.out _))) | quiet_step ((go_at_call 75; exact Calls.kept_of (HBJ.out _))))
            refine wpQuiet_nil ?_
            intro w2 hw'
            have hB : Below wr.heap.size wr w2 := by obtain ⟨⟨wk, hb0⟩, hw''⟩ := hw'; rw [hw'']; exact hb0
            have HB2 := Lib.hid (HB.out.trans (hB.mono HB.out.size))
            have HR2 := Lib.hid (rown.ownsRow_kept HR.out hB)
            have HK2 := Lib.hid ((hB.block _ hkz).trans HK.out)
            clear hw' hB hmix HR HK HB x0 x1 b0 b1' HBJ
            go_wp2
            go_roundw
            case rel => exact ⟨j1, HLJ.out.1, by first | rfl | go_num, HJ2, HR2, HK2, HB2⟩
            case measure => have h1 := HLJ.out.2; simp [intOf]; omega
          | false =>
            have HP1 := Lib.hid (show P = j by rw [← HJ.out, HPJ.out, hbf]; rfl)
            rw [hbf] at HBJ
            have hund : undef = Value.tuple #[] := rfl
            clear hbf HPJ HJ
            go_wp2
            refine wp_region_quiet_kept (by assumption) (by kernel_rfl) ?_
            repeat (first | go_big_quiet_step ((go_at_call 75; exact Calls.kept_of (HBJ.out _))) | quiet_step ((go_at_call 75; exact Calls.kept_of (HBJ.out _))))
            refine wpQuiet_nil ?_
            intro w2 hw'
            have hB : Below wr.heap.size wr w2 := by obtain ⟨⟨wk, hb0⟩, hw''⟩ := hw'; rw [hw'']; exact hb0
            have HB2 := Lib.hid (HB.out.trans (hB.mono HB.out.size))
            have HR2 := Lib.hid (rown.ownsRow_kept HR.out hB)
            have HK2 := Lib.hid ((hB.block _ hkz).trans HK.out)
            clear hw' hB hmix HR HK HB
            have hkz2 := (Array.getElem?_eq_some_iff.1 HK2.out).1
            have hgz := row_lt HR2.out
            have hmq : m ≤ q := own_cap HR2.out
            have HBZ := Lib.hid (below_alloc1 w2 (.cells #[] 40))
            have HE0 := Lib.hid (rown.empty_row w2 40 2)
            have HRA := Lib.hid (rown.ownsRow_kept HR2.out HBZ.out)
            clear x0 x1 b0 b1' HBJ
            rw [HP1.out] at HNO hPm
            have HNI := Lib.hid (ins_split HS.out HD.out HMM.out hPm HNO.out)
            have hP0 : (0 : Int) ≤ (j : Int) := by omega
            have hPq : (j : Int) ≤ (q : Int) := by omega
            have hPq2 : ¬ (q : Int) < (j : Int) := by omega
            have hPmi : (j : Int) ≤ (m : Int) := by omega
            have hPmi2 : ¬ (m : Int) < (j : Int) := by omega
            have hmqi : (m : Int) ≤ (q : Int) := by omega
            have hmqi2 : ¬ (q : Int) < (m : Int) := by omega
            have HRP := Lib.hid (row_pre HRA.out (hyR_len _) hPm)
            have hszZ : w2.heap.size ≤ (w2.alloc (.cells #[] 40)).heap.size := HBZ.out.size
            have Z3 := Lib.hid (show j + 1 ≤ maxLen by simp only [maxLen]; omega)
            have Z4 := Lib.hid (show (j + 1) * 24 ≤ 140737488355328 by omega)
            have Z5 := Lib.hid (show j + 1 + (m - j) ≤ maxLen by simp only [maxLen]; omega)
            have Z6 := Lib.hid (show (j + 1 + (m - j)) * 24 ≤ 140737488355328 by omega)
            by_cases hqj : q = j
            · obtain rfl : m = j := by omega
              subst hqj
              go_wp2_with (first
                | (at_builtin
                   refine gro.wpList_append_all (w2.alloc (.cells #[] 40)) rfl _ _ 31 rfl w2.heap.size 40 i0 _ 2 24 Try.underlying31 hi0 hz0 hz1 hz2 rfl (by decide) (some ⟨w2.heap.size, 0, none⟩) 0 0 [] rfl HE0.out (some ⟨g, 0, none⟩) q q (rws (hyR (atH G)) q) rfl (rws_len (hyR_len _) q) (fun _ => ⟨⟨g, 0, none⟩, rfl, HRP.out.cells (g := g) rfl⟩) (hy_ones _ _) (by unfold maxLen; omega) (by omega) hszZ ?_
                   intro A2 cap2 w5 hown2 hb2
                   have HO5 := Lib.hid (show w5.ownsRow w2.heap.size 40 2 (.slice A2 q cap2) q (rws (hyR (atH G)) q) by simpa using hown2)
                   have HB5 := Lib.hid (HBZ.out.trans hb2)
                   have b0 : w5.cell? ⟨w.heap.size, 0, none⟩ = some (.string s) := by rw [cell_of_block ((HB5.out.block w.heap.size hkz2).trans HK2.out)]; rfl
                   have b1' : w5.cell? ⟨w.heap.size, 1, none⟩ = some (.int .i64 d) := by rw [cell_of_block ((HB5.out.block w.heap.size hkz2).trans HK2.out)]; rfl
                   have hz5 := HB5.out.size
                   rw [Nat.zero_add]
                   clear hown2 hb2)
                | (at_builtin
                   refine wpList_append_lies (w5.alloc (.cells #[.string s, .int .i64 d] 40)) rfl _ _ 31 rfl w2.heap.size 40 i0 _ 2 24 Try.underlying31 hi0 hz0 hz1 hz2 rfl (by decide) (.slice A2 q cap2) q _ rfl (rown.ownsRow_kept HO5.out (below_alloc1 _ _)) ⟨w5.heap.size, 0, none⟩ 1 1 [.string s, .int .i64 d] rfl rfl (two_new rfl) (by simp [Value.oneCell']) (by decide) Z3.out Z4.out (Nat.le_trans hz5 (by simp)) _ rfl ?_
                   intro g6 cap6 w6 hown hgr hatl hlt3
                   have HO6 := Lib.hid hown
                   have HB6 := Lib.hid (HB5.out.trans (rown.under HO5.out hz5 hgr))
                   have HR6 := Lib.hid (rown.ownsRow_kept HR2.out HB6.out)
                   have hz6 := HB6.out.size
                   have HC6 := Lib.hid trivial
                   clear hown hgr hatl b0 b1')
                | (at_builtin
                   refine gro.wpList_append_all w6 rfl _ _ 31 rfl w2.heap.size 40 i0 _ 2 24 Try.underlying31 hi0 hz0 hz1 hz2 rfl (by decide) (some ⟨g6, 0, none⟩) cap6 (q + 1) _ rfl HO6.out _ 0 _ [] rfl rfl (fun h0 => absurd h0 (Nat.lt_irrefl 0)) (fun u hu => by cases hu) Z3.out Z4.out hz6 ?_
                   intro A7 cap7 w7 hown7 hb7
                   have HO7 := Lib.hid hown7
                   have HB7 := Lib.hid (HB2.out.trans ((HB6.out.trans hb7).mono HB2.out.size))
                   clear hown7 hb7))
              go_wp2
              go_ret
              refine ⟨A7, cap7, ?_, ?_, HB7.out⟩
              · rw [HNI.out.1, Nat.sub_self]; rfl
              · rw [HNI.out.1, HNI.out.2, Nat.sub_self]
                have h7 := row_low HO7.out (Nat.le_trans hbs HB2.out.size)
                simpa [rws] using h7

            · go_wp2_with (first
                | (at_builtin
                   refine gro.wpList_append_all (w2.alloc (.cells #[] 40)) rfl _ _ 31 rfl w2.heap.size 40 i0 _ 2 24 Try.underlying31 hi0 hz0 hz1 hz2 rfl (by decide) (some ⟨w2.heap.size, 0, none⟩) 0 0 [] rfl HE0.out (some ⟨g, 0, none⟩) j q (rws (hyR (atH G)) j) rfl (rws_len (hyR_len _) j) (fun _ => ⟨⟨g, 0, none⟩, rfl, HRP.out.cells (g := g) rfl⟩) (hy_ones _ _) (by unfold maxLen; omega) (by omega) hszZ ?_
                   intro A2 cap2 w5 hown2 hb2
                   have HO5 := Lib.hid (show w5.ownsRow w2.heap.size 40 2 (.slice A2 j cap2) j (rws (hyR (atH G)) j) by simpa using hown2)
                   have HB5 := Lib.hid (HBZ.out.trans hb2)
                   have b0 : w5.cell? ⟨w.heap.size, 0, none⟩ = some (.string s) := by rw [cell_of_block ((HB5.out.block w.heap.size hkz2).trans HK2.out)]; rfl
                   have b1' : w5.cell? ⟨w.heap.size, 1, none⟩ = some (.int .i64 d) := by rw [cell_of_block ((HB5.out.block w.heap.size hkz2).trans HK2.out)]; rfl
                   have hz5 := HB5.out.size
                   rw [Nat.zero_add]
                   clear hown2 hb2)
                | (at_builtin
                   refine wpList_append_lies (w5.alloc (.cells #[.string s, .int .i64 d] 40)) rfl _ _ 31 rfl w2.heap.size 40 i0 _ 2 24 Try.underlying31 hi0 hz0 hz1 hz2 rfl (by decide) (.slice A2 j cap2) j _ rfl (rown.ownsRow_kept HO5.out (below_alloc1 _ _)) ⟨w5.heap.size, 0, none⟩ 1 1 [.string s, .int .i64 d] rfl rfl (two_new rfl) (by simp [Value.oneCell']) (by decide) Z3.out Z4.out (Nat.le_trans hz5 (by simp)) _ rfl ?_
                   intro g6 cap6 w6 hown hgr hatl hlt3
                   have HO6 := Lib.hid hown
                   have HB6 := Lib.hid (HB5.out.trans (rown.under HO5.out hz5 hgr))
                   have HR6 := Lib.hid (rown.ownsRow_kept HR2.out HB6.out)
                   have hz6 := HB6.out.size
                   have HC6 := Lib.hid (fun (h0 : 0 < m - j) => (⟨⟨g, j * 2, none⟩, rfl, row_tail HR6.out j hPm⟩ : ∃ ad, some (⟨g, j * 2, none⟩ : Addr) = some ad ∧ ∀ i u, (rws (hyR fun i => atH G (j + i)) (m - j))[i]? = some u → w6.cell? (ad.add i) = some u))
                   clear hown hgr hatl b0 b1')
                | (at_builtin
                   refine gro.wpList_append_all w6 rfl _ _ 31 rfl w2.heap.size 40 i0 _ 2 24 Try.underlying31 hi0 hz0 hz1 hz2 rfl (by decide) (some ⟨g6, 0, none⟩) cap6 (j + 1) _ rfl HO6.out (some ⟨g, j * 2, none⟩) (m - j) (q - j) (rws (hyR fun i => atH G (j + i)) (m - j)) rfl (rws_len (hyR_len _) _) HC6.out (hy_ones _ _) Z5.out Z6.out hz6 ?_
                   intro A7 cap7 w7 hown7 hb7
                   have HO7 := Lib.hid hown7
                   have HB7 := Lib.hid (HB2.out.trans ((HB6.out.trans hb7).mono HB2.out.size))
                   clear hown7 hb7))
              go_wp2
              go_ret
              refine ⟨A7, cap7, ?_, ?_, HB7.out⟩
              · rw [HNI.out.1]; first | rfl | (congr 2; omega)
              · rw [HNI.out.1, HNI.out.2]; exact row_low HO7.out (Nat.le_trans hbs HB2.out.size)


end Go.Proofs.Ytofgdgdmmlgmnaa.hyp
