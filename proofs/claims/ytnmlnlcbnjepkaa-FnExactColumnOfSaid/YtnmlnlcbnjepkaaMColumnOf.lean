/-
  Proved: both functions that take a column of a file return the same numbers, in memory of their own.
  Conditions: none.
-/
import Derived.Test.YtnmlnlcbnjepkaaFileVV
import Derived.Test.YtnmlnlcbnjepkaaOwnRow
import Derived.Test.YtnmlnlcbnjepkaaWid
import Derived.Test.YtnmlnlcbnjepkaaMChannelNamed
namespace Go.Proofs.Ytnmlnlcbnjepkaa.wColumnOf
open Go.ChangeShapes Go.WideShapes Go.ChangeAt Go.RowKit Go.Joins
open Go.Proofs.Ytnmlnlcbnjepkaa.core Go.Proofs.Ytnmlnlcbnjepkaa.names Go.Proofs.Ytnmlnlcbnjepkaa.fileS Go.Proofs.Ytnmlnlcbnjepkaa.fileI Go.Proofs.Ytnmlnlcbnjepkaa.ownRow
set_option linter.unusedVariables false
set_option linter.unusedSimpArgs false

/-- The column's part out of one stroke, and out of the first strokes. -/
def cr (v : Nat → Nat → Int) (i : Nat) : Nat → List Int
  | 0 => []
  | k + 1 => cr v i k ++ [v i k]
def cs (L : Nat → Nat) (v : Nat → Nat → Int) : Nat → List Int
  | 0 => []
  | i + 1 => cs L v i ++ cr v i (L i)
theorem cr_len (v : Nat → Nat → Int) (i k : Nat) : (cr v i k).length = k := by
  induction k with
  | zero => rfl
  | succ k ih => rw [cr, List.length_append, ih]; rfl
theorem cr_in {v : Nat → Nat → Int} {i : Nat} {P : Int → Prop} : ∀ k, (∀ j, j < k → P (v i j)) → ∀ x ∈ cr v i k, P x
  | 0, _, x, hx => by simp [cr] at hx
  | k + 1, h, x, hx => by
    rw [cr] at hx
    rcases List.mem_append.1 hx with hx | hx
    · exact cr_in k (fun j hj => h j (by omega)) x hx
    · rw [List.mem_singleton.1 hx]; exact h k (by omega)
theorem cs_in {L : Nat → Nat} {v : Nat → Nat → Int} {P : Int → Prop} : ∀ i, (∀ a, a < i → ∀ k, k < L a → P (v a k)) → ∀ x ∈ cs L v i, P x
  | 0, _, x, hx => by simp [cs] at hx
  | i + 1, h, x, hx => by
    rw [cs] at hx
    rcases List.mem_append.1 hx with hx | hx
    · exact cs_in i (fun a ha => h a (by omega)) x hx
    · exact cr_in _ (fun k hk => h i (by omega) k hk) x hx
theorem cs_len {L : Nat → Nat} {v : Nat → Nat → Int} : ∀ i, (∀ a, a < i → L a ≤ 60) → (cs L v i).length ≤ 60 * i
  | 0, _ => by simp [cs]
  | i + 1, h => by
    have h1 := cs_len (L := L) (v := v) i (fun a ha => h a (by omega))
    have h2 := h i (by omega)
    rw [cs, List.length_append, cr_len]
    omega
/-- The numbers of channel q, as they lie in memory. -/
def Tab (W : World) (A : Option Addr) (ns n q : Nat) (L : Nat → Nat) (v : Nat → Nat → Int) : Prop :=
  ∀ i, i < ns → ∃ (b o : Nat) (B : Option Addr) (c : Nat), A = some ⟨b, o, none⟩ ∧ b < W.heap.size ∧ W.cell? ⟨b, o + i, none⟩ = some (.slice B (L i) c) ∧ ∀ k, k < L i → ∃ (b1 o1 : Nat) (C : Option Addr) (d : Nat), B = some ⟨b1, o1, none⟩ ∧ b1 < W.heap.size ∧ W.cell? ⟨b1, o1 + k, none⟩ = some (.slice C n d) ∧ ∃ b2 o2 : Nat, C = some ⟨b2, o2, none⟩ ∧ b2 < W.heap.size ∧ W.cell? ⟨b2, o2 + q, none⟩ = some (.int .i64 (v i k)) ∧ inI64 (v i k)
def vl (fs : Nat → Nat → Dat) (q i k : Nat) : Int := dInt (dFun (dFun (fs i 0) k 0) q 0)
theorem tab_of {W : World} {A : Option Addr} {ns n q : Nat} {fc fs : Nat → Nat → Dat} (hr : RowsAt W A ns 1 fs) (ht : tyRowsS (.sl ns 1 fs)) (hP : StrsP n fc fs ns) (hq : q < n) : Tab W A ns n q (fun i => dLen (fs i 0)) (vl fs q) := by
  intro i hi
  obtain ⟨b, o, rfl, hb, B, c, hc, -, hr1, ht1⟩ := viewRowsS hr ht i hi
  refine ⟨b, o, B, c, rfl, hb, hc, fun k hk => ?_⟩
  obtain ⟨b1, o1, rfl, hb1, C, d, hc1, -, hr2, ht2⟩ := viewInt64SS hr1 ht1 k hk
  have hm := ((hP i hi).1 k hk).1
  rw [hm] at hc1 hr2 ht2
  obtain ⟨b2, o2, rfl, hb2, hc2, hi2⟩ := viewInt64S hr2 ht2 q hq
  exact ⟨b1, o1, _, d, rfl, hb1, hc1, b2, o2, rfl, hb2, hc2, hi2⟩
/-- A list of numbers as a datum. -/
def dat (l : List Int) : Dat := .sl l.length 1 fun i _ => .int (l[i]?.getD 0)
theorem own_nil (w : World) (lo hi : Nat) : Own w (.slice none 0 0) (dat []) (iv lo hi) := .nil _ _ _ _ _
theorem own_ints {w : World} {base n : Nat} {v : Value} {l : List Int} (h : w.ownsRow base 2 1 v n (l.map (Value.int .i64))) (hl : ∀ x ∈ l, inI64 x) :
    Own w v (.sl n 1 fun i _ => .int (l[i]?.getD 0)) (iv base w.heap.size) := by
  obtain ⟨hn, h⟩ := h
  rcases h with ⟨rfl, rfl⟩ | ⟨g, cap, cur, rfl, h1, h2, h3, h4, h5, h6⟩
  · exact .nil _ _ _ _ _
  · have hlt := (Array.getElem?_eq_some_iff.1 h2).1
    have hn' : l.length = n := by simpa using hn
    refine .sl g n cap 1 2 _ (fun i _ => .int .i64 (l[i]?.getD 0)) (fun _ _ _ => False) cur _ h2 ⟨h1, hlt⟩ (Nat.le_trans h3 h4) ?_ ?_ (fun _ _ _ _ _ hx => hx.elim) (fun _ _ _ _ _ _ _ _ _ hx => hx.elim)
    · intro i j hi hj
      obtain rfl : j = 0 := by omega
      have hi' : i < l.length := by omega
      have e : (l.map (Value.int .i64))[i]? = some (.int .i64 (l[i]?.getD 0)) := by simp [hi']
      rw [← h6, List.getElem?_take, if_pos (by omega)] at e
      simpa using e
    · intro i j hi hj
      have hi' : i < l.length := by omega
      refine .int _ _ (hl _ ?_)
      rw [List.getElem?_eq_getElem hi', Option.getD_some]
      exact List.getElem_mem hi'
noncomputable def ls (g : Nat → Dat) (s : ByteArray) : List Int := if vF g = true ∧ wChannelNamed.at_ g s ≠ -1 then cs (fun i => dLen (dFun (g 1) i 0)) (vl (dFun (g 1)) (wChannelNamed.at_ g s).toNat) (dLen (g 1)) else []
noncomputable def cd (g : Nat → Dat) (s : ByteArray) : Int := wChannelNamed.r1 g s

set_option maxRecDepth 100000 in
set_option maxHeartbeats 4000000 in
theorem spec_calls (us : Nat → Value) (g : Nat → Dat) (s : ByteArray) (w : World) (hr : ReadsRec w 3 us g) (ht : tyrFile g) :
    Calls Try.prog 10 #[.agg #[us 0, us 1, us 2], .string s] w fun e w' => ∃ v, e = .returned (.tuple #[v, .int .i64 (cd g s)]) ∧ Own w' v (dat (ls g s)) (iv w.heap.size w'.heap.size) ∧ Below w.heap.size w w' := by
  obtain ⟨⟨A0, c0, e0, h0, q0, t0⟩, ⟨A1, c1, e1, h1, q1, t1⟩, ⟨A2, c2, e2, h2, q2, t2⟩⟩ := recFile hr ht
  rw [e0, e1, e2]
  have HVF := Lib.hid (show vF g = tf (FileP (dLen (g 0)) (dFun (g 0)) (dLen (g 1)) (dFun (g 1)) (dLen (g 2)) (dFun (g 2))) from rfl)
  have HLS := Lib.hid (show ls g s = if vF g = true ∧ wChannelNamed.at_ g s ≠ -1 then cs (fun i => dLen (dFun (g 1) i 0)) (vl (dFun (g 1)) (wChannelNamed.at_ g s).toNat) (dLen (g 1)) else [] from rfl)
  have HCD := Lib.hid (show cd g s = if vF g = true then (if wChannelNamed.at_ g s = -1 then 3 else 0) else 1 from rfl)
  have HCS := Lib.hid (wChannelNamed.fnd_cases (fun i => dStr (dFun (g 0) i 0)) s (dLen (g 0)))
  have HAT := Lib.hid (show wChannelNamed.at_ g s = fnd (fun i => dStr (dFun (g 0) i 0)) s (dLen (g 0)) from rfl)
  generalize ls g s = l at *
  generalize cd g s = z at *
  generalize wChannelNamed.at_ g s = p at *
  generalize vF g = vv at *
  clear hr e0 e1 e2 ht
  generalize dLen (g 0) = n at *
  generalize dLen (g 1) = ns at *
  generalize dLen (g 2) = nn at *
  generalize dFun (g 0) = fc at *
  generalize dFun (g 1) = fs at *
  generalize dFun (g 2) = fn at *
  obtain ⟨i0, hi0, hz0, hz1, hz2⟩ := info_get infoInt
  have BL := Lib.hid (below_alloc1 w (.cells #[.slice A0 n c0, .slice A1 ns c1, .slice A2 nn c2] 35))
  have HH := Lib.hid (ok_calls w.heap.size 0 A0 A1 A2 n c0 ns c1 nn c2 fc fs fn (w.alloc (.cells #[.slice A0 n c0, .slice A1 ns c1, .slice A2 nn c2] 35)) (by simp) h0 h1 h2 (by simp) (by simp) (by simp) (q0.below BL.out) t0 (q1.below BL.out) t1 (q2.below BL.out) t2)
  rw [← HVF.out] at HH
  have HF := Lib.hid (fun (W : World) (hB : Below w.heap.size w W) (hc : W.cell? ⟨w.heap.size, 0, none⟩ = some (.slice A0 n c0)) => find_calls w.heap.size 0 A0 n c0 (fun i => dStr (fc i 0)) s W h0 hc (fun i hi => by
    obtain ⟨b3, o3, e3, hl3, ⟨s3, -⟩, -⟩ := viewChannelS (q0.below hB) t0 i hi
    exact ⟨b3, o3, e3, hl3, s3⟩))
  rw [← HAT.out] at HF
  have HT := Lib.hid (show vv = true → ∀ q, q < n → ∀ W, Below w.heap.size w W → Tab W A1 ns n q (fun i => dLen (fs i 0)) (vl fs q) from fun h q hq W hB => by
    rw [HVF.out] at h
    exact tab_of (q1.below hB) t1 (tf_iff.1 h).2.1 hq)
  have HP := Lib.hid (show vv = true → ns ≤ 16 ∧ n ≤ 6 ∧ ∀ i, i < ns → dLen (fs i 0) ≤ 60 from fun h => by
    rw [HVF.out] at h
    have := tf_iff.1 h
    exact ⟨this.2.2.2.2.1, this.2.2.2.1.2, fun i hi => (this.2.1 i hi).2.2⟩)
  clear HVF q0 q1 q2 t0 t1 t2 h0 h1 h2
  cases vv
  · have X0 := Lib.hid (HLS.out.trans (if_neg (by simp)))
    have X1 := Lib.hid (HCD.out.trans (if_neg (by simp)))
    rw [X0.out, X1.out]
    clear HLS HCD X0 X1 HP HT HF hi0 hz0 hz1 hz2 HCS HAT
    go_enter Try.func10, Try.ntmps10
    go_wp2_with fail
    refine HH.out.mono ?_
    rintro e w1 ⟨rfl, hb⟩
    have HB := Lib.hid (BL.out.trans (hb.mono BL.out.size))
    clear hb
    go_wp2
    go_ret2
    exact ⟨_, rfl, own_nil _ _ _, HB.out⟩
  · obtain ⟨hns, hn6, hL⟩ := HP.out rfl
    have HL := Lib.hid hL
    have HTT := Lib.hid (HT.out rfl)
    clear hL HP HT
    rcases HCS.out with ⟨q, hq, hf, -⟩ | ⟨hf, -⟩
    · obtain rfl : p = (q : Int) := HAT.out.trans hf
      have X0 := Lib.hid (HLS.out.trans (if_pos ⟨rfl, by omega⟩))
      have X1 := Lib.hid ((HCD.out.trans (if_pos rfl)).trans (if_neg (by omega)))
      rw [Int.toNat_natCast] at X0
      rw [X0.out, X1.out]
      have HTab := Lib.hid (HTT.out q hq)
      generalize vl fs q = v at *
      generalize hLL : (fun i => dLen (fs i 0)) = L at *
      have HL2 := Lib.hid (show ∀ i, i < ns → L i ≤ 60 from fun i hi => by rw [← hLL]; exact HL.out i hi)
      have HIN := Lib.hid (show ∀ x ∈ cs L v ns, inI64 x from cs_in ns fun i hi k hk => by
        obtain ⟨b, o, B, c, -, -, -, h⟩ := HTab.out w (Below.refl _ _) i hi
        obtain ⟨b1, o1, C, d, -, -, -, b2, o2, -, -, -, h⟩ := h k hk
        exact h)
      clear hLL HL HLS HCD X0 X1 HAT HCS hf HTT
      have hq0 : ¬ (q : Int) < 0 := by omega
      go_enter Try.func10, Try.ntmps10
      go_wp2_with fail
      refine HH.out.mono ?_
      rintro e w1 ⟨rfl, hb⟩
      have HB := Lib.hid (BL.out.trans (hb.mono BL.out.size))
      have hc := Lib.hid ((hb.cell (p := ⟨w.heap.size, 0, none⟩) (by simp)).trans (show _ = some (.slice A0 n c0) by simp))
      have HC1 := Lib.hid ((hb.cell (p := ⟨w.heap.size, 1, none⟩) (by simp)).trans (show _ = some (.slice A1 ns c1) by simp))
      have HZ := Lib.hid (show w.heap.size < w1.heap.size from Nat.lt_of_lt_of_le (by simp) hb.size)
      clear hb HH BL
      go_wp2_with fail
      refine (HF.out _ HB.out hc.out).mono ?_
      rintro e w2 ⟨rfl, hb⟩
      have HB2 := Lib.hid (HB.out.trans (hb.mono HB.out.size))
      have HC2 := Lib.hid ((hb.cell (p := ⟨w.heap.size, 1, none⟩) HZ.out).trans HC1.out)
      have HZ2 := Lib.hid (show w.heap.size < w2.heap.size from Nat.lt_of_lt_of_le HZ.out hb.size)
      clear hb HF HB hc HC1 HZ
      go_wp2
      go_loopw [7, 8] (fun o i w' => ∃ (a m gb c : Nat), a ≤ ns ∧ i = .int .i64 (a : Int) ∧ m ≤ 60 * a ∧ o = .slice (some ⟨gb, 0, none⟩) m c ∧ Hid ((cs L v a).length = m) ∧ Hid (w'.ownsRow w2.heap.size 2 1 (.slice (some ⟨gb, 0, none⟩) m c) m ((cs L v a).map (Value.int .i64))) ∧ Hid (Below w2.heap.size w2 w')) (fun _ i _ => ns - (intOf i).toNat)
      case atStart => exact ⟨0, 0, _, _, Nat.zero_le _, rfl, Nat.zero_le _, rfl, Lib.hid rfl, Lib.hid (by simpa [cs] using empty_row w2 2), Lib.hid (below_alloc1 _ _)⟩
      case round =>
        obtain ⟨a, m, gb, c, ha, rfl, hm, rfl, HM, HO, HBr⟩ := hrel
        have hc1 := (HBr.out.cell (p := ⟨w.heap.size, 1, none⟩) HZ2.out).trans HC2.out
        by_cases hlt : a < ns
        · have hli : (a : Int) < (ns : Int) := by omega
          have hla := HL2.out a hlt
          have HS := Lib.hid (show cs L v (a + 1) = cs L v a ++ cr v a (L a) from rfl)
          obtain ⟨la, hla2⟩ : ∃ la, la = L a := ⟨_, rfl⟩
          rw [← hla2] at HS hla
          have HLA := Lib.hid hla2
          clear hla2
          obtain ⟨wo, rfl⟩ : ∃ wo : World, wo = wr := ⟨_, rfl⟩
          go_wp2
          clear hc1
          go_loopw [7, 9] (fun o i w' => ∃ (k m' gb c : Nat), k ≤ la ∧ i = .int .i64 (k : Int) ∧ m' ≤ 60 * a + k ∧ Hid (m' = m + k) ∧ o = .slice (some ⟨gb, 0, none⟩) m' c ∧ Hid (w'.ownsRow w2.heap.size 2 1 (.slice (some ⟨gb, 0, none⟩) m' c) m' ((cs L v a ++ cr v a k).map (Value.int .i64))) ∧ Hid (Below w2.heap.size w2 w')) (fun _ i _ => la - (intOf i).toNat)
          case atStart => exact ⟨0, m, gb, c, Nat.zero_le _, rfl, hm, Lib.hid rfl, rfl, Lib.hid (by simpa [cr] using HO.out), HBr⟩
          case round =>
            obtain ⟨k, m', gb, c, hk, rfl, hm', HM', rfl, HO, HBr⟩ := hrel
            have hc1 := (HBr.out.cell (p := ⟨w.heap.size, 1, none⟩) HZ2.out).trans HC2.out
            obtain ⟨b, o, B, d, rfl, hb, hcb, hrow⟩ := HTab.out wr (HB2.out.trans (HBr.out.mono HB2.out.size)) a hlt
            rw [← HLA.out] at hcb hrow
            by_cases hlt2 : k < la
            · obtain ⟨b1, o1, C, d1, rfl, hb1, hcb1, b2, o2, rfl, hb2, hcb2, -⟩ := hrow k hlt2
              have HR := Lib.hid (show cs L v a ++ cr v a (k + 1) = (cs L v a ++ cr v a k) ++ [v a k] by rw [cr, List.append_assoc])
              generalize v a k = x at *
              clear hrow
              go_wp2_with (first
                | (at_builtin
                   have z0 := ownsRow_kept HO.out (below_alloc1 wr (.cells #[.int .i64 x] 2))
                   have z2 : ∀ u ∈ [Value.int .i64 x], u.oneCell' = true := (by simp [Value.oneCell'])
                   have z3 : m' + 1 ≤ maxLen := (by simp only [maxLen]; omega)
                   have z4 : (m' + 1) * 8 ≤ 140737488355328 := (by omega)
                   have z5 : w2.heap.size ≤ (wr.alloc (.cells #[.int .i64 x] 2)).heap.size := (Nat.le_trans HBr.out.size (by simp))
                   refine wpList_append_lies (wr.alloc (.cells #[.int .i64 x] 2)) rfl _ _ 28 rfl w2.heap.size 2 i0 (.int .i64 0) 1 8 Try.underlying28 hi0 hz0 hz1 hz2 rfl (by decide) (.slice (some ⟨gb, 0, none⟩) m' c) m' _ rfl z0 ⟨wr.heap.size, 0, none⟩ 1 1 [.int .i64 x] rfl rfl one_new z2 (by decide) z3 z4 z5 _ rfl ?_
                   intro g3 cap3 w3 hown hgr hat hlt3
                   have HO3 := Lib.hid hown
                   have HB3 := Lib.hid (HBr.out.trans (under HO.out HBr.out.size hgr))
                   clear hown hgr hat z0 z2 z3 z4 z5))
              go_roundw
              case rel => exact ⟨k + 1, m' + 1, g3, cap3, by omega, by go_num, by omega, Lib.hid (by have := HM'.out; omega), rfl, Lib.hid (by rw [HR.out, List.map_append]; exact HO3.out), HB3⟩
              case measure => simp [intOf]; omega
            · obtain rfl : k = la := by omega
              clear hrow
              go_wp2
              go_roundw
              case rel => exact ⟨a + 1, m', gb, c, by omega, by go_num, by omega, rfl, Lib.hid (by rw [HS.out, List.length_append, HM.out, cr_len, HM'.out]), Lib.hid (by rw [HS.out]; exact HO.out), HBr⟩
              case measure => simp [intOf]; omega
        · obtain rfl : a = ns := by omega
          go_wp2
          go_ret2
          have h2 : Own wr (.slice (some ⟨gb, 0, none⟩) m c) (dat (cs L v a)) (iv w.heap.size wr.heap.size) := by
            unfold dat
            rw [HM.out]
            exact (own_ints HO.out HIN.out).iv_mono (Nat.le_of_lt HZ2.out) (Nat.le_refl _)
          exact ⟨_, rfl, h2, HB2.out.trans (HBr.out.mono HB2.out.size)⟩
    · obtain rfl : p = -1 := HAT.out.trans hf
      have X0 := Lib.hid (HLS.out.trans (if_neg (by simp)))
      have X1 := Lib.hid ((HCD.out.trans (if_pos rfl)).trans (if_pos rfl))
      rw [X0.out, X1.out]
      clear HLS HCD X0 X1 HL HTT hi0 hz0 hz1 hz2 HCS HAT hf
      go_enter Try.func10, Try.ntmps10
      go_wp2_with fail
      refine HH.out.mono ?_
      rintro e w1 ⟨rfl, hb⟩
      have HB := Lib.hid (BL.out.trans (hb.mono BL.out.size))
      have hc := Lib.hid ((hb.cell (p := ⟨w.heap.size, 0, none⟩) (by simp)).trans (show _ = some (.slice A0 n c0) by simp))
      clear hb
      go_wp2_with fail
      refine (HF.out _ HB.out hc.out).mono ?_
      rintro e w2 ⟨rfl, hb⟩
      have HB2 := Lib.hid (HB.out.trans (hb.mono HB.out.size))
      clear hb
      go_wp2
      go_ret2
      exact ⟨_, rfl, own_nil _ _ _, HB2.out⟩
set_option maxRecDepth 100000 in
set_option maxHeartbeats 4000000 in
theorem impl_calls (us : Nat → Value) (g : Nat → Dat) (s : ByteArray) (w : World) (hs : s.size ≤ maxLen) (hr : ReadsRec w 3 us g) (ht : tyrFile g) :
    Calls Try.prog 12 #[.agg #[us 0, us 1, us 2], .string s] w fun e w' => ∃ v, e = .returned (.tuple #[v, .int .i64 (cd g s)]) ∧ Own w' v (dat (ls g s)) (iv w.heap.size w'.heap.size) ∧ Below w.heap.size w w' := by
  have BL := Lib.hid (below_alloc1 w (.cells #[us 0, us 1, us 2] 35))
  have HH := Lib.hid (wChannelNamed.impl_calls us g s _ hs (hr.kept BL.out) ht)
  obtain ⟨⟨A0, c0, e0, h0, q0, t0⟩, ⟨A1, c1, e1, h1, q1, t1⟩, ⟨A2, c2, e2, h2, q2, t2⟩⟩ := recFile hr ht
  rw [e0, e1, e2] at HH BL ⊢
  have HR0 := Lib.hid (show wChannelNamed.r0 g s = if vF g = true then (if wChannelNamed.at_ g s = -1 then 0 else wChannelNamed.at_ g s) else 0 from rfl)
  have HR1 := Lib.hid (show wChannelNamed.r1 g s = if vF g = true then (if wChannelNamed.at_ g s = -1 then 3 else 0) else 1 from rfl)
  have HVF := Lib.hid (show vF g = tf (FileP (dLen (g 0)) (dFun (g 0)) (dLen (g 1)) (dFun (g 1)) (dLen (g 2)) (dFun (g 2))) from rfl)
  have HLS := Lib.hid (show ls g s = if vF g = true ∧ wChannelNamed.at_ g s ≠ -1 then cs (fun i => dLen (dFun (g 1) i 0)) (vl (dFun (g 1)) (wChannelNamed.at_ g s).toNat) (dLen (g 1)) else [] from rfl)
  have HCD := Lib.hid (show cd g s = wChannelNamed.r1 g s from rfl)
  have HCS := Lib.hid (wChannelNamed.fnd_cases (fun i => dStr (dFun (g 0) i 0)) s (dLen (g 0)))
  have HAT := Lib.hid (show wChannelNamed.at_ g s = fnd (fun i => dStr (dFun (g 0) i 0)) s (dLen (g 0)) from rfl)
  generalize ls g s = l at *
  generalize cd g s = z at *
  generalize wChannelNamed.r0 g s = x0 at *
  generalize wChannelNamed.r1 g s = x1 at *
  generalize wChannelNamed.at_ g s = p at *
  generalize vF g = vv at *
  clear hr e0 e1 e2 ht
  generalize dLen (g 0) = n at *
  generalize dLen (g 1) = ns at *
  generalize dLen (g 2) = nn at *
  generalize dFun (g 0) = fc at *
  generalize dFun (g 1) = fs at *
  generalize dFun (g 2) = fn at *
  obtain ⟨i0, hi0, hz0, hz1, hz2⟩ := info_get infoInt
  have HT := Lib.hid (show vv = true → ∀ q, q < n → ∀ W, Below w.heap.size w W → Tab W A1 ns n q (fun i => dLen (fs i 0)) (vl fs q) from fun h q hq W hB => by
    rw [HVF.out] at h
    exact tab_of (q1.below hB) t1 (tf_iff.1 h).2.1 hq)
  have HP := Lib.hid (show vv = true → ns ≤ 16 ∧ n ≤ 6 ∧ ∀ i, i < ns → dLen (fs i 0) ≤ 60 from fun h => by
    rw [HVF.out] at h
    have := tf_iff.1 h
    exact ⟨this.2.2.2.2.1, this.2.2.2.1.2, fun i hi => (this.2.1 i hi).2.2⟩)
  clear HVF q0 q1 q2 t0 t1 t2 h0 h1 h2
  cases vv
  · have X0 := Lib.hid (HLS.out.trans (if_neg (by simp)))
    have X1 := Lib.hid (HR1.out.trans (if_neg (by simp)))
    rw [X0.out, HCD.out, X1.out]
    rw [X1.out] at HH
    clear HLS HCD X0 X1 HR0 HR1 HP HT hi0 hz0 hz1 hz2 HCS HAT
    go_enter Try.func12, Try.ntmps12
    go_wp2_with fail
    refine HH.out.mono ?_
    rintro e w1 ⟨rfl, hb⟩
    have HB := Lib.hid (BL.out.trans (hb.mono BL.out.size))
    clear hb
    go_wp2
    go_ret2
    exact ⟨_, rfl, own_nil _ _ _, HB.out⟩
  · obtain ⟨hns, hn6, hL⟩ := HP.out rfl
    have HL := Lib.hid hL
    have HTT := Lib.hid (HT.out rfl)
    have Y0 := Lib.hid (HR0.out.trans (if_pos rfl))
    have Y1 := Lib.hid (HR1.out.trans (if_pos rfl))
    clear hL HP HT HR0 HR1
    rcases HCS.out with ⟨q, hq, hf, -⟩ | ⟨hf, -⟩
    · obtain rfl : p = (q : Int) := HAT.out.trans hf
      have X0 := Lib.hid (HLS.out.trans (if_pos ⟨rfl, by omega⟩))
      have Z0 := Lib.hid (Y0.out.trans (if_neg (by omega)))
      have Z1 := Lib.hid (Y1.out.trans (if_neg (by omega)))
      rw [Int.toNat_natCast] at X0
      rw [X0.out, HCD.out, Z1.out]
      rw [Z0.out, Z1.out] at HH
      have HTab := Lib.hid (HTT.out q hq)
      generalize vl fs q = v at *
      generalize hLL : (fun i => dLen (fs i 0)) = L at *
      have HL2 := Lib.hid (show ∀ i, i < ns → L i ≤ 60 from fun i hi => by rw [← hLL]; exact HL.out i hi)
      have HIN := Lib.hid (show ∀ x ∈ cs L v ns, inI64 x from cs_in ns fun i hi k hk => by
        obtain ⟨b, o, B, c, -, -, -, h⟩ := HTab.out w (Below.refl _ _) i hi
        obtain ⟨b1, o1, C, d, -, -, -, b2, o2, -, -, -, h⟩ := h k hk
        exact h)
      clear hLL HL HLS HCD X0 Y0 Y1 Z0 Z1 HAT HCS hf HTT
      go_enter Try.func12, Try.ntmps12
      go_wp2_with fail
      refine HH.out.mono ?_
      rintro e w2 ⟨rfl, hb⟩
      have HB2 := Lib.hid (BL.out.trans (hb.mono BL.out.size))
      have hc1 := (hb.cell (p := ⟨w.heap.size, 1, none⟩) (by simp)).trans (show _ = some (.slice A1 ns c1) by simp)
      have HZ2 := Lib.hid (show w.heap.size < w2.heap.size from Nat.lt_of_lt_of_le (by simp) hb.size)
      clear hb HH BL
      go_wp2
      clear hc1
      go_loopw [8, 25] (fun o i w' => ∃ (a m c : Nat) (G : Option Addr), a ≤ ns ∧ i = .int .i64 (a : Int) ∧ m ≤ 60 * a ∧ o = .slice G m c ∧ Hid ((cs L v a).length = m) ∧ Hid (w'.ownsRow w2.heap.size 2 1 (.slice G m c) m ((cs L v a).map (Value.int .i64))) ∧ Hid (Below w2.heap.size w2 w')) (fun _ i _ => ns - (intOf i).toNat)
      case atStart => exact ⟨0, 0, 0, none, Nat.zero_le _, rfl, Nat.zero_le _, rfl, Lib.hid rfl, Lib.hid (by simpa [cs] using World.ownsRow_nil w2 w2.heap.size 2 1), Lib.hid (Below.refl _ _)⟩
      case round =>
        obtain ⟨a, m, c, G, ha, rfl, hm, rfl, HM, HO, HBr⟩ := hrel
        by_cases hlt : a < ns
        · have hla := HL2.out a hlt
          have HS := Lib.hid (show cs L v (a + 1) = cs L v a ++ cr v a (L a) from rfl)
          obtain ⟨la, hla2⟩ : ∃ la, la = L a := ⟨_, rfl⟩
          rw [← hla2] at HS hla
          have HLA := Lib.hid hla2
          clear hla2
          obtain ⟨b, o, B, d, rfl, hb, hcb0, hrow⟩ := HTab.out w2 HB2.out a hlt
          rw [← HLA.out] at hcb0 hrow
          have hcb := (HBr.out.cell (p := ⟨b, o + a, none⟩) hb).trans hcb0
          have HROW := Lib.hid hrow
          clear hcb0
          have HK := Lib.hid (below_alloc1 wr (.cells #[.slice B la d] 82))
          have HO2 := Lib.hid (ownsRow_kept HO.out HK.out)
          have HB3 := Lib.hid (HBr.out.trans (HK.out.mono HBr.out.size))
          obtain ⟨wo, rfl⟩ : ∃ wo : World, wo = wr := ⟨_, rfl⟩
          clear hrow
          go_wp2
          clear hcb
          go_loopw [8, 32] (fun o i w' => ∃ (k m' c : Nat) (G : Option Addr), k ≤ la ∧ i = .int .i64 (k : Int) ∧ m' ≤ 60 * a + k ∧ Hid (m' = m + k) ∧ o = .slice G m' c ∧ Hid (w'.ownsRow w2.heap.size 2 1 (.slice G m' c) m' ((cs L v a ++ cr v a k).map (Value.int .i64))) ∧ Hid (Below w2.heap.size w2 w')) (fun _ i _ => la - (intOf i).toNat)
          case atStart => exact ⟨0, m, c, G, Nat.zero_le _, rfl, hm, Lib.hid rfl, rfl, Lib.hid (by simpa [cr] using HO2.out), HB3⟩
          case round =>
            obtain ⟨k, m', c, G, hk, rfl, hm', HM', rfl, HO, HBr⟩ := hrel
            by_cases hlt2 : k < la
            · obtain ⟨b1, o1, C, d1, rfl, hb1, hcb10, b2, o2, rfl, hb2, hcb20, -⟩ := HROW.out k hlt2
              have hcb1 := (HBr.out.cell (p := ⟨b1, o1 + k, none⟩) hb1).trans hcb10
              have hcb2 := (HBr.out.cell (p := ⟨b2, o2 + q, none⟩) hb2).trans hcb20
              clear hcb10 hcb20
              have HR := Lib.hid (show cs L v a ++ cr v a (k + 1) = (cs L v a ++ cr v a k) ++ [v a k] by rw [cr, List.append_assoc])
              generalize v a k = x at *
              go_wp2_with (first
                | (at_builtin
                   have z0 := ownsRow_kept HO.out (below_alloc1 wr (.cells #[.int .i64 x] 2))
                   have z2 : ∀ u ∈ [Value.int .i64 x], u.oneCell' = true := (by simp [Value.oneCell'])
                   have z3 : m' + 1 ≤ maxLen := (by simp only [maxLen]; omega)
                   have z4 : (m' + 1) * 8 ≤ 140737488355328 := (by omega)
                   have z5 : w2.heap.size ≤ (wr.alloc (.cells #[.int .i64 x] 2)).heap.size := (Nat.le_trans HBr.out.size (by simp))
                   refine wpList_append_lies (wr.alloc (.cells #[.int .i64 x] 2)) rfl _ _ 28 rfl w2.heap.size 2 i0 (.int .i64 0) 1 8 Try.underlying28 hi0 hz0 hz1 hz2 rfl (by decide) (.slice G m' c) m' _ rfl z0 ⟨wr.heap.size, 0, none⟩ 1 1 [.int .i64 x] rfl rfl one_new z2 (by decide) z3 z4 z5 _ rfl ?_
                   intro g3 cap3 w3 hown hgr hat hlt3
                   have HO3 := Lib.hid hown
                   have HB3 := Lib.hid (HBr.out.trans (under HO.out HBr.out.size hgr))
                   clear hown hgr hat z0 z2 z3 z4 z5))
              go_roundw
              case rel => exact ⟨k + 1, m' + 1, cap3, some ⟨g3, 0, none⟩, by omega, by go_num, by omega, Lib.hid (by have := HM'.out; omega), rfl, Lib.hid (by rw [HR.out, List.map_append]; exact HO3.out), HB3⟩
              case measure => simp [intOf]; omega
            · obtain rfl : k = la := by omega
              go_wp2
              go_roundw
              case rel => exact ⟨a + 1, m', c, G, by omega, by go_num, by omega, rfl, Lib.hid (by rw [HS.out, List.length_append, HM.out, cr_len, HM'.out]), Lib.hid (by rw [HS.out]; exact HO.out), HBr⟩
              case measure => simp [intOf]; omega
        · obtain rfl : a = ns := by omega
          go_wp2
          go_ret2
          have h2 : Own wr (.slice G m c) (dat (cs L v a)) (iv w.heap.size wr.heap.size) := by
            unfold dat
            rw [HM.out]
            exact (own_ints HO.out HIN.out).iv_mono (Nat.le_of_lt HZ2.out) (Nat.le_refl _)
          exact ⟨_, rfl, h2, HB2.out.trans (HBr.out.mono HB2.out.size)⟩
    · obtain rfl : p = -1 := HAT.out.trans hf
      have X0 := Lib.hid (HLS.out.trans (if_neg (by simp)))
      have Z1 := Lib.hid (Y1.out.trans (if_pos rfl))
      rw [X0.out, HCD.out, Z1.out]
      rw [Z1.out] at HH
      clear HLS HCD X0 Y0 Y1 Z1 HL HTT hi0 hz0 hz1 hz2 HCS HAT hf
      go_enter Try.func12, Try.ntmps12
      go_wp2_with fail
      refine HH.out.mono ?_
      rintro e w1 ⟨rfl, hb⟩
      have HB := Lib.hid (BL.out.trans (hb.mono BL.out.size))
      clear hb
      go_wp2
      go_ret2
      exact ⟨_, rfl, own_nil _ _ _, HB.out⟩

theorem ls_len (g : Nat → Dat) (s : ByteArray) : (ls g s).length ≤ 960 := by
  unfold ls
  split
  · next h =>
    have h1 : tf (FileP (dLen (g 0)) (dFun (g 0)) (dLen (g 1)) (dFun (g 1)) (dLen (g 2)) (dFun (g 2))) = true := h.1
    have h2 := tf_iff.1 h1
    have h3 := cs_len (L := fun i => dLen (dFun (g 1) i 0)) (v := vl (dFun (g 1)) (wChannelNamed.at_ g s).toNat) (dLen (g 1)) (fun a ha => (h2.2.1 a ha).2.2)
    have h4 := h2.2.2.2.2.1
    omega
  · simp
theorem dat_cnt (l : List Int) : cntRec 1 (fun _ => dat l) = l.length := by
  simp only [cntRec, sumTo, dat, cntS, cnt]
  rw [sumTo_const]
  omega
theorem meat (vs0 : Nat → Value) (g0 : Nat → Dat) (a1 : ByteArray) (ht0 : tyrFile g0) :
    a1.size ≤ 1048576 → costRec 3 g0 ≤ 1048576 → ∃ (R : Nat → Dat) (r1 : Int), tyrInt64S R ∧ cntRec 1 R ≤ 100000000000 ∧ (∀ (W : World) (us0 : Nat → Value), ReadsRec W 3 us0 g0 → Calls Try.prog 10 #[.agg #[us0 0, us0 1, us0 2], .string a1] W fun e W' => ∃ xs : Nat → Value, e = .returned (.tuple #[xs 0, .int .i64 r1]) ∧ OwnRec W' 1 xs R (iv W.heap.size W'.heap.size) ∧ Below W.heap.size W W') ∧ (∀ (W : World) (us0 : Nat → Value), ReadsRec W 3 us0 g0 → Calls Try.prog 12 #[.agg #[us0 0, us0 1, us0 2], .string a1] W fun e W' => ∃ xs : Nat → Value, e = .returned (.tuple #[xs 0, .int .i64 r1]) ∧ OwnRec W' 1 xs R (iv W.heap.size W'.heap.size) ∧ Below W.heap.size W W') := by
  intro hs _
  refine ⟨fun _ => dat (ls g0 a1), cd g0 a1, ?_, ?_, ?_, ?_⟩
  · exact tyInt64S_mk fun i _ => ⟨_, rfl⟩
  · have := ls_len g0 a1
    rw [dat_cnt]
    omega
  · intro W us h
    exact (spec_calls us g0 a1 W h ht0).mono fun e w' ⟨v, he, hown, hb⟩ => ⟨fun _ => v, he, ownRec_one hown (Nat.le_refl _), hb⟩
  · intro W us h
    exact (impl_calls us g0 a1 W (by unfold maxLen; omega) h ht0).mono fun e w' ⟨v, he, hown, hb⟩ => ⟨fun _ => v, he, ownRec_one hown (Nat.le_refl _), hb⟩
end Go.Proofs.Ytnmlnlcbnjepkaa.wColumnOf
