/-
  Proved: what the document's search for all lists within a cost returns; what the document's function that copies numbers returns.
  Conditions: those of each theorem.
-/
import Derived.Test.YthpmckfjlbiiiaaNearS
import Derived.Deep.Upon
namespace Go.Proofs.Ythpmckfjlbiiiaa.env
open Go.ChangeShapes Go.WideShapes Go.ChangeAt Go.RowKit Go.Joins
open Go.Proofs.Ythpmckfjlbiiiaa.core Go.Proofs.Ythpmckfjlbiiiaa.rown Go.Proofs.Ythpmckfjlbiiiaa.stk Go.Proofs.Ythpmckfjlbiiiaa.boxed Go.Proofs.Ythpmckfjlbiiiaa.ft Go.Proofs.Ythpmckfjlbiiiaa.seq Go.Proofs.Ythpmckfjlbiiiaa.tab
set_option linter.unusedVariables false
set_option linter.unusedSimpArgs false
/-- A list of numbers as values. -/
def vals (l : List Int) : List Value := l.map fun x => .int .i64 x
theorem vals_add (l : List Int) (x : Int) : vals (l ++ [x]) = vals l ++ [.int .i64 x] := by unfold vals; rw [List.map_append]; rfl
theorem vals_rws (l : List Int) : vals l = rws (one fun j => l.getD j 0) l.length := by
  have hl := rws_len (one_len fun j => l.getD j 0) l.length
  apply List.ext_getElem?
  intro j
  rcases Nat.lt_or_ge j l.length with h | h
  · have h2 := rws_get (one_len fun j => l.getD j 0) j 0 (by omega) l.length h
    rw [Nat.mul_one, Nat.add_zero] at h2
    rw [h2]
    unfold vals one
    simp [h]
  · rw [List.getElem?_eq_none (by unfold vals; simpa using h), List.getElem?_eq_none (by omega)]
/-- The lists within a limit so far. -/
def wst (na : Nat) (fa : Nat → P3) (ln : Nat → Nat) (lf : Nat → Nat → P3) (band limit : Int) : Nat → List Int
  | 0 => []
  | i + 1 => if takes na ln band i = true ∧ costL na fa ln lf band i ≤ limit then wst na fa ln lf band limit i ++ [(i : Int)] else wst na fa ln lf band limit i
theorem wst_le (na : Nat) (fa : Nat → P3) (ln : Nat → Nat) (lf : Nat → Nat → P3) (band limit : Int) : ∀ i, (wst na fa ln lf band limit i).length ≤ i
  | 0 => Nat.le_refl _
  | i + 1 => by
    have := wst_le na fa ln lf band limit i
    unfold wst
    split
    · rw [List.length_append]; simp; omega
    · omega
theorem infoJ : (Try.prog.info? 2).map (fun i => (i.zero, i.size, i.bytes)) = some (some (.int .i64 0), 1, 8) := by kernel_rfl
set_option maxRecDepth 100000 in
set_option maxHeartbeats 4000000 in
theorem withinS_no {ca cb : Nat} (A B : Option Addr) (na n : Nat) (fa : Nat → P3) (ln : Nat → Nat) (lf : Nat → Nat → P3) (band limit : Int) (w : World) (ha : na ≤ 1048576) (hn : n ≤ 1048576) (hl : ∀ i, i < n → ln i ≤ 1048576) (pa : PtsAt w A na fa) (pb : LsAt w B n ln lf) (h0 : liC na fa n ln lf band ≠ 0) :
    Calls Try.prog 40 #[.slice A na ca, .slice B n cb, .int .i64 band, .int .i64 limit] w fun e w' => e = .returned (.tuple #[.slice none 0 0, .int .i64 (liC na fa n ln lf band)]) ∧ Below w.heap.size w w' := by
  have HC := Lib.hid (codeLS (ca := ca) (cb := cb) A B na n fa ln lf band w ha hn hl pa pb)
  have h12 : liC na fa n ln lf band = 1 ∨ liC na fa n ln lf band = 2 := by have := liC_any na fa n ln lf band; omega
  clear h0 pa pb hl
  rcases h12 with h | h
  all_goals
    rw [h] at HC ⊢
    clear h
    go_enter Try.func40, Try.ntmps40
    go_wp2_with fail
    refine HC.out.mono ?_
    rintro e w1 ⟨rfl, hb1⟩
    have B1 := Lib.hid hb1
    clear hb1
    go_wp2
    go_ret2
    exact ⟨rfl, B1.out⟩
theorem one_newW {w : World} {a : Value} {E H : Nat} (h : w.heap.size = H) : ∀ j u, [a][j]? = some u → (w.alloc (.cells #[a] E)).cell? ((⟨H, 0, none⟩ : Addr).add j) = some u := by
  subst h
  exact new_cells (l := [a])
set_option maxRecDepth 100000 in
set_option maxHeartbeats 8000000 in
theorem withinS_yes {ca cb : Nat} (A B : Option Addr) (na n : Nat) (fa : Nat → P3) (ln : Nat → Nat) (lf : Nat → Nat → P3) (band limit : Int) (w : World) (ha : na ≤ 1048576) (hn : n ≤ 1048576) (hl : ∀ i, i < n → ln i ≤ 1048576) (pa : PtsAt w A na fa) (pb : LsAt w B n ln lf) (h0 : liC na fa n ln lf band = 0) :
    Calls Try.prog 40 #[.slice A na ca, .slice B n cb, .int .i64 band, .int .i64 limit] w fun e w' => ∃ v, e = .returned (.tuple #[v, .int .i64 0]) ∧ w'.ownsRow w.heap.size 2 1 v (wst na fa ln lf band limit n).length (vals (wst na fa ln lf band limit n)) ∧ Below w.heap.size w w' := by
  obtain ⟨i0, hi0, hz0, hz1, hz2⟩ := rown.info_get infoJ
  have HC := Lib.hid (codeLS (ca := ca) (cb := cb) A B na n fa ln lf band w ha hn hl pa pb)
  have HPA := Lib.hid pa
  have HPB := Lib.hid pb
  obtain ⟨⟨va, hn40, vl⟩, hbd⟩ := liC_of h0
  have a2 := (okQ_of va).2.1
  have HL := Lib.hid (fun W Ai ci i (hi : i < n) hA hB => leastS (ca := ca) (cb := ci) A Ai na (ln i) fa (lf i) band W hA hB va (vl i hi))
  have HLN := Lib.hid (fun i (hi : i < n) => (okQ_of (vl i hi)).2.1)
  have HT := Lib.hid (show ∀ i, bandOk (na : Int) (ln i : Int) band = takes na ln band i from fun _ => rfl)
  have HCC := Lib.hid (show ∀ i, leastE na (ln i) fa (lf i) band = costL na fa ln lf band i from fun _ => rfl)
  have HPL := Lib.hid (wst_le na fa ln lf band limit)
  rw [h0] at HC
  obtain ⟨G, hG⟩ : ∃ G, wst na fa ln lf band limit = G := ⟨_, rfl⟩
  have HG := Lib.hid (show G 0 = [] ∧ ∀ i, G (i + 1) = if takes na ln band i = true ∧ costL na fa ln lf band i ≤ limit then G i ++ [(i : Int)] else G i by rw [← hG]; exact ⟨rfl, fun _ => rfl⟩)
  rw [hG] at HPL ⊢
  clear hG h0 va vl hbd ha pa pb hl
  go_enter Try.func40, Try.ntmps40
  go_wp2_with fail
  refine HC.out.mono ?_
  rintro e w1 ⟨rfl, hb1⟩
  have B1 := Lib.hid hb1
  have PA1 := Lib.hid (HPA.out.kept hb1)
  have PB1 := Lib.hid (HPB.out.kept hb1)
  clear hb1 HC HPA HPB
  go_wp2
  go_loopw [11, 12] (fun o i w' => ∃ (x L : Nat) (D : Option Addr) (d : Nat), x ≤ n ∧ L ≤ x ∧ i = .int .i64 (x : Int) ∧ o = .slice D L d ∧ Hid ((G x).length = L) ∧ Hid (w'.ownsRow w1.heap.size 2 1 (.slice D L d) L (vals (G x))) ∧ Hid (Below w1.heap.size w1 w')) (fun _ i _ => n - (intOf i).toNat)
  case atStart => exact ⟨0, 0, _, _, Nat.zero_le _, Nat.le_refl _, rfl, rfl, Lib.hid (by rw [HG.out.1]; rfl), Lib.hid (by rw [HG.out.1]; exact rown.empty_row w1 2 1), Lib.hid (below_alloc1 w1 (.cells #[] 2))⟩
  case round =>
    obtain ⟨x, L, D, d, hx, hLx, rfl, rfl, HLL, HO, HB⟩ := hrel
    by_cases hlt : x < n
    · have hli : (x : Int) < (n : Int) := by omega
      have hx1 : x + 1 ≤ n := by omega
      have hms : n - (x + 1) < n - x := by omega
      have hL60 : L ≤ 40 := by omega
      have hL1 : L ≤ x + 1 := by omega
      have hL2 : L + 1 ≤ x + 1 := by omega
      obtain ⟨g, o, Ai, ci, rfl, hg, c0, hp⟩ := (PB1.out.kept HB.out) x hlt
      have HI := Lib.hid (fun W => inS (ca := ca) (cb := ci) A Ai na (ln x) band W (by omega) (by have := HLN.out x hlt; omega))
      have H1 := Lib.hid (HL.out wr Ai ci x hlt (PA1.out.kept HB.out) hp)
      have HGX := Lib.hid (HG.out.2 x)
      rw [HT.out x] at HI
      rw [HCC.out x] at H1
      clear hp hlt hLx
      generalize costL na fa ln lf band x = v at *
      generalize takes na ln band x = t at *
      generalize ln x = q at *
      cases t with
      | false =>
        have HN := Lib.hid (show G (x + 1) = G x by rw [HGX.out, if_neg (fun h => by cases h.1)])
        clear HGX H1
        go_wp2_with fail
        with_reducible refine (HI.out _).mono ?_
        rintro e _ ⟨rfl, rfl⟩
        go_wp2
        go_roundw
        case rel => exact ⟨x + 1, L, D, d, hx1, hL1, by go_num, rfl, Lib.hid (by rw [HN.out]; exact HLL.out), Lib.hid (by rw [HN.out]; exact HO.out), HB⟩
        case measure => simp [intOf]; omega
      | true =>
        by_cases hv : v ≤ limit
        · have HN := Lib.hid (show G (x + 1) = G x ++ [(x : Int)] by rw [HGX.out, if_pos ⟨rfl, hv⟩])
          have Z3 := Lib.hid (show L + 1 ≤ maxLen by simp only [maxLen]; omega)
          have Z4 := Lib.hid (show (L + 1) * 8 ≤ 140737488355328 by omega)
          clear HGX
          go_wp2_with fail
          with_reducible refine (HI.out _).mono ?_
          rintro e _ ⟨rfl, rfl⟩
          go_wp2_with fail
          refine H1.out.mono ?_
          rintro e w2 ⟨rfl, hb2⟩
          have HO2 := Lib.hid (rown.ownsRow_kept HO.out hb2)
          have HB2 := Lib.hid (HB.out.trans (hb2.mono HB.out.size))
          clear hb2 H1 c0 hg HB HI HO
          go_wp2_with (first
            | (at_builtin
               have z0 := rown.ownsRow_kept HO2.out (below_alloc1 w2 (.cells #[.int .i64 (x : Int)] 2))
               have z2 : ∀ u ∈ [Value.int .i64 (x : Int)], u.oneCell' = true := (by simp [Value.oneCell'])
               have zb : w1.heap.size ≤ w2.heap.size := HB2.out.size
               have z5 : w1.heap.size ≤ (w2.alloc (.cells #[.int .i64 (x : Int)] 2)).heap.size := (Nat.le_trans zb (by simp))
               refine wpList_append_lies (w2.alloc (.cells #[.int .i64 (x : Int)] 2)) rfl _ _ 24 rfl w1.heap.size 2 i0 _ 1 8 Try.underlying24 hi0 hz0 hz1 hz2 rfl (by decide) (.slice D L d) L _ rfl z0 ⟨w2.heap.size, 0, none⟩ 1 1 [.int .i64 (x : Int)] rfl rfl (one_newW rfl) z2 (by decide) Z3.out Z4.out z5 _ rfl ?_
               intro g3 cap3 w5 hown hgr hat hlt3
               have HO5 := Lib.hid hown
               have HB5 := Lib.hid (HB2.out.trans (rown.under HO2.out zb hgr))
               clear hown hgr hat z0 z2 z5 zb HO2 HB2))
          go_wp2
          go_roundw
          case rel => exact ⟨x + 1, L + 1, some ⟨g3, 0, none⟩, cap3, hx1, hL2, by go_num, rfl, Lib.hid (by rw [HN.out, List.length_append, HLL.out]; rfl), Lib.hid (by rw [HN.out, vals_add]; exact HO5.out), HB5⟩
          case measure => simp [intOf]; omega
        · have HN := Lib.hid (show G (x + 1) = G x by rw [HGX.out, if_neg (fun h => hv h.2)])
          clear HGX
          go_wp2_with fail
          with_reducible refine (HI.out _).mono ?_
          rintro e _ ⟨rfl, rfl⟩
          go_wp2_with fail
          refine H1.out.mono ?_
          rintro e w2 ⟨rfl, hb2⟩
          have HO2 := Lib.hid (rown.ownsRow_kept HO.out hb2)
          have HB2 := Lib.hid (HB.out.trans (hb2.mono HB.out.size))
          clear hb2 H1 c0 hg HB HI HO
          go_wp2
          go_roundw
          case rel => exact ⟨x + 1, L, D, d, hx1, hL1, by go_num, rfl, Lib.hid (by rw [HN.out]; exact HLL.out), Lib.hid (by rw [HN.out]; exact HO2.out), HB2⟩
          case measure => simp [intOf]; omega
    · have hxn : ¬ (x : Int) < (n : Int) := by omega
      have hxe := Lib.hid (show x = n by omega)
      have BB := Lib.hid (B1.out.trans (HB.out.mono B1.out.size))
      have HO2 := Lib.hid (row_low HO.out B1.out.size)
      clear hlt
      go_wp2
      go_ret2
      exact ⟨_, rfl, by rw [← hxe.out, HLL.out]; exact HO2.out, BB.out⟩
end Go.Proofs.Ythpmckfjlbiiiaa.env

namespace Go.Proofs.Ythpmckfjlbiiiaa.env

open Go.ChangeShapes Go.WideShapes Go.ChangeAt Go.RowKit Go.Joins

open Go.Proofs.Ythpmckfjlbiiiaa.core Go.Proofs.Ythpmckfjlbiiiaa.rown Go.Proofs.Ythpmckfjlbiiiaa.stk Go.Proofs.Ythpmckfjlbiiiaa.boxed Go.Proofs.Ythpmckfjlbiiiaa.ft Go.Proofs.Ythpmckfjlbiiiaa.seq Go.Proofs.Ythpmckfjlbiiiaa.tab
set_option linter.unusedVariables false
set_option linter.unusedSimpArgs false
theorem run_none {P : Program} (w : World) (t ty e : TypeId) (i : TypeInfo) (ht : P.underlying t = some (.slice e)) (hi : P.info? e = some i) (ad : Addr) (n c : Nat) (hle : n ≤ c) (A : Option Addr) (d : Nat) :
    (Builtin.append_ #[t, t] ty #[.slice (some ad) n c, .slice A 0 d]).run P w = .ok (.slice (some ad) n c) w := by
  refine run_append_nothing w t t ty e i ht hi (some ad) n c hle (.slice A 0 d) ?_
  cases A with
  | none => exact Src.ofNil w ht d
  | some a => exact Src.ofSlice w ht a 0 d [] (by simp) (fun j u h => by simp at h) (fun u h => by cases h)
/-- Nothing is appended. -/
theorem wpList_append_none {P : Program} (w : World) {ops : Array Oper} {rest : List Oper} {o : Oper} {a : Act} {Q : Exit → Act → World → Prop} (hgd : o.guard = none) (s x : Operand) (t : TypeId)
    (ho : o.op = .call { callee := .builtin .append, args := #[s, x], argTypes := #[t, t] }) (e : TypeId) (i : TypeInfo) (ht : P.underlying t = some (.slice e)) (hi : P.info? e = some i)
    (ad : Addr) (n c : Nat) (hle : n ≤ c) (hs : a.eval s = .slice (some ad) n c) (A : Option Addr) (m d : Nat) (hm : m = 0) (hx : a.eval x = .slice A m d) (h : wpList P ops Q rest (a.put o.dst (.slice (some ad) n c)) w) : wpList P ops Q (o :: rest) a w :=
  wpList_plain hgd fun _ hK => by
    subst hm
    have hr := run_none (P := P) w t o.type e i ht hi ad n c hle A d
    unfold Oper.wp execOp
    simp only [ho, resolve, invoke, builtin, Sem.run_bind, Sem.run_pure, Result.andThen_ok, List.map_toArray, List.map_cons, List.map_nil, hs, hx, hr]
    exact hK _ _ h
theorem add_off (b o j : Nat) : (⟨b, o, none⟩ : Addr).add j = ⟨b, o + j, none⟩ := by unfold Addr.add; split <;> simp_all
theorem one_vals (g : Nat → Int) (n : Nat) : ∀ u ∈ rws (one g) n, u.oneCell' = true := by
  induction n with
  | zero => intro u hu; simp [rws] at hu
  | succ n ih =>
    intro u hu
    rw [rws_succ] at hu
    rcases List.mem_append.1 hu with h | h
    · exact ih u h
    · unfold one at h
      simp at h
      rw [h]; rfl
theorem num_news {w : World} {A : Addr} {n : Nat} {g : Nat → Int} (h : NumAt w (some A) n g) : ∀ j u, (rws (one g) n)[j]? = some u → w.cell? (A.add j) = some u := fun j u hu => by
  rcases Nat.lt_or_ge j n with hj | hj
  · obtain ⟨b, o, e, -, hc⟩ := h j hj
    cases e
    have e1 := rws_get (one_len g) j 0 (by omega) n hj
    rw [Nat.mul_one, Nat.add_zero] at e1
    rw [e1] at hu
    have : (⟨b, o, none⟩ : Addr).add j = ⟨b, o + j, none⟩ := add_off b o j
    rw [this, hc]
    exact hu
  · rw [List.getElem?_eq_none (by rw [rws_len (one_len g)]; omega)] at hu
    cases hu
set_option maxRecDepth 100000 in
set_option maxHeartbeats 4000000 in
theorem ownNS {c : Nat} (A : Option Addr) (n : Nat) (g : Nat → Int) (w : World) (hn : n ≤ 1048576) (hp : NumAt w A n g) :
    Calls Try.prog 84 #[.slice A n c] w fun e w' => ∃ (G C : Nat), e = .returned (.slice (some ⟨G, 0, none⟩) n C) ∧ w'.ownsRow w.heap.size 2 1 (.slice (some ⟨G, 0, none⟩) n C) n (rws (one g) n) ∧ Below w.heap.size w w' := by
  obtain ⟨i0, hi0, hz0, hz1, hz2⟩ := rown.info_get infoJ
  have hbl := below_alloc1 w (.cells #[] 2)
  have HE := Lib.hid (rown.empty_row w 2 1)
  rcases Nat.eq_zero_or_pos n with rfl | hpos
  · have HB := Lib.hid hbl
    clear hp hbl
    go_enter Try.func84, Try.ntmps84
    go_wp2_with (first
      | (at_builtin
         refine wpList_append_none _ rfl _ _ 24 rfl 2 i0 Try.underlying24 hi0 ⟨w.heap.size, 0, none⟩ 0 0 (Nat.le_refl _) rfl A 0 c rfl rfl ?_))
    go_wp2
    go_ret
    exact ⟨_, _, rfl, HE.out, HB.out⟩
  · obtain ⟨b, o, rfl, -, -⟩ := hp 0 hpos
    have HN := Lib.hid (num_news (hp.kept hbl))
    have HB := Lib.hid hbl
    have hz : w.heap.size ≤ (w.alloc (.cells #[] 2)).heap.size := by simp
    have Z3 := Lib.hid (show 0 + n ≤ maxLen by simp only [maxLen]; omega)
    have Z4 := Lib.hid (show (0 + n) * 8 ≤ 140737488355328 by omega)
    clear hp hbl
    go_enter Try.func84, Try.ntmps84
    go_wp2_with (first
      | (at_builtin
         refine wpList_append_lies (w.alloc (.cells #[] 2)) rfl _ _ 24 rfl w.heap.size 2 i0 _ 1 8 Try.underlying24 hi0 hz0 hz1 hz2 rfl (by decide) (.slice (some ⟨w.heap.size, 0, none⟩) 0 0) 0 [] rfl HE.out ⟨b, o, none⟩ n c (rws (one g) n) rfl (rws_len (one_len g) n) HN.out (one_vals g n) hpos Z3.out Z4.out hz _ rfl ?_
         intro g3 cap3 w5 hown hgr hat hlt3
         have HO5 := Lib.hid (show w5.ownsRow w.heap.size 2 1 (.slice (some ⟨g3, 0, none⟩) n cap3) n (rws (one g) n) by simpa using hown)
         have HB5 := Lib.hid (HB.out.trans ((Below.refl w.heap.size _).grown hgr hz (fun k hk => (rown.ownsRow_block HE.out hk).1)))
         clear hown hgr hat))
    go_wp2
    go_ret
    exact ⟨g3, cap3, by simp, HO5.out, HB5.out⟩
end Go.Proofs.Ythpmckfjlbiiiaa.env
