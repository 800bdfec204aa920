/-
  Proved: for every text, the call of the law on SplitWords returns true and leaves its argument as it was.
  Conditions: none beyond the row's own.
-/
import Derived.Test.YtpkofhchijpbeaaSplitI
import Derived.Test.YtpkofhchijpbeaaIsWord
namespace Go.Proofs.Ytpkofhchijpbeaa.fnExactSplitWords
open Go.ChangeShapes Go.WideShapes Go.ChangeAt Go.RowKit Go.Joins
open Go.ChangeMaps (open_string shut_string)
open Go.Proofs.Ytpkofhchijpbeaa.strs Go.Proofs.Ytpkofhchijpbeaa.words
open Go.Proofs.Ytpkofhchijpbeaa.fnExactIsWord (own)
set_option linter.unusedVariables false

def tx (L : List ByteArray) (i : Nat) : ByteArray := (L[i]?).getD ⟨#[]⟩
theorem ownT_of {w : World} {base g n c : Nat} {L : List ByteArray} (h : w.ownsRow base 9 1 (.slice (some ⟨g, 0, none⟩) n c) n (L.map Value.string)) (hn : L.length = n) : OwnT w g n (tx L) ∧ base ≤ g := by
  have hb := ownsRow_block h rfl
  refine ⟨⟨?_⟩, hb.1⟩
  obtain ⟨cur, hc⟩ := hb.2
  refine ⟨cur, hc, fun i hi => ?_⟩
  have hl : i < L.length := by omega
  have e := List.getElem?_eq_getElem hl
  have hcell := (row_cell h e hn).1
  rw [cell_of_block hc] at hcell
  rw [hcell]
  simp [tx, e]
theorem words_size (s : ByteArray) : (wordsOf s).length ≤ s.size + 1 := Nat.le_trans (List.length_filter_le _ _) (cuts_size s)
theorem mark_one {c : Nat} (g n : Nat) (f : Nat → ByteArray) (w : World) (hk : 1 + n ≤ 1000000000000) (hp : OwnT w g n f) :
    Calls Try.prog 11 #[.slice (some ⟨g, 0, none⟩) n c, .int .i64 1] w fun e w' => e = .returned (.int .i64 ((1 + n : Nat) : Int)) ∧ OwnT w' g n (fun i => mt (1 + i)) ∧ But g w w' := markStringS_some g n 1 f w (Nat.le_refl _) hk hp
theorem held_one {c : Nat} (g n : Nat) (w : World) (hk : 1 + n ≤ 1000000000000) (hp : OwnT w g n (fun i => mt (1 + i))) :
    Calls Try.prog 12 #[.slice (some ⟨g, 0, none⟩) n c, .int .i64 1] w fun e w' => e = .returned (.int .i64 ((1 + n : Nat) : Int)) ∧ Below w.heap.size w w' := heldStringS_some g n 1 w (Nat.le_refl _) hk hp

set_option maxRecDepth 100000 in
set_option maxHeartbeats 4000000 in
theorem walk (s : ByteArray) (w : World) (hmx : s.size ≤ maxLen) : Calls Try.prog 4 #[.string s] w fun e w' => e = .returned (.bool true) ∧ Below w.heap.size w w' := by
  have hmm : s.size ≤ 9223372036854775807 := by unfold maxLen at hmx; omega
  by_cases hs : s.size ≤ 1048576
  · have hs' : ¬ ((1048576 : Int) < (s.size : Int)) := by omega
    obtain ⟨n, hn⟩ : ∃ n, (wordsOf s).length = n := ⟨_, rfl⟩
    have hnz : n ≤ 1048577 := by have := words_size s; omega
    have HSp := Lib.hid (fun (W : World) => specSplit_calls s W hs)
    have HIm := Lib.hid (fun (W : World) => implSplit_calls s W hs)
    rw [hn] at HSp HIm
    have HN := Lib.hid hn
    clear hn
    go_enter Try.func4, Try.ntmps4
    go_wp2_with fail
    refine (HSp.out _).mono ?_
    rintro e w1 ⟨g1, c1, rfl, ho1, hb1⟩
    have HO1 := Lib.hid (ownT_of ho1 HN.out)
    have HB1 := Lib.hid hb1
    clear ho1 hb1
    go_wp2_with fail
    refine (HIm.out _).mono ?_
    rintro e w2 ⟨g2, c2, rfl, ho2, hb2⟩
    have HO2 := Lib.hid (ownT_of ho2 HN.out)
    have HO12 := Lib.hid (HO1.out.1.kept hb2)
    have hlt1 := HO1.out.1.lt
    have hge2 := HO2.out.2
    have hge1 := HO1.out.2
    have HB2 := Lib.hid (HB1.out.trans (hb2.mono HB1.out.size))
    clear ho2 hb2 HB1
    go_wp2_with fail
    refine (eqStringS_some g2 g1 n (tx (wordsOf s)) _ (by omega) HO2.out.1 HO12.out).mono ?_
    rintro e w3 ⟨rfl, hb3⟩
    have HO23 := Lib.hid (HO2.out.1.kept hb3)
    have HO13 := Lib.hid (HO12.out.kept hb3)
    have HB3 := Lib.hid (HB2.out.trans (hb3.mono HB2.out.size))
    clear hb3 HB2 HO12
    go_wp2_with fail
    refine (mark_one g2 n (tx (wordsOf s)) _ (by omega) HO23.out).mono ?_
    rintro e w4 ⟨rfl, ho4, hw4⟩
    have HO24 := Lib.hid ho4
    have HO14 := Lib.hid (HO13.out.same (hw4.block _ HO13.out.lt (by omega)))
    have HB4 := Lib.hid (HB3.out.trans (hw4.below (by omega) HB3.out.size))
    clear ho4 hw4 HB3 HO13 HO23
    go_wp2_with fail
    refine (held_one g2 n _ (by omega) HO24.out).mono ?_
    rintro e w5 ⟨rfl, hb5⟩
    have HO25 := Lib.hid (HO24.out.kept hb5)
    have HO15 := Lib.hid (HO14.out.kept hb5)
    have HB5 := Lib.hid (HB4.out.trans (hb5.mono HB4.out.size))
    clear hb5 HB4 HO14 HO24
    have hq : ¬ (((1 + n : Nat) : Int) < 0) := by omega
    go_wp2_with fail
    refine (HIm.out _).mono ?_
    rintro e w6 ⟨g6, c6, rfl, ho6, hb6⟩
    have HO6 := Lib.hid (ownT_of ho6 HN.out).1
    have HO26 := Lib.hid (HO25.out.kept hb6)
    have HO16 := Lib.hid (HO15.out.kept hb6)
    have HB6 := Lib.hid (HB5.out.trans (hb6.mono HB5.out.size))
    clear ho6 hb6 HB5 HO15 HO25
    go_wp2_with fail
    refine (eqStringS_some g6 g1 n (tx (wordsOf s)) _ (by omega) HO6.out HO16.out).mono ?_
    rintro e w7 ⟨rfl, hb7⟩
    have HO27 := Lib.hid (HO26.out.kept hb7)
    have HB7 := Lib.hid (HB6.out.trans (hb7.mono HB6.out.size))
    clear hb7 HB6 HO26 HO16 HO6
    go_wp2_with fail
    refine (held_one g2 n _ (by omega) HO27.out).mono ?_
    rintro e w8 ⟨rfl, hb8⟩
    have HB8 := Lib.hid (HB7.out.trans (hb8.mono HB7.out.size))
    clear hb8 HB7 HO27
    go_wp2
    go_ret
    exact ⟨rfl, HB8.out⟩
  · have hs' : (1048576 : Int) < (s.size : Int) := by omega
    go_enter Try.func4, Try.ntmps4
    go_wp2
    go_ret
    exact ⟨rfl, Below.refl _ _⟩

theorem reads : ∀ t ∈ Try.f4.params.toList, Try.prog.readableRec t = true ∧ t < Try.prog.types.size := by
  rw [Try.params4]
  intro t ht
  obtain rfl : t = 9 := by simpa using ht
  exact ⟨by kernel_rfl, of_decide_eq_true (by kernel_rfl)⟩

set_option maxRecDepth 100000 in
theorem contract (H : Type) (enc : TypeId × Value → H) (W : World) (base : Nat) (args : Array Value) (ds gs : List (DataW H)) (before : List MemPlace)
    (hval : ∀ (j : Nat) t v, Try.f4.params[j]? = some t → args[j]? = some v → Value.okWide Try.prog W .any base t v)
    (hW : DataW.Whole enc Try.prog Try.f4.params.toList Rows.fnExactSplitWordsSpec.vars false W args.toList ds gs before) :
    Calls Try.prog 4 args W fun e W' => ∃ v, e = .returned v ∧ Rows.fnExactSplitWordsSpec.post enc Try.prog Try.f4 false true false false W args v W' := by
  have hW' := hW
  obtain ⟨p, q, hA0, hV, rfl, hfz, hnd⟩ := hW
  have hA : DataW.TrodAll enc Try.prog W 0 (fun _ => true) true Try.f4.params.toList args.toList ds p := hA0
  rw [Try.params4] at hA hval
  obtain ⟨v0, vs0, d0, ds0, p0, q0, hargs, rfl, rfl, h0, r0⟩ := trodAll_cons hA
  obtain ⟨rfl, rfl, rfl⟩ := trodAll_nil r0
  obtain rfl : args = #[v0] := by cases args; simp_all
  obtain ⟨rfl, rfl⟩ := trodVars_none hV
  obtain ⟨s, rfl, rfl, rfl, hs⟩ := open_string Try.underlying9 (hval 0 9 v0 rfl rfl) h0
  clear hA0
  refine (walk s W hs).mono fun e W' ⟨he, hg⟩ => ?_
  subst he
  exact ⟨_, rfl, law_post (by kernel_rfl) reads (by kernel_rfl) Try.underlying4 rfl hW' rfl rfl rfl hg⟩

set_option maxRecDepth 100000 in
theorem lifted (os : Os) (started : os.Started) (H : Type) (enc : TypeId × Value → H) :
    ReturnsInHanded {} Try.checked os 4 .any (Rows.fnExactSplitWordsSpec.pre6 enc Try.prog Try.f4 Rows.fnExactSplitWordsRow.domain false) (Rows.fnExactSplitWordsSpec.post enc Try.prog Try.f4 false true false false) := by
  refine returnsInHanded_of_change (C := Try.checked) own started (by kernel_rfl) Try.func4
    (ChangeSpec.witness6 (enc := enc) (C := Try.checked) false ⟨#[], #[.string ⟨#[]⟩], []⟩ 8 (by kernel_rfl) (by kernel_rfl) (by kernel_rfl) (by kernel_rfl)) ?_
  intro W base args ds gs before hval hW _ _
  exact contract H enc W base args ds gs before hval hW

theorem holds : Rows.FnExactSplitWordsSaid :=
  OpenClaim.holds_of_wide 4 Try.f4 rfl rfl rfl rfl rfl rfl rfl ⟨rfl, rfl, rfl, rfl, rfl⟩ rfl rfl rfl rfl rfl (by kernel_rfl) Try.func4 (by kernel_rfl)
    (of_decide_eq_true (by kernel_rfl)) (by unfold Func.isWrapper; first | (rw [if_pos (by decide +kernel)]; kernel_rfl) | (rw [if_neg (by decide +kernel)]; exact ⟨rfl, rfl⟩))
    (fun os started H enc _ => lifted os started H enc)
end Go.Proofs.Ytpkofhchijpbeaa.fnExactSplitWords
