/-
  Proved: what matches sorted by insertion are (plain lemmas); an append of any number of cells; the nearest matches of a store, as the document's function returns them; the nearest matches of a store, as the program returns them; what both functions Nearest return.
  Conditions: those of each theorem.
-/
import Derived.Test.YtkcfghbkcgommaaMatI
import Derived.Test.YtkcfghbkcgommaaOwnS
import Derived.Deep.RegionHeld3
import Derived.Deep.DeepCutAuto
import Derived.Test.YtkcfghbkcgommaaHpJ
namespace Go.Proofs.Ytkcfghbkcgommaa.hp
open Go.ChangeShapes Go.WideShapes Go.ChangeAt Go.RowKit Go.Joins
open Go.Proofs.Ytkcfghbkcgommaa.core Go.Proofs.Ytkcfghbkcgommaa.rown Go.Proofs.Ytkcfghbkcgommaa.stk Go.Proofs.Ytkcfghbkcgommaa.boxed Go.Proofs.Ytkcfghbkcgommaa.put3 Go.Proofs.Ytkcfghbkcgommaa.ft Go.Proofs.Ytkcfghbkcgommaa.revQ Go.Proofs.Ytkcfghbkcgommaa.mat Go.Proofs.Ytkcfghbkcgommaa.env Go.Proofs.Ytkcfghbkcgommaa.seq
set_option linter.unusedVariables false
set_option linter.unusedSimpArgs false
/-- Behind how many of the first k pairs a cost comes. -/
def kq (f : Nat → P2) (v : Int) : Nat → Nat
  | 0 => 0
  | k + 1 => if v < (f k).2 then kq f v k else k + 1
theorem kq_le (f : Nat → P2) (v : Int) : ∀ k, kq f v k ≤ k
  | 0 => Nat.le_refl _
  | k + 1 => by
    have := kq_le f v k
    unfold kq; split <;> omega
theorem kq_spec (f : Nat → P2) (v : Int) : ∀ n, (∀ j, kq f v n ≤ j → j < n → v < (f j).2) ∧ (0 < kq f v n → (f (kq f v n - 1)).2 ≤ v)
  | 0 => ⟨fun j _ h => absurd h (by omega), fun h => by simp [kq] at h⟩
  | n + 1 => by
    obtain ⟨h1, h2⟩ := kq_spec f v n
    rw [kq]
    split
    · rename_i h
      refine ⟨fun j hj hn => ?_, h2⟩
      rcases Nat.lt_or_ge j n with h' | h'
      · exact h1 j hj h'
      · obtain rfl : j = n := by omega
        exact h
    · rename_i h
      refine ⟨fun j hj hn => by omega, fun _ => ?_⟩
      rw [Nat.add_sub_cancel]
      omega
/-- A pair put in at y. -/
def insF (f : Nat → P2) (y : Nat) (p : P2) : Nat → P2 := fun j => if j < y then f j else if j = y then p else f (j - 1)
/-- The first pairs, sorted by cost. -/
def srt (m : Nat → P2) : Nat → (Nat → P2)
  | 0 => m
  | x + 1 => insF (srt m x) (kq (srt m x) (m x).2 x) (m x)
def Rise (m : Nat → P2) (N : Nat) : Prop := ∀ i j, i < j → j < N → (m i).1 < (m j).1
theorem Asc.inj {s : Nat → P2} {n : Nat} (h : Asc s n) : ∀ i j, i < n → j < n → s i = s j → i = j := fun i j hi hj e => by
  rcases Nat.lt_trichotomy i j with c | c | c
  · have := h i j c hj; rw [e] at this; exact (lt2_irr this).elim
  · exact c
  · have := h j i c hi; rw [e] at this; exact (lt2_irr this).elim
theorem srt_ok {m : Nat → P2} {N : Nat} (hm : Rise m N) : ∀ x, x ≤ N → Asc (srt m x) x ∧ Sm x m (srt m x)
  | 0, _ => ⟨fun i j _ h => absurd h (by omega), ⟨fun j h => absurd h (by omega), fun j h => absurd h (by omega), fun i j h => absurd h (by omega)⟩⟩
  | x + 1, hx => by
    obtain ⟨hA, hS⟩ := srt_ok hm x (by omega)
    have hk := kq_spec (srt m x) (m x).2 x
    have hle := kq_le (srt m x) (m x).2 x
    have hidx : ∀ j, j < x → (srt m x j).1 < (m x).1 := fun j hj => by
      obtain ⟨i, a, b⟩ := hS.into j hj
      rw [b]; exact hm i x a (by omega)
    have e : srt m (x + 1) = insF (srt m x) (kq (srt m x) (m x).2 x) (m x) := rfl
    rw [e]
    generalize kq (srt m x) (m x).2 x = y at *
    generalize srt m x = s at *
    have lo : ∀ j, j < y → lt2 (s j) (m x) := fun j hj => by
      have h1 := hidx j (by omega)
      have h2 := hk.2 (by omega)
      have h3 : (s j).2 ≤ (s (y - 1)).2 := by
        by_cases c : j = y - 1
        · rw [c]; exact Int.le_refl _
        · have := hA j (y - 1) (by omega) (by omega)
          unfold lt2 at this; omega
      unfold lt2; omega
    have hi : ∀ j, y ≤ j → j < x → lt2 (m x) (s j) := fun j h1 h2 => .inl (hk.1 j h1 h2)
    have hAsc : Asc (insF s y (m x)) (x + 1) := fun i j hij hj => by
      unfold insF
      by_cases c1 : i < y
      · rw [if_pos c1]
        by_cases c2 : j < y
        · rw [if_pos c2]; exact hA i j hij (by omega)
        · rw [if_neg c2]
          by_cases c3 : j = y
          · rw [if_pos c3]; exact lo i c1
          · rw [if_neg c3]; exact hA i (j - 1) (by omega) (by omega)
      · rw [if_neg c1, if_neg (show ¬ j < y by omega), if_neg (show ¬ j = y by omega)]
        by_cases c3 : i = y
        · rw [if_pos c3]; exact hi (j - 1) (by omega) (by omega)
        · rw [if_neg c3]; exact hA (i - 1) (j - 1) (by omega) (by omega)
    refine ⟨hAsc, fun j hj => ?_, fun i hi' => ?_, hAsc.inj⟩
    · unfold insF
      by_cases c1 : j < y
      · rw [if_pos c1]
        obtain ⟨i, a, b⟩ := hS.into j (by omega)
        exact ⟨i, by omega, b⟩
      · rw [if_neg c1]
        by_cases c2 : j = y
        · rw [if_pos c2]; exact ⟨x, by omega, rfl⟩
        · rw [if_neg c2]
          obtain ⟨i, a, b⟩ := hS.into (j - 1) (by omega)
          exact ⟨i, by omega, b⟩
    · by_cases c : i = x
      · exact ⟨y, by omega, by unfold insF; rw [if_neg (by omega), if_pos rfl, c]⟩
      · obtain ⟨j, a, b⟩ := hS.back i (by omega)
        by_cases c1 : j < y
        · exact ⟨j, by omega, by unfold insF; rw [if_pos c1]; exact b⟩
        · exact ⟨j + 1, by omega, by unfold insF; rw [if_neg (by omega), if_neg (by omega), Nat.add_sub_cancel]; exact b⟩
theorem sm_push {m f : Nat → P2} {N x : Nat} (hm : Rise m N) (hx : x < N) (h : Sm x m f) : Sm (x + 1) m (put2 f x (m x)) := by
  have hidx : ∀ j, j < x → (f j).1 < (m x).1 := fun j hj => by
    obtain ⟨i, a, b⟩ := h.into j hj
    rw [b]; exact hm i x a hx
  refine ⟨fun j hj => ?_, fun i hi => ?_, fun i j hi hj e => ?_⟩
  · unfold put2
    by_cases c : j = x
    · rw [if_pos c]; exact ⟨x, by omega, rfl⟩
    · rw [if_neg c]
      obtain ⟨i, a, b⟩ := h.into j (by omega)
      exact ⟨i, by omega, b⟩
  · by_cases c : i = x
    · exact ⟨x, by omega, by unfold put2; rw [if_pos rfl, c]⟩
    · obtain ⟨j, a, b⟩ := h.back i (by omega)
      exact ⟨j, by omega, by unfold put2; rw [if_neg (by omega)]; exact b⟩
  · unfold put2 at e
    by_cases c1 : i = x <;> by_cases c2 : j = x
    · omega
    · rw [if_pos c1, if_neg c2] at e
      have := hidx j (by omega); rw [e] at this; omega
    · rw [if_neg c1, if_pos c2] at e
      have := hidx i (by omega); rw [e] at this; omega
    · rw [if_neg c1, if_neg c2] at e
      exact h.inj i j (by omega) (by omega) e
theorem mst_rise (na : Nat) (fa : Nat → P3) (ln : Nat → Nat) (lf : Nat → Nat → P3) (band : Int) : ∀ k, Rise (mst na fa ln lf band k).2 (mst na fa ln lf band k).1 ∧ ∀ i, i < (mst na fa ln lf band k).1 → ((mst na fa ln lf band k).2 i).1 < (k : Int)
  | 0 => ⟨fun i j _ h => absurd h (Nat.not_lt_zero _), fun i h => absurd h (Nat.not_lt_zero _)⟩
  | k + 1 => by
    obtain ⟨h1, h2⟩ := mst_rise na fa ln lf band k
    have hs : mst na fa ln lf band (k + 1) = if takes na ln band k = true then apd (mst na fa ln lf band k) ((k : Int), costL na fa ln lf band k) else mst na fa ln lf band k := rfl
    rw [hs]
    split
    · refine ⟨fun i j hij hj => ?_, fun i hi => ?_⟩
      · have hj' : j < (mst na fa ln lf band k).1 + 1 := hj
        show (put2 _ _ _ i).1 < (put2 _ _ _ j).1
        unfold put2
        rw [if_neg (by omega)]
        by_cases c : j = (mst na fa ln lf band k).1
        · rw [if_pos c]; exact h2 i (by omega)
        · rw [if_neg c]; exact h1 i j hij (by omega)
      · have hi' : i < (mst na fa ln lf band k).1 + 1 := hi
        show (put2 _ _ _ i).1 < _
        unfold put2
        by_cases c : i = (mst na fa ln lf band k).1
        · rw [if_pos c]; simp only; omega
        · rw [if_neg c]; have := h2 i (by omega); omega
    · exact ⟨h1, fun i hi => by have := h2 i hi; omega⟩
theorem rows_insF (f : Nat → P2) (y : Nat) (p : P2) : ∀ t, rws (sp2 f) y ++ [.int .i64 p.1, .int .i64 p.2] ++ rws (sp2 fun j => f (y + j)) t = rws (sp2 (insF f y p)) (y + t + 1)
  | 0 => by
    rw [rws_succ]
    show rws (sp2 f) y ++ _ ++ [] = _
    rw [List.append_nil]
    congr 1
    · refine rws_congr _ fun i hi => ?_
      unfold sp2 insF
      rw [if_pos hi]
    · unfold sp2 insF
      rw [if_neg (by omega), if_pos rfl]
  | t + 1 => by
    have ih := rows_insF f y p t
    rw [rws_succ, ← List.append_assoc, ih]
    conv => rhs; rw [rws_succ]
    rw [show y + (t + 1) = y + t + 1 by omega]
    congr 1
    unfold sp2 insF
    rw [if_neg (by omega), if_neg (by omega), Nat.add_sub_cancel]
theorem dm_news {w : World} {b E g n c : Nat} {f : Nat → P2} (h : w.ownsRow b E 2 (.slice (some ⟨g, 0, none⟩) n c) n (rws (sp2 f) n)) (y : Nat) (hy : y ≤ n) : ∀ j u, (rws (sp2 f) y)[j]? = some u → w.cell? ((⟨g, 0, none⟩ : Addr).add j) = some u := fun j u hu => by
  rcases Nat.lt_or_ge j (y * 2) with hj | hj
  · obtain ⟨a, r, hr, rfl⟩ : ∃ a r, r < 2 ∧ j = a * 2 + r := ⟨j / 2, j % 2, by omega, by omega⟩
    refine h.cells (g := g) rfl _ u ?_
    rw [rws_get (sp2_len f) a r hr y (by omega)] at hu
    rw [rws_get (sp2_len f) a r hr n (by omega)]
    exact hu
  · rw [List.getElem?_eq_none (by rw [rws_len (sp2_len f)]; omega)] at hu; cases hu
theorem dm_drop {w : World} {b E g n c : Nat} {f : Nat → P2} (h : w.ownsRow b E 2 (.slice (some ⟨g, 0, none⟩) n c) n (rws (sp2 f) n)) (y : Nat) : ∀ j u, (rws (sp2 fun i => f (y + i)) (n - y))[j]? = some u → w.cell? ((⟨g, y * 2, none⟩ : Addr).add j) = some u := fun j u hu => by
  rcases Nat.lt_or_ge j ((n - y) * 2) with hj | hj
  · obtain ⟨a, r, hr, rfl⟩ : ∃ a r, r < 2 ∧ j = a * 2 + r := ⟨j / 2, j % 2, by omega, by omega⟩
    rw [rws_get (sp2_len _) a r hr (n - y) (by omega)] at hu
    have h1 := h.cells (g := g) rfl ((y + a) * 2 + r) u (by rw [rws_get (sp2_len f) (y + a) r hr n (by omega)]; exact hu)
    rw [add_off] at h1 ⊢
    rw [← h1]
    congr 2
    omega
  · rw [List.getElem?_eq_none (by rw [rws_len (sp2_len _)]; omega)] at hu; cases hu
theorem two_cells (f : Nat → P2) (n : Nat) : ∀ u ∈ rws (sp2 f) n, u.oneCell' = true := by
  induction n with
  | zero => intro u hu; simp [rws] at hu
  | succ n ih =>
    intro u hu
    rw [rws_succ] at hu
    rcases List.mem_append.1 hu with h | h
    · exact ih u h
    · unfold sp2 at h
      simp at h
      rcases h with rfl | rfl <;> rfl
/-- Any number of cells is appended to a list of one's own. -/
theorem wpList_append_any {P : Program} (w : World) {ops : Array Oper} {rest : List Oper} {o : Oper} {a : Act} {Q : Exit → Act → World → Prop} (hgd : o.guard = none) (s x : Operand) (t : TypeId)
    (ho : o.op = .call { callee := .builtin .append, args := #[s, x], argTypes := #[t, t] })
    (base : Nat) (e : TypeId) (i : TypeInfo) (z : Value) (size bytes : Nat) (ht : P.underlying t = some (.slice e)) (hi : P.info? e = some i) (hz : i.zero = some z)
    (hsize : i.size = size) (hby : i.bytes = bytes) (hzs : z.cells.size = size) (hsz : 0 < size)
    (g0 c0 n : Nat) (xs : List Value) (hs : a.eval s = .slice (some ⟨g0, 0, none⟩) n c0) (hown : w.ownsRow base e size (.slice (some ⟨g0, 0, none⟩) n c0) n xs)
    (A : Option Addr) (m c : Nat) (news : List Value) (hx : a.eval x = .slice A m c) (hl : news.length = m * size) (hnews : 0 < m → ∃ ad, A = some ad ∧ ∀ j u, news[j]? = some u → w.cell? (ad.add j) = some u) (h1 : ∀ u ∈ news, u.oneCell' = true)
    (h63 : n + m ≤ maxLen) (hbytes : (n + m) * bytes ≤ 140737488355328) (hbase : base ≤ w.heap.size)
    (h : ∀ g cap w', w'.ownsRow base e size (.slice (some ⟨g, 0, none⟩) (n + m) cap) (n + m) (xs ++ news) → Below base w w' → wpList P ops Q rest (a.put o.dst (.slice (some ⟨g, 0, none⟩) (n + m) cap)) w') : wpList P ops Q (o :: rest) a w := by
  rcases Nat.eq_zero_or_pos m with h0 | hm
  · have hle : n ≤ c0 := by
      obtain ⟨-, h⟩ := hown
      rcases h with ⟨h, _⟩ | ⟨g', cap, cur, e, h1, h2, h3, h4⟩
      · cases h
      · cases e; exact h3
    refine wpList_append_none w hgd s x t ho e i ht hi ⟨g0, 0, none⟩ n c0 hle hs A m c h0 hx ?_
    have hn0 : news = [] := List.length_eq_zero_iff.1 (by rw [hl, h0]; simp)
    have := h g0 c0 w (by rw [hn0, h0]; simpa using hown) (Below.refl _ _)
    rw [h0] at this
    simpa using this
  · obtain ⟨ad, rfl, hn⟩ := hnews hm
    refine wpList_append_lies w hgd s x t ho base e i z size bytes ht hi hz hsize hby hzs hsz _ n xs hs hown ad m c news hx hl hn h1 hm h63 hbytes hbase _ rfl ?_
    intro g cap w' hown' hgr hat hlt
    exact h g cap w' hown' ((Below.refl base w).grown hgr hbase (fun k hk => (rown.ownsRow_block hown hk).1))
/-- Any number of cells is appended to a list without elements. -/
theorem wpList_append_new {P : Program} (w : World) {ops : Array Oper} {rest : List Oper} {o : Oper} {a : Act} {Q : Exit → Act → World → Prop} (hgd : o.guard = none) (s x : Operand) (t : TypeId)
    (ho : o.op = .call { callee := .builtin .append, args := #[s, x], argTypes := #[t, t] })
    (base : Nat) (e : TypeId) (i : TypeInfo) (z : Value) (size bytes : Nat) (ht : P.underlying t = some (.slice e)) (hi : P.info? e = some i) (hz : i.zero = some z)
    (hsize : i.size = size) (hby : i.bytes = bytes) (hzs : z.cells.size = size) (hsz : 0 < size)
    (g0 c0 : Nat) (hs : a.eval s = .slice (some ⟨g0, 0, none⟩) 0 c0) (hown : w.ownsRow base e size (.slice (some ⟨g0, 0, none⟩) 0 c0) 0 [])
    (A : Option Addr) (m c : Nat) (news : List Value) (hx : a.eval x = .slice A m c) (hl : news.length = m * size) (hnews : 0 < m → ∃ ad, A = some ad ∧ ∀ j u, news[j]? = some u → w.cell? (ad.add j) = some u) (h1 : ∀ u ∈ news, u.oneCell' = true)
    (h63 : m ≤ maxLen) (hbytes : m * bytes ≤ 140737488355328) (hbase : base ≤ w.heap.size)
    (h : ∀ g cap w', w'.ownsRow base e size (.slice (some ⟨g, 0, none⟩) m cap) m news → Below base w w' → wpList P ops Q rest (a.put o.dst (.slice (some ⟨g, 0, none⟩) m cap)) w') : wpList P ops Q (o :: rest) a w := by
  refine wpList_append_any w hgd s x t ho base e i z size bytes ht hi hz hsize hby hzs hsz g0 c0 0 [] hs hown A m c news hx hl hnews h1 (by omega) (by rw [Nat.zero_add]; exact hbytes) hbase ?_
  intro g cap w' hown' hb
  rw [Nat.zero_add] at hown' ⊢
  exact h g cap w' (by simpa using hown') hb
end Go.Proofs.Ytkcfghbkcgommaa.hp
namespace Go.Proofs.Ytkcfghbkcgommaa.hp
open Go.ChangeShapes Go.WideShapes Go.ChangeAt Go.RowKit Go.Joins
open Go.Proofs.Ytkcfghbkcgommaa.core Go.Proofs.Ytkcfghbkcgommaa.rown Go.Proofs.Ytkcfghbkcgommaa.stk Go.Proofs.Ytkcfghbkcgommaa.boxed Go.Proofs.Ytkcfghbkcgommaa.put3 Go.Proofs.Ytkcfghbkcgommaa.ft Go.Proofs.Ytkcfghbkcgommaa.revQ Go.Proofs.Ytkcfghbkcgommaa.mat Go.Proofs.Ytkcfghbkcgommaa.env Go.Proofs.Ytkcfghbkcgommaa.seq Go.Proofs.Ytkcfghbkcgommaa.sto Go.Proofs.Ytkcfghbkcgommaa.lab Go.Proofs.Ytkcfghbkcgommaa.tab
set_option linter.unusedVariables false
set_option linter.unusedSimpArgs false
/-- How many of N matches are told. -/
def kMin (k : Int) (N : Nat) : Nat := min k.toNat N
theorem own_cut {w : World} {b E g n m c : Nat} {f : Nat → P2} (h : w.ownsRow b E 2 (.slice (some ⟨g, 0, none⟩) n c) n (rws (sp2 f) n)) (hm : m ≤ n) : w.ownsRow b E 2 (.slice (some ⟨g, 0, none⟩) m c) m (rws (sp2 f) m) := by
  obtain ⟨hl, h⟩ := h
  refine ⟨rws_len (sp2_len f) m, ?_⟩
  rcases h with ⟨h, _⟩ | ⟨g', cap, cur, e, h1, h2, h3, h4, h5, h6⟩
  · cases h
  · cases e
    refine .inr ⟨g, _, cur, rfl, h1, h2, Nat.le_trans hm h3, h4, h5, ?_⟩
    have e1 : rws (sp2 f) m = (rws (sp2 f) n).take (m * 2) := by
      apply List.ext_getElem?
      intro j
      rw [List.getElem?_take]
      rcases Nat.lt_or_ge j (m * 2) with hj | hj
      · obtain ⟨a, r, hr, rfl⟩ : ∃ a r, r < 2 ∧ j = a * 2 + r := ⟨j / 2, j % 2, by omega, by omega⟩
        rw [if_pos hj, rws_get (sp2_len f) a r hr m (by omega), rws_get (sp2_len f) a r hr n (by omega)]
      · rw [if_neg (by omega), List.getElem?_eq_none (by rw [rws_len (sp2_len f)]; omega)]
    rw [e1, ← h6, List.take_take, Nat.min_eq_left (by omega)]
theorem row_cap {w : World} {base E k g n c : Nat} {xs : List Value} (h : w.ownsRow base E k (.slice (some ⟨g, 0, none⟩) n c) n xs) : n ≤ c := by
  obtain ⟨-, h⟩ := h
  rcases h with ⟨h, _⟩ | ⟨g', cap, cur, e, h1, h2, h3, h4⟩
  · cases h
  · cases e; exact h3
set_option maxRecDepth 100000 in
set_option maxHeartbeats 16000000 in
theorem nearS {c ca : Nat} (b o : Nat) (band k : Int) (T A : Option Addr) (n na : Nat) (lb : Nat → ByteArray) (ln : Nat → Nat) (lf : Nat → Nat → P3) (fa : Nat → P3) (w : World) (hb : b < w.heap.size) (c0 : w.cell? ⟨b, o, none⟩ = some (.int .i64 band)) (c1 : w.cell? ⟨b, o + 1, none⟩ = some (.slice T n c)) (hst : StOk band n lb ln lf) (va : okQ na fa = true) (hk1 : 1 ≤ k) (hk2 : k ≤ 40) (hp : TsAt w T n lb ln lf) (pa : PtsAt w A na fa) :
    Calls Try.prog 79 #[.pointer (some ⟨b, o, none⟩), .slice A na ca, .int .i64 k] w fun e w' => ∃ (g d : Nat), e = .returned (.slice (some ⟨g, 0, none⟩) (kMin k (mst na fa ln lf band n).1) d) ∧ w'.ownsRow w.heap.size 101 2 (.slice (some ⟨g, 0, none⟩) (kMin k (mst na fa ln lf band n).1) d) (kMin k (mst na fa ln lf band n).1) (rws (sp2 (srt (mst na fa ln lf band n).2 (mst na fa ln lf band n).1)) (kMin k (mst na fa ln lf band n).1)) ∧ Below w.heap.size w w' := by
  obtain ⟨i0, hi0, hz0, hz1, hz2⟩ := rown.info_get infoM
  have HM := Lib.hid (matchesS (c := c) (ca := ca) b o band T A n na lb ln lf fa w hb c0 c1 hst va hp pa)
  have hN := mst_le na fa ln lf band n
  have hn40 := hst.2.1
  obtain ⟨⟨N, m⟩, hG⟩ : ∃ G, mst na fa ln lf band n = G := ⟨_, rfl⟩
  rw [hG] at HM hN ⊢
  simp only at HM hN ⊢
  have hN40 : N ≤ 40 := by omega
  obtain ⟨t, ht⟩ : ∃ t, kMin k N = t := ⟨_, rfl⟩
  rw [ht]
  have htN : t ≤ N := by rw [← ht]; unfold kMin; omega
  have HKT := Lib.hid (show min k (N : Int) = (t : Int) by rw [← ht]; unfold kMin; omega)
  have HSR := Lib.hid (show ∀ x, srt m (x + 1) = insF (srt m x) (kq (srt m x) (m x).2 x) (m x) from fun _ => rfl)
  obtain ⟨G, hG2⟩ : ∃ G, srt m = G := ⟨_, rfl⟩
  rw [hG2] at HSR ⊢
  clear hG hG2 ht hst va hp pa c0 c1 hn40 hN
  go_enter Try.func79, Try.ntmps79
  go_wp2_with fail
  refine HM.out.mono ?_
  rintro e w1 ⟨gm, dm, rfl, hom, hbm⟩
  have OM := Lib.hid hom
  have BM := Lib.hid hbm
  have E0 := Lib.hid (rown.empty_row w1 101 2)
  have BE := Lib.hid (below_alloc1 w1 (.cells #[] 101))
  clear hom hbm HM
  go_wp2
  go_loopw [8, 9] (fun out i w' => ∃ (x g d : Nat), x ≤ N ∧ i = .int .i64 (x : Int) ∧ out = .slice (some ⟨g, 0, none⟩) x d ∧ Hid (w'.ownsRow w1.heap.size 101 2 (.slice (some ⟨g, 0, none⟩) x d) x (rws (sp2 (G x)) x)) ∧ Hid (Below w1.heap.size w1 w')) (fun _ i _ => N - (intOf i).toNat)
  case atStart => exact ⟨0, _, _, Nat.zero_le _, rfl, rfl, Lib.hid E0.out, BE⟩
  case round =>
    clear E0 BE
    obtain ⟨x, g, d, hx, rfl, rfl, HO, HB⟩ := hrel
    by_cases hlt : x < N
    · have hli : (x : Int) < (N : Int) := by omega
      have hx1 : x + 1 ≤ N := by omega
      have hms : N - (x + 1) < N - x := by omega
      have HNX := Lib.hid (HSR.out x)
      have HKL := Lib.hid (kq_le (G x) (m x).2 x)
      have HPX := Lib.hid (fun (W : World) (hW : Below w1.heap.size w1 W) => (show W.cell? ⟨gm, x * 2, none⟩ = some (.int .i64 (m x).1) ∧ W.cell? ⟨gm, x * 2 + 1, none⟩ = some (.int .i64 (m x).2) from ⟨by have := row_cell (rown.ownsRow_kept OM.out hW) (sp2_len m) hlt (show 0 < 2 by omega) rfl; simpa using this, by have := row_cell (rown.ownsRow_kept OM.out hW) (sp2_len m) hlt (show 1 < 2 by omega) rfl; simpa using this⟩))
      obtain ⟨⟨q1, q2⟩, hq⟩ : ∃ q, m x = q := ⟨_, rfl⟩
      obtain ⟨S, hS⟩ : ∃ S, G x = S := ⟨_, rfl⟩
      rw [hq, hS] at HNX HKL
      rw [hq] at HPX
      rw [hS] at HO
      simp only at HNX HKL HPX
      obtain ⟨K, hK⟩ : ∃ K, kq S q2 x = K := ⟨_, rfl⟩
      rw [hK] at HNX HKL
      have HKF := Lib.hid hK
      have hgm1 := row_lt OM.out
      clear hlt hq hS hK
      obtain ⟨w2, hwc⟩ : ∃ v, v = wr := ⟨_, rfl⟩
      subst hwc
      go_wp2
      go_loopw [10] (fun k w' => ∃ y : Nat, y ≤ x ∧ k = .int .i64 (y : Int) ∧ Hid (kq S q2 y = K) ∧ Hid (Below w2.heap.size w2 w')) (fun k _ => (intOf k).toNat)
      case atStart => exact ⟨x, Nat.le_refl _, rfl, HKF, Lib.hid (Below.refl _ _)⟩
      case round =>
        obtain ⟨y, hy, rfl, HY, HB3⟩ := hrel
        have HO3 := Lib.hid (rown.ownsRow_kept HO.out HB3.out)
        have HB23 := Lib.hid (HB.out.trans (HB3.out.mono HB.out.size))
        obtain ⟨v, hv⟩ : ∃ v : Bool, v = true ↔ (0 < y ∧ q2 < (S (y - 1)).2) := ⟨@decide _ (Classical.propDecidable _), @decide_eq_true_iff _ (Classical.propDecidable _)⟩
        have HV := Lib.hid hv
        clear hv
        go_upto_region 7 with fail
        go_cut [39] (fun s wx => s = .bool v ∧ Hid (Below wr.heap.size wr wx))
        case first =>
          rcases Nat.eq_zero_or_pos y with hy0 | hyp
          · have hvf : v = false := by
              cases v with
              | false => rfl
              | true => have := (HV.out.1 rfl).1; omega
            subst hvf hy0
            have HBD := Lib.hid ((Below.refl wr.heap.size wr).drew)
            clear HB3 HO3 HB23
            go_region
            go_wp2_with fail
            go_meet
            exact ⟨rfl, HBD⟩
          · obtain ⟨z, rfl⟩ : ∃ z, y = z + 1 := ⟨y - 1, by omega⟩
            obtain ⟨p0, p1⟩ := (HPX.out wr HB23.out)
            have s1 : wr.cell? ⟨g, z * 2 + 1, none⟩ = some (.int .i64 (S z).2) := by have := row_cell HO3.out (sp2_len S) (show z < x by omega) (show 1 < 2 by omega) rfl; simpa using this
            have hz1 := row_lt HO3.out
            have hz2 : gm < wr.heap.size := Nat.lt_of_lt_of_le hgm1 HB23.out.size
            have hvv : v = decide (q2 < (S z).2) := by
              rw [Bool.eq_iff_iff, HV.out, decide_eq_true_eq, Nat.add_sub_cancel]
              omega
            have e1 : IntKind.i64.wrap ((z : Int) + 1 - 1) = (z : Int) := by rw [IntWalk.i64_in _ (by omega)]; omega
            have g1 : (0 : Int) < (z : Int) + 1 := by omega
            have g2 : (z : Int) < (x : Int) := by omega
            have HBD := Lib.hid ((Below.refl wr.heap.size wr).drew)
            have hli2 : (x : Int) < (N : Int) := hli
            subst hvv
            generalize (S z).2 = sz at *
            clear HB3 HO3 HB23 HV
            go_region
            go_wp2_with fail
            go_meet
            exact ⟨rfl, HBD⟩
        case rest =>
          obtain ⟨rfl, HBX⟩ := hcut
          have HBc := Lib.hid (HB3.out.trans (HBX.out.mono HB3.out.size))
          have HOc := Lib.hid (rown.ownsRow_kept HO3.out HBX.out)
          have HBc1 := Lib.hid (HB23.out.trans (HBX.out.mono HB23.out.size))
          clear HBX HB3 HO3 HB23
          obtain ⟨w3, hwc⟩ : ∃ v, v = wc := ⟨_, rfl⟩
          subst hwc
          cases v with
          | true =>
            obtain ⟨hyp, hlq⟩ := HV.out.1 rfl
            obtain ⟨z, rfl⟩ : ∃ z, y = z + 1 := ⟨y - 1, by omega⟩
            rw [Nat.add_sub_cancel] at hlq
            have HY2 := Lib.hid (show kq S q2 z = K by have h := HY.out; unfold kq at h; rw [if_pos hlq] at h; exact h)
            have e1 : IntKind.i64.wrap ((z : Int) + 1 - 1) = (z : Int) := by rw [IntWalk.i64_in _ (by omega)]; omega
            clear hlq HV HY
            go_wp2
            go_roundw
            case rel => exact ⟨z, by omega, by go_num, HY2, HBc⟩
            case measure => first | (simp [intOf]; done) | (simp [intOf]; omega)
          | false =>
            have hyK : y = K := by
              have h := HY.out
              rcases Nat.eq_zero_or_pos y with hy0 | hyp
              · rw [hy0] at h ⊢; first | done | exact h
              · obtain ⟨z, rfl⟩ : ∃ z, y = z + 1 := ⟨y - 1, by omega⟩
                unfold kq at h
                rw [if_neg (fun hc => by have := HV.out.2 ⟨by omega, by rw [Nat.add_sub_cancel]; exact hc⟩; cases this)] at h
                exact h
            subst hyK
            have hxd : x ≤ d := row_cap HOc.out
            have s1 : (0 : Int) ≤ (y : Int) := by omega
            have s2 : (y : Int) ≤ (d : Int) := by omega
            have s3 : ¬ (d : Int) < (y : Int) := by omega
            have s4 : (y : Int) ≤ (x : Int) := by omega
            have s5 : ¬ (x : Int) < (y : Int) := by omega
            have s6 : (x : Int) ≤ (d : Int) := by omega
            have s7 : ¬ (d : Int) < (x : Int) := by omega
            have Z1 := Lib.hid (show y ≤ maxLen by simp only [maxLen]; omega)
            have Z2 := Lib.hid (show y * 16 ≤ 140737488355328 by omega)
            have Z3 := Lib.hid (show y + 1 ≤ maxLen by simp only [maxLen]; omega)
            have Z4 := Lib.hid (show (y + 1) * 16 ≤ 140737488355328 by omega)
            have Z5 := Lib.hid (show y + 1 + (x - y) ≤ maxLen by simp only [maxLen]; omega)
            have Z6 := Lib.hid (show (y + 1 + (x - y)) * 16 ≤ 140737488355328 by omega)
            have HE := Lib.hid (show y + 1 + (x - y) = x + 1 by omega)
            have RI := Lib.hid (show rws (sp2 S) y ++ [.int .i64 q1, .int .i64 q2] ++ rws (sp2 fun j => S (y + j)) (x - y) = rws (sp2 (G (x + 1))) (x + 1) by rw [HNX.out, rows_insF S y (q1, q2) (x - y), show y + (x - y) + 1 = x + 1 by omega])
            have HOA := Lib.hid (rown.ownsRow_kept HOc.out (below_alloc1 w3 (.cells #[] 101)))
            have hyx := Lib.hid hy
            have hgm3 : gm < w3.heap.size := Nat.lt_of_lt_of_le hgm1 HBc1.out.size
            rcases Nat.lt_or_ge y x with hlY | hlY
            · have s8 : ¬ d = y := by omega
              have HLY := Lib.hid hlY
              clear hlY hxd hy HY HV HKL
              go_wp2_with (first
                | (at_builtin
                   refine wpList_append_new (w3.alloc (.cells #[] 101)) rfl _ _ 57 rfl w3.heap.size 101 i0 _ 2 16 Try.underlying57 hi0 hz0 hz1 hz2 rfl (by decide) w3.heap.size 0 rfl (rown.empty_row w3 101 2) (some ⟨g, 0, none⟩) y d (rws (sp2 S) y) rfl (rws_len (sp2_len S) y) (fun _ => ⟨_, rfl, dm_news HOA.out y hyx.out⟩) (two_cells S y) Z1.out Z2.out (by simp) ?_
                   intro pg pc pw hown hbel
                   have pH := Lib.hid hown
                   have pB := Lib.hid ((below_alloc1 w3 (.cells #[] 101)).trans hbel)
                   have pz : w3.heap.size ≤ pw.heap.size := pB.out.size
                   obtain ⟨pm0, pm1⟩ := HPX.out pw (HBc1.out.trans (pB.out.mono HBc1.out.size))
                   have pgm : gm < pw.heap.size := Nat.lt_of_lt_of_le hgm3 pz
                   clear hown hbel)
                | (at_builtin
                   refine wpList_append_lies (pw.alloc (.cells #[.int .i64 q1, .int .i64 q2] 101)) rfl _ _ 57 rfl w3.heap.size 101 i0 _ 2 16 Try.underlying57 hi0 hz0 hz1 hz2 rfl (by decide) (.slice (some ⟨pg, 0, none⟩) y pc) y _ rfl (rown.ownsRow_kept pH.out (below_alloc1 _ _)) ⟨pw.heap.size, 0, none⟩ 1 1 [.int .i64 q1, .int .i64 q2] rfl rfl (two_new rfl) (by simp [Value.oneCell']) (by decide) Z3.out Z4.out (Nat.le_trans pz (by simp)) _ rfl ?_
                   intro rg rc rw hown hgr hat hlt3
                   have rH := Lib.hid hown
                   have rB := Lib.hid (pB.out.trans (rown.under pH.out pz hgr))
                   have rz : w3.heap.size ≤ rw.heap.size := rB.out.size
                   clear hown hgr hat)
                | (at_builtin
                   refine wpList_append_any rw rfl _ _ 57 rfl w3.heap.size 101 i0 _ 2 16 Try.underlying57 hi0 hz0 hz1 hz2 rfl (by decide) rg rc (y + 1) _ rfl rH.out (some ⟨g, y * 2, none⟩) (x - y) (d - y) (rws (sp2 fun j => S (y + j)) (x - y)) rfl (rws_len (sp2_len _) (x - y)) (fun _ => ⟨_, rfl, dm_drop (rown.ownsRow_kept HOc.out rB.out) y⟩) (two_cells _ (x - y)) Z5.out Z6.out rz ?_
                   intro qg qc qw hown hbel
                   have qH := Lib.hid hown
                   have qB := Lib.hid (rB.out.trans hbel)
                   clear hown hbel))
              have RO := Lib.hid (show qw.ownsRow w1.heap.size 101 2 (.slice (some ⟨qg, 0, none⟩) (x + 1) qc) (x + 1) (rws (sp2 (G (x + 1))) (x + 1)) from row_low (by have h1 := qH.out; rw [RI.out, HE.out] at h1; exact h1) HBc1.out.size)
              have BB := Lib.hid (HBc1.out.trans (qB.out.mono HBc1.out.size))
              go_wp2
              go_roundw
              case rel => exact ⟨x + 1, qg, qc, hx1, by go_num, by rw [← HE.out], RO, BB⟩
              case measure => simp [intOf]; omega
            · have HM0 := Lib.hid (show x - y = 0 by omega)
              clear hlY hxd hy HY HV HKL
              go_wp2_with (first
                | (at_builtin
                   refine wpList_append_new (w3.alloc (.cells #[] 101)) rfl _ _ 57 rfl w3.heap.size 101 i0 _ 2 16 Try.underlying57 hi0 hz0 hz1 hz2 rfl (by decide) w3.heap.size 0 rfl (rown.empty_row w3 101 2) (some ⟨g, 0, none⟩) y d (rws (sp2 S) y) rfl (rws_len (sp2_len S) y) (fun _ => ⟨_, rfl, dm_news HOA.out y hyx.out⟩) (two_cells S y) Z1.out Z2.out (by simp) ?_
                   intro pg pc pw hown hbel
                   have pH := Lib.hid hown
                   have pB := Lib.hid ((below_alloc1 w3 (.cells #[] 101)).trans hbel)
                   have pz : w3.heap.size ≤ pw.heap.size := pB.out.size
                   obtain ⟨pm0, pm1⟩ := HPX.out pw (HBc1.out.trans (pB.out.mono HBc1.out.size))
                   have pgm : gm < pw.heap.size := Nat.lt_of_lt_of_le hgm3 pz
                   clear hown hbel)
                | (at_builtin
                   refine wpList_append_lies (pw.alloc (.cells #[.int .i64 q1, .int .i64 q2] 101)) rfl _ _ 57 rfl w3.heap.size 101 i0 _ 2 16 Try.underlying57 hi0 hz0 hz1 hz2 rfl (by decide) (.slice (some ⟨pg, 0, none⟩) y pc) y _ rfl (rown.ownsRow_kept pH.out (below_alloc1 _ _)) ⟨pw.heap.size, 0, none⟩ 1 1 [.int .i64 q1, .int .i64 q2] rfl rfl (two_new rfl) (by simp [Value.oneCell']) (by decide) Z3.out Z4.out (Nat.le_trans pz (by simp)) _ rfl ?_
                   intro rg rc rw hown hgr hat hlt3
                   have rH := Lib.hid hown
                   have rB := Lib.hid (pB.out.trans (rown.under pH.out pz hgr))
                   have rz : w3.heap.size ≤ rw.heap.size := rB.out.size
                   clear hown hgr hat)
                | (at_builtin
                   refine wpList_append_any rw rfl _ _ 57 rfl w3.heap.size 101 i0 _ 2 16 Try.underlying57 hi0 hz0 hz1 hz2 rfl (by decide) rg rc (y + 1) _ rfl rH.out _ (x - y) _ (rws (sp2 fun j => S (y + j)) (x - y)) rfl (rws_len (sp2_len _) (x - y)) (fun h => absurd h (by have := HM0.out; omega)) (two_cells _ (x - y)) Z5.out Z6.out rz ?_
                   intro qg qc qw hown hbel
                   have qH := Lib.hid hown
                   have qB := Lib.hid (rB.out.trans hbel)
                   clear hown hbel))
              have RO := Lib.hid (show qw.ownsRow w1.heap.size 101 2 (.slice (some ⟨qg, 0, none⟩) (x + 1) qc) (x + 1) (rws (sp2 (G (x + 1))) (x + 1)) from row_low (by have h1 := qH.out; rw [RI.out, HE.out] at h1; exact h1) HBc1.out.size)
              have BB := Lib.hid (HBc1.out.trans (qB.out.mono HBc1.out.size))
              go_wp2
              go_roundw
              case rel => exact ⟨x + 1, qg, qc, hx1, by go_num, by rw [← HE.out], RO, BB⟩
              case measure => simp [intOf]; omega
    · have hxe : x = N := by omega
      have hxn : ¬ (x : Int) < (N : Int) := by omega
      have hxd : x ≤ d := row_cap HO.out
      have HMN := Lib.hid (fun W => minS k (x : Int) W)
      rw [show min k (x : Int) = (t : Int) by rw [hxe]; exact HKT.out] at HMN
      have s1 : (0 : Int) ≤ (t : Int) := by omega
      have s2 : (t : Int) ≤ (d : Int) := by omega
      have s3 : ¬ (d : Int) < (t : Int) := by omega
      have RO := Lib.hid (row_low (b' := w.heap.size) (own_cut HO.out (show t ≤ x by omega)) BM.out.size)
      have BB := Lib.hid (BM.out.trans (HB.out.mono BM.out.size))
      have HXE := Lib.hid hxe
      clear hlt hxe hxd
      go_wp2_with fail
      refine (HMN.out _).mono ?_
      rintro e _ ⟨rfl, rfl⟩
      go_wp2
      go_ret
      exact ⟨g, d, rfl, by rw [← HXE.out]; exact RO.out, BB.out⟩
end Go.Proofs.Ytkcfghbkcgommaa.hp
namespace Go.Proofs.Ytkcfghbkcgommaa.hp
open Go.ChangeShapes Go.WideShapes Go.ChangeAt Go.RowKit Go.Joins
open Go.Proofs.Ytkcfghbkcgommaa.core Go.Proofs.Ytkcfghbkcgommaa.rown Go.Proofs.Ytkcfghbkcgommaa.stk Go.Proofs.Ytkcfghbkcgommaa.boxed Go.Proofs.Ytkcfghbkcgommaa.put3 Go.Proofs.Ytkcfghbkcgommaa.ft Go.Proofs.Ytkcfghbkcgommaa.revQ Go.Proofs.Ytkcfghbkcgommaa.mat Go.Proofs.Ytkcfghbkcgommaa.env Go.Proofs.Ytkcfghbkcgommaa.seq Go.Proofs.Ytkcfghbkcgommaa.sto Go.Proofs.Ytkcfghbkcgommaa.lab Go.Proofs.Ytkcfghbkcgommaa.tab
set_option linter.unusedVariables false
set_option linter.unusedSimpArgs false
theorem Sm.self {n N : Nat} {d e : Nat → P2} (h : Sm N d e) (hn : n ≤ N) : Sm n e e :=
  ⟨fun j hj => ⟨j, hj, rfl⟩, fun j hj => ⟨j, hj, rfl⟩, fun i j hi hj he => h.inj i j (by omega) (by omega) he⟩
theorem QS.low {W W' : World} {B b g L c : Nat} {f : Nat → P2} (h : QS W b g L c f) (hb : Below B W W') (h1 : b < B) (h2 : g < B) : QS W' b g L c f :=
  ⟨(hb.block b h1).trans h.blk, ownsRow_same h.own fun k hk => by injection hk with hk; subst hk; exact hb.block _ h2⟩
def lenV : Value → Nat | .slice _ n _ => n | _ => 0
theorem row_none {w : World} {base E k n c : Nat} {A : Option Addr} {xs : List Value} (h : w.ownsRow base E k (.slice A n c) n xs) (hn : 0 < n) : ∃ g, A = some ⟨g, 0, none⟩ ∧ base ≤ g ∧ g < w.heap.size := by
  have h' := h
  obtain ⟨-, h⟩ := h
  rcases h with ⟨h, hx⟩ | ⟨g, cap, cur, e, h1, h2, h3⟩
  · injection h with h1 h2 h3
    omega
  · cases e
    exact ⟨g, rfl, h1, block_size h2⟩
/-- A row in blocks that have not turned. -/
theorem row_only {w w' : World} {F : Nat → Prop} {base E k n : Nat} {v : Value} {xs : List Value} (h : w.ownsRow base E k v n xs) (ho : OnlyF F w w') (hF : ∀ x, base ≤ x → ¬ F x) : w'.ownsRow base E k v n xs :=
  ownsRow_same h fun g hg => by
    obtain ⟨h1, cur, h2⟩ := ownsRow_block h hg
    exact ho.block g (block_size h2) (hF g h1)
set_option maxRecDepth 100000 in
set_option maxHeartbeats 16000000 in
theorem nearI {c ca : Nat} (band k : Int) (T A : Option Addr) (n na : Nat) (lb : Nat → ByteArray) (ln : Nat → Nat) (lf : Nat → Nat → P3) (fa : Nat → P3) (w : World) (hst : StOk band n lb ln lf) (va : okQ na fa = true) (hk1 : 1 ≤ k) (hk2 : k ≤ 40) (hp : TsAt w T n lb ln lf) (pa : PtsAt w A na fa) :
    Calls Try.prog 81 #[.agg #[.int .i64 band, .slice T n c], .slice A na ca, .int .i64 k] w fun e w' => ∃ (D : Option Addr) (d : Nat), e = .returned (.slice D (kMin k (mst na fa ln lf band n).1) d) ∧ w'.ownsRow w.heap.size 101 2 (.slice D (kMin k (mst na fa ln lf band n).1) d) (kMin k (mst na fa ln lf band n).1) (rws (sp2 (srt (mst na fa ln lf band n).2 (mst na fa ln lf band n).1)) (kMin k (mst na fa ln lf band n).1)) ∧ Below w.heap.size w w' := by
  obtain ⟨i0, hi0, hz0, hz1, hz2⟩ := rown.info_get infoM
  have BW := Lib.hid (below_alloc2 w (.cells #[.int .i64 band, .slice T n c] 30) (.cells #[.slice none 0 0] 124))
  have HMI := Lib.hid (matchesI (c := c) (ca := ca) band T A n na lb ln lf fa _ hst va (hp.kept BW.out) (pa.kept BW.out))
  have hN := mst_le na fa ln lf band n
  have hn40 := hst.2.1
  have hrise := (mst_rise na fa ln lf band n).1
  obtain ⟨⟨N, m⟩, hG⟩ : ∃ G, mst na fa ln lf band n = G := ⟨_, rfl⟩
  rw [hG] at HMI hN hrise ⊢
  simp only at HMI hN hrise ⊢
  have hN40 : N ≤ 40 := by omega
  have HRS := Lib.hid hrise
  obtain ⟨hsa, hss⟩ := srt_ok hrise N (Nat.le_refl _)
  have HSA := Lib.hid hsa
  have HSS := Lib.hid hss
  generalize srt m N = s at *
  have HK1 := Lib.hid (show ((w.alloc (.cells #[.int .i64 band, .slice T n c] 30)).alloc (.cells #[.slice none 0 0] 124)).heap[w.heap.size + 1]? = some (.cells #[.slice none 0 0] 124 (0, 0)) by have := heap_alloc_new (w.alloc (.cells #[.int .i64 band, .slice T n c] 30)) (.cells #[.slice none 0 0] 124); simpa using this)
  have hsz : ((w.alloc (.cells #[.int .i64 band, .slice T n c] 30)).alloc (.cells #[.slice none 0 0] 124)).heap.size = w.heap.size + 2 := by simp
  have HSZ := Lib.hid hsz
  clear hG hst va hp pa hn40 hN hrise hsa hss hsz
  go_enter Try.func81, Try.ntmps81
  go_wp2_with fail
  refine HMI.out.mono ?_
  rintro e wM ⟨D, dm, rfl, hom, hbm⟩
  have OM := Lib.hid hom
  have KB := Lib.hid ((hbm.block (w.heap.size + 1) (by rw [HSZ.out]; omega)).trans HK1.out)
  have HMZ := Lib.hid (show w.heap.size + 2 ≤ wM.heap.size by have := hbm.size; rw [HSZ.out] at this; exact this)
  have BM := Lib.hid (BW.out.trans (hbm.mono BW.out.size))
  have HQ0 := Lib.hid (show QB wM (w.heap.size + 1) wM.heap.size none 0 0 m from ⟨KB.out, World.ownsRow_nil _ _ _ _, Nat.le_refl _⟩)
  have OM2 := Lib.hid (row_low (b' := w.heap.size + 2) OM.out (by rw [HSZ.out]; exact Nat.le_refl _))
  clear hom hbm HMI KB OM HK1 BW
  obtain ⟨b, hbq⟩ : ∃ b, b = w.heap.size + 1 := ⟨_, rfl⟩
  have HBQ := Lib.hid hbq
  rw [← hbq] at HQ0
  go_wp2
  rw [← hbq]
  clear hbq
  go_loopw [17] (fun i w' => ∃ (x : Nat) (Aq : Option Addr) (d : Nat) (f : Nat → P2), x ≤ N ∧ i = .int .i64 (x : Int) ∧ Hid (QB w' b wM.heap.size Aq x d f) ∧ Hid (Hp f x) ∧ Hid (Sm x m f) ∧ Hid (OnlyF (fun z => z = b ∨ wM.heap.size ≤ z) wM w')) (fun i _ => N - (intOf i).toNat)
  case atStart => exact ⟨0, none, 0, m, Nat.zero_le _, rfl, HQ0, Lib.hid (fun k h1 h2 => absurd h2 (by omega)), Lib.hid ⟨fun j h => absurd h (by omega), fun j h => absurd h (by omega), fun i j h => absurd h (by omega)⟩, Lib.hid (OnlyF.refl _ _)⟩
  case round =>
    clear HQ0
    obtain ⟨x, Aq, d, f, hx, rfl, HQ, HH, HS, HF⟩ := hrel
    by_cases hlt : x < N
    · have hli : (x : Int) < (N : Int) := by omega
      have hx1 : x + 1 ≤ N := by omega
      have hms : N - (x + 1) < N - x := by omega
      obtain ⟨gm, rfl, hgm1, hgm2⟩ := row_none OM2.out (by omega)
      have hnb : ¬ (gm = b ∨ wM.heap.size ≤ gm) := by have := HBQ.out; omega
      have q0 := (HF.out.cell (p := ⟨gm, x * 2, none⟩) hgm2 hnb).trans (show _ = some (.int .i64 (m x).1) by have := row_cell OM2.out (sp2_len m) hlt (show 0 < 2 by omega) rfl; simpa using this)
      have q1 := (HF.out.cell (p := ⟨gm, x * 2 + 1, none⟩) hgm2 hnb).trans (show _ = some (.int .i64 (m x).2) by have := row_cell OM2.out (sp2_len m) hlt (show 1 < 2 by omega) rfl; simpa using this)
      have hgr : gm < wr.heap.size := Nat.lt_of_lt_of_le hgm2 HF.out.size
      have BA := Lib.hid (below_alloc1 wr (.cells #[.int .i64 (m x).1, .int .i64 (m x).2] 101))
      have HPU := Lib.hid (heapPushI Aq f (m x) _ (by omega) (HQ.out.kept BA.out) HH.out (show b < wM.heap.size by have h1 := HBQ.out; have h2 := HMZ.out; omega))
      have HSP := Lib.hid (sm_push HRS.out hlt HS.out)
      obtain ⟨⟨p1, p2⟩, hp⟩ : ∃ p, m x = p := ⟨_, rfl⟩
      rw [hp] at q0 q1 HPU BA HSP
      clear hp hlt hnb hgm1 hgm2
      go_wp2_with fail
      refine HPU.out.mono ?_
      rintro e w2 ⟨rfl, g, d', f', hq, hh, hr, hof⟩
      have HQ2 := Lib.hid hq
      have HH2 := Lib.hid hh
      have HS2 := Lib.hid (hr.sm _ HSP.out)
      have HF2 := Lib.hid (HF.out.trans ((OnlyF.of_below (F := fun z => z = b ∨ wM.heap.size ≤ z) BA.out).trans hof))
      clear hq hh hr hof q0 q1
      go_wp2
      go_roundw
      case rel => exact ⟨x + 1, some ⟨g, 0, none⟩, d', f', hx1, by go_num, HQ2, HH2, HS2, HF2⟩
      case measure => simp [intOf]; omega
    · have hxe : x = N := by omega
      subst hxe
      have HO0 := Lib.hid (Out.start HS.out HH.out)
      have HBL := Lib.hid (BM.out.trans (HF.out.below (B := w.heap.size) (fun z hz => by have h1 := HBQ.out; have h2 := HMZ.out; omega) (by have := HMZ.out; omega)))
      have hxn : ¬ (x : Int) < (x : Int) := by omega
      have HB1 := Lib.hid (show b < wM.heap.size by have h1 := HBQ.out; have h2 := HMZ.out; omega)
      have HSW := Lib.hid (show wM.heap.size ≤ wr.heap.size from HF.out.size)
      have HBK := Lib.hid HQ.out.blk
      have HQQ := Lib.hid (show 0 < x → ∃ g, Aq = some ⟨g, 0, none⟩ ∧ QS wr b g x d f ∧ wM.heap.size ≤ g ∧ g < wr.heap.size from fun h0 => by
        obtain ⟨g, e, h1, h2⟩ := row_none HQ.out.own h0
        subst e
        exact ⟨g, rfl, HQ.out.qs, h1, h2⟩)
      obtain ⟨wL, hwc⟩ : ∃ v, v = wr := ⟨_, rfl⟩
      subst hwc
      clear hlt HQ HH HS HF hx
      go_wp2
      go_loopw [10] (fun o w' => ∃ (j n' c' d2 : Nat) (Aq' D2 : Option Addr) (f' : Nat → P2), j + n' = x ∧ (j : Int) ≤ k ∧ o = .slice D2 j d2 ∧ Hid (w'.heap[b]? = some (.cells #[.slice Aq' n' c'] 124 (0, 0))) ∧ Hid (0 < n' → ∃ g, Aq' = some ⟨g, 0, none⟩ ∧ QS w' b g n' c' f' ∧ wM.heap.size ≤ g ∧ g < wL.heap.size) ∧ Hid (Out m f' x n') ∧ Hid (w'.ownsRow wL.heap.size 101 2 (.slice D2 j d2) j (rws (sp2 s) j)) ∧ Hid (Below w.heap.size w w') ∧ Hid (wL.heap.size ≤ w'.heap.size)) (fun o _ => x - lenV o)
      case atStart => exact ⟨0, x, d, 0, Aq, none, f, by omega, by omega, rfl, HBK, HQQ, HO0, Lib.hid (World.ownsRow_nil _ _ _ _), HBL, Lib.hid (Nat.le_refl _)⟩
      case round =>
        clear HBK HQQ HO0 HBL
        obtain ⟨j, n', c', d2, Aq', D2, f', hjn, hjk, rfl, HBK, HQ, HO, HN, HBW, HZ⟩ := hrel
        have s0 : wr.cell? ⟨b, 0, none⟩ = some (.slice Aq' n' c') := by rw [cell_of_block HBK.out]; rfl
        have hbr := block_size HBK.out
        have HLN := Lib.hid (fun W => lenI (d := c') Aq' n' W)
        rcases Nat.eq_zero_or_pos n' with hn0 | hnp
        · have hk0 : kMin k x = j := by unfold kMin; omega
          have hn0i : ¬ (0 : Int) < (n' : Int) := by omega
          have hund : undef = Value.tuple #[] := rfl
          have RO := Lib.hid (row_low (b' := w.heap.size) HN.out (by have h1 := HSW.out; have h2 := HMZ.out; omega))
          have HK0 := Lib.hid hk0
          clear hn0 hjn HQ HO hk0
          go_wp2_with fail
          refine (HLN.out _).mono ?_
          rintro e _ ⟨rfl, rfl⟩
          go_wp2
          go_ret
          exact ⟨D2, d2, by rw [HK0.out]; rfl, by rw [HK0.out]; exact RO.out, HBW.out⟩
        · have hnpi : (0 : Int) < (n' : Int) := by omega
          by_cases hjk2 : (j : Int) < k
          · obtain ⟨n2, rfl⟩ : ∃ n2, n' = n2 + 1 := ⟨n' - 1, by omega⟩
            obtain ⟨g, rfl, hqs, hgw, hgl⟩ := HQ.out hnp
            have HGW := Lib.hid hgw
            have hdk : decide ((j : Int) < k) = true := decide_eq_true hjk2
            have HPO := Lib.hid (fun (W : World) (hW : wr = W) => heapPopI (n := n2) wr (by omega) hqs HO.out.hp)
            have hnpi2 : (0 : Int) < (n2 : Int) + 1 := by omega
            have HOO := Lib.hid HO.out
            have hjx : j + 1 + n2 = x := by omega
            have hjk3 : ((j + 1 : Nat) : Int) ≤ k := by omega
            have Z3 := Lib.hid (show j + 1 ≤ maxLen by simp only [maxLen]; omega)
            have Z4 := Lib.hid (show (j + 1) * 16 ≤ 140737488355328 by omega)
            have hmsr : x - (j + 1) < x - j := by omega
            have HGL := Lib.hid hgl
            clear hjn hnp hqs hjk2 HQ hgl hgw
            go_wp2_with fail
            refine (HLN.out _).mono ?_
            rintro e _ ⟨rfl, rfl⟩
            go_wp2_with fail
            refine (HPO.out _ rfl).mono ?_
            rintro e w3 ⟨rfl, f3, hq, hh, hr, hof⟩
            have HO3 := Lib.hid (HOO.out.next (hr.sm _ (Sm.self (HOO.out.sm.swap (i := 0) (j := n2) (by omega) (by omega)) (by omega))) hr.far hh)
            have hel : f' 0 = s j := by
              have h1 := HO3.out.sorted HSA.out HSS.out j (by omega)
              have h2 := hr.far n2 (Nat.le_refl _)
              rw [sw2_j] at h2
              rw [← h1, ← h2]
              congr 1
              omega
            have HB3 := Lib.hid (show Below w.heap.size w w3 from HBW.out.trans (hof.below (B := w.heap.size) (fun z hz => by have h1 := HBQ.out; have h2 := HGW.out; have h3 := HMZ.out; omega) HBW.out.size))
            have HN3 := Lib.hid (row_only HN.out hof (fun z hz hF => by have h1 := HGL.out; have h2 := HB1.out; have h3 := HSW.out; omega))
            have HZ3 := Lib.hid (Nat.le_trans HZ.out hof.size)
            have HQ3 := Lib.hid (show 0 < n2 → ∃ g', (some ⟨g, 0, none⟩ : Option Addr) = some ⟨g', 0, none⟩ ∧ QS w3 b g' n2 c' f3 ∧ wM.heap.size ≤ g' ∧ g' < wL.heap.size from fun _ => ⟨g, rfl, hq, HGW.out, HGL.out⟩)
            have HK3 := Lib.hid hq.blk
            have HEL := Lib.hid hel
            clear hq hh hr hof hel HO HN HBW HZ HBK s0 hbr
            rw [HEL.out]
            have hta := assertM (s j).1 (s j).2 w3
            have BA := Lib.hid (below_alloc1 w3 (.cells #[.int .i64 (s j).1, .int .i64 (s j).2] 101))
            have HN4 := Lib.hid (rown.ownsRow_kept HN3.out BA.out)
            have HRW := Lib.hid (show rws (sp2 s) (j + 1) = rws (sp2 s) j ++ [.int .i64 (s j).1, .int .i64 (s j).2] from rfl)
            obtain ⟨⟨p1, p2⟩, hp⟩ : ∃ p, s j = p := ⟨_, rfl⟩
            rw [hp] at hta BA HN4 HRW ⊢
            simp only at hta BA HN4 HRW ⊢
            have KA := Lib.hid (heap_alloc_new w3 (.cells #[.int .i64 p1, .int .i64 p2] 101))
            have HZ4 := Lib.hid (Nat.le_trans HZ3.out BA.out.size)
            clear hp
            go_wp2_with (first
              | (at_builtin
                 refine wpList_append_lies ((w3.alloc (.cells #[.int .i64 p1, .int .i64 p2] 101)).alloc (.cells #[.int .i64 p1, .int .i64 p2] 101)) rfl _ _ 57 rfl wL.heap.size 101 i0 _ 2 16 Try.underlying57 hi0 hz0 hz1 hz2 rfl (by decide) (.slice D2 j d2) j _ rfl (rown.ownsRow_kept HN4.out (below_alloc1 _ _)) ⟨(w3.alloc (.cells #[.int .i64 p1, .int .i64 p2] 101)).heap.size, 0, none⟩ 1 1 [.int .i64 p1, .int .i64 p2] (by simp [Act.eval]) rfl (two_new rfl) (by simp [Value.oneCell']) (by decide) Z3.out Z4.out (Nat.le_trans HZ4.out (by simp)) _ rfl ?_
                 intro g5 c5 w5 hown hgr hat hlt5
                 have HO5 := Lib.hid hown
                 have HB5 := Lib.hid (rown.under HN4.out HZ4.out hgr)
                 clear hown hgr hat))
            have hbL : b < wL.heap.size := by have h1 := HB1.out; have h2 := HSW.out; omega
            have hwL : w.heap.size ≤ wL.heap.size := by have h1 := HMZ.out; have h2 := HSW.out; omega
            have HK5 := Lib.hid ((HB5.out.block b hbL).trans ((BA.out.block b (Nat.lt_of_lt_of_le hbL HZ3.out)).trans HK3.out))
            have HQ5 := Lib.hid (show 0 < n2 → ∃ g', (some ⟨g, 0, none⟩ : Option Addr) = some ⟨g', 0, none⟩ ∧ QS w5 b g' n2 c' f3 ∧ wM.heap.size ≤ g' ∧ g' < wL.heap.size from fun h0 => by
              obtain ⟨g', e, h1, h2, h3⟩ := HQ3.out h0
              exact ⟨g', e, (h1.kept BA.out).low HB5.out hbL h3, h2, h3⟩)
            have HW5 := Lib.hid ((HB3.out.trans (BA.out.mono HB3.out.size)).trans (HB5.out.mono hwL))
            have HZ5 := Lib.hid (Nat.le_trans HZ4.out HB5.out.size)
            have HR5 := Lib.hid (show w5.ownsRow wL.heap.size 101 2 (.slice (some ⟨g5, 0, none⟩) (j + 1) c5) (j + 1) (rws (sp2 s) (j + 1)) by rw [HRW.out]; exact HO5.out)
            clear hbL hwL hta HQ3 HK3 HN4 HN3
            go_wp2
            go_roundw
            case rel => exact ⟨j + 1, n2, c', c5, some ⟨g, 0, none⟩, some ⟨g5, 0, none⟩, f3, hjx, hjk3, rfl, HK5, HQ5, HO3, HR5, HW5, HZ5⟩
            case measure => simp [lenV]; omega
          · have hk0 : kMin k x = j := by unfold kMin; omega
            have hdk : decide ((j : Int) < k) = false := decide_eq_false hjk2
            have RO := Lib.hid (row_low (b' := w.heap.size) HN.out (by have h1 := HSW.out; have h2 := HMZ.out; omega))
            have HK0 := Lib.hid hk0
            clear hjn hnp HQ HO hk0
            go_wp2_with fail
            refine (HLN.out _).mono ?_
            rintro e _ ⟨rfl, rfl⟩
            go_wp2
            go_ret
            exact ⟨D2, d2, by rw [HK0.out]; rfl, by rw [HK0.out]; exact RO.out, HBW.out⟩
end Go.Proofs.Ytkcfghbkcgommaa.hp
namespace Go.Proofs.Ytkcfghbkcgommaa.hp
open Go.ChangeShapes Go.WideShapes Go.ChangeAt Go.RowKit Go.Joins
open Go.Proofs.Ytkcfghbkcgommaa.core Go.Proofs.Ytkcfghbkcgommaa.rown Go.Proofs.Ytkcfghbkcgommaa.stk Go.Proofs.Ytkcfghbkcgommaa.boxed Go.Proofs.Ytkcfghbkcgommaa.ft Go.Proofs.Ytkcfghbkcgommaa.mat Go.Proofs.Ytkcfghbkcgommaa.env Go.Proofs.Ytkcfghbkcgommaa.seq Go.Proofs.Ytkcfghbkcgommaa.sto Go.Proofs.Ytkcfghbkcgommaa.lab Go.Proofs.Ytkcfghbkcgommaa.tab
set_option linter.unusedVariables false
set_option linter.unusedSimpArgs false
/-- The code of a store, a sequence and a number of matches. -/
noncomputable def nkC (band : Int) (n : Nat) (lb : Nat → ByteArray) (ln : Nat → Nat) (lf : Nat → Nat → P3) (na : Nat) (fa : Nat → P3) (k : Int) : Int := if mC band n lb ln lf na fa = true then (if 1 ≤ k ∧ k ≤ 40 then 0 else 2) else 1
theorem nk_any (band : Int) (n : Nat) (lb : Nat → ByteArray) (ln : Nat → Nat) (lf : Nat → Nat → P3) (na : Nat) (fa : Nat → P3) (k : Int) : nkC band n lb ln lf na fa k = 0 ∨ nkC band n lb ln lf na fa k = 1 ∨ nkC band n lb ln lf na fa k = 2 := by
  unfold nkC; split <;> (try split) <;> simp
theorem nk_of {band : Int} {n : Nat} {lb : Nat → ByteArray} {ln : Nat → Nat} {lf : Nat → Nat → P3} {na : Nat} {fa : Nat → P3} {k : Int} (h : nkC band n lb ln lf na fa k = 0) : mC band n lb ln lf na fa = true ∧ 1 ≤ k ∧ k ≤ 40 := by
  unfold nkC at h
  split at h
  · rename_i h1
    split at h
    · rename_i h2; exact ⟨h1, h2⟩
    · cases h
  · cases h
set_option maxRecDepth 100000 in
set_option maxHeartbeats 8000000 in
theorem codeNS {c ca : Nat} (b o : Nat) (band k : Int) (T A : Option Addr) (n na : Nat) (lb : Nat → ByteArray) (ln : Nat → Nat) (lf : Nat → Nat → P3) (fa : Nat → P3) (w : World) (hb : b < w.heap.size) (c0 : w.cell? ⟨b, o, none⟩ = some (.int .i64 band)) (c1 : w.cell? ⟨b, o + 1, none⟩ = some (.slice T n c)) (hl : TsL n lb ln) (ha : na ≤ 1048576) (hp : TsAt w T n lb ln lf) (pa : PtsAt w A na fa) :
    Calls Try.prog 78 #[.pointer (some ⟨b, o, none⟩), .slice A na ca, .int .i64 k] w fun e w' => e = .returned (.int .i64 (nkC band n lb ln lf na fa k)) ∧ Below w.heap.size w w' := by
  have HC := Lib.hid (storeOkS (c := c) b o band T n lb ln lf w hb c0 c1 hl hp)
  have HQ := Lib.hid (fun (W : World) (hW : Below w.heap.size w W) => okQS (c := ca) A na fa W ha (pa.kept hW))
  have HR := Lib.hid (show nkC band n lb ln lf na fa k = if (stB band n lb ln lf && okQ na fa) = true then (if 1 ≤ k ∧ k ≤ 40 then 0 else 2) else 1 from rfl)
  have hund : undef = Value.tuple #[] := rfl
  clear hp pa hl c0 c1
  generalize nkC band n lb ln lf na fa k = R at *
  generalize stB band n lb ln lf = r at *
  generalize okQ na fa = r' at *
  cases r with
  | false =>
    have HR2 := Lib.hid (show R = 1 by rw [HR.out]; rfl)
    clear HQ HR
    go_enter Try.func78, Try.ntmps78
    go_wp2_with fail
    refine HC.out.mono ?_
    rintro e w1 ⟨rfl, hb1⟩
    have HB := Lib.hid hb1
    clear hb1
    go_wp2
    go_ret
    exact ⟨by rw [HR2.out]; rfl, HB.out⟩
  | true =>
    go_enter Try.func78, Try.ntmps78
    go_wp2_with fail
    refine HC.out.mono ?_
    rintro e w1 ⟨rfl, hb1⟩
    have HB := Lib.hid hb1
    have HQ2 := Lib.hid (HQ.out w1 hb1)
    clear hb1 HQ
    go_wp2_with fail
    refine HQ2.out.mono ?_
    rintro e w2 ⟨rfl, hb1⟩
    have HB2 := Lib.hid (HB.out.trans (hb1.mono HB.out.size))
    clear hb1
    cases r' with
    | false =>
      have HR2 := Lib.hid (show R = 1 by rw [HR.out]; rfl)
      go_wp2
      go_ret
      exact ⟨by rw [HR2.out]; rfl, HB2.out⟩
    | true =>
      by_cases hk : 1 ≤ k ∧ k ≤ 40
      · have HR2 := Lib.hid (show R = 0 by rw [HR.out, if_pos (by rfl), if_pos hk])
        have HI := Lib.hid (fun W => in_t k 1 40 hk W)
        clear hk HR
        go_wp2_with fail
        with_reducible refine (HI.out _).mono ?_
        rintro e _ ⟨rfl, rfl⟩
        go_wp2
        go_ret
        exact ⟨by rw [HR2.out]; rfl, HB2.out⟩
      · have HR2 := Lib.hid (show R = 2 by rw [HR.out, if_pos (by rfl), if_neg hk])
        have HI := Lib.hid (fun W => in_f k 1 40 hk W)
        clear hk HR
        go_wp2_with fail
        with_reducible refine (HI.out _).mono ?_
        rintro e _ ⟨rfl, rfl⟩
        go_wp2
        go_ret
        exact ⟨by rw [HR2.out]; rfl, HB2.out⟩
theorem countsI (k : Int) (w : World) : Calls Try.prog 98 #[.int .i64 k] w fun e w' => e = .returned (.bool (decide (1 ≤ k ∧ k ≤ 40))) ∧ w = w' := by
  go_enter Try.func98, Try.ntmps98
  go_wp2
  all_goals go_ret
  all_goals exact ⟨congrArg (fun b => Ending.returned (Value.bool b)) (by first | rfl | (rw [Bool.eq_iff_iff]; simp; try omega)), rfl⟩
set_option maxRecDepth 100000 in
set_option maxHeartbeats 8000000 in
theorem codeNI {c ca : Nat} (band k : Int) (T A : Option Addr) (n na : Nat) (lb : Nat → ByteArray) (ln : Nat → Nat) (lf : Nat → Nat → P3) (fa : Nat → P3) (w : World) (hl : TsL n lb ln) (ha : na ≤ 1048576) (hp : TsAt w T n lb ln lf) (pa : PtsAt w A na fa) :
    Calls Try.prog 80 #[.agg #[.int .i64 band, .slice T n c], .slice A na ca, .int .i64 k] w fun e w' => e = .returned (.int .i64 (nkC band n lb ln lf na fa k)) ∧ Below w.heap.size w w' := by
  have BL := Lib.hid (below_alloc1 w (.cells #[.int .i64 band, .slice T n c] 30))
  have HC := Lib.hid (validStI (c := c) band T n lb ln lf _ hl (hp.kept BL.out))
  have HPA := Lib.hid (pa.kept BL.out)
  have HQ := Lib.hid (fun (W : World) (hW : Below (w.alloc (.cells #[.int .i64 band, .slice T n c] 30)).heap.size (w.alloc (.cells #[.int .i64 band, .slice T n c] 30)) W) => okQI (c := ca) A na fa W ha (HPA.out.kept hW))
  have HCT := Lib.hid (fun W => countsI k W)
  have HR := Lib.hid (show nkC band n lb ln lf na fa k = if (stB band n lb ln lf && okQ na fa) = true then (if 1 ≤ k ∧ k ≤ 40 then 0 else 2) else 1 from rfl)
  have hund : undef = Value.tuple #[] := rfl
  clear hp pa hl
  generalize nkC band n lb ln lf na fa k = R at *
  generalize stB band n lb ln lf = r at *
  generalize okQ na fa = r' at *
  cases r with
  | false =>
    have HR2 := Lib.hid (show R = 1 by rw [HR.out]; rfl)
    clear HQ HR HCT
    go_enter Try.func80, Try.ntmps80
    go_wp2_with fail
    refine HC.out.mono ?_
    rintro e w1 ⟨rfl, hb1⟩
    have HB := Lib.hid (BL.out.trans (hb1.mono BL.out.size))
    clear hb1
    go_wp2
    go_ret
    exact ⟨by rw [HR2.out]; rfl, HB.out⟩
  | true =>
    go_enter Try.func80, Try.ntmps80
    go_wp2_with fail
    refine HC.out.mono ?_
    rintro e w1 ⟨rfl, hb1⟩
    have HB := Lib.hid (BL.out.trans (hb1.mono BL.out.size))
    have HQ2 := Lib.hid (HQ.out w1 hb1)
    clear hb1 HQ
    go_wp2_with fail
    refine HQ2.out.mono ?_
    rintro e w2 ⟨rfl, hb1⟩
    have HB2 := Lib.hid (HB.out.trans (hb1.mono HB.out.size))
    clear hb1
    cases r' with
    | false =>
      have HR2 := Lib.hid (show R = 1 by rw [HR.out]; rfl)
      go_wp2
      go_ret
      exact ⟨by rw [HR2.out]; rfl, HB2.out⟩
    | true =>
      by_cases hk : 1 ≤ k ∧ k ≤ 40
      · have HR2 := Lib.hid (show R = 0 by rw [HR.out, if_pos (by rfl), if_pos hk])
        rw [decide_eq_true hk] at HCT
        clear hk HR
        go_wp2_with fail
        with_reducible refine (HCT.out _).mono ?_
        rintro e _ ⟨rfl, rfl⟩
        go_wp2
        go_ret
        exact ⟨by rw [HR2.out]; rfl, HB2.out⟩
      · have HR2 := Lib.hid (show R = 2 by rw [HR.out, if_pos (by rfl), if_neg hk])
        rw [decide_eq_false hk] at HCT
        clear hk HR
        go_wp2_with fail
        with_reducible refine (HCT.out _).mono ?_
        rintro e _ ⟨rfl, rfl⟩
        go_wp2
        go_ret
        exact ⟨by rw [HR2.out]; rfl, HB2.out⟩
set_option maxRecDepth 100000 in
set_option maxHeartbeats 8000000 in
theorem nearestS_no {c ca : Nat} (band k : Int) (T A : Option Addr) (n na : Nat) (lb : Nat → ByteArray) (ln : Nat → Nat) (lf : Nat → Nat → P3) (fa : Nat → P3) (w : World) (hl : TsL n lb ln) (ha : na ≤ 1048576) (hp : TsAt w T n lb ln lf) (pa : PtsAt w A na fa) (h0 : nkC band n lb ln lf na fa k ≠ 0) :
    Calls Try.prog 44 #[.agg #[.int .i64 band, .slice T n c], .slice A na ca, .int .i64 k] w fun e w' => e = .returned (.tuple #[.slice none 0 0, .int .i64 (nkC band n lb ln lf na fa k)]) ∧ Below w.heap.size w w' := by
  have BL := below_alloc1 w (.cells #[.int .i64 band, .slice T n c] 30)
  have HC := Lib.hid (codeNS (c := c) (ca := ca) w.heap.size 0 band k T A n na lb ln lf fa _ (by simp) (by simp) (by simp) hl ha (hp.kept BL) (pa.kept BL))
  have HBL := Lib.hid BL
  have h12 : nkC band n lb ln lf na fa k = 1 ∨ nkC band n lb ln lf na fa k = 2 := by have := nk_any band n lb ln lf na fa k; omega
  clear hp pa hl BL h0
  rcases h12 with h | h
  all_goals
    rw [h] at HC ⊢
    clear h
    go_enter Try.func44, Try.ntmps44
    go_wp2_with fail
    refine HC.out.mono ?_
    rintro e w1 ⟨rfl, hb⟩
    have HB := Lib.hid (HBL.out.trans (hb.mono HBL.out.size))
    clear hb
    go_wp2
    go_ret2
    exact ⟨rfl, HB.out⟩
set_option maxRecDepth 100000 in
set_option maxHeartbeats 8000000 in
theorem nearestI_no {c ca : Nat} (band k : Int) (T A : Option Addr) (n na : Nat) (lb : Nat → ByteArray) (ln : Nat → Nat) (lf : Nat → Nat → P3) (fa : Nat → P3) (w : World) (hl : TsL n lb ln) (ha : na ≤ 1048576) (hp : TsAt w T n lb ln lf) (pa : PtsAt w A na fa) (h0 : nkC band n lb ln lf na fa k ≠ 0) :
    Calls Try.prog 45 #[.agg #[.int .i64 band, .slice T n c], .slice A na ca, .int .i64 k] w fun e w' => e = .returned (.tuple #[.slice none 0 0, .int .i64 (nkC band n lb ln lf na fa k)]) ∧ Below w.heap.size w w' := by
  have BL := below_alloc1 w (.cells #[.int .i64 band, .slice T n c] 30)
  have HC := Lib.hid (codeNI (c := c) (ca := ca) band k T A n na lb ln lf fa _ hl ha (hp.kept BL) (pa.kept BL))
  have HBL := Lib.hid BL
  have h12 : nkC band n lb ln lf na fa k = 1 ∨ nkC band n lb ln lf na fa k = 2 := by have := nk_any band n lb ln lf na fa k; omega
  clear hp pa hl BL h0
  rcases h12 with h | h
  all_goals
    rw [h] at HC ⊢
    clear h
    go_enter Try.func45, Try.ntmps45
    go_wp2_with fail
    refine HC.out.mono ?_
    rintro e w1 ⟨rfl, hb⟩
    have HB := Lib.hid (HBL.out.trans (hb.mono HBL.out.size))
    clear hb
    go_wp2
    go_ret2
    exact ⟨rfl, HB.out⟩
set_option maxRecDepth 100000 in
set_option maxHeartbeats 8000000 in
theorem nearestS_yes {c ca : Nat} (band k : Int) (T A : Option Addr) (n na : Nat) (lb : Nat → ByteArray) (ln : Nat → Nat) (lf : Nat → Nat → P3) (fa : Nat → P3) (w : World) (hl : TsL n lb ln) (ha : na ≤ 1048576) (hp : TsAt w T n lb ln lf) (pa : PtsAt w A na fa) (h0 : nkC band n lb ln lf na fa k = 0) :
    Calls Try.prog 44 #[.agg #[.int .i64 band, .slice T n c], .slice A na ca, .int .i64 k] w fun e w' => ∃ v, e = .returned (.tuple #[v, .int .i64 0]) ∧ w'.ownsRow w.heap.size 101 2 v (kMin k (mst na fa ln lf band n).1) (rws (sp2 (srt (mst na fa ln lf band n).2 (mst na fa ln lf band n).1)) (kMin k (mst na fa ln lf band n).1)) ∧ Below w.heap.size w w' := by
  obtain ⟨hmc, hk1, hk2⟩ := nk_of h0
  obtain ⟨hst, va⟩ := mC_of hmc
  have BL := below_alloc1 w (.cells #[.int .i64 band, .slice T n c] 30)
  have HC := Lib.hid (codeNS (c := c) (ca := ca) w.heap.size 0 band k T A n na lb ln lf fa _ (by simp) (by simp) (by simp) hl ha (hp.kept BL) (pa.kept BL))
  have HM := Lib.hid (fun (W : World) (hW : Below (w.alloc (.cells #[.int .i64 band, .slice T n c] 30)).heap.size (w.alloc (.cells #[.int .i64 band, .slice T n c] 30)) W) => nearS (c := c) (ca := ca) w.heap.size 0 band k T A n na lb ln lf fa W (Nat.lt_of_lt_of_le (by simp) hW.size) ((hW.cell (p := ⟨w.heap.size, 0, none⟩) (by simp)).trans (by simp)) ((hW.cell (p := ⟨w.heap.size, 1, none⟩) (by simp)).trans (by simp)) hst va hk1 hk2 ((hp.kept BL).kept hW) ((pa.kept BL).kept hW))
  have HBL := Lib.hid BL
  rw [h0] at HC
  clear hp pa hl BL h0 hst va hmc hk1 hk2
  generalize srt (mst na fa ln lf band n).2 (mst na fa ln lf band n).1 = s at *
  generalize kMin k (mst na fa ln lf band n).1 = t at *
  go_enter Try.func44, Try.ntmps44
  go_wp2_with fail
  refine HC.out.mono ?_
  rintro e w1 ⟨rfl, hb⟩
  have HB := Lib.hid hb
  have HM2 := Lib.hid (HM.out w1 hb)
  clear hb HM
  go_wp2_with fail
  refine HM2.out.mono ?_
  rintro e w3 ⟨g, d, rfl, ho, hb⟩
  have HB3 := Lib.hid (HBL.out.trans ((HB.out.trans (hb.mono HB.out.size)).mono HBL.out.size))
  have HO := Lib.hid (row_low (b' := w.heap.size) ho (Nat.le_trans HBL.out.size HB.out.size))
  clear hb ho
  go_wp2
  go_ret2
  exact ⟨_, rfl, HO.out, HB3.out⟩
set_option maxRecDepth 100000 in
set_option maxHeartbeats 8000000 in
theorem nearestI_yes {c ca : Nat} (band k : Int) (T A : Option Addr) (n na : Nat) (lb : Nat → ByteArray) (ln : Nat → Nat) (lf : Nat → Nat → P3) (fa : Nat → P3) (w : World) (hl : TsL n lb ln) (ha : na ≤ 1048576) (hp : TsAt w T n lb ln lf) (pa : PtsAt w A na fa) (h0 : nkC band n lb ln lf na fa k = 0) :
    Calls Try.prog 45 #[.agg #[.int .i64 band, .slice T n c], .slice A na ca, .int .i64 k] w fun e w' => ∃ v, e = .returned (.tuple #[v, .int .i64 0]) ∧ w'.ownsRow w.heap.size 101 2 v (kMin k (mst na fa ln lf band n).1) (rws (sp2 (srt (mst na fa ln lf band n).2 (mst na fa ln lf band n).1)) (kMin k (mst na fa ln lf band n).1)) ∧ Below w.heap.size w w' := by
  obtain ⟨hmc, hk1, hk2⟩ := nk_of h0
  obtain ⟨hst, va⟩ := mC_of hmc
  have BL := below_alloc1 w (.cells #[.int .i64 band, .slice T n c] 30)
  have HC := Lib.hid (codeNI (c := c) (ca := ca) band k T A n na lb ln lf fa _ hl ha (hp.kept BL) (pa.kept BL))
  have HM := Lib.hid (fun (W : World) (hW : Below (w.alloc (.cells #[.int .i64 band, .slice T n c] 30)).heap.size (w.alloc (.cells #[.int .i64 band, .slice T n c] 30)) W) => nearI (c := c) (ca := ca) band k T A n na lb ln lf fa W hst va hk1 hk2 ((hp.kept BL).kept hW) ((pa.kept BL).kept hW))
  have HBL := Lib.hid BL
  have K0 := Lib.hid (heap_alloc_new w (.cells #[.int .i64 band, .slice T n c] 30))
  rw [h0] at HC
  clear hp pa hl BL h0 hst va hmc hk1 hk2
  generalize srt (mst na fa ln lf band n).2 (mst na fa ln lf band n).1 = s at *
  generalize kMin k (mst na fa ln lf band n).1 = t at *
  go_enter Try.func45, Try.ntmps45
  go_wp2_with fail
  refine HC.out.mono ?_
  rintro e w2 ⟨rfl, hb⟩
  have HB := Lib.hid hb
  have HM2 := Lib.hid (HM.out w2 hb)
  have K2 := (hb.block w.heap.size (by simp)).trans K0.out
  have q0 : w2.cell? ⟨w.heap.size, 0, none⟩ = some (.int .i64 band) := by rw [cell_of_block K2]; rfl
  have q1 : w2.cell? ⟨w.heap.size, 1, none⟩ = some (.slice T n c) := by rw [cell_of_block K2]; rfl
  have hz := block_size K2
  clear hb HM K2
  go_wp2_with fail
  refine HM2.out.mono ?_
  rintro e w3 ⟨D, d, rfl, ho, hb⟩
  have HB3 := Lib.hid (HBL.out.trans ((HB.out.trans (hb.mono HB.out.size)).mono HBL.out.size))
  have HO := Lib.hid (row_low (b' := w.heap.size) ho (Nat.le_trans HBL.out.size HB.out.size))
  clear hb ho
  go_wp2
  go_ret2
  exact ⟨_, rfl, HO.out, HB3.out⟩
end Go.Proofs.Ytkcfghbkcgommaa.hp
