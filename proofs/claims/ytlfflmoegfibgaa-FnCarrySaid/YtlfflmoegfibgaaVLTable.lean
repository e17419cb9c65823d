import Derived.Test.YtlfflmoegfibgaaVLSquare
/-! Rows that are the parts of one list; lists and tables as functions. -/
namespace Go.VL
open Go.RowKit

/-- The first n values of h. -/
def lst (n : Nat) (h : Nat → Int) : List Int := (List.range n).map h
theorem lst_length (n : Nat) (h : Nat → Int) : (lst n h).length = n := by simp [lst]
theorem lst_get {n i : Nat} {h : Nat → Int} (hi : i < n) : (lst n h)[i]? = some (h i) := by simp [lst, hi]
theorem lst_getD {n i : Nat} {h : Nat → Int} (hi : i < n) : (lst n h).getD i 0 = h i := by rw [List.getD_eq_getElem?_getD, lst_get hi]; rfl
theorem lst_congr {n : Nat} {h h' : Nat → Int} (e : ∀ i, i < n → h i = h' i) : lst n h = lst n h' :=
  List.map_congr_left fun i hi => e i (List.mem_range.1 hi)
theorem lst_set {n p : Nat} {h : Nat → Int} {x : Int} : (lst n h).set p x = lst n fun i => if i = p then x else h i := by
  apply List.ext_getElem (by simp [lst])
  intro i h1 h2
  rw [List.getElem_set]
  simp only [lst, List.getElem_map, List.getElem_range]
  by_cases hi : p = i
  · rw [if_pos hi, if_pos hi.symm]
  · rw [if_neg hi, if_neg (fun e => hi e.symm)]
theorem lst_succ (n : Nat) (h : Nat → Int) : lst (n + 1) h = lst n h ++ [h n] := by simp [lst, List.range_succ]
theorem lst_rep (n : Nat) (x : Int) : List.replicate n x = lst n fun _ => x := by
  apply List.ext_getElem (by simp [lst])
  intro i h1 h2; simp [lst]
/-- m rows of k numbers. -/
def tabN (m k : Nat) (g : Nat → Nat → Int) : List (List Int) := (List.range m).map fun i => lst k (g i)
theorem tabN_length (m k : Nat) (g : Nat → Nat → Int) : (tabN m k g).length = m := by simp [tabN]
theorem tabN_get {m k i : Nat} {g : Nat → Nat → Int} (hi : i < m) : (tabN m k g)[i]? = some (lst k (g i)) := by simp [tabN, hi]
theorem idx_lt {m k i j : Nat} (hi : i < m) (hj : j < k) : i * k + j < m * k := by
  have : (i + 1) * k ≤ m * k := Nat.mul_le_mul_right k hi
  rw [Nat.add_mul, Nat.one_mul] at this; omega
theorem idx_div {k i j : Nat} (hj : j < k) : (i * k + j) / k = i := by
  rw [Nat.mul_comm, Nat.mul_add_div (by omega), Nat.div_eq_of_lt hj]; omega
theorem idx_mod {k i j : Nat} (hj : j < k) : (i * k + j) % k = j := by
  rw [Nat.mul_comm, Nat.mul_add_mod, Nat.mod_eq_of_lt hj]
theorem idx_eq {k i j t : Nat} (hj : j < k) : t = i * k + j ↔ t / k = i ∧ t % k = j := by
  constructor
  · rintro rfl; exact ⟨idx_div hj, idx_mod hj⟩
  · rintro ⟨rfl, rfl⟩; have := Nat.div_add_mod t k; rw [Nat.mul_comm] at this; omega
theorem idx_row {m k t : Nat} (ht : t < m * k) : t / k < m := by
  rcases Nat.eq_zero_or_pos k with rfl | hk
  · omega
  · exact (Nat.div_lt_iff_lt_mul hk).2 ht
theorem idx_col {m k t : Nat} (ht : t < m * k) : t % k < k := by
  rcases Nat.eq_zero_or_pos k with rfl | hk
  · omega
  · exact Nat.mod_lt _ hk
/-- The rows, end to end. -/
def flatN (m k : Nat) (g : Nat → Nat → Int) : List Int := lst (m * k) fun t => g (t / k) (t % k)
theorem flatN_length (m k : Nat) (g : Nat → Nat → Int) : (flatN m k g).length = m * k := lst_length _ _
theorem flatN_get {m k i j : Nat} {g : Nat → Nat → Int} (hi : i < m) (hj : j < k) : (flatN m k g)[i * k + j]? = some (g i j) := by
  rw [flatN, lst_get (idx_lt hi hj), idx_div hj, idx_mod hj]
theorem flatN_set {m k i j : Nat} {g : Nat → Nat → Int} {x : Int} (hj : j < k) : (flatN m k g).set (i * k + j) x = flatN m k fun a b => if a = i ∧ b = j then x else g a b := by
  unfold flatN
  rw [lst_set]
  refine lst_congr fun t _ => ?_
  show _ = if t / k = i ∧ t % k = j then x else g (t / k) (t % k)
  by_cases h : t = i * k + j
  · rw [if_pos h, if_pos ((idx_eq hj).1 h)]
  · rw [if_neg h, if_neg fun e => h ((idx_eq hj).2 e)]
theorem flatN_congr {m k : Nat} {g g' : Nat → Nat → Int} (e : ∀ i j, i < m → j < k → g i j = g' i j) : flatN m k g = flatN m k g' :=
  lst_congr fun _ ht => e _ _ (idx_row ht) (idx_col ht)
theorem flatN_rep (m k : Nat) (x : Int) : List.replicate (m * k) x = flatN m k fun _ _ => x := by rw [flatN, lst_rep]

/-- The rows as slices of the list. -/
def rowsV (b k m : Nat) : List Value := (List.range m).map fun i => .slice (some ⟨b, i * k, none⟩) k k
theorem rowsV_length (b k m : Nat) : (rowsV b k m).length = m := by simp [rowsV]
theorem rowsV_get {b k m i : Nat} (hi : i < m) : (rowsV b k m)[i]? = some (.slice (some ⟨b, i * k, none⟩) k k) := by simp [rowsV, hi]
/-- The two blocks of a table. -/
abbrev TabB (eo ei bo bt m k : Nat) (g : Nat → Nat → Int) : Own := [(bo, ⟨rowsV bt k m, eo, m * 1, none⟩), (bt, ⟨ints (flatN m k g), ei, m * k * 1, none⟩)]
/-- A new table whose rows are the parts of one list. -/
def NewTab (eo ei m k : Nat) (g : Nat → Nat → Int) (v : Value) (new : Own) : Prop := ∃ bo bt, v = .slice (some ⟨bo, 0, none⟩) m m ∧ new = TabB eo ei bo bt m k g
theorem ints_get' {l : List Int} {i : Nat} {x : Int} (h : l[i]? = some x) : (ints l)[i]? = some (.int .i64 x) := by simp [ints, h]
theorem NewTab.rdG {Γ : Ctx} {own new : Own} {w : World} {eo ei m k : Nat} {g : Nat → Nat → Int} {v : Value} (h : NewTab eo ei m k g v new) (hs : Sub new own) (hg : Go.VL.Good Γ own w) : RdII w v (tabN m k g) := by
  obtain ⟨bo, bt, rfl, rfl⟩ := h
  refine ⟨rowsV bt k m, by rw [rowsV_length, tabN_length], fun i u l hu hl => ?_, .inr ⟨bo, 0, m, by rw [tabN_length], fun j x hx => ?_⟩⟩
  · have hi : i < m := by have := (List.getElem?_eq_some_iff.1 hu).1; rwa [rowsV_length] at this
    rw [rowsV_get hi] at hu; rw [tabN_get hi] at hl
    cases hu; cases hl
    refine .inr ⟨bt, i * k, k, by rw [lst_length], fun j x hx => ?_⟩
    have hj : j < k := by have := (List.getElem?_eq_some_iff.1 hx).1; rwa [ints_length, lst_length] at this
    rw [ints_get' (lst_get hj)] at hx
    cases hx
    exact cell_of_blk hg.ok (hs _ (List.mem_cons_of_mem _ List.mem_cons_self)) (ints_get' (flatN_get hi hj))
  · rw [Nat.zero_add]; exact cell_of_blk hg.ok (hs _ List.mem_cons_self) hx
/-- A new list of lists of numbers, each in blocks of its own or the parts of one list. -/
def NewT (eo ei : Nat) (ls : List (List Int)) (v : Value) (new : Own) : Prop := NewLL eo ei ls v new ∨ ∃ m k g, ls = tabN m k g ∧ 0 < k ∧ m * k ≤ 1048576 ∧ NewTab eo ei m k g v new
theorem NewT.rdG {Γ : Ctx} {own new : Own} {w : World} {eo ei : Nat} {ls : List (List Int)} {v : Value} (h : NewT eo ei ls v new) (hs : Sub new own) (hg : Go.VL.Good Γ own w) : RdII w v ls := by
  rcases h with h | ⟨m, k, g, rfl, _, _, h⟩
  · exact h.rdG hs hg
  · exact h.rdG hs hg
theorem NewT.form {eo ei : Nat} {ls : List (List Int)} {v : Value} {new : Own} (h : NewT eo ei ls v new) : ∃ p cap, v = .slice p ls.length cap := by
  rcases h with h | ⟨m, k, g, rfl, _, _, bo, bt, rfl, _⟩
  · exact h.form
  · exact ⟨_, _, by rw [tabN_length]⟩
/-- A new square: a number and a new list of lists. -/
def SqG (eo ei : Nat) (m : Int) (ls : List (List Int)) (u : Value) (new : Own) : Prop := ∃ p cap, u = .agg #[.int .i64 m, .slice p ls.length cap] ∧ NewT eo ei ls (.slice p ls.length cap) new
/-- Two results: a square, and a code. -/
def PairSq (eo ei : Nat) (r : (Int × List (List Int)) × Int) (v : Value) (new : Own) : Prop := ∃ p cap, v = .tuple #[.agg #[.int .i64 r.1.1, .slice p r.1.2.length cap], .int .i64 r.2] ∧ NewT eo ei r.1.2 (.slice p r.1.2.length cap) new
section
variable {P : Program} {T : Nat → Option TI} {Γ : Ctx} {f : Nat → Value} {own : Own}
end
end Go.VL
namespace Go.VL
section
variable {P : Program} {Γ : Ctx} {f : Nat → Value} {own : Own}
theorem rv_tmp3 {n t u s : Nat} {fn : Func} {v x y : Value} (h : fn.results = #[.tmp t, .tmp u, .tmp s]) (hv : f t = v) (hx : f u = x) (hy : f s = y) : RV P Γ n fn f own (.tuple #[v, x, y]) :=
  fun a w ha _ => by
    have h1 := ha.get t
    have h2 := ha.get u
    have h3 := ha.get s
    simp only [Array.getD_eq_getD_getElem?] at h1 h2 h3
    simp [results, h, h1, h2, h3, hv, hx, hy]
end
end Go.VL
namespace Go.VL
open Go.RowKit
section
variable {P : Program} {T : Nat → Option TI} {Γ : Ctx} {ops : Array Oper} {Q : (Nat → Value) → Own → Prop} {rest : List Oper} {f : Nat → Value} {own : Own}
variable {ty : TypeId} {pos : String} {aft : Array Edge}
end
end Go.VL
