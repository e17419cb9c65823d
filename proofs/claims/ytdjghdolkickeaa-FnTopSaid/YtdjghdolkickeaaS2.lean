import Derived.Test.YtdjghdolkickeaaPS8
import Derived.Test.YtdjghdolkickeaaP29
import Derived.Test.YtdjghdolkickeaaS1
import Derived.Test.YtdjghdolkickeaaVLArr
/- A part of the proof: S2. No conditions of its own. -/
namespace Go.Proofs.Ytdjghdolkickeaa
open Go.VL
attribute [local irreducible] VWr VOps VD Calls

/-! Round robins: circles, renumbered, reordered; how many greater teams a team meets. -/
theorem circ_meet : ∀ k : Nat, k < 15 → ∀ a : Nat, a < 14 → ∀ b : Nat, b < 14 → (2 ≤ k ∧ a < k ∧ b < k ∧ ¬ a = b) → cnt (circRows k) a b = 1 := by decide +kernel
theorem circ_all {k : Nat} (h2 : 2 ≤ k) (h14 : k ≤ 14) : AllMeet k (circRows k) :=
  ⟨by rw [circRows_length]; unfold robinR; omega, fun a b ha hb hab => circ_meet k (by omega) a (by omega) b (by omega) ⟨h2, ha, hb, hab⟩⟩
theorem filter_map_len {α β : Type} (f : α → β) (p : β → Bool) (l : List α) : ((l.map f).filter p).length = (l.filter fun x => p (f x)).length := by
  rw [List.filter_map, List.length_map]; rfl
/-- The numbers of teams are what p makes of them. -/
theorem perm_onto {n : Int} {p : List Int} (hp : IsPerm n p) {x : Nat} (hx : (x : Int) < n) : ∃ a : Nat, (a : Int) < n ∧ p.getD a 0 = (x : Int) := by
  have hl := hp.1
  obtain ⟨a, ha, hax⟩ := onto_inj n.toNat (fun a => (p.getD a 0).toNat) (fun a ha => by
      have := hp.2.1 _ (mem_getD (l := p) (i := a) (by omega)); show (p.getD a 0).toNat < _; omega)
    (fun a b ha hb e => by
      have pa := hp.2.1 _ (mem_getD (l := p) (i := a) (by omega))
      have pb := hp.2.1 _ (mem_getD (l := p) (i := b) (by omega))
      have e' : (p.getD a 0).toNat = (p.getD b 0).toNat := e
      by_cases hab : a = b
      · exact hab
      · exact absurd (show p.getD a 0 = p.getD b 0 by omega) (nodup_getDP hp.2.2 (by omega) (by omega) hab)) x (by omega)
  have hax' : (p.getD a 0).toNat = x := hax
  have pa := hp.2.1 _ (mem_getD (l := p) (i := a) (by omega))
  exact ⟨a, by omega, by omega⟩
theorem renamed_meet {n : Int} {p : List Int} {rs : List (List Int)} (hS : IsSch n rs) (hp : IsPerm n p) (h : AllMeet n.toNat rs) : AllMeet n.toNat (renamed n p rs) := by
  have h2 := hS.1
  have h14 := hS.2.1
  have hl := hp.1
  refine ⟨by rw [renamed_length]; exact h.1, fun x y hx hy hxy => ?_⟩
  obtain ⟨a, ha, hax⟩ := perm_onto hp (x := x) (by omega)
  obtain ⟨b, hb, hby⟩ := perm_onto hp (x := y) (by omega)
  have hab : a ≠ b := fun e => by subst e; omega
  have hc := h.2 a b (by omega) (by omega) hab
  unfold cnt at hc ⊢
  rw [if_neg hab] at hc
  rw [if_neg hxy]
  unfold renamed
  rw [filter_map_len, ← hc]
  congr 1
  apply List.filter_congr
  intro r hr
  obtain ⟨i, hi⟩ := List.mem_iff_getElem?.1 hr
  have hrd := (hS.2.2.2 i r hi).2.2 a (by omega)
  have hr2 := hrd.2 ha
  have hat := renTo_at (r := r) h14 hp ha n.toNat (by omega)
  rw [if_pos (by omega), hax, Int.toNat_natCast] at hat
  rw [hat]
  refine decide_eq_decide.2 ⟨fun e => ?_, fun e => ?_⟩
  · have pr := hp.2.1 _ (mem_getD (l := p) (i := (r.getD a 0).toNat) (by omega))
    by_cases hne : (r.getD a 0).toNat = b
    · omega
    · exact absurd (e.trans hby.symm) (nodup_getDP hp.2.2 (by omega) (by omega) hne)
  · rw [e, Int.toNat_natCast, hby]
theorem range_get (rs : List (List Int)) : rs = (List.range rs.length).map fun i => rs.getD i [] := by
  apply List.ext_getElem (by simp)
  intro i h1 h2
  simp [List.getD_eq_getElem?_getD, h1]
theorem reord_perm {rs : List (List Int)} {q : List Int} (hq : IsPerm rs.length q) : (reord rs q).Perm rs := by
  have hl := hq.1
  have e : reord rs q = (q.map Int.toNat).map fun i => rs.getD i [] := by unfold reord; rw [List.map_map]; rfl
  conv => rhs; rw [range_get rs]
  rw [e]
  apply List.Perm.map
  have hnd : (q.map Int.toNat).Nodup := by
    refine List.pairwise_iff_getElem.2 fun i j hi hj hij => ?_
    rw [List.length_map] at hi hj
    rw [List.getElem_map, List.getElem_map]
    have h1 := hq.2.1 _ (List.getElem_mem hi)
    have h2 := hq.2.1 _ (List.getElem_mem hj)
    have h3 : q[i] ≠ q[j] := List.pairwise_iff_getElem.1 hq.2.2 i j hi hj hij
    show q[i].toNat ≠ q[j].toNat
    omega
  refine (List.perm_ext_iff_of_nodup hnd List.nodup_range).2 fun x => ⟨fun hx => ?_, fun hx => ?_⟩
  · obtain ⟨y, hy, rfl⟩ := List.mem_map.1 hx
    have := hq.2.1 y hy
    exact List.mem_range.2 (by omega)
  · obtain ⟨a, ha, hax⟩ := perm_onto hq (x := x) (by have := List.mem_range.1 hx; omega)
    exact List.mem_map.2 ⟨q.getD a 0, mem_getD (by omega), by rw [hax]; rfl⟩
theorem reord_meet {k : Nat} {rs : List (List Int)} {q : List Int} (hq : IsPerm rs.length q) (h : AllMeet k rs) : AllMeet k (reord rs q) := by
  refine ⟨by rw [reord_length, hq.1]; exact h.1, fun a b ha hb hab => ?_⟩
  rw [← h.2 a b ha hb hab]
  unfold cnt
  rw [if_neg hab, if_neg hab]
  exact ((reord_perm hq).filter _).length_eq

/-- How many rounds bring a against a greater team below j. -/
def upTo (rs : List (List Int)) (a j : Nat) : Nat := (rs.filter fun r => decide ((a : Int) < r.getD a 0 ∧ r.getD a 0 < (j : Int))).length
theorem filter_or {α : Type} (p q : α → Bool) : ∀ l : List α, (∀ x ∈ l, ¬ (p x = true ∧ q x = true)) → (l.filter fun x => p x || q x).length = (l.filter p).length + (l.filter q).length
  | [], _ => rfl
  | x :: l, h => by
    have ih := filter_or p q l fun y hy => h y (List.mem_cons_of_mem _ hy)
    have hx := h x List.mem_cons_self
    simp only [List.filter_cons]
    cases hp : p x <;> cases hq : q x <;> simp [hp, hq] at hx ⊢ <;> omega
theorem upTo_succ {rs : List (List Int)} {a j : Nat} (haj : a < j) : upTo rs a (j + 1) = upTo rs a j + cnt rs a j := by
  unfold upTo cnt
  rw [if_neg (by omega), ← filter_or]
  · congr 1
    apply List.filter_congr
    intro r _
    rw [← Bool.decide_or]
    exact decide_eq_decide.2 (by omega)
  · intro r _
    rw [decide_eq_true_iff, decide_eq_true_iff]; omega
theorem upTo_zero (rs : List (List Int)) (a : Nat) : upTo rs a (a + 1) = 0 := by
  unfold upTo
  rw [List.length_eq_zero_iff, List.filter_eq_nil_iff]
  intro r _
  rw [decide_eq_true_iff]; omega
theorem upTo_all {rs : List (List Int)} {a k : Nat} (hm : ∀ b, b < k → a ≠ b → cnt rs a b = 1) : ∀ d, a + 1 + d ≤ k → upTo rs a (a + 1 + d) = d
  | 0, _ => upTo_zero rs a
  | d + 1, h => by
    rw [show a + 1 + (d + 1) = a + 1 + d + 1 by omega, upTo_succ (by omega), upTo_all hm d (by omega), hm _ (by omega) (by omega)]
theorem missTo_none {rs : List (List Int)} {k : Nat} (h : ∀ a b : Nat, a < k → b < k → a ≠ b → cnt rs a b = 1) : ∀ i, i ≤ k → missTo rs k i = []
  | 0, _ => rfl
  | i + 1, hi => by
    rw [missTo, missTo_none h i (by omega), List.nil_append]
    unfold missRow
    rw [List.map_eq_nil_iff, List.filter_eq_nil_iff]
    intro b hb
    rw [decide_eq_true_iff]
    rintro ⟨h1, h2⟩
    have := h i b (by omega) (List.mem_range.1 hb) (by omega)
    omega
/-! first venues are venues; how often a team plays at home in them -/
theorem first_form {n : Int} {rs : List (List Int)} (hS : IsSch n rs) : Form n rs.length (firstV n.toNat rs) := by
  have h2 := hS.1
  refine ⟨tabN_length _ _ _, fun l hl => ?_⟩
  obtain ⟨i, hi, rfl⟩ := tabN_mem (show l ∈ tabN _ _ _ from hl)
  refine ⟨by rw [lst_length]; omega, fun x hx => ?_⟩
  obtain ⟨a, ha, rfl⟩ := lst_mem hx
  unfold firstG InV
  split
  · omega
  · split <;> omega
theorem getD_of {rs : List (List Int)} {i : Nat} {r : List Int} (h : rs[i]? = some r) : rs.getD i [] = r := by
  rw [List.getD_eq_getElem?_getD, h]; rfl
theorem first_ven {n : Int} {rs : List (List Int)} (hS : IsSch n rs) : Ven n rs (firstV n.toNat rs) := by
  have h2 := hS.1
  have h14 := hS.2.1
  intro i r l hr hl a ha
  have hi : i < rs.length := (List.getElem?_eq_some_iff.1 hr).1
  have e : lst n.toNat (firstG rs i) = l := by
    have := tabN_get (k := n.toNat) (g := firstG rs) hi
    exact Option.some.inj (this.symm.trans hl)
  subst e
  obtain ⟨b0, b1, b2⟩ := ((hS.2.2.2 i r hr).2.2 a (by omega)).2 ha
  unfold VAt
  rw [lst_getD (by omega), lst_getD (by omega)]
  unfold firstG
  rw [getD_of hr, b2]
  by_cases h : r.getD a 0 = a
  · exact .inl ⟨h, by rw [if_pos h]⟩
  · right
    have e1 : ¬ (a : Int) = ((r.getD a 0).toNat : Int) := by omega
    rw [if_neg h, if_neg e1]
    by_cases h3 : (a : Int) < r.getD a 0
    · have e2 : ¬ ((r.getD a 0).toNat : Int) < (a : Int) := by omega
      rw [if_pos h3, if_neg e2]; omega
    · have e2 : ((r.getD a 0).toNat : Int) < (a : Int) := by omega
      rw [if_neg h3, if_pos e2]; omega
theorem cntV_first {n : Int} {rs : List (List Int)} (hS : IsSch n rs) {a : Nat} (ha : (a : Int) < n) : ∀ i, i ≤ rs.length → cntV (firstV n.toNat rs) a 1 i = (upTo (rs.take i) a n.toNat : Int)
  | 0, _ => by simp [cntV, upTo]
  | i + 1, hi => by
    have h14 := hS.2.1
    obtain ⟨r, hr⟩ : ∃ r, rs[i]? = some r := ⟨_, List.getElem?_eq_getElem (by omega)⟩
    obtain ⟨b0, b1, b2⟩ := ((hS.2.2.2 i r hr).2.2 a (by omega)).2 ha
    have hst : rs.take (i + 1) = rs.take i ++ [r] := by rw [List.take_add_one, hr]; rfl
    rw [cntV, cntV_first hS ha i (by omega), hst]
    unfold upTo
    rw [List.filter_append, List.length_append]
    have e : vat (firstV n.toNat rs) i a = firstG rs i a := vat_tab (by omega) (by omega)
    rw [e]
    unfold firstG
    rw [getD_of hr]
    by_cases h3 : (a : Int) < r.getD a 0
    · have : ([r].filter fun r => decide ((a : Int) < r.getD a 0 ∧ r.getD a 0 < (n.toNat : Int))) = [r] := by
        rw [List.filter_cons, if_pos (decide_eq_true ⟨h3, by omega⟩), List.filter_nil]
      have e1 : ¬ r.getD a 0 = (a : Int) := by omega
      rw [this, if_neg e1, if_pos h3, if_pos rfl]; simp
    · have : ([r].filter fun r => decide ((a : Int) < r.getD a 0 ∧ r.getD a 0 < (n.toNat : Int))) = [] := by
        rw [List.filter_cons, if_neg (by rw [decide_eq_true_iff]; exact fun h => h3 h.1), List.filter_nil]
      rw [this, if_neg h3, if_neg]
      · simp
      · split <;> omega
/-- In the first venues of a round robin a team plays at home against all greater ones. -/
theorem homes_first {n : Int} {rs : List (List Int)} (hS : IsSch n rs) (hM : AllMeet n.toNat rs) : homL n.toNat (firstV n.toNat rs) = lst n.toNat fun a => n - 1 - a := by
  have h2 := hS.1
  refine lst_congr fun a ha => ?_
  have hl : (firstV n.toNat rs).length = rs.length := tabN_length _ _ _
  rw [hl, cntV_first hS (by omega) rs.length (Nat.le_refl _), List.take_length]
  have := upTo_all (rs := rs) (a := a) (k := n.toNat) (fun b hb hab => hM.2 a b ha hb hab) (n.toNat - 1 - a) (by omega)
  rw [show a + 1 + (n.toNat - 1 - a) = n.toNat by omega] at this
  rw [this]; omega
def sumI : List Int → Int
  | [] => 0
  | x :: l => x + sumI l
theorem sumI_snoc (x : Int) : ∀ l : List Int, sumI (l ++ [x]) = sumI l + x
  | [] => by simp [sumI]
  | y :: l => by simp only [List.cons_append, sumI, sumI_snoc x l]; omega
theorem sumI_in {B : Int} : ∀ {l : List Int}, (∀ x ∈ l, 0 ≤ x ∧ x ≤ B) → 0 ≤ sumI l ∧ sumI l ≤ l.length * B
  | [], _ => by simp [sumI]
  | x :: l, h => by
    have h1 := h x List.mem_cons_self
    have h2 := sumI_in (l := l) fun y hy => h y (List.mem_cons_of_mem _ hy)
    simp only [sumI, List.length_cons, Int.natCast_add, Int.add_mul]; omega
theorem sum_homes : ∀ k : Nat, k < 15 → sumI (lst k fun a => (k : Int) - 1 - a) = (k : Int) * (k - 1) / 2 := by decide +kernel
end Go.Proofs.Ytdjghdolkickeaa
