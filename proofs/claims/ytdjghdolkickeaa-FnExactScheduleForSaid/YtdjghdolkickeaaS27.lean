import Derived.Test.YtdjghdolkickeaaS1
import Derived.Test.YtdjghdolkickeaaSA
import Derived.Test.YtdjghdolkickeaaVLArr
/- A part of the proof: S27. No conditions of its own. -/
namespace Go.Proofs.Ytdjghdolkickeaa
open Go.VL
/-! the rounds in which nobody is free, and those of them that are wanted -/
theorem getD_setF (l : List Int) (i j : Nat) (x : Int) : (l.set i x).getD j 0 = if i = j ∧ i < l.length then x else l.getD j 0 := by
  rw [List.getD_eq_getElem?_getD, List.getD_eq_getElem?_getD, List.getElem?_set]
  by_cases h : i = j
  · subst h
    by_cases h2 : i < l.length
    · rw [if_pos rfl, if_pos h2, if_pos ⟨rfl, h2⟩]; rfl
    · rw [if_pos rfl, if_neg h2, if_neg (fun h => h2 h.2), List.getElem?_eq_none (by omega)]
  · rw [if_neg h, if_neg (fun hh => h hh.1)]
def meetAt (r : List Int) (a b : Nat) : List Int := (r.set a (b : Int)).set b (a : Int)
theorem meetAt_length (r : List Int) (a b : Nat) : (meetAt r a b).length = r.length := by simp [meetAt]
theorem meetAt_get {r : List Int} {a b : Nat} (hr : r.length = 14) (ha : a < 14) (hb : b < 14) (j : Nat) : (meetAt r a b).getD j 0 = if j = b then (a : Int) else if j = a then (b : Int) else r.getD j 0 := by
  unfold meetAt
  rw [getD_setF, getD_setF, List.length_set]
  by_cases h : b = j
  · rw [if_pos ⟨h, by omega⟩, if_pos h.symm]
  · rw [if_neg (fun hh => h hh.1), if_neg (show ¬ j = b by omega)]
    by_cases h2 : a = j
    · rw [if_pos ⟨h2, by omega⟩, if_pos h2.symm]
    · rw [if_neg (fun hh => h2 hh.1), if_neg (show ¬ j = a by omega)]
/-- The rounds behind r in which all teams from a on that are free in it meet. -/
def fI (k : Nat) : Nat → List Int → Nat → List (List Int)
  | 0, r, _ => [r]
  | f + 1, r, a => if r.getD a 0 ≠ (a : Int) then fI k f r (a + 1) else
      (List.range (k - (a + 1))).flatMap fun d => if r.getD (a + 1 + d) 0 = ((a + 1 + d : Nat) : Int) then fI k f (meetAt r a (a + 1 + d)) (a + 1) else []
/-- Those of them in which only such teams meet as may. -/
def fS (k : Nat) (ok : Nat → Nat → Bool) : Nat → List Int → Nat → List (List Int)
  | 0, r, _ => [r]
  | f + 1, r, a => if 0 ≤ r.getD a 0 then fS k ok f r (a + 1) else
      (List.range (k - (a + 1))).flatMap fun d => if r.getD (a + 1 + d) 0 < 0 ∧ ok a (a + 1 + d) = true then fS k ok f (meetAt r a (a + 1 + d)) (a + 1) else []
theorem fI_ext {k : Nat} (hk : k ≤ 14) : ∀ (f : Nat) (r : List Int) (a : Nat) (q : List Int), r.length = 14 → a + f = k → q ∈ fI k f r a → q.length = 14 ∧ ∀ i : Nat, r.getD i 0 ≠ (i : Int) → q.getD i 0 = r.getD i 0
  | 0, r, a, q, hr, _, h => by
    obtain rfl : q = r := by simpa [fI] using h
    exact ⟨hr, fun _ _ => rfl⟩
  | f + 1, r, a, q, hr, hf, h => by
    rw [fI] at h
    by_cases h0 : r.getD a 0 ≠ (a : Int)
    · rw [if_pos h0] at h
      exact fI_ext hk f r (a + 1) q hr (by omega) h
    · rw [if_neg h0] at h
      obtain ⟨d, hd, h⟩ := List.mem_flatMap.1 h
      have hd := List.mem_range.1 hd
      by_cases h1 : r.getD (a + 1 + d) 0 = ((a + 1 + d : Nat) : Int)
      · rw [if_pos h1] at h
        obtain ⟨hl, hx⟩ := fI_ext hk f _ (a + 1) q (by rw [meetAt_length, hr]) (by omega) h
        refine ⟨hl, fun i hi => ?_⟩
        have hg := meetAt_get (a := a) (b := a + 1 + d) hr (by omega) (by omega) i
        have ha : i ≠ a := fun e => by subst e; exact h0 hi
        have hb : i ≠ a + 1 + d := fun e => by subst e; exact hi h1
        rw [if_neg hb, if_neg ha] at hg
        rw [← hg]
        exact hx i (by rw [hg]; exact hi)
      · rw [if_neg h1] at h; cases h
theorem flatMap_le {α β : Type} {g : α → List β} {c : Nat} : ∀ {l : List α}, (∀ x ∈ l, (g x).length ≤ c) → (l.flatMap g).length ≤ l.length * c
  | [], _ => by simp
  | x :: l, h => by
    have h1 := h x (List.mem_cons_self ..)
    have h2 := flatMap_le (l := l) fun y hy => h y (List.mem_cons_of_mem _ hy)
    rw [List.flatMap_cons, List.length_append, List.length_cons, Nat.add_mul, Nat.one_mul]
    omega
theorem fI_length {k : Nat} (hk : k ≤ 6) : ∀ (f : Nat) (r : List Int) (a : Nat), (fI k f r a).length ≤ 6 ^ f
  | 0, r, a => by simp [fI]
  | f + 1, r, a => by
    have hp : 6 ^ (f + 1) = 6 ^ f * 6 := Nat.pow_succ ..
    have h0 := fI_length hk f r (a + 1)
    rw [fI]
    split
    · omega
    · refine Nat.le_trans (flatMap_le (c := 6 ^ f) fun d _ => ?_) ?_
      · split
        · exact fI_length hk f _ _
        · simp
      · rw [List.length_range, hp, Nat.mul_comm]
        exact Nat.mul_le_mul_left _ (by omega)
theorem fS_length {k : Nat} {ok : Nat → Nat → Bool} (hk : k ≤ 6) : ∀ (f : Nat) (r : List Int) (a : Nat), (fS k ok f r a).length ≤ 6 ^ f
  | 0, r, a => by simp [fS]
  | f + 1, r, a => by
    have hp : 6 ^ (f + 1) = 6 ^ f * 6 := Nat.pow_succ ..
    have h0 := fS_length (ok := ok) hk f r (a + 1)
    rw [fS]
    split
    · omega
    · refine Nat.le_trans (flatMap_le (c := 6 ^ f) fun d _ => ?_) ?_
      · split
        · exact fS_length hk f _ _
        · simp
      · rw [List.length_range, hp, Nat.mul_comm]
        exact Nat.mul_le_mul_left _ (by omega)
theorem fS_len {k : Nat} {ok : Nat → Nat → Bool} : ∀ (f : Nat) (r : List Int) (a : Nat) (q : List Int), r.length = 14 → q ∈ fS k ok f r a → q.length = 14
  | 0, r, a, q, hr, h => by
    obtain rfl : q = r := by simpa [fS] using h
    exact hr
  | f + 1, r, a, q, hr, h => by
    rw [fS] at h
    by_cases h0 : 0 ≤ r.getD a 0
    · rw [if_pos h0] at h
      exact fS_len f r (a + 1) q hr h
    · rw [if_neg h0] at h
      obtain ⟨d, _, h⟩ := List.mem_flatMap.1 h
      split at h
      · exact fS_len f _ _ q (by rw [meetAt_length, hr]) h
      · cases h
/-- The same round, where free teams have themselves or -1. -/
def Same (k : Nat) (r q : List Int) : Prop := r.length = 14 ∧ q.length = 14 ∧ ∀ i : Nat, i < 14 → (i < k ∧ r.getD i 0 = i ∧ q.getD i 0 = -1) ∨ (r.getD i 0 = q.getD i 0 ∧ 0 ≤ q.getD i 0 ∧ (i < k → r.getD i 0 ≠ i))
theorem flatMap_congrF {α β : Type} {f g : α → List β} {l : List α} (h : ∀ x ∈ l, f x = g x) : l.flatMap f = l.flatMap g := by
  rw [List.flatMap_def, List.flatMap_def, List.map_congr_left h]
open Classical in
theorem fill_eq {k : Nat} {ok : Nat → Nat → Bool} (hk : k ≤ 14) (hs : ∀ a b : Nat, a < k → b < k → ok a b = ok b a) : ∀ (f : Nat) (r q : List Int) (a : Nat), a + f = k → Same k r q → (∀ i : Nat, i < a → r.getD i 0 ≠ i) →
    fS k ok f q a = (fI k f r a).filter fun p => decide (∀ i : Nat, i < k → r.getD i 0 = i → ok i (p.getD i 0).toNat = true)
  | 0, r, q, a, hf, hS, ha => by
    obtain rfl : a = k := by omega
    have he : q = r := by
      refine List.ext_getElem? fun i => ?_
      by_cases hi : i < 14
      · have h1 := hS.2.2 i hi
        have h2 : r.getD i 0 = q.getD i 0 := by
          rcases h1 with h | h
          · exact absurd h.2.1 (ha i h.1)
          · exact h.1
        have hr' : i < r.length := by have := hS.1; omega
        have hq' : i < q.length := by have := hS.2.1; omega
        rw [List.getD_eq_getElem?_getD, List.getD_eq_getElem?_getD, List.getElem?_eq_getElem hr', List.getElem?_eq_getElem hq'] at h2
        rw [List.getElem?_eq_getElem hr', List.getElem?_eq_getElem hq']
        exact congrArg some h2.symm
      · have hr' := hS.1
        have hq' := hS.2.1
        rw [List.getElem?_eq_none (show q.length ≤ i by omega), List.getElem?_eq_none (show r.length ≤ i by omega)]
    subst he
    rw [fS, fI]
    exact (List.filter_eq_self.2 fun p hp => by
      simp only [decide_eq_true_eq]
      intro i hi h
      exact absurd h (ha i hi)).symm
  | f + 1, r, q, a, hf, hS, ha => by
    have hSa := hS.2.2 a (by omega)
    rw [fS, fI]
    by_cases h0 : r.getD a 0 ≠ (a : Int)
    · rw [if_pos h0, if_pos (hSa.elim (fun h => absurd h.2.1 h0) fun h => h.2.1)]
      exact fill_eq hk hs f r q (a + 1) (by omega) hS fun i hi => by
        by_cases e : i = a
        · subst e; exact h0
        · exact ha i (by omega)
    · have h0' : r.getD a 0 = (a : Int) := Classical.not_not.1 h0
      rw [if_neg h0, if_neg (hSa.elim (fun h => by rw [h.2.2]; omega) fun h => absurd h0' (h.2.2 (by omega))), List.filter_flatMap]
      refine flatMap_congrF fun d hd => ?_
      have hd := List.mem_range.1 hd
      have hSb := hS.2.2 (a + 1 + d) (by omega)
      by_cases h1 : r.getD (a + 1 + d) 0 = ((a + 1 + d : Nat) : Int)
      · rw [if_pos h1]
        have hq1 : q.getD (a + 1 + d) 0 < 0 := hSb.elim (fun h => by rw [h.2.2]; omega) fun h => absurd h1 (h.2.2 (by omega))
        have hgr := meetAt_get (a := a) (b := a + 1 + d) hS.1 (by omega) (by omega)
        have hgq := meetAt_get (a := a) (b := a + 1 + d) hS.2.1 (by omega) (by omega)
        have hS' : Same k (meetAt r a (a + 1 + d)) (meetAt q a (a + 1 + d)) := ⟨by rw [meetAt_length, hS.1], by rw [meetAt_length, hS.2.1], fun i hi => by
          have hSi := hS.2.2 i hi
          rw [hgr, hgq]
          by_cases e1 : i = a + 1 + d
          · rw [if_pos e1, if_pos e1]; exact .inr ⟨rfl, by omega, fun _ => by omega⟩
          · rw [if_neg e1, if_neg e1]
            by_cases e2 : i = a
            · rw [if_pos e2, if_pos e2]; exact .inr ⟨rfl, by omega, fun _ => by omega⟩
            · rw [if_neg e2, if_neg e2]; exact hSi⟩
        have ih := fill_eq hk hs f _ _ (a + 1) (by omega) hS' fun i hi => by
          rw [hgr, if_neg (by omega)]
          by_cases e2 : i = a
          · rw [if_pos e2]; omega
          · rw [if_neg e2]; exact ha i (by omega)
        have hmem : ∀ p ∈ fI k f (meetAt r a (a + 1 + d)) (a + 1), p.getD a 0 = ((a + 1 + d : Nat) : Int) ∧ p.getD (a + 1 + d) 0 = (a : Int) := fun p hp => by
          obtain ⟨_, hx⟩ := fI_ext hk f _ (a + 1) p (by rw [meetAt_length, hS.1]) (by omega) hp
          have e1 := hgr a
          rw [if_neg (by omega), if_pos rfl] at e1
          have e2 := hgr (a + 1 + d)
          rw [if_pos rfl] at e2
          exact ⟨(hx a (by rw [e1]; omega)).trans e1, (hx (a + 1 + d) (by rw [e2]; omega)).trans e2⟩
        by_cases hok : ok a (a + 1 + d) = true
        · rw [if_pos ⟨hq1, hok⟩, ih]
          refine List.filter_congr fun p hp => ?_
          obtain ⟨p1, p2⟩ := hmem p hp
          refine decide_eq_decide.2 ⟨fun h i hi hri => ?_, fun h i hi hri => ?_⟩
          · by_cases e1 : i = a + 1 + d
            · subst e1; rw [p2, Int.toNat_natCast, hs _ _ (by omega) (by omega)]; exact hok
            · by_cases e2 : i = a
              · subst e2; rw [p1, Int.toNat_natCast]; exact hok
              · exact h i hi (by rw [hgr, if_neg e1, if_neg e2]; exact hri)
          · have e1 : i ≠ a + 1 + d := fun e => by subst e; rw [hgr, if_pos rfl] at hri; omega
            have e2 : i ≠ a := fun e => by subst e; rw [hgr, if_neg (by omega), if_pos rfl] at hri; omega
            rw [hgr, if_neg e1, if_neg e2] at hri
            exact h i hi hri
        · rw [if_neg (fun h => hok h.2)]
          refine (List.filter_eq_nil_iff.2 fun p hp h => ?_).symm
          obtain ⟨p1, p2⟩ := hmem p hp
          have := of_decide_eq_true h a (by omega) h0'
          rw [p1, Int.toNat_natCast] at this
          exact hok this
      · have hq1 : ¬ q.getD (a + 1 + d) 0 < 0 := hSb.elim (fun h => absurd h.2.1 h1) fun h => by omega
        rw [if_neg h1, if_neg (fun h => hq1 h.1)]; rfl
/-! the search for a round robin -/
def fullL (k : Nat) : List (List Int) := fI k k (freeTo k) 0
theorem full_dec : ∀ k : Nat, k < 7 → (k = 2 ∨ k = 4 ∨ k = 6) → ∀ q ∈ fullL k, q.length = 14 ∧ IsRd k q ∧ ∀ a : Nat, a < k → q.getD a 0 ≠ (a : Int) := by decide +kernel
theorem full_ok {k : Nat} (hk : k = 2 ∨ k = 4 ∨ k = 6) {q : List Int} (h : q ∈ fullL k) : q.length = 14 ∧ IsRd k q ∧ ∀ a : Nat, a < k → q.getD a 0 ≠ (a : Int) := full_dec k (by omega) hk q h
def apartB (k : Nat) (r q : List Int) : Bool := (List.range k).all fun a => q.getD a 0 != r.getD a 0
theorem apartB_iff {k : Nat} {r q : List Int} : apartB k r q = true ↔ ∀ a : Nat, a < k → q.getD a 0 ≠ r.getD a 0 := by
  unfold apartB
  rw [List.all_eq_true]
  exact ⟨fun h a ha => bne_iff_ne.1 (h a (List.mem_range.2 ha)), fun h a ha => bne_iff_ne.2 (h a (List.mem_range.1 ha))⟩
open Classical in
noncomputable def sI (k : Nat) : List (List Int) → List (List Int) → Option (List (List Int))
  | [], _ => some []
  | row :: rows, opn => opn.findSome? fun r => if RowGoes k r row then (sI k rows (opn.filter (apartB k r))).map (r :: ·) else none
def okB (row : List Int) (rounds : List (List Int)) (a b : Nat) : Bool := rounds.all (fun r => r.getD a 0 != (b : Int)) && decide (row.getD a 0 + row.getD b 0 = 1)
theorem okB_iff {row : List Int} {rounds : List (List Int)} {a b : Nat} : okB row rounds a b = true ↔ (∀ r ∈ rounds, r.getD a 0 ≠ (b : Int)) ∧ row.getD a 0 + row.getD b 0 = 1 := by
  unfold okB
  rw [Bool.and_eq_true, decide_eq_true_eq, List.all_eq_true]
  exact and_congr_left' ⟨fun h r hr => bne_iff_ne.1 (h r hr), fun h r hr => bne_iff_ne.2 (h r hr)⟩
/-- The round in which nothing is known yet. -/
def unm (k i : Nat) : List Int := (List.range 14).map fun j => if j < i ∧ j < k then -1 else 0
theorem unm_get {k i j : Nat} (h : j < 14) : (unm k i).getD j 0 = if j < i ∧ j < k then -1 else 0 := by simp [unm, h]
theorem unm_length (k i : Nat) : (unm k i).length = 14 := by simp [unm]
def sS (k : Nat) (vs : List (List Int)) : Nat → List (List Int) → Option (List (List Int))
  | 0, rounds => some rounds
  | f + 1, rounds => (fS k (okB (vs.getD rounds.length []) rounds) k (unm k k) 0).findSome? fun r => sS k vs f (rounds ++ [r])
theorem findSome_filter {α β : Type} {p : α → Bool} {f : α → Option β} : ∀ l : List α, (l.filter p).findSome? f = l.findSome? fun x => if p x = true then f x else none
  | [] => rfl
  | x :: l => by
    rw [List.findSome?_cons, List.filter_cons, ← findSome_filter l]
    by_cases h : p x = true
    · rw [if_pos h, if_pos h, List.findSome?_cons]
    · rw [if_neg h, if_neg h]
theorem findSome_map {α β γ : Type} {f : α → Option β} {g : β → γ} : ∀ l : List α, (l.findSome? f).map g = l.findSome? fun x => (f x).map g
  | [] => rfl
  | x :: l => by
    rw [List.findSome?_cons, List.findSome?_cons, ← findSome_map l]
    cases f x <;> rfl
theorem findSome_congr {α β : Type} {f g : α → Option β} : ∀ {l : List α}, (∀ x ∈ l, f x = g x) → l.findSome? f = l.findSome? g
  | [], _ => rfl
  | x :: l, h => by
    rw [List.findSome?_cons, List.findSome?_cons, h x (List.mem_cons_self ..), findSome_congr fun y hy => h y (List.mem_cons_of_mem _ hy)]
open Classical in
theorem full_fill {k : Nat} (hk : k = 2 ∨ k = 4 ∨ k = 6) {row : List Int} {rounds : List (List Int)} (hr : ∀ r ∈ rounds, r ∈ fullL k) (hrow : RowForm 0 k row) :
    fS k (okB row rounds) k (unm k k) 0 = (fullL k).filter fun q => decide ((∀ r ∈ rounds, apartB k r q = true) ∧ RowGoes k q row) := by
  have hfree : ∀ i : Nat, i < 14 → (freeTo k).getD i 0 = if i < k then (i : Int) else 0 := fun i hi => by
    rw [freeTo_get _ _ hi]
    by_cases h : i < k
    · rw [if_pos (by omega), if_pos h]
    · rw [if_neg (by omega), if_neg h]
  have hs : ∀ a b : Nat, a < k → b < k → okB row rounds a b = okB row rounds b a := fun a b ha hb => by
    refine Bool.eq_iff_iff.2 ?_
    rw [okB_iff, okB_iff, Int.add_comm]
    refine and_congr_left' ⟨fun h r hm e => h r hm ?_, fun h r hm e => h r hm ?_⟩
    · have := ((full_ok hk (hr r hm)).2.1.2.2 b (by omega)).2 (by omega)
      rw [← this.2.2, e, Int.toNat_natCast]
    · have := ((full_ok hk (hr r hm)).2.1.2.2 a (by omega)).2 (by omega)
      rw [← this.2.2, e, Int.toNat_natCast]
  rw [fill_eq (r := freeTo k) (by omega) hs k _ 0 (by omega) ⟨freeTo_length _, unm_length _ _, fun i hi => by
    rw [hfree i hi, unm_get hi]
    by_cases h : i < k
    · rw [if_pos h, if_pos ⟨h, h⟩]; exact .inl ⟨h, rfl, rfl⟩
    · rw [if_neg h, if_neg (fun hh => h hh.1)]; exact .inr ⟨rfl, by omega, fun hh => absurd hh h⟩⟩ fun i hi => by omega]
  refine List.filter_congr fun q hq => decide_eq_decide.2 ?_
  obtain ⟨_, hR, hn⟩ := full_ok hk hq
  have hin : ∀ i : Nat, i < k → ((q.getD i 0).toNat : Int) = q.getD i 0 := fun i hi => by have := (hR.2.2 i (by omega)).2 (by omega); omega
  constructor
  · intro h
    have h' : ∀ i : Nat, i < k → (∀ r ∈ rounds, r.getD i 0 ≠ q.getD i 0) ∧ row.getD i 0 + row.getD (q.getD i 0).toNat 0 = 1 := fun i hi => by
      have := okB_iff.1 (h i hi (by rw [hfree i (by omega), if_pos hi]))
      rw [hin i hi] at this
      exact this
    refine ⟨fun r hm => apartB_iff.2 fun a ha e => (h' a ha).1 r hm e.symm, fun a ha => .inr ⟨hn a (by omega), ?_, (h' a (by omega)).2⟩⟩
    have hl : a < row.length := by have := hrow.1; omega
    exact (hrow.2 _ (mem_getD hl)).1
  · rintro ⟨h1, h2⟩ i hi _
    rw [okB_iff, hin i hi]
    refine ⟨fun r hm e => apartB_iff.1 (h1 r hm) i hi e.symm, ?_⟩
    rcases h2 i (by omega) with h | h
    · exact absurd h.1 (hn i hi)
    · exact h.2.2
open Classical in
theorem search_eq {k : Nat} {vs : List (List Int)} (hk : k = 2 ∨ k = 4 ∨ k = 6) (hvs : ∀ l ∈ vs, RowForm 0 k l) : ∀ (f : Nat) (rounds : List (List Int)), f + rounds.length = vs.length → (∀ r ∈ rounds, r ∈ fullL k) →
    sS k vs f rounds = (sI k (vs.drop rounds.length) ((fullL k).filter fun q => decide (∀ r ∈ rounds, apartB k r q = true))).map (rounds ++ ·)
  | 0, rounds, hf, _ => by
    rw [sS, List.drop_eq_nil_of_le (by omega), sI]
    simp
  | f + 1, rounds, hf, hr => by
    have hlt : rounds.length < vs.length := by omega
    rw [sS, List.drop_eq_getElem_cons hlt, sI, show vs.getD rounds.length [] = vs[rounds.length] by rw [List.getD_eq_getElem?_getD, List.getElem?_eq_getElem hlt]; rfl]
    rw [full_fill hk hr (hvs _ (List.getElem_mem hlt)), findSome_filter, findSome_filter, findSome_map]
    refine findSome_congr fun q hq => ?_
    by_cases h1 : ∀ r ∈ rounds, apartB k r q = true
    · rw [if_pos (decide_eq_true (p := ∀ r ∈ rounds, apartB k r q = true) h1)]
      by_cases h2 : RowGoes k q vs[rounds.length]
      · rw [if_pos (decide_eq_true (p := (∀ r ∈ rounds, apartB k r q = true) ∧ RowGoes k q vs[rounds.length]) ⟨h1, h2⟩), if_pos h2]
        have ih := search_eq hk hvs f (rounds ++ [q]) (by rw [List.length_append]; show f + (rounds.length + 1) = _; omega) fun r hm => (List.mem_append.1 hm).elim (hr r) fun h => by rw [List.mem_singleton.1 h]; exact hq
        rw [ih, List.filter_filter, List.length_append, Option.map_map]
        show Option.map _ (sI k (vs.drop (rounds.length + 1)) _) = _
        have : ((fullL k).filter fun p => decide (∀ r ∈ rounds ++ [q], apartB k r p = true)) = (fullL k).filter fun p => apartB k q p && decide (∀ r ∈ rounds, apartB k r p = true) := by
          refine List.filter_congr fun p _ => Bool.eq_iff_iff.2 ?_
          rw [Bool.and_eq_true, decide_eq_true_eq, decide_eq_true_eq]
          exact ⟨fun h => ⟨h q (by simp), fun r hm => h r (by simp [hm])⟩, fun h r hm => (List.mem_append.1 hm).elim (h.2 r) fun e => by rw [List.mem_singleton.1 e]; exact h.1⟩
        rw [this]
        congr 1
        funext l
        simp
      · rw [if_neg (fun h => h2 (of_decide_eq_true (p := (∀ r ∈ rounds, apartB k r q = true) ∧ RowGoes k q vs[rounds.length]) h).2), if_neg h2]; rfl
    · rw [if_neg (fun h => h1 (of_decide_eq_true (p := (∀ r ∈ rounds, apartB k r q = true) ∧ RowGoes k q vs[rounds.length]) h).1), if_neg (fun h => h1 (of_decide_eq_true (p := ∀ r ∈ rounds, apartB k r q = true) h))]; rfl
end Go.Proofs.Ytdjghdolkickeaa
