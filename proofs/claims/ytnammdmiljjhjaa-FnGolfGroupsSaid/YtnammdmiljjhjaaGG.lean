import Derived.Test.YtnammdmiljjhjaaSY
import Derived.Test.YtnammdmiljjhjaaVLA
/- Parts of the proof, one after another. No conditions of their own. -/
/- A part of the proof: X1. No conditions of its own. -/
namespace Go.Proofs.Ytnammdmiljjhjaa
open Go.VL

/-! golfs: groups, and who meets -/
/-- A golf. -/
def IsGf (n g : Int) (ls : List (List Int)) : Prop := 2 ≤ n ∧ n ≤ 25 ∧ 2 ≤ g ∧ n % g = 0 ∧ ls.length ≤ 12 ∧ ∀ r ∈ ls, IsPerm n r
theorem IsGf.row {n g : Int} {ls : List (List Int)} (h : IsGf n g ls) {i : Nat} {r : List Int} (hi : ls[i]? = some r) : IsPerm n r := h.2.2.2.2.2 r (List.mem_of_getElem? hi)
theorem IsGf.gle {n g : Int} {ls : List (List Int)} (h : IsGf n g ls) : g ≤ n := by
  have h1 := h.1
  have h2 := h.2.2.1
  have h3 := h.2.2.2.1
  exact Int.le_of_dvd (by omega) (Int.dvd_of_emod_eq_zero h3)
/-- The pairs of the place k of a group that begins at o, with all places before it. -/
def prO (r : List Int) (o k : Nat) : Nat → List (List Int)
  | 0 => []
  | j + 1 => prO r o k j ++ [[r.getD (o + k) 0, r.getD (o + j) 0]]
def grO (r : List Int) (o : Nat) : Nat → List (List Int)
  | 0 => []
  | k + 1 => grO r o k ++ prO r o k k
def rdP (g : Nat) (r : List Int) : Nat → List (List Int)
  | 0 => []
  | m + 1 => rdP g r m ++ grO r (g * m) g
def triN : Nat → Nat
  | 0 => 0
  | k + 1 => triN k + k
theorem prO_length (r : List Int) (o k : Nat) : ∀ j, (prO r o k j).length = j
  | 0 => rfl
  | j + 1 => by rw [prO, List.length_append, prO_length r o k j]; rfl
theorem grO_length (r : List Int) (o : Nat) : ∀ k, (grO r o k).length = triN k
  | 0 => rfl
  | k + 1 => by rw [grO, List.length_append, grO_length r o k, prO_length]; rfl
theorem rdP_length (g : Nat) (r : List Int) : ∀ m, (rdP g r m).length = m * triN g
  | 0 => by rw [Nat.zero_mul]; rfl
  | m + 1 => by rw [rdP, List.length_append, rdP_length g r m, grO_length, Nat.add_mul, Nat.one_mul]
theorem triN_mono {a b : Nat} (h : a ≤ b) : triN a ≤ triN b := by
  induction h with
  | refl => exact Nat.le_refl _
  | step _ ih => exact Nat.le_trans ih (by rw [triN]; omega)
theorem triN_le (g : Nat) (h : g ≤ 25) : triN g ≤ 300 := triN_mono h
theorem hits_app' (p q : List (List Int)) (x y : Nat) : hits (p ++ q) x y = hits p x y + hits q x y := by
  unfold hits; rw [List.filter_append, List.length_append]
/-- Where the players stand. -/
structure PosIn (N n : Nat) (r : List Int) (p : Nat → Nat) : Prop where
  iff : ∀ x i, x < N → i < n → (r.getD i 0 = (x : Int) ↔ p x = i)
theorem hits_prO {N n : Nat} {r : List Int} {p : Nat → Nat} (hp : PosIn N n r p) {o k x y : Nat} (hx : x < N) (hy : y < N) (hk : o + k < n) : ∀ j, j ≤ k →
    hits (prO r o k j) x y = (if (p x = o + k ∧ o ≤ p y ∧ p y < o + j) ∨ (p y = o + k ∧ o ≤ p x ∧ p x < o + j) then 1 else 0)
  | 0, _ => by rw [if_neg (by omega)]; rfl
  | j + 1, hj => by
    have ih := hits_prO hp hx hy hk j (by omega)
    have a1 := hp.iff x (o + k) hx hk
    have a2 := hp.iff y (o + k) hy hk
    have b1 := hp.iff x (o + j) hx (by omega)
    have b2 := hp.iff y (o + j) hy (by omega)
    rw [prO, hits_snoc, ih]
    by_cases c1 : (r.getD (o + k) 0 = (x : Int) ∧ r.getD (o + j) 0 = (y : Int)) ∨ (r.getD (o + k) 0 = (y : Int) ∧ r.getD (o + j) 0 = (x : Int))
    · rw [if_pos c1]
      have c2 : (p x = o + k ∧ p y = o + j) ∨ (p y = o + k ∧ p x = o + j) := by
        rcases c1 with ⟨h1, h2⟩ | ⟨h1, h2⟩
        · exact .inl ⟨a1.1 h1, b2.1 h2⟩
        · exact .inr ⟨a2.1 h1, b1.1 h2⟩
      rw [if_neg (by omega), if_pos (by omega)]
    · rw [if_neg c1]
      have c2 : ¬ ((p x = o + k ∧ p y = o + j) ∨ (p y = o + k ∧ p x = o + j)) := by
        rintro (⟨h1, h2⟩ | ⟨h1, h2⟩)
        · exact c1 (.inl ⟨a1.2 h1, b2.2 h2⟩)
        · exact c1 (.inr ⟨a2.2 h1, b1.2 h2⟩)
      by_cases c3 : (p x = o + k ∧ o ≤ p y ∧ p y < o + j) ∨ (p y = o + k ∧ o ≤ p x ∧ p x < o + j)
      · rw [if_pos c3, if_pos (by omega)]
      · rw [if_neg c3, if_neg (by omega)]
theorem hits_grO {N n : Nat} {r : List Int} {p : Nat → Nat} (hp : PosIn N n r p) {o x y : Nat} (hx : x < N) (hy : y < N) : ∀ k, o + k ≤ n →
    hits (grO r o k) x y = (if p x ≠ p y ∧ o ≤ p x ∧ p x < o + k ∧ o ≤ p y ∧ p y < o + k then 1 else 0)
  | 0, _ => by rw [if_neg (by omega)]; rfl
  | k + 1, hk => by
    rw [grO, hits_app', hits_grO hp hx hy k (by omega), hits_prO hp hx hy (by omega) k (Nat.le_refl _)]
    by_cases c1 : p x ≠ p y ∧ o ≤ p x ∧ p x < o + k ∧ o ≤ p y ∧ p y < o + k
    · rw [if_pos c1, if_neg (by omega), if_pos (by omega)]
    · rw [if_neg c1]
      by_cases c2 : (p x = o + k ∧ o ≤ p y ∧ p y < o + k) ∨ (p y = o + k ∧ o ≤ p x ∧ p x < o + k)
      · rw [if_pos c2, if_pos (by omega)]
      · rw [if_neg c2, if_neg (by omega)]
theorem div_between {g q m : Nat} (hg : 0 < g) : q / g = m ↔ g * m ≤ q ∧ q < g * m + g := by
  constructor
  · rintro rfl
    have h1 := Nat.div_add_mod q g
    have h2 := Nat.mod_lt q hg
    omega
  · rintro ⟨h1, h2⟩
    exact Nat.div_eq_of_lt_le (by rw [Nat.mul_comm]; exact h1) (by rw [Nat.add_mul, Nat.one_mul, Nat.mul_comm]; exact h2)
theorem hits_rdP {N n g : Nat} {r : List Int} {p : Nat → Nat} (hp : PosIn N n r p) (hg : 0 < g) {x y : Nat} (hx : x < N) (hy : y < N) : ∀ m, g * m ≤ n →
    hits (rdP g r m) x y = (if p x ≠ p y ∧ p x / g = p y / g ∧ p x / g < m then 1 else 0)
  | 0, _ => by rw [if_neg fun h => absurd h.2.2 (Nat.not_lt_zero _)]; rfl
  | m + 1, hm => by
    rw [Nat.mul_add, Nat.mul_one] at hm
    have d1 := div_between (q := p x) (m := m) hg
    have d2 := div_between (q := p y) (m := m) hg
    rw [rdP, hits_app', hits_rdP hp hg hx hy m (by omega), hits_grO hp hx hy g hm]
    by_cases c1 : p x ≠ p y ∧ p x / g = p y / g ∧ p x / g < m
    · rw [if_pos c1, if_neg (fun h => by have := d1.2 ⟨by omega, by omega⟩; omega), if_pos (by omega)]
    · rw [if_neg c1]
      by_cases c2 : p x ≠ p y ∧ g * m ≤ p x ∧ p x < g * m + g ∧ g * m ≤ p y ∧ p y < g * m + g
      · have e1 := d1.2 ⟨by omega, by omega⟩
        have e2 := d2.2 ⟨by omega, by omega⟩
        rw [if_pos c2, if_pos (by omega)]
      · rw [if_neg c2, if_neg (fun h => by
          by_cases e : p x / g = m
          · have e1 := d1.1 e
            have e2 := d2.1 (by omega)
            exact c2 ⟨h.1, by omega, by omega, by omega, by omega⟩
          · exact c1 ⟨h.1, h.2.1, by omega⟩)]

/-- Where a number stands in a list. -/
def posI (r : List Int) (x : Nat) : Nat := r.idxOf (x : Int)
theorem getD_iff {n : Int} {r : List Int} (h : IsPerm n r) {x i : Nat} (hi : (i : Int) < n) : r.getD i 0 = (x : Int) ↔ posI r x = i := by
  have hl := h.1
  have hil : i < r.length := by omega
  have hget : r.getD i 0 = r[i] := by rw [List.getD_eq_getElem?_getD, List.getElem?_eq_getElem hil]; rfl
  rw [hget]
  unfold posI
  constructor
  · rintro h1
    rw [← h1]
    exact h.2.2.idxOf_getElem i hil
  · intro h1
    have h2 : r.idxOf (x : Int) < r.length := by omega
    have := List.getElem_idxOf h2
    simp only [h1] at this
    exact this
theorem perm_pos {n : Nat} {r : List Int} (h : IsPerm n r) (N : Nat) : PosIn N n r (posI r) := ⟨fun x i _ hi => getD_iff h (by omega)⟩
theorem perm_mem {n : Nat} {r : List Int} (h : IsPerm n r) {x : Nat} (hx : x < n) : (x : Int) ∈ r := by
  apply Classical.byContradiction
  intro hn
  have := pigeon n ((x : Int) :: r) (List.nodup_cons.2 ⟨hn, h.2.2⟩) (fun y hy => by
    rcases List.mem_cons.1 hy with rfl | hy
    · omega
    · exact h.2.1 y hy)
  have hl := h.1
  rw [List.length_cons] at this
  omega
theorem pos_lt {n : Nat} {r : List Int} (h : IsPerm n r) {x : Nat} (hx : x < n) : posI r x < n := by
  have := List.idxOf_lt_length_of_mem (perm_mem h hx)
  have hl := h.1
  unfold posI; omega
theorem pos_get {n : Nat} {r : List Int} (h : IsPerm n r) {x : Nat} (hx : x < n) : r.getD (posI r x) 0 = (x : Int) := (getD_iff h (by have := pos_lt h hx; omega)).2 rfl
theorem pos_inj {n : Nat} {r : List Int} (h : IsPerm n r) {x y : Nat} (hx : x < n) (hy : y < n) (e : posI r x = posI r y) : x = y := by
  have h1 := pos_get h hx
  have h2 := pos_get h hy
  rw [e, h2] at h1; omega
/-- x and y, different, are in the same group. -/
def SameG (g : Nat) (r : List Int) (x y : Nat) : Prop := x ≠ y ∧ posI r x / g = posI r y / g
instance (g : Nat) (r : List Int) (x y : Nat) : Decidable (SameG g r x y) := inferInstanceAs (Decidable (_ ∧ _))
theorem SameG.symm {g : Nat} {r : List Int} {x y : Nat} (h : SameG g r x y) : SameG g r y x := ⟨h.1.symm, h.2.symm⟩
/-- In how many rounds x and y meet. -/
def metN (g : Nat) (ls : List (List Int)) (x y : Nat) : Nat := (ls.filter fun r => decide (SameG g r x y)).length
theorem metN_snoc (g : Nat) (ls : List (List Int)) (r : List Int) (x y : Nat) : metN g (ls ++ [r]) x y = metN g ls x y + (if SameG g r x y then 1 else 0) := by
  unfold metN
  rw [List.filter_append, List.length_append]
  congr 1
  by_cases h : SameG g r x y
  · rw [if_pos h, List.filter_cons, if_pos (decide_eq_true h)]; rfl
  · rw [if_neg h, List.filter_cons, if_neg (by simpa using h)]; rfl
theorem metN_le (g : Nat) (ls : List (List Int)) (x y : Nat) : metN g ls x y ≤ ls.length := List.length_filter_le _ _
theorem metN_symm (g : Nat) (ls : List (List Int)) (x y : Nat) : metN g ls x y = metN g ls y x := by
  unfold metN
  congr 1
  apply List.filter_congr
  intro r _
  exact decide_eq_decide.2 ⟨SameG.symm, SameG.symm⟩
theorem metN_self (g : Nat) (ls : List (List Int)) (x : Nat) : metN g ls x x = 0 := by
  unfold metN
  rw [List.length_eq_zero_iff, List.filter_eq_nil_iff]
  intro r _ h
  exact (of_decide_eq_true h).1 rfl
theorem hits_all {n g m : Nat} {r : List Int} (h : IsPerm n r) (hg : 0 < g) (hm : g * m = n) {x y : Nat} (hx : x < n) (hy : y < n) : hits (rdP g r m) x y = if SameG g r x y then 1 else 0 := by
  rw [hits_rdP (perm_pos h n) hg hx hy m (by omega)]
  have h1 := pos_lt h hx
  have h2 : posI r x / g < m := Nat.div_lt_of_lt_mul (by omega)
  by_cases c : SameG g r x y
  · rw [if_pos c, if_pos ⟨fun e => c.1 (pos_inj h hx hy e), c.2, h2⟩]
  · rw [if_neg c, if_neg fun hh => c ⟨fun e => hh.1 (by rw [e]), hh.2.1⟩]
theorem prO_mem {n : Nat} {r : List Int} (h : IsPerm n r) {o k : Nat} (hk : o + k < n) : ∀ {j : Nat}, j ≤ k → ∀ {p : List Int}, p ∈ prO r o k j → ∃ a b : Nat, a < n ∧ b < n ∧ a ≠ b ∧ p = [(a : Int), (b : Int)]
  | 0, _, p, hp => by cases hp
  | j + 1, hj, p, hp => by
    rw [prO] at hp
    rcases List.mem_append.1 hp with hp | hp
    · exact prO_mem h hk (by omega) hp
    · have hl := h.1
      have hpe : p = [r.getD (o + k) 0, r.getD (o + j) 0] := List.mem_singleton.1 hp
      have h1 := h.2.1 _ (mem_getD (l := r) (i := o + k) (by omega))
      have h2 := h.2.1 _ (mem_getD (l := r) (i := o + j) (by omega))
      refine ⟨(r.getD (o + k) 0).toNat, (r.getD (o + j) 0).toNat, by omega, by omega, fun e => ?_, by rw [hpe, Int.toNat_of_nonneg h1.1, Int.toNat_of_nonneg h2.1]⟩
      have := getD_inj h.2.2 (i := o + k) (j := o + j) (by omega) (by omega) (by omega)
      omega
theorem grO_mem {n : Nat} {r : List Int} (h : IsPerm n r) {o : Nat} : ∀ {k : Nat}, o + k ≤ n → ∀ {p : List Int}, p ∈ grO r o k → ∃ a b : Nat, a < n ∧ b < n ∧ a ≠ b ∧ p = [(a : Int), (b : Int)]
  | 0, _, p, hp => by cases hp
  | k + 1, hk, p, hp => by
    rw [grO] at hp
    rcases List.mem_append.1 hp with hp | hp
    · exact grO_mem h (by omega) hp
    · exact prO_mem h (by omega) (Nat.le_refl _) hp
theorem rdP_mem {n g : Nat} {r : List Int} (h : IsPerm n r) : ∀ {m : Nat}, g * m ≤ n → ∀ {p : List Int}, p ∈ rdP g r m → ∃ a b : Nat, a < n ∧ b < n ∧ a ≠ b ∧ p = [(a : Int), (b : Int)]
  | 0, _, p, hp => by cases hp
  | m + 1, hm, p, hp => by
    rw [Nat.mul_add, Nat.mul_one] at hm
    rw [rdP] at hp
    rcases List.mem_append.1 hp with hp | hp
    · exact rdP_mem h (by omega) hp
    · exact grO_mem h hm hp
theorem prO_get {r : List Int} {o k : Nat} : ∀ {j i : Nat}, i < j → (prO r o k j)[i]? = some [r.getD (o + k) 0, r.getD (o + i) 0]
  | 0, i, h => by omega
  | j + 1, i, h => by
    rw [prO]
    have hl := prO_length r o k j
    by_cases e : i = j
    · subst e; rw [List.getElem?_append_right (by omega), hl, Nat.sub_self]; rfl
    · rw [List.getElem?_append_left (by omega)]; exact prO_get (by omega)
theorem grO_get {r : List Int} {o k i : Nat} (hi : i < k) : ∀ {s : Nat}, k < s → (grO r o s)[triN k + i]? = some [r.getD (o + k) 0, r.getD (o + i) 0]
  | 0, h => by omega
  | s + 1, h => by
    rw [grO]
    have hl := grO_length r o s
    by_cases e : k = s
    · subst e; rw [List.getElem?_append_right (by omega), hl, Nat.add_sub_cancel_left]; exact prO_get hi
    · have : triN k + i < triN s := Nat.lt_of_lt_of_le (show triN k + i < triN (k + 1) by rw [triN]; omega) (triN_mono (by omega))
      rw [List.getElem?_append_left (by omega)]; exact grO_get hi (by omega)
theorem rdP_get {r : List Int} {g q k i : Nat} (hi : i < k) (hk : k < g) : ∀ {m : Nat}, q < m → (rdP g r m)[q * triN g + (triN k + i)]? = some [r.getD (g * q + k) 0, r.getD (g * q + i) 0]
  | 0, h => by omega
  | m + 1, h => by
    rw [rdP]
    have hl := rdP_length g r m
    have ht : triN k + i < triN g := Nat.lt_of_lt_of_le (show triN k + i < triN (k + 1) by rw [triN]; omega) (triN_mono (by omega))
    by_cases e : q = m
    · subst e; rw [List.getElem?_append_right (by omega), hl, Nat.add_sub_cancel_left]; exact grO_get hi hk
    · have : q * triN g + (triN k + i) < m * triN g := by
        have := Nat.mul_le_mul_right (triN g) (show q + 1 ≤ m by omega)
        rw [Nat.add_mul] at this; omega
      rw [List.getElem?_append_left (by omega)]; exact rdP_get hi hk (by omega)
/-- The table of the meetings. -/
def metT (n g : Nat) (ls : List (List Int)) : List (List Int) := tabOf n fun x y => (metN g ls x y : Int)
theorem metT_len {n g : Nat} {ls : List (List Int)} {l : List Int} (h : l ∈ metT n g ls) : l.length = n := tabOf_mem h
end Go.Proofs.Ytnammdmiljjhjaa

