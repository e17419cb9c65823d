import Derived.Test.YtlfflmoegfibgaaVLArrange
/-! Orders of numbers: those that arrangements yield, and those that are built one number after another. -/
namespace Go.VL
theorem flatMap_congr' {α β : Type} {F G : α → List β} : ∀ {l : List α}, (∀ x ∈ l, F x = G x) → l.flatMap F = l.flatMap G
  | [], _ => rfl
  | x :: l, h => by rw [List.flatMap_cons, List.flatMap_cons, h x List.mem_cons_self, flatMap_congr' fun y hy => h y (List.mem_cons_of_mem _ hy)]
/-- All lists that begin with l, with d more numbers below n, all different, in lexicographic order. -/
def ordR (n : Nat) : Nat → List Int → List (List Int)
  | 0, l => [l]
  | d + 1, l => (List.range n).flatMap fun x : Nat => if (x : Int) ∈ l then [] else ordR n d (l ++ [(x : Int)])
/-- .. as far as the x-th number. -/
def ordTo (n d : Nat) (l : List Int) (k : Nat) : List (List Int) := (List.range k).flatMap fun x : Nat => if (x : Int) ∈ l then [] else ordR n d (l ++ [(x : Int)])
theorem ordTo_succ (n d : Nat) (l : List Int) (k : Nat) : ordTo n d l (k + 1) = ordTo n d l k ++ (if (k : Int) ∈ l then [] else ordR n d (l ++ [(k : Int)])) := by
  simp [ordTo, List.range_succ]
theorem ordR_succ (n d : Nat) (l : List Int) : ordR n (d + 1) l = ordTo n d l n := rfl
/-- What is below n and not in l. -/
def freeN (n : Nat) (l : List Int) : List Int := ((List.range n).map fun x : Nat => (x : Int)).filter fun x => decide (x ∉ l)
theorem freeN_nodup (n : Nat) (l : List Int) : (freeN n l).Nodup := by
  refine List.Pairwise.filter _ ?_
  refine List.pairwise_map.2 (List.Pairwise.imp ?_ List.nodup_range)
  intro a b h h2; exact h (by omega)
theorem freeN_snoc (n : Nat) (l : List Int) (x : Int) : freeN n (l ++ [x]) = (freeN n l).filter fun y => decide (y ≠ x) := by
  unfold freeN
  rw [List.filter_filter]
  congr 1; funext y
  by_cases h1 : y ∈ l <;> by_cases h2 : y = x <;> simp [h1, h2]
theorem restAt_filter {l : List Int} (h : l.Nodup) {j : Nat} {x : Int} (hj : l[j]? = some x) : restAt (l.map fun x => [x]) j = (l.filter fun y => decide (y ≠ x)).map fun x => [x] := by
  obtain ⟨hlt, hx⟩ := List.getElem?_eq_some_iff.1 hj
  have e : l = l.take j ++ x :: l.drop (j + 1) := by rw [← hx, List.getElem_cons_drop, List.take_append_drop]
  have hn := h
  rw [e] at hn
  obtain ⟨_, h2, h3⟩ := List.nodup_append.1 hn
  have f1 : (l.take j).filter (fun y => decide (y ≠ x)) = l.take j := List.filter_eq_self.2 fun y hy => by simpa using h3 y hy x List.mem_cons_self
  have f2 : (l.drop (j + 1)).filter (fun y => decide (y ≠ x)) = l.drop (j + 1) := List.filter_eq_self.2 fun y hy => by
    have := (List.nodup_cons.1 h2).1
    have hne : y ≠ x := fun hyx => this (hyx ▸ hy)
    simpa using hne
  have f3 : l.filter (fun y => decide (y ≠ x)) = l.take j ++ l.drop (j + 1) := by
    calc l.filter (fun y => decide (y ≠ x)) = (l.take j ++ x :: l.drop (j + 1)).filter (fun y => decide (y ≠ x)) := by rw [← e]
      _ = _ := by rw [List.filter_append, List.filter_cons, f1, f2]; simp
  rw [f3, restAt, ← List.map_take, ← List.map_drop, List.map_append]
theorem flat_ones : ∀ l : List Int, (l.map fun x => [x]).flatten = l
  | [] => rfl
  | x :: l => by rw [List.map_cons, List.flatten_cons, flat_ones l]; rfl
theorem flatMap_at {α β : Type} (F : Nat → α → List β) : ∀ (l : List α) (a : α) (G : α → List β), (∀ j x, l[j]? = some x → F j x = G x) → (List.range l.length).flatMap (fun j => F j (l.getD j a)) = l.flatMap G := by
  intro l a G h
  have e : l = (List.range l.length).map fun j => l.getD j a := by
    apply List.ext_getElem (by simp)
    intro i h1 h2
    simp [List.getElem?_eq_getElem h1]
  conv => rhs; rw [e]
  rw [List.flatMap_map]
  refine flatMap_congr' fun j hj => ?_
  have hj := List.mem_range.1 hj
  exact h j _ (by rw [List.getElem?_eq_getElem hj]; simp [List.getElem?_eq_getElem hj])
theorem flatMap_filter {α β : Type} (p : α → Bool) (G : α → List β) : ∀ l : List α, (l.filter p).flatMap G = l.flatMap fun x => if p x then G x else []
  | [] => rfl
  | x :: l => by
    rw [List.filter_cons]
    by_cases h : p x <;> simp [h, flatMap_filter p G l]
/-- The orders of single numbers that arrangements yield. -/
theorem arrL_ones (n : Nat) : ∀ (d : Nat) (l : List Int), (freeN n l).length = d → arrL d (l.map fun x => [x]) ((freeN n l).map fun x => [x]) = (ordR n d l).map fun t => t.map fun x => [x] := by
  intro d
  induction d with
  | zero => intro l _; rfl
  | succ d ih =>
    intro l hd
    have hnd := freeN_nodup n l
    rw [arrL_succ, arrTo]
    rw [List.length_map]
    have e1 : (List.range (freeN n l).length).flatMap (fun j => arrL d (l.map (fun x => [x]) ++ [((freeN n l).map fun x => [x]).getD j []]) (restAt ((freeN n l).map fun x => [x]) j)) = (List.range (freeN n l).length).flatMap (fun j => (fun (j : Nat) (x : Int) => arrL d (l.map (fun x => [x]) ++ [[x]]) (restAt ((freeN n l).map fun x => [x]) j)) j ((freeN n l).getD j 0)) := by
      refine flatMap_congr' fun j hj => ?_
      have hj := List.mem_range.1 hj
      have : ((freeN n l).map fun x => [x]).getD j [] = [(freeN n l).getD j 0] := by simp [List.getElem?_eq_getElem hj]
      rw [this]
    rw [e1, flatMap_at (fun (j : Nat) (x : Int) => arrL d (l.map (fun x => [x]) ++ [[x]]) (restAt ((freeN n l).map fun x => [x]) j)) (freeN n l) 0 (fun x => (ordR n d (l ++ [x])).map fun t => t.map fun x => [x]) (fun j x hj => by
      rw [restAt_filter hnd hj, ← freeN_snoc]
      have : (freeN n (l ++ [x])).length = d := by
        have h1 := restAt_length (left := (freeN n l).map fun x => [x]) (j := j) (by rw [List.length_map]; exact (List.getElem?_eq_some_iff.1 hj).1)
        rw [restAt_filter hnd hj, ← freeN_snoc, List.length_map, List.length_map] at h1
        omega
      rw [← ih (l ++ [x]) this, List.map_append]; rfl)]
    rw [freeN, flatMap_filter, List.flatMap_map, ordR, List.map_flatMap]
    refine flatMap_congr' fun x _ => ?_
    by_cases h : (x : Int) ∈ l <;> simp [h]
theorem restAt_map (f : List Int → List Int) (left : List (List Int)) (j : Nat) : restAt (left.map f) j = (restAt left j).map f := by
  simp only [restAt, List.map_append, List.map_take, List.map_drop]
theorem arrL_map (f : List Int → List Int) : ∀ (d : Nat) (pre left : List (List Int)), left.length = d → arrL d (pre.map f) (left.map f) = (arrL d pre left).map (List.map f) := by
  intro d
  induction d with
  | zero => intro pre left _; rfl
  | succ d ih =>
    intro pre left hd
    rw [arrL_succ, arrL_succ, arrTo, arrTo, List.length_map, List.map_flatMap]
    refine flatMap_congr' fun j hj => ?_
    have hj := List.mem_range.1 hj
    have e : (left.map f).getD j [] = f (left.getD j []) := by simp [List.getElem?_eq_getElem hj]
    have h1 := restAt_length hj
    rw [e, restAt_map, ← ih _ _ (by omega), List.map_append]; rfl
/-- All orders that are built hold different numbers below n. -/
theorem ordR_good (n : Nat) : ∀ (d : Nat) (l : List Int), l.Nodup → (∀ x ∈ l, 0 ≤ x ∧ x < n) → ∀ t ∈ ordR n d l, t.Nodup ∧ (∀ x ∈ t, 0 ≤ x ∧ x < n) ∧ t.length = l.length + d ∧ ∃ u, t = l ++ u := by
  intro d
  induction d with
  | zero => intro l h1 h2 t ht; rw [ordR, List.mem_singleton] at ht; subst ht; exact ⟨h1, h2, rfl, [], by simp⟩
  | succ d ih =>
    intro l h1 h2 t ht
    rw [ordR, List.mem_flatMap] at ht
    obtain ⟨x, hx, ht⟩ := ht
    have hx := List.mem_range.1 hx
    by_cases h : (x : Int) ∈ l
    · simp [h] at ht
    · simp only [h, if_false] at ht
      obtain ⟨a, b, c, u, e⟩ := ih (l ++ [(x : Int)]) (List.nodup_append.2 ⟨h1, by simp, fun a ha b hb => by simp at hb; subst hb; exact fun he => h (he ▸ ha)⟩) (fun y hy => by
        rcases List.mem_append.1 hy with hy | hy
        · exact h2 y hy
        · simp at hy; subst hy; omega) t ht
      refine ⟨a, b, by rw [c, List.length_append]; simp; omega, [(x : Int)] ++ u, by rw [e, List.append_assoc]⟩
theorem freeN_zero (n : Nat) : freeN n [] = (List.range n).map fun x : Nat => (x : Int) := by
  unfold freeN; exact List.filter_eq_self.2 fun y _ => by simp
theorem freeN_one (n : Nat) : freeN (n + 1) [0] = (List.range n).map fun x : Nat => ((x + 1 : Nat) : Int) := by
  unfold freeN
  rw [List.range_succ_eq_map, List.map_cons, List.filter_cons, List.map_map]
  simp only [List.mem_singleton, Int.natCast_zero, not_true, decide_false, Bool.false_eq_true, if_false]
  refine List.filter_eq_self.2 fun y hy => ?_
  obtain ⟨x, _, rfl⟩ := List.mem_map.1 hy
  simp; omega
/-- What is left behind the first ones. -/
theorem rdFW_drop {w : World} {k n cap kept : Nat} {a : Option Addr} {pre left : List (List Int)} {own : Own} (h : RdFW w k n (.slice a n cap) (pre ++ left).flatten own) (hp : pre.flatten.length = kept * k) (hk : kept ≤ n) (hc : n ≤ cap) : RdFW w k (n - kept) (sliced a (kept : Int).toNat (n : Int).toNat cap k) left.flatten own := by
  rw [Int.toNat_natCast, Int.toNat_natCast]
  by_cases h0 : n - kept = 0
  · exact .inl h0
  · obtain ⟨b, o, rfl, h2, h3⟩ := h.addr (by omega)
    refine .inr ⟨b, o + kept * k, cap - kept, by simp [sliced, show cap ≠ kept by omega, Addr.add], h2, fun j hj => ?_⟩
    have hj2 : kept * k + j < n * k := by
      have : n * k = kept * k + (n - kept) * k := by rw [← Nat.add_mul]; congr 1; omega
      omega
    have := h3 (kept * k + j) hj2
    rw [← Nat.add_assoc, List.flatten_append, List.getD_eq_getElem?_getD, List.getElem?_append_right (by omega), hp, Nat.add_sub_cancel_left, ← List.getD_eq_getElem?_getD] at this
    exact this
theorem perm_comm0 {A B : Own} : (A ++ B).Perm ((B ++ A) ++ []) := by rw [List.append_nil]; exact List.perm_append_comm
theorem resM_nd {P : Program} {fn : Nat} {args : Array Value} {w : World} {own0 : Own} {S : Value → Own → Prop} (h : Calls P fn args w (ResM w own0 S)) : Calls P fn args w (ResM w own0 (fun v new => S v new ∧ (ids new).Nodup)) := by
  refine h.mono ?_
  rintro e w'' ⟨v, new, h1, h2, h3, h4, hP⟩
  exact ⟨v, new, h1, h2, h3, h4, hP, h3.nodup⟩
theorem rdFW_F {w : World} {k n : Nat} {v : Value} {q : List Int} {own : Own} (h : RdFW w k n v q own) (hn : q.length = n * k) (hv : ∃ a c, v = .slice a n c) : RdF w k n v q := by
  rcases h with h | ⟨b, o, cap, h1, _, h3⟩
  · obtain ⟨a, c, rfl⟩ := hv
    subst h
    exact .inl ⟨a, c, rfl, rfl, List.eq_nil_of_length_eq_zero (by omega)⟩
  · refine .inr ⟨b, o, cap, h1, hn, fun j x hx => ?_⟩
    have hj : j < q.length := by have := (List.getElem?_eq_some_iff.1 hx).1; rwa [ints_length] at this
    rw [ints_get hj] at hx
    cases hx
    exact h3 j (by omega)
theorem rdFW_II {w : World} {n : Nat} {v : Value} {q : List Int} {own : Own} (h : RdFW w 1 n v q own) (hn : n = q.length) (hv : ∃ a c, v = .slice a n c) : RdI w v q := by
  rcases rdFW_F h (by omega) hv with ⟨a, c, h1, _, h2⟩ | ⟨b, o, c, h1, h2, h3⟩
  · exact .inl ⟨a, c, h1, h2⟩
  · exact .inr ⟨b, o, c, by rw [h1, hn], h3⟩
/-- One of the rows of a list of one's own, and where it stands. -/
theorem ll_at {eo ei : Nat} {ls : List (List Int)} {v : Value} {new : Own} (hN : NewLL eo ei ls v new) {i : Nat} {l : List Int} (hi : ls[i]? = some l) :
    ∃ b cap u n, v = .slice (some ⟨b, 0, none⟩) ls.length cap ∧ NewI ei l u n ∧ Sub n new ∧ ∀ Γ own, Sub new own → Sees Γ own b (0 + (i : Int).toNat) u := by
  obtain ⟨vs, ns, outer, h1, h2, rfl⟩ := hN
  have hil := (List.getElem?_eq_some_iff.1 hi).1
  obtain ⟨u, hu⟩ : ∃ u, vs[i]? = some u := ⟨_, List.getElem?_eq_getElem (by rw [h1.len.1]; exact hil)⟩
  obtain ⟨n, hn, hs⟩ := h1.get hu hi
  rcases h2.2 with ⟨_, e2, _⟩ | ⟨b, cap, e1, _, _, rfl⟩
  · omega
  · refine ⟨b, cap, u, n, e1, hn, fun p hp => List.mem_append_right _ (hs p hp), fun Γ own hsub => ?_⟩
    rw [show 0 + (i : Int).toNat = i by omega]
    exact sees_mem (hsub _ (List.mem_append_left _ List.mem_cons_self)) hu
theorem row_at {ei : Nat} {l : List Int} {u : Value} {n : Own} (hN : NewI ei l u n) {j : Nat} (hj : j < l.length) :
    ∃ b c, u = .slice (some ⟨b, 0, none⟩) l.length c ∧ ∀ Γ own, Sub n own → Sees Γ own b (0 + (j : Int).toNat) (.int .i64 (l.getD j 0)) := by
  rcases hN.2 with ⟨_, e2, _⟩ | ⟨b, cap, e1, _, _, rfl⟩
  · omega
  · refine ⟨b, cap, e1, fun Γ own hsub => ?_⟩
    rw [show 0 + (j : Int).toNat = j by omega]
    exact sees_mem (hsub _ List.mem_cons_self) (ints_get hj)
theorem rdFW_rows {w : World} {v : Value} {k n : Nat} {rs : List (List Int)} (h : RdS w v rs) (hk : ∀ r ∈ rs, r.length = k) (hn : n = rs.length) : RdFW w k n v rs.flatten [] := by
  subst hn
  rcases h with ⟨_, _, _, h⟩ | ⟨b, o, cap, h1, h2⟩
  · exact .inl (by rw [h]; rfl)
  · exact .inr ⟨b, o, cap, h1, by simp [ids], fun j hj => h2 j _ (ints_get (by rw [flat_length hk]; exact hj))⟩
end Go.VL
