import Derived.Test.YtbnanjkhpeneeaaSG
import Derived.Test.YtbnanjkhpeneeaaVLSort
import Derived.Lib.RowBridge
import Derived.Test.YtbnanjkhpeneeaaVLArr
/- A part of the proof: P36. No conditions of its own. -/
namespace Go.Proofs.Ytbnanjkhpeneeaa
open Go.VL
attribute [local irreducible] VWr VOps VD Calls

theorem c_sortI (b e cap : Nat) (l : List Int) (w : World) (ho : OwnOk [(b, (⟨ints l, e, cap, none⟩ : Blk))] w) (hl : l.length ≤ 1048576) (c : Nat) :
    Calls Try.prog 114 [.slice (some ⟨b, 0, none⟩) l.length c].toArray w (ResM w [(b, ⟨ints l, e, cap, none⟩)] (fun u new => u = .tuple #[] ∧ new = [(b, ⟨ints (l.mergeSort fun x y => decide (x ≤ y)), e, cap, none⟩)])) := by
  have hb : b < w.heap.size := ho.lt (ids_mem List.mem_cons_self)
  have h := AnyG.slices_Sort_int Try.sortI b 0 c l w (holds_of_own ho List.mem_cons_self) hb (by omega)
  refine Calls.mono (show Calls Try.prog 114 _ w _ from h) ?_
  rintro en w' ⟨rfl, n, os, rfl⟩
  exact resM_putRow ho (List.length_mergeSort _)
/-- What is left of a list in order is in order, no number twice, and has the same numbers. -/
theorem compact_sorted {zs : List Int} (hs : zs.Pairwise (· ≤ ·)) : (Lib.compact zs).Pairwise (· < ·) ∧ ∀ x, x ∈ Lib.compact zs ↔ x ∈ zs := by
  have hget : ∀ j, j < zs.length → zs.toArray[j]! = zs.getD j 0 := fun j hj => toArray_get hj
  have hle : ∀ i j, i < j → j < zs.length → zs.getD i 0 ≤ zs.getD j 0 := fun i j hij hj => by
    have := (List.pairwise_iff_getElem.1 hs) i j (by omega) hj hij
    simpa [List.getD_eq_getElem?_getD, List.getElem?_eq_getElem hj, List.getElem?_eq_getElem (show i < zs.length by omega)] using this
  have key : ∀ m, m ≤ zs.length → (Lib.compactUpTo zs.toArray m).Pairwise (· < ·) ∧ (∀ x ∈ Lib.compactUpTo zs.toArray m, ∃ j, j < m ∧ zs.getD j 0 = x) ∧ ∀ j, j < m → zs.getD j 0 ∈ Lib.compactUpTo zs.toArray m := by
    intro m
    induction m with
    | zero => intro _; exact ⟨by simp [Lib.compactUpTo], by simp [Lib.compactUpTo], fun j hj => by omega⟩
    | succ m ih =>
      intro hm
      obtain ⟨h1, h2, h3⟩ := ih (by omega)
      rw [Lib.compactUpTo_succ]
      by_cases hk : m = 0 ∨ zs.getD m 0 ≠ zs.getD (m - 1) 0
      · have hkeep : Lib.keeps zs.toArray m = true := by
          unfold Lib.keeps
          rw [hget m (by omega)]
          rcases hk with hk | hk
          · exact decide_eq_true (.inl hk)
          · exact decide_eq_true (.inr (by rw [hget (m - 1) (by omega)]; exact hk))
        rw [if_pos hkeep, hget m (by omega)]
        refine ⟨?_, fun x hx => ?_, fun j hj => ?_⟩
        · rw [List.pairwise_append]
          refine ⟨h1, by simp, fun x hx y hy => ?_⟩
          have : y = zs.getD m 0 := by simpa using hy
          subst this
          obtain ⟨j, hj, rfl⟩ := h2 x hx
          rcases hk with hk | hk
          · omega
          · have a1 := hle (m - 1) m (by omega) (by omega)
            by_cases e : j = m - 1
            · subst e; omega
            · have := hle j (m - 1) (by omega) (by omega); omega
        · rcases List.mem_append.1 hx with hx | hx
          · obtain ⟨j, hj, e⟩ := h2 x hx; exact ⟨j, by omega, e⟩
          · exact ⟨m, by omega, by have : x = zs.getD m 0 := by simpa using hx
                                   exact this.symm⟩
        · by_cases e : j = m
          · subst e; simp
          · exact List.mem_append_left _ (h3 j (by omega))
      · have hk2 : m ≠ 0 ∧ zs.getD m 0 = zs.getD (m - 1) 0 := by
          constructor
          · intro e; exact hk (.inl e)
          · by_cases e : zs.getD m 0 = zs.getD (m - 1) 0
            · exact e
            · exact absurd (.inr e) hk
        have hkeep : Lib.keeps zs.toArray m = false := by
          unfold Lib.keeps
          refine decide_eq_false fun h => ?_
          rcases h with h | h
          · exact hk2.1 h
          · rw [hget m (by omega), hget (m - 1) (by omega)] at h; exact h hk2.2
        rw [if_neg (by rw [hkeep]; decide), List.append_nil]
        refine ⟨h1, fun x hx => ?_, fun j hj => ?_⟩
        · obtain ⟨j, hj, e⟩ := h2 x hx; exact ⟨j, by omega, e⟩
        · by_cases e : j = m
          · subst e; rw [hk2.2]; exact h3 (j - 1) (by omega)
          · exact h3 j (by omega)
  obtain ⟨h1, h2, h3⟩ := key zs.length (Nat.le_refl _)
  refine ⟨h1, fun x => ⟨fun hx => ?_, fun hx => ?_⟩⟩
  · obtain ⟨j, hj, rfl⟩ := h2 x hx; exact getD_mem hj
  · obtain ⟨j, hj, rfl⟩ := mem_at hx; exact h3 j hj
theorem blk_prefix {b e n : Nat} {l m : List Int} {o : Option Obj} (h : Blk.at ⟨ints (l ++ m), e, n, none⟩ o) : Blk.at ⟨ints l, e, n, none⟩ o := by
  obtain ⟨arr, h1, h2, h3⟩ := h.toRow rfl
  have _ := b
  refine Blk.ofRow ⟨arr, h1, h2, fun i v hv => h3 i v ?_⟩
  have hi : i < l.length := by rw [← ints_length]; exact (List.getElem?_eq_some_iff.1 hv).1
  have : ints (l ++ m) = ints l ++ ints m := by simp [ints]
  show (ints (l ++ m))[i]? = some v
  rw [this, List.getElem?_append_left (by rw [ints_length]; exact hi)]; exact hv
theorem c_compactI (b e cap : Nat) (l : List Int) (w : World) (ho : OwnOk [(b, (⟨ints l, e, cap, none⟩ : Blk))] w) (hl : l.length ≤ 1048576) (c : Nat) (hc : l.length ≤ c) :
    Calls Try.prog 115 [.slice (some ⟨b, 0, none⟩) l.length c].toArray w (ResM w [(b, ⟨ints l, e, cap, none⟩)] (fun u new => u = .slice (some ⟨b, 0, none⟩) (Lib.compact l).length c ∧ new = [(b, ⟨ints (Lib.compact l), e, cap, none⟩)])) := by
  have h := AnyG.slices_Compact_int Try.compI b 0 c l w (holds_of_own ho List.mem_cons_self) (by omega) hc
  refine Calls.mono (show Calls Try.prog 115 _ w _ from h) ?_
  rintro en w' ⟨rfl, n, rfl⟩
  have := resM_putRow (q := n) (v := .slice (some ⟨b, 0, none⟩) (Lib.compact l).length c) (os := #[]) (l' := Lib.compact l ++ List.replicate (l.length - (Lib.compact l).length) 0) ho (by
    have : (Lib.compact l).length ≤ l.length := Lib.compact_length_le l
    simp; omega)
  rw [Go.Sort.grow_empty] at this
  obtain ⟨v, new, h1, h2, h3, h4, h5, h6⟩ := this
  cases h1; subst h6
  refine ⟨_, [(b, ⟨ints (Lib.compact l), e, cap, none⟩)], rfl, h2, ⟨by simp [ids], fun x k hk => ?_⟩, fun x hx => .inl hx, rfl, rfl⟩
  have hk' : (x, k) = (b, (⟨ints (Lib.compact l), e, cap, none⟩ : Blk)) := by simpa using hk
  cases hk'
  exact blk_prefix (b := b) (h3.blk b _ List.mem_cons_self)
theorem c_containsI (v : Value) (l : List Int) (x : Int) (w : World) (hv : RdI w v l) (hl : l.length ≤ 1048576) :
    Calls Try.prog 89 [v, .int .i64 x].toArray w (Res w (Is (.bool (decide (x ∈ l))))) := by
  rcases hv with ⟨a, cap, rfl, rfl⟩ | ⟨b, o, cap, rfl, hc⟩
  · have h := AnyG.slices_Contains_int_empty Try.contI a cap x w
    refine Calls.mono (show Calls Try.prog 89 _ w _ from h) ?_
    rintro en w' ⟨rfl, rfl⟩
    simpa using Res.pure (v := .bool false) (Fr.refl [] w')
  · have h := AnyG.slices_Contains_int Try.contI b o l.length cap l x w (Nat.le_refl _) (by omega) (fun j hj => hc j _ (ints_get hj))
    refine Calls.mono (show Calls Try.prog 89 _ w _ from h) ?_
    rintro en w' ⟨rfl, rfl⟩
    have := Res.pure (v := .bool (decide (x ∈ l))) (Fr.refl [] w')
    simpa using this
end Go.Proofs.Ytbnanjkhpeneeaa
