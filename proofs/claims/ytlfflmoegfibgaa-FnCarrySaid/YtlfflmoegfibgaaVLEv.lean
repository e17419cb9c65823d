import Derived.Test.YtlfflmoegfibgaaVLPlay
import Derived.Test.YtlfflmoegfibgaaVLTake
import Derived.Test.YtlfflmoegfibgaaVLTable
/-! lists of lists of one's own, of which nothing is said but that they can be read -/
namespace Go.VL
open Go.RowKit
/-- Rows that lie in blocks of one's own. -/
def RowsR (ls : List (List Int)) (vs : List Value) (R : Own) : Prop :=
  vs.length = ls.length ∧ (∀ u ∈ vs, u.oneCell' = true) ∧ (∀ (Γ : Ctx) (own : Own) (w : World), Sub R own → Good Γ own w → ∀ (i : Nat) (u : Value) (l : List Int), vs[i]? = some u → ls[i]? = some l → RdC w u l) ∧
  ∀ (i : Nat) (u : Value) (l : List Int), vs[i]? = some u → ls[i]? = some l → ∃ pa cap, u = .slice pa l.length cap
def NewE (eo : Nat) (ls : List (List Int)) (v : Value) (new : Own) : Prop := ∃ vs outer R, RowsR ls vs R ∧ SlAt eo 1 v ls.length vs outer [] ∧ new = outer ++ R
theorem RowsR.nil : RowsR [] [] [] := ⟨rfl, fun _ h => (by cases h), fun _ _ _ _ _ _ _ _ h => (by simp at h), fun _ _ _ h => (by simp at h)⟩
theorem NewI.one {e : Nat} {l : List Int} {u : Value} {n : Own} (h : NewI e l u n) : u.oneCell' = true := by
  obtain ⟨p, cap, rfl⟩ := h.form
  rfl
theorem RowsR.snoc {e : Nat} {ls : List (List Int)} {vs : List Value} {R n : Own} {l : List Int} {u : Value} (h : RowsR ls vs R) (hN : NewI e l u n) : RowsR (ls ++ [l]) (vs ++ [u]) (n ++ R) := by
  obtain ⟨h1, h2, h3, h4⟩ := h
  refine ⟨by rw [List.length_append, List.length_append, h1]; rfl, fun x hx => ?_, fun Γ own w hs hg i x y hx hy => ?_, fun i x y hx hy => ?_⟩
  · rcases List.mem_append.1 hx with h | h
    · exact h2 x h
    · obtain rfl := List.mem_singleton.1 h; exact hN.one
  · by_cases hi : i < vs.length
    · rw [List.getElem?_append_left hi] at hx
      rw [List.getElem?_append_left (by omega)] at hy
      exact h3 Γ own w (fun p hp => hs p (List.mem_append_right _ hp)) hg i x y hx hy
    · rw [List.getElem?_append_right (by omega)] at hx
      rw [List.getElem?_append_right (by omega)] at hy
      have h0 : i - vs.length = 0 := by
        have := (List.getElem?_eq_some_iff.1 hx).1
        simp at this; omega
      rw [h0] at hx
      rw [show i - ls.length = 0 by omega] at hy
      cases hx; cases hy
      exact hN.rdC (fun p hp => hs p (List.mem_append_left _ hp)) hg
  · by_cases hi : i < vs.length
    · rw [List.getElem?_append_left hi] at hx
      rw [List.getElem?_append_left (by omega)] at hy
      exact h4 i x y hx hy
    · rw [List.getElem?_append_right (by omega)] at hx
      rw [List.getElem?_append_right (by omega)] at hy
      have h0 : i - vs.length = 0 := by
        have := (List.getElem?_eq_some_iff.1 hx).1
        simp at this; omega
      rw [h0] at hx
      rw [show i - ls.length = 0 by omega] at hy
      cases hx; cases hy
      exact hN.form
theorem NewE.form {eo : Nat} {ls : List (List Int)} {v : Value} {new : Own} (h : NewE eo ls v new) : ∃ p cap, v = .slice p ls.length cap := by
  obtain ⟨_, _, _, _, h2, _⟩ := h; exact h2.form
section
variable {P : Program} {T : Nat → Option TI} {Γ : Ctx} {ops : Array Oper} {Q : (Nat → Value) → Own → Prop} {rest : List Oper} {f : Nat → Value} {own : Own}
variable {ty : TypeId} {pos : String} {aft : Array Edge}
/-- The cells of a list of one's own behind another such list. -/
theorem vops_appendW (hT : TyOk P T) {d t e a b : Nat} {z : List Value} {x y : Operand} {ei : TI} {n m c : Nat} {vs vs2 : List Value} {v0 : Value} {pa : Option Addr} {new outer2 R : Own}
    (ht : T t = some ⟨.slice e, a, b, z⟩) (he : T e = some ei) (hz : ei.zero ≠ []) (hzl : ei.zero.length = ei.size) (hk : ei.size = 1) (hbt : ei.bytes ≤ 1000)
    (hx : ev f x = v0) (hN : SlAt e 1 v0 n vs new []) (hp : own.Perm (new ++ R)) (hy : ev f y = .slice pa m c) (hN2 : SlAt e 1 (.slice pa m c) m vs2 outer2 []) (hs2 : Sub outer2 own) (h1 : ∀ u ∈ vs2, u.oneCell' = true) (hn : n + m ≤ 1073741824)
    (kk : ∀ p cap new', SlAt e 1 (.slice p (n + m) cap) (n + m) (vs ++ vs2) new' [] → VOps P Γ ops Q rest (upd f d (.slice p (n + m) cap)) (new' ++ R)) :
    VOps P Γ ops Q (⟨some d, .call ⟨.builtin .append, #[x, y], #[t, t]⟩, ty, pos, aft, none⟩ :: rest) f own := by
  by_cases hm : m = 0
  · subst hm
    have hv2 : vs2 = [] := List.eq_nil_of_length_eq_zero (by rw [hN2.1, Nat.zero_mul])
    obtain ⟨p0, c0, rfl⟩ := hN.form
    have hnc : n ≤ c0 := by
      rcases hN.2 with ⟨h, h2, _⟩ | ⟨_, _, h1, h2, _⟩
      · omega
      · cases h1; exact h2
    refine vops_perm hp (vops_appendZ hT ht he hx hy rfl hnc ?_)
    exact kk p0 c0 new (by rw [hv2, List.append_nil]; exact hN)
  · rcases hN2.2 with ⟨_, h, _⟩ | ⟨b2, c2, h3, _, _, rfl⟩
    · exact absurd h hm
    cases h3
    refine vops_appendM (cells := vs) (news := vs2) hT hx (by rw [hk]; exact hN) hp ht he hz hzl hy (by rw [hk]; exact hN2.1) (fun j v hj => by rw [Nat.zero_add]; exact sees_mem (hs2 _ List.mem_cons_self) hj) h1 (by omega) (by simp only [maxLen]; omega) ?_ (fun v new' h => ?_)
    · calc (n + m) * ei.bytes ≤ 1073741824 * 1000 := Nat.mul_le_mul (by omega) hbt
        _ ≤ _ := by omega
    · rw [hk] at h
      obtain ⟨p, cap, rfl⟩ := h.form
      exact kk p cap new' h
end
end Go.VL
