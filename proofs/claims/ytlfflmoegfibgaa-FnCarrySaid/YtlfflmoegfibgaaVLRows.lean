import Derived.Test.YtlfflmoegfibgaaVLAlloc
/-! Lists of lists of numbers of one's own. -/
namespace Go.VL
open Go.RowKit
theorem NewI.rdG {Γ : Ctx} {own new : Own} {w : World} {e : Nat} {l : List Int} {v : Value} (h : NewI e l v new) (hs : Sub new own) (hg : Go.VL.Good Γ own w) : RdI w v l := by
  rcases h.2 with ⟨h1, h2, _⟩ | ⟨b, cap, h1, _, _, rfl⟩
  · exact .inl ⟨none, 0, h1, List.eq_nil_of_length_eq_zero h2⟩
  · exact .inr ⟨b, 0, cap, h1, fun j x hx => by rw [Nat.zero_add]; exact cell_of_blk hg.ok (hs _ List.mem_cons_self) hx⟩
/-- The rows vs of ls, each in blocks of its own. -/
def RowsAt (ei : Nat) : List (List Int) → List Value → List Own → Prop
  | [], [], [] => True
  | l :: ls, u :: vs, n :: ns => NewI ei l u n ∧ RowsAt ei ls vs ns
  | _, _, _ => False
theorem RowsAt.len {ei : Nat} : ∀ {ls : List (List Int)} {vs : List Value} {ns : List Own}, RowsAt ei ls vs ns → vs.length = ls.length ∧ ns.length = ls.length
  | [], [], [], _ => ⟨rfl, rfl⟩
  | _ :: _, _ :: _, _ :: _, h => by have := RowsAt.len h.2; simp [this.1, this.2]
  | [], _ :: _, _, h => h.elim
  | [], [], _ :: _, h => h.elim
  | _ :: _, [], _, h => h.elim
  | _ :: _, _ :: _, [], h => h.elim
theorem RowsAt.snoc {ei : Nat} {l : List Int} {u : Value} {n : Own} (hn : NewI ei l u n) : ∀ {ls : List (List Int)} {vs : List Value} {ns : List Own}, RowsAt ei ls vs ns → RowsAt ei (ls ++ [l]) (vs ++ [u]) (ns ++ [n])
  | [], [], [], _ => ⟨hn, trivial⟩
  | _ :: _, _ :: _, _ :: _, h => ⟨h.1, RowsAt.snoc hn h.2⟩
  | [], _ :: _, _, h => h.elim
  | [], [], _ :: _, h => h.elim
  | _ :: _, [], _, h => h.elim
  | _ :: _, _ :: _, [], h => h.elim
theorem RowsAt.get {ei : Nat} : ∀ {ls : List (List Int)} {vs : List Value} {ns : List Own}, RowsAt ei ls vs ns → ∀ {i : Nat} {u : Value} {l : List Int}, vs[i]? = some u → ls[i]? = some l → ∃ n, NewI ei l u n ∧ Sub n ns.flatten
  | [], [], [], _, i, u, l, h, _ => by simp at h
  | l0 :: ls, u0 :: vs, n0 :: ns, h, 0, u, l, hu, hl => by
    have e1 : u0 = u := by simpa using hu
    have e2 : l0 = l := by simpa using hl
    subst e1; subst e2
    exact ⟨n0, h.1, fun p hp => by simp [hp]⟩
  | l0 :: ls, u0 :: vs, n0 :: ns, h, i + 1, u, l, hu, hl => by
    obtain ⟨n, h1, h2⟩ := RowsAt.get h.2 (i := i) (u := u) (l := l) (by simpa using hu) (by simpa using hl)
    exact ⟨n, h1, fun p hp => by rw [List.flatten_cons]; exact List.mem_append_right _ (h2 p hp)⟩
  | [], _ :: _, _, h, _, _, _, _, _ => h.elim
  | [], [], _ :: _, h, _, _, _, _, _ => h.elim
  | _ :: _, [], _, h, _, _, _, _, _ => h.elim
  | _ :: _, _ :: _, [], h, _, _, _, _, _ => h.elim
/-- A new list of lists of numbers. -/
def NewLL (eo ei : Nat) (ls : List (List Int)) (v : Value) (new : Own) : Prop :=
  ∃ vs ns outer, RowsAt ei ls vs ns ∧ SlAt eo 1 v ls.length vs outer [] ∧ new = outer ++ ns.flatten
theorem NewLL.form {eo ei : Nat} {ls : List (List Int)} {v : Value} {new : Own} (h : NewLL eo ei ls v new) : ∃ p cap, v = .slice p ls.length cap := by
  obtain ⟨_, _, _, _, h2, _⟩ := h; exact h2.form
theorem NewLL.rdG {Γ : Ctx} {own new : Own} {w : World} {eo ei : Nat} {ls : List (List Int)} {v : Value} (h : NewLL eo ei ls v new) (hs : Sub new own) (hg : Go.VL.Good Γ own w) : RdII w v ls := by
  obtain ⟨vs, ns, outer, h1, h2, rfl⟩ := h
  have hl := h1.len
  refine ⟨vs, hl.1, fun i u l hu hl' => ?_, ?_⟩
  · obtain ⟨n, hn, hsn⟩ := h1.get hu hl'
    exact hn.rdG (fun p hp => hs p (List.mem_append_right _ (hsn p hp))) hg
  · rcases h2.2 with ⟨e1, e2, _⟩ | ⟨b, cap, e1, _, _, rfl⟩
    · exact .inl ⟨none, 0, e1, List.eq_nil_of_length_eq_zero e2⟩
    · exact .inr ⟨b, 0, cap, e1, fun j x hx => by rw [Nat.zero_add]; exact cell_of_blk hg.ok (hs _ (List.mem_append_left _ List.mem_cons_self)) hx⟩
theorem set_next {α : Type} {vs rest : List α} {z u : α} {i : Nat} (hi : vs.length = i) : (vs ++ z :: rest).set i u = (vs ++ [u]) ++ rest := by
  subst hi
  rw [List.set_append_right _ _ (Nat.le_refl _), Nat.sub_self, List.set_cons_zero]; simp
theorem ole_perm {a b : Own} (h : b.Perm a) : OLe a b := ⟨[], by simpa using h⟩
end Go.VL
namespace Go.VL
theorem vw_nodup {ro : Option Nat} {P : Program} {Γ : Ctx} {n : Nat} {c : Code} {Q : Post} {f : Nat → Value} {own : Own} (h : (ids own).Nodup → VWr ro P Γ n c Q f own) : VWr ro P Γ n c Q f own := fun a w ha hg hm => h hg.ok.nodup a w ha hg hm
end Go.VL
