import Derived.Test.YtlfflmoegfibgaaVLLol
import Derived.Test.YtlfflmoegfibgaaVLBA
import Derived.Test.YtlfflmoegfibgaaVLClo
import Derived.Test.YtlfflmoegfibgaaVLPlay
/-! Lists of anything that lies in blocks of one's own; calls through an interface. -/
namespace Go.VL
open Go.RowKit
section
variable {α : Type} {N : α → Value → Own → Prop}
/-- The elements vs of ls, each in blocks of its own. -/
def RowsG (N : α → Value → Own → Prop) : List α → List Value → List Own → Prop
  | [], [], [] => True
  | l :: ls, u :: vs, n :: ns => N l u n ∧ RowsG N ls vs ns
  | _, _, _ => False
theorem RowsG.len : ∀ {ls : List α} {vs : List Value} {ns : List Own}, RowsG N ls vs ns → vs.length = ls.length ∧ ns.length = ls.length
  | [], [], [], _ => ⟨rfl, rfl⟩
  | _ :: _, _ :: _, _ :: _, h => by have := RowsG.len h.2; simp [this.1, this.2]
  | [], _ :: _, _, h => h.elim
  | [], [], _ :: _, h => h.elim
  | _ :: _, [], _, h => h.elim
  | _ :: _, _ :: _, [], h => h.elim
theorem RowsG.snoc {l : α} {u : Value} {n : Own} (hn : N l u n) : ∀ {ls : List α} {vs : List Value} {ns : List Own}, RowsG N ls vs ns → RowsG N (ls ++ [l]) (vs ++ [u]) (ns ++ [n])
  | [], [], [], _ => ⟨hn, trivial⟩
  | _ :: _, _ :: _, _ :: _, h => ⟨h.1, RowsG.snoc hn h.2⟩
  | [], _ :: _, _, h => h.elim
  | [], [], _ :: _, h => h.elim
  | _ :: _, [], _, h => h.elim
  | _ :: _, _ :: _, [], h => h.elim
theorem RowsG.get : ∀ {ls : List α} {vs : List Value} {ns : List Own}, RowsG N ls vs ns → ∀ {i : Nat} {u : Value} {l : α}, vs[i]? = some u → ls[i]? = some l → ∃ n, N l u n ∧ Sub n ns.flatten
  | [], [], [], _, i, u, l, h, _ => by simp at h
  | l0 :: ls, u0 :: vs, n0 :: ns, h, 0, u, l, hu, hl => by
    have e1 : u0 = u := by simpa using hu
    have e2 : l0 = l := by simpa using hl
    subst e1; subst e2
    exact ⟨n0, h.1, fun p hp => by simp [hp]⟩
  | l0 :: ls, u0 :: vs, n0 :: ns, h, i + 1, u, l, hu, hl => by
    obtain ⟨n, h1, h2⟩ := RowsG.get h.2 (i := i) (u := u) (l := l) (by simpa using hu) (by simpa using hl)
    exact ⟨n, h1, fun p hp => by rw [List.flatten_cons]; exact List.mem_append_right _ (h2 p hp)⟩
  | [], _ :: _, _, h, _, _, _, _, _ => h.elim
  | [], [], _ :: _, h, _, _, _, _, _ => h.elim
  | _ :: _, [], _, h, _, _, _, _, _ => h.elim
  | _ :: _, _ :: _, [], h, _, _, _, _, _ => h.elim
/-- One of the elements, and the others. -/
theorem RowsG.split : ∀ {ls : List α} {vs : List Value} {ns : List Own}, RowsG N ls vs ns → ∀ {i : Nat} {l : α}, ls[i]? = some l →
    ∃ u n ns1 ns2, vs[i]? = some u ∧ ns = ns1 ++ n :: ns2 ∧ N l u n ∧ ∀ l' n', N l' u n' → RowsG N (ls.set i l') vs (ns1 ++ n' :: ns2)
  | [], [], [], _, i, l, hl => by simp at hl
  | l0 :: ls, u0 :: vs, n0 :: ns, h, 0, l, hl => by
    have e : l0 = l := by simpa using hl
    subst e
    exact ⟨u0, n0, [], ns, rfl, rfl, h.1, fun l' n' hn => ⟨hn, h.2⟩⟩
  | l0 :: ls, u0 :: vs, n0 :: ns, h, i + 1, l, hl => by
    obtain ⟨u, n, ns1, ns2, h1, h2, h3, h4⟩ := RowsG.split h.2 (i := i) (l := l) (by simpa using hl)
    exact ⟨u, n, n0 :: ns1, ns2, by simpa using h1, by rw [h2]; rfl, h3, fun l' n' hn => ⟨h.1, h4 l' n' hn⟩⟩
  | [], _ :: _, _, h, _, _, _ => h.elim
  | [], [], _ :: _, h, _, _, _ => h.elim
  | _ :: _, [], _, h, _, _, _ => h.elim
  | _ :: _, _ :: _, [], h, _, _, _ => h.elim
/-- A new list. -/
def NewG (N : α → Value → Own → Prop) (eo : Nat) (ls : List α) (v : Value) (new : Own) : Prop :=
  ∃ vs ns outer, RowsG N ls vs ns ∧ SlAt eo 1 v ls.length vs outer [] ∧ new = outer ++ ns.flatten
theorem NewG.form {eo : Nat} {ls : List α} {v : Value} {new : Own} (h : NewG N eo ls v new) : ∃ p cap, v = .slice p ls.length cap := by
  obtain ⟨_, _, _, _, h2, _⟩ := h; exact h2.form
theorem NewG.nil {eo : Nat} : NewG N eo [] (.slice none 0 0) [] := ⟨[], [], [], trivial, SlAt.nil, rfl⟩
theorem NewG.rdG {R : World → Value → α → Prop} (hN : ∀ {Γ : Ctx} {own n : Own} {w : World} {l : α} {u : Value}, N l u n → Sub n own → Go.VL.Good Γ own w → R w u l)
    {Γ : Ctx} {own new : Own} {w : World} {eo : Nat} {ls : List α} {v : Value} (h : NewG N eo ls v new) (hs : Sub new own) (hg : Go.VL.Good Γ own w) : RdL R w v ls := by
  obtain ⟨vs, ns, outer, h1, h2, rfl⟩ := h
  have hl := h1.len
  refine ⟨vs, hl.1, fun i u l hu hl' => ?_, ?_⟩
  · obtain ⟨n, hn, hsn⟩ := h1.get hu hl'
    exact hN hn (fun p hp => hs p (List.mem_append_right _ (hsn p hp))) hg
  · rcases h2.2 with ⟨e1, e2, _⟩ | ⟨b, cap, e1, _, _, rfl⟩
    · exact .inl ⟨none, 0, e1, List.eq_nil_of_length_eq_zero e2⟩
    · exact .inr ⟨b, 0, cap, e1, fun j x hx => by rw [Nat.zero_add]; exact cell_of_blk hg.ok (hs _ (List.mem_append_left _ List.mem_cons_self)) hx⟩
end
/-- Elements of k numbers each, so many of them. -/
abbrev NF (e k : Nat) : Nat × List Int → Value → Own → Prop := fun x v new => NewF e k x.1 x.2 v new
abbrev RF (k : Nat) : World → Value → Nat × List Int → Prop := fun w v x => RdF w k x.1 v x.2
theorem NF.rdG {e k : Nat} {Γ : Ctx} {own n : Own} {w : World} {l : Nat × List Int} {u : Value} (h : NF e k l u n) (hs : Sub n own) (hg : Go.VL.Good Γ own w) : RF k w u l :=
  NewF.see h hs _ hg
theorem RF.same {k : Nat} {w w' : World} {v : Value} {y : Nat × List Int} (h : RF k w v y) (hf : Fr [] w w') : RF k w' v y := by
  rcases h with h | ⟨b, o, cap, hv, hq, hc⟩
  · exact .inl h
  · exact .inr ⟨b, o, cap, hv, hq, fun j x hx => hf.cell (by simp) (hc j x hx)⟩
/-- Lists of lists of elements of k numbers, read. -/
abbrev RdFF (k : Nat) (w : World) (v : Value) (qs : List (Nat × List Int)) : Prop := RdL (RF k) w v qs
theorem RdFF.same {k : Nat} {w w' : World} {v : Value} {qs : List (Nat × List Int)} (h : RdFF k w v qs) (hf : Fr [] w w') : RdFF k w' v qs := RdL.same (R := RF k) (fun h hf => RF.same h hf) h hf
/-- .. and new. -/
abbrev NewFF (eo e k : Nat) : List (Nat × List Int) → Value → Own → Prop := NewG (NF e k) eo
theorem NewFF.rdG {eo e k : Nat} {Γ : Ctx} {own new : Own} {w : World} {qs : List (Nat × List Int)} {v : Value} (h : NewFF eo e k qs v new) (hs : Sub new own) (hg : Go.VL.Good Γ own w) : RdFF k w v qs :=
  NewG.rdG (R := RF k) (fun h hs hg => NF.rdG h hs hg) h hs hg
section
variable {P : Program} {T : Nat → Option TI} {Γ : Ctx} {ops : Array Oper} {Q : (Nat → Value) → Own → Prop} {rest : List Oper} {f : Nat → Value} {own : Own}
variable {ty : TypeId} {pos : String} {aft : Array Edge}
variable {base : Own} {L : List Nat} {listed : Array Bool}
end
end Go.VL
