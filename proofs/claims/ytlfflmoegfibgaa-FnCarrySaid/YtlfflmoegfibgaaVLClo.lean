import Derived.Test.YtlfflmoegfibgaaVLTable
import Derived.Test.YtlfflmoegfibgaaVLRanF
import Derived.Laws.CopyRow
/-! Calls of function values; rows cut off the front of a list; two results of which one is a list of lists. -/
namespace Go.VL
open Go.RowKit
section
variable {P : Program} {T : Nat → Option TI} {Γ : Ctx} {ops : Array Oper} {Q : (Nat → Value) → Own → Prop} {rest : List Oper} {f : Nat → Value} {own : Own}
variable {ty : TypeId} {pos : String} {aft : Array Edge}
/-- A call of a function value with what it has captured. -/
theorem vops_callV {d g : Nat} {x : Operand} {lb : List Value} {l : List Operand} {atys : Array TypeId} {as : List Value} {S : Value → Own → Prop} (he : Ent P g) (hx : ev f x = .func (.func g) #[] lb.toArray) (ha : l.map (ev f) = as)
    (h : ∀ w, Good Γ own w → Calls P g (as ++ lb).toArray w (Res w S)) (k : ∀ v new, S v new → VOps P Γ ops Q rest (upd f d v) (new ++ own)) :
    VOps P Γ ops Q (⟨some d, .call ⟨.value x, l.toArray, atys⟩, ty, pos, aft, none⟩ :: rest) f own :=
  vops_go fun w hg => by
    rw [run_callV he hx (some d) l atys ty pos aft none w ha]
    exact (h w hg).mono fun e w' ⟨v, new, he, h1, h2, h3, h4⟩ => ⟨v, he, new ++ own, hg.join h1 h2 h3, ⟨h1.mono (by simp), fun b hb => by
      have hb' : b ∈ ids new ++ ids own := by rwa [ids, List.map_append] at hb
      rcases List.mem_append.1 hb' with h | h
      · exact .inr (h3 b h)
      · exact .inl h⟩, k v new h4⟩
theorem vops_callVp {d g : Nat} {x : Operand} {lb : List Value} {l : List Operand} {atys : Array TypeId} {as : List Value} {v : Value} (he : Ent P g) (hx : ev f x = .func (.func g) #[] lb.toArray) (ha : l.map (ev f) = as)
    (h : ∀ w, Good Γ own w → Calls P g (as ++ lb).toArray w (Res w (Is v))) (k : VOps P Γ ops Q rest (upd f d v) own) :
    VOps P Γ ops Q (⟨some d, .call ⟨.value x, l.toArray, atys⟩, ty, pos, aft, none⟩ :: rest) f own :=
  vops_callV he hx ha h fun v' new ⟨h1, h2⟩ => by subst h1; subst h2; exact k
end
/-- Two results: a list of lists, and a code. -/
def PairT (eo ei : Nat) (r : List (List Int) × Int) (v : Value) (new : Own) : Prop := ∃ p cap, v = .tuple #[.slice p r.1.length cap, .int .i64 r.2] ∧ NewT eo ei r.1 (.slice p r.1.length cap) new
section
variable {P : Program} {T : Nat → Option TI} {Γ : Ctx} {f : Nat → Value} {own : Own}
end
section
variable {P : Program} {T : Nat → Option TI} {Γ : Ctx} {ops : Array Oper} {Q : (Nat → Value) → Own → Prop} {rest : List Oper} {f : Nat → Value} {own own' : Own}
variable {ty : TypeId} {pos : String} {aft : Array Edge}
variable {base : Own} {L : List Nat} {listed : Array Bool}
end
end Go.VL
