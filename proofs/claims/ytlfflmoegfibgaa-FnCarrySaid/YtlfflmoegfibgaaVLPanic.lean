import Derived.Test.YtlfflmoegfibgaaVLRanF
import Derived.Recover
/-! Operations that may panic, and functions that do. -/
namespace Go.VL
open Go.RowKit

/-- One panic that nobody has recovered. -/
abbrev pan (v : Value) : List PanicEntry := [{ v, recovered := false }]

def RunsToP (P : Program) (r : Result Next) (S : Value → World → Prop) (E : List PanicEntry → World → Prop) : Prop :=
  match r with
  | .ok (.value v) w' => S v w'
  | .ok .skip w' => S undef w'
  | .ok (.enter g args) w' => Calls P g args w' fun e w'' => match e with
    | .returned v => S v w''
    | .panicked ch => E ch w''
    | .outgrown => False
  | .halt (.panic v) w' => E (pan v) w'
  | _ => False

theorem RunsToP.mono {P : Program} {r : Result Next} {S S' : Value → World → Prop} {E E' : List PanicEntry → World → Prop} (h : RunsToP P r S E) (hs : ∀ v w, S v w → S' v w) (he : ∀ c w, E c w → E' c w) : RunsToP P r S' E' := by
  cases r with
  | ok n w' =>
    cases n <;> simp only [RunsToP] at h ⊢
    case value v => exact hs _ _ h
    case skip => exact hs _ _ h
    case enter g args =>
      refine h.mono fun e w'' hv => ?_
      cases e with
      | returned v => exact hs _ _ hv
      | panicked ch => exact he _ _ hv
      | outgrown => exact hv
  | halt x w' =>
    cases x <;> simp only [RunsToP] at h ⊢
    case panic v => exact he _ _ h

/-- An operation that may panic, and then leaves all that is owned as it was. -/
def StepP (P : Program) (Γ : Ctx) (o : Oper) (f : Nat → Value) (own : Own) (S : Value → Own → Prop) (E : List PanicEntry → Prop) : Prop :=
  ∀ w, Good Γ own w → RunsToP P ((execOp (ev f) o).run P w)
    (fun v w' => ∃ own', Good Γ own' w' ∧ (Fr (ids own) w w' ∧ ∀ b ∈ ids own', b ∈ ids own ∨ w.heap.size ≤ b) ∧ S v own')
    (fun ch w' => Good Γ own w' ∧ Fr (ids own) w w' ∧ E ch)

/-- What is asked behind a region whose last operation may panic. -/
def Last (P : Program) (Γ : Ctx) (Q : Post) (o : Oper) (f : Nat → Value) (own : Own) : Prop :=
  StepP P Γ o f own (fun v own' => Q .normal (put f o.dst v) own') (fun ch => Q (.panic ch) f own)

def splitLast : List Oper → Option (List Oper × Oper)
  | [] => none
  | [o] => some ([], o)
  | o :: p :: r => match splitLast (p :: r) with
    | some (a, x) => some (o :: a, x)
    | none => none
def lastOk (n : Nat) (o : Oper) : Bool := o.guard.isNone && dstOk n [o]

/-- What a call that hands nothing back comes to: it returns, or panics with a value. -/
def Need (w : World) (c : Option Value) : Ending → World → Prop := fun e w' => Fr [] w w' ∧ match c with
  | none => e = .returned (.tuple #[])
  | some v => e = .panicked (pan v)

section
variable {P : Program} {Γ : Ctx} {f : Nat → Value} {own : Own} {Q : Post}
variable {ty : TypeId} {pos : String} {aft : Array Edge}
/-- What is asked of a body that hands nothing back, and may panic. -/
@[reducible] def OutN (c : Option Value) : Post
  | .ret, _, _ | .normal, _, _ => c = none
  | .panic ch, _, _ => ∃ v, ch = pan v ∧ c = some v
  | _, _, _ => False

variable {T : Nat → Option TI} {ops : Array Oper} {QQ : (Nat → Value) → Own → Prop} {rest : List Oper}
end
end Go.VL
