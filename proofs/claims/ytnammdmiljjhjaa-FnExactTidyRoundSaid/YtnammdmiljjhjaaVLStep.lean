import Derived.Test.YtnammdmiljjhjaaVLCore
/- A part of the proof: Step. No conditions of its own. -/
namespace Go.VL
open Go.RowKit

/-! types, as a table -/
inductive Sh where
  | int (k : IntKind)
  | bool
  | string
  | ptr (e : Nat)
  | slice (e : Nat)
  | arr (n e : Nat)
  | struct (fs : List (Nat × Nat))
  | func
  | other
structure TI where
  sh : Sh
  size : Nat
  bytes : Nat
  zero : List Value

def ikeq : IntKind → IntKind → Bool
  | .i8, .i8 | .i16, .i16 | .i32, .i32 | .i64, .i64 | .u8, .u8 | .u16, .u16 | .u32, .u32 | .u64, .u64 => true
  | _, _ => false
theorem ikeq_eq {a b : IntKind} (h : ikeq a b = true) : a = b := by cases a <;> cases b <;> first | rfl | cases h

def Sh.fits (d : TypeDesc) : Sh → Prop
  | .int k => d = .int k
  | .bool => d = .bool
  | .string => d = .string
  | .ptr e => d = .pointer e
  | .slice e => d = .slice e
  | .arr n e => d = .array n e
  | .struct fs => ∃ fields, d = .struct fields ∧ fields.toList.map (fun f => (f.offset, f.type)) = fs
  | .func => ∃ a b c, d = .func a b c
  | .other => True

def TI.isAgg (i : TI) : Bool := match i.sh with | .arr .. | .struct _ => true | _ => false
def TI.plain (i : TI) : Bool := match i.sh with | .arr .. | .struct _ | .other => false | _ => true

structure TI.Ok (P : Program) (t : Nat) (i : TI) : Prop where
  desc : ∃ d, P.underlying t = some d ∧ i.sh.fits d
  info : ∃ x : TypeInfo, P.info? t = some x ∧ x.size = i.size ∧ x.bytes = i.bytes ∧ (i.zero = [] ∨ ∃ z, x.zero = some z ∧ z.cells.toList = i.zero)

def TyOk (P : Program) (T : Nat → Option TI) : Prop := ∀ t i, T t = some i → i.Ok P t

/-! whether a table is right, by program -/
def Value.sameB : Value → Value → Bool
  | .bool a, .bool b => a == b
  | .int k a, .int j b => ikeq k j && a == b
  | .string s, .string t => s.data == t.data
  | .pointer none, .pointer none => true
  | .slice none a b, .slice none c d => a == c && b == d
  | .map none, .map none => true
  | .nilFunc, .nilFunc => true
  | .nilIface, .nilIface => true
  | _, _ => false
theorem Value.sameB_eq {a b : Value} (h : Value.sameB a b = true) : a = b := by
  unfold Value.sameB at h
  split at h
  · simpa using h
  · simp only [Bool.and_eq_true, beq_iff_eq] at h; rw [ikeq_eq h.1, h.2]
  · rename_i s t
    have : s.data = t.data := by simpa using h
    cases s; cases t; simp_all
  · rfl
  · simp only [Bool.and_eq_true, beq_iff_eq] at h; rw [h.1, h.2]
  · rfl
  · rfl
  · rfl
  · cases h
def sameAll : List Value → List Value → Bool
  | [], [] => true
  | a :: x, b :: y => Value.sameB a b && sameAll x y
  | _, _ => false
theorem sameAll_eq : ∀ {x y : List Value}, sameAll x y = true → x = y
  | [], [], _ => rfl
  | a :: x, b :: y, h => by simp only [sameAll, Bool.and_eq_true] at h; rw [Value.sameB_eq h.1, sameAll_eq h.2]
  | [], _ :: _, h => by cases h
  | _ :: _, [], h => by cases h
def Sh.fitsB (d : TypeDesc) : Sh → Bool
  | .int k => match d with | .int j => ikeq j k | _ => false
  | .bool => match d with | .bool => true | _ => false
  | .string => match d with | .string => true | _ => false
  | .ptr e => match d with | .pointer x => x == e | _ => false
  | .slice e => match d with | .slice x => x == e | _ => false
  | .arr n e => match d with | .array m x => m == n && x == e | _ => false
  | .struct fs => match d with | .struct fields => fields.toList.map (fun f => (f.offset, f.type)) == fs | _ => false
  | .func => match d with | .func .. => true | _ => false
  | .other => true
theorem Sh.fits_of_B {d : TypeDesc} {s : Sh} (h : s.fitsB d = true) : s.fits d := by
  cases s with
  | other => trivial
  | func => cases d <;> first | exact ⟨_, _, _, rfl⟩ | cases h
  | struct fs =>
    simp only [Sh.fitsB] at h
    split at h
    · exact ⟨_, rfl, by simpa using h⟩
    · cases h
  | int k => cases d <;> first | cases h | exact congrArg _ (ikeq_eq h)
  | bool => cases d <;> first | exact rfl | cases h
  | string => cases d <;> first | exact rfl | cases h
  | ptr e => cases d <;> first | cases h | (simp only [Sh.fitsB, beq_iff_eq] at h; rw [h]; rfl)
  | slice e => cases d <;> first | cases h | (simp only [Sh.fitsB, beq_iff_eq] at h; rw [h]; rfl)
  | arr n e => cases d <;> first | cases h | (simp only [Sh.fitsB, Bool.and_eq_true, beq_iff_eq] at h; rw [h.1, h.2]; rfl)
def TI.okB (P : Program) (t : Nat) (i : TI) : Bool :=
  (match P.underlying t with | some d => i.sh.fitsB d | none => false) &&
  match P.info? t with
  | some x => x.size == i.size && x.bytes == i.bytes && (i.zero.isEmpty || match x.zero with | some z => sameAll z.cells.toList i.zero | none => false)
  | none => false
theorem TI.ok_of_B {P : Program} {t : Nat} {i : TI} (h : i.okB P t = true) : i.Ok P t := by
  unfold TI.okB at h
  simp only [Bool.and_eq_true] at h
  obtain ⟨h1, h2⟩ := h
  constructor
  · split at h1
    · exact ⟨_, by assumption, Sh.fits_of_B h1⟩
    · cases h1
  · split at h2
    · rename_i x hx
      simp only [Bool.and_eq_true, beq_iff_eq, Bool.or_eq_true] at h2
      refine ⟨x, hx, h2.1.1, h2.1.2, ?_⟩
      rcases h2.2 with h3 | h3
      · exact .inl (by simpa using h3)
      · right
        split at h3
        · exact ⟨_, by assumption, sameAll_eq h3⟩
        · cases h3
    · cases h2
def tblOf (l : List (Nat × TI)) (t : Nat) : Option TI := match l with
  | [] => none
  | (s, i) :: r => match Nat.beq s t with | true => some i | false => tblOf r t
def tblOkB (P : Program) (l : List (Nat × TI)) : Bool := l.all fun x => x.2.okB P x.1
theorem tyOk_of_B {P : Program} : ∀ {l : List (Nat × TI)}, tblOkB P l = true → TyOk P (tblOf l)
  | [], _, t, i, h => by cases h
  | (s, j) :: r, hB, t, i, h => by
    simp only [tblOkB, List.all_cons, Bool.and_eq_true] at hB
    simp only [tblOf] at h
    split at h
    · rename_i hb
      have : s = t := Nat.eq_of_beq_eq_true hb
      subst this
      cases h
      exact TI.ok_of_B hB.1
    · exact tyOk_of_B (l := r) hB.2 t i h

/-! what an operation that touches no memory comes to: under which condition, and which value -/
def force : Value → Option Value
  | .bool b => some (.bool b)
  | .int k n => some (.int k n)
  | .string s => some (.string s)
  | .pointer a => some (.pointer a)
  | .slice a n c => some (.slice a n c)
  | .map r => some (.map r)
  | .func a b c => some (.func a b c)
  | .nilFunc => some .nilFunc
  | .iface t v => some (.iface t v)
  | .nilIface => some .nilIface
  | .agg cs => some (.agg cs)
  | .tuple vs => some (.tuple vs)
  | .float k b => some (.float k b)
  | .complex k a b => some (.complex k a b)
  | .chan r => some (.chan r)
theorem force_eq {v u : Value} (h : force v = some u) : v = u := by cases v <;> simp only [force, Option.some.injEq] at h <;> exact h

def inR : IntKind → Int → Prop
  | .i8, n => -128 ≤ n ∧ n ≤ 127
  | .i16, n => -32768 ≤ n ∧ n ≤ 32767
  | .i32, n => -2147483648 ≤ n ∧ n ≤ 2147483647
  | .i64, n => -9223372036854775808 ≤ n ∧ n ≤ 9223372036854775807
  | .u8, n => 0 ≤ n ∧ n ≤ 255
  | .u16, n => 0 ≤ n ∧ n ≤ 65535
  | .u32, n => 0 ≤ n ∧ n ≤ 4294967295
  | .u64, n => 0 ≤ n ∧ n ≤ 18446744073709551615
theorem wrap_of_inR {k : IntKind} {n : Int} (h : inR k n) : k.wrap n = n := by
  cases k <;> simp only [inR] at h <;> simp [IntKind.wrap, IntKind.bits, IntKind.signed] <;> omega

def intOp (op : BinOp) (k : IntKind) (a b : Int) : Option (Prop × Value) :=
  match op with
  | .add => some (inR k (a + b), .int k (a + b))
  | .sub => some (inR k (a - b), .int k (a - b))
  | .mul => some (inR k (a * b), .int k (a * b))
  | .quo => some (inR k (a / b) ∧ 0 ≤ a ∧ 0 < b, .int k (a / b))
  | .rem => some (0 ≤ a ∧ 0 < b, .int k (a % b))
  | .eql => some (True, .bool (decide (a = b)))
  | .neq => some (True, .bool (!decide (a = b)))
  | .lss => some (True, .bool (decide (a < b)))
  | .leq => some (True, .bool (decide (a ≤ b)))
  | .gtr => some (True, .bool (decide (b < a)))
  | .geq => some (True, .bool (decide (b ≤ a)))
  | _ => none
def boolOp (op : BinOp) (a b : Bool) : Option (Prop × Value) :=
  match op with
  | .eql => some (True, .bool (a == b))
  | .neq => some (True, .bool (!(a == b)))
  | _ => none

theorem run_intOp {P : Program} {op : BinOp} {k : IntKind} {a b : Int} {c : Prop} {v : Value} (h : intOp op k a b = some (c, v)) (hc : c) (t : TypeId) (w : World) :
    (binOp op t (.int k a) (.int k b)).run P w = .ok v w := by
  cases op <;> simp only [intOp, Option.some.injEq, Prod.mk.injEq, reduceCtorEq] at h <;> obtain ⟨rfl, rfl⟩ := h
  case add => simp [binOp, Op.intArith, wrap_of_inR hc]
  case sub => simp [binOp, Op.intArith, wrap_of_inR hc]
  case mul => simp [binOp, Op.intArith, wrap_of_inR hc]
  case quo =>
    obtain ⟨h1, h2, h3⟩ := hc
    have hb : b ≠ 0 := by omega
    have : a.tdiv b = a / b := Int.tdiv_eq_ediv_of_nonneg h2
    simp [binOp, Op.intDiv, hb, this, wrap_of_inR h1]
  case rem =>
    obtain ⟨h2, h3⟩ := hc
    have hb : b ≠ 0 := by omega
    have : a.tmod b = a % b := Int.tmod_eq_emod_of_nonneg h2
    simp [binOp, Op.intDiv, hb, this]
  case eql => simp [binOp, Op.intCmp]; rfl
  case neq => simp [binOp, Op.intCmp]; rfl
  all_goals simp [binOp, Op.intCmp]
theorem run_equalIn_bool {P : Program} (d : Nat) {a b : Bool} {t : TypeId} (ht : P.underlying t = some .bool) (w : World) :
    (Op.equalIn (d + 1) t (.bool a) (.bool b)).run P w = .ok (a == b) w := by
  simp [Op.equalIn, run_underlying ht]
theorem run_boolOp {P : Program} {op : BinOp} {a b : Bool} {c : Prop} {v : Value} (h : boolOp op a b = some (c, v)) {t : TypeId} (ht : P.underlying t = some .bool) (w : World) :
    (binOp op t (.bool a) (.bool b)).run P w = .ok v w := by
  have he : (Op.equal t (.bool a) (.bool b)).run P w = .ok (a == b) w := run_equalIn_bool 9999 ht w
  cases op <;> simp only [boolOp, Option.some.injEq, Prod.mk.injEq, reduceCtorEq] at h <;> obtain ⟨rfl, rfl⟩ := h
  · show ((Op.equal t (.bool a) (.bool b)) >>= fun x => pure (Value.bool x)).run P w = _
    rw [Sem.run_bind, he]; rfl
  · show ((Op.equal t (.bool a) (.bool b)) >>= fun x => pure (Value.bool (!x))).run P w = _
    rw [Sem.run_bind, he]; rfl
end Go.VL
