import Derived.Calls
import Derived.Orders
import Derived.KernelRfl
import Derived.Laws.Rows
import Derived.Laws.Slices
import Derived.Laws.Entries
import Derived.Laws.Small
import Derived.Laws.Tables
import Derived.Below
import Derived.OrdersIn
import Derived.ControlIn
import Derived.RangeFuncRecord
import Derived.Laws.AppendOwn
import Derived.Laws.StructEq
/- Parts of the proof, one after another. No conditions of their own. -/
/- A part of the proof: Core. No conditions of its own. -/
namespace Go.VL
open Go.RowKit

/-! frames as functions -/
def upd (f : Nat → Value) (d : Nat) (v : Value) : Nat → Value := fun t => match Nat.beq t d with | true => v | false => f t
theorem upd_same (f : Nat → Value) (d : Nat) (v : Value) : upd f d v d = v := by simp [upd]
theorem upd_ne (f : Nat → Value) {d t : Nat} (v : Value) (h : t ≠ d) : upd f d v t = f t := by
  have : Nat.beq t d = false := by
    cases hb : Nat.beq t d with
    | false => rfl
    | true => exact absurd (Nat.eq_of_beq_eq_true hb) h
  simp [upd, this]
theorem upd_comm (f : Nat → Value) {d e : Nat} (u v : Value) (h : d ≠ e) : upd (upd f d u) e v = upd (upd f e v) d u := by
  funext t
  by_cases h1 : t = d
  · subst h1; rw [upd_ne _ _ h, upd_same, upd_same]
  · by_cases h2 : t = e
    · subst h2; rw [upd_same, upd_ne _ _ h1, upd_same]
    · rw [upd_ne _ _ h2, upd_ne _ _ h1, upd_ne _ _ h1, upd_ne _ _ h2]
def put (f : Nat → Value) (d : Option Tmp) (v : Value) : Nat → Value := match d with | some d => upd f d v | none => f
def ev (f : Nat → Value) : Operand → Value
  | .tmp t => f t
  | .const v => v
  | .global g => .pointer (some ⟨g, 0, none⟩)
  | .func g => .func (.func g) #[] #[]

/-- The frame a is the function f, with n places. -/
structure FR (n : Nat) (f : Nat → Value) (a : Act) : Prop where
  size : a.tmps.size = n
  get : ∀ t, a.tmps.getD t undef = f t

theorem FR.eval {n : Nat} {f : Nat → Value} {a : Act} (h : FR n f a) : a.eval = ev f := by
  funext x
  cases x with
  | tmp t => exact h.get t
  | _ => rfl

theorem FR.put {n : Nat} {f : Nat → Value} {a : Act} (h : FR n f a) (d : Option Tmp) (v : Value) (hd : ∀ t, d = some t → t < n) : FR n (put f d v) (a.put d v) := by
  cases d with
  | none => exact h
  | some d =>
    have hd' := hd d rfl
    refine ⟨by simp [Act.put, h.size], fun t => ?_⟩
    show (a.tmps.setIfInBounds d v).getD t undef = upd f d v t
    by_cases ht : t = d
    · subst ht
      have : t < a.tmps.size := by rw [h.size]; exact hd'
      rw [upd_same]; simp [this]
    · rw [upd_ne _ _ ht, ← h.get t]
      simp [Array.getElem?_setIfInBounds_ne (Ne.symm ht)]

/-! memory -/
structure Blk where
  cells : List Value
  elem : TypeId
  size : Nat
  /-- What lies there, where it is no row. -/
  obj : Option Obj
def Blk.at (k : Blk) (o : Option Obj) : Prop :=
  match k.obj with
  | none => ∃ arr : Array Value, o = some (.cells arr k.elem (0, 0)) ∧ arr.size = k.size ∧ ∀ (i : Nat) (v : Value), k.cells[i]? = some v → arr[i]? = some v
  | some x => o = some x ∧ k.cells = []
theorem Blk.at.toRow {k : Blk} {o : Option Obj} (h : k.at o) (hk : k.obj = none) : ∃ arr : Array Value, o = some (.cells arr k.elem (0, 0)) ∧ arr.size = k.size ∧ ∀ (i : Nat) (v : Value), k.cells[i]? = some v → arr[i]? = some v := by
  simp only [Blk.at, hk] at h; exact h
theorem Blk.at.toObj {k : Blk} {o : Option Obj} {x : Obj} (h : k.at o) (hk : k.obj = some x) : o = some x := by
  simp only [Blk.at, hk] at h; exact h.1
theorem Blk.at.isSome {k : Blk} {o : Option Obj} (h : k.at o) : ∃ x, o = some x := by
  cases hk : k.obj with
  | none => obtain ⟨arr, h1, _⟩ := h.toRow hk; exact ⟨_, h1⟩
  | some x => exact ⟨x, h.toObj hk⟩
theorem Blk.ofRow {cells : List Value} {e : TypeId} {n : Nat} {o : Option Obj} (h : ∃ arr : Array Value, o = some (.cells arr e (0, 0)) ∧ arr.size = n ∧ ∀ (i : Nat) (v : Value), cells[i]? = some v → arr[i]? = some v) : Blk.at ⟨cells, e, n, none⟩ o := h
theorem Blk.ofObj {e : TypeId} {n : Nat} {o : Option Obj} {x : Obj} (h : o = some x) : Blk.at ⟨[], e, n, some x⟩ o := ⟨h, rfl⟩
theorem Blk.at.noObj {k : Blk} {o : Option Obj} (h : k.at o) {i : Nat} (hi : i < k.cells.length) : k.obj = none := by
  cases hk : k.obj with
  | none => rfl
  | some x => simp only [Blk.at, hk] at h; rw [h.2] at hi; simp at hi
abbrev Own := List (Nat × Blk)

def ids (own : Own) : List Nat := own.map Prod.fst

structure OwnOk (own : Own) (w : World) : Prop where
  nodup : (ids own).Nodup
  blk : ∀ b k, (b, k) ∈ own → k.at w.heap[b]?

/-- Nothing but the blocks ids has turned. -/
structure Fr (l : List Nat) (w w' : World) : Prop where
  os : w'.os = w.os
  tape : w'.tape = w.tape
  output : w'.output = w.output
  drawn : w.drawn ≤ w'.drawn
  size : w.heap.size ≤ w'.heap.size
  block : ∀ b, b < w.heap.size → b ∉ l → w'.heap[b]? = w.heap[b]?

theorem Fr.refl (l : List Nat) (w : World) : Fr l w w := ⟨rfl, rfl, rfl, Nat.le_refl _, Nat.le_refl _, fun _ _ _ => rfl⟩
theorem Fr.trans {l m : List Nat} {a b c : World} (h : Fr l a b) (k : Fr m b c) (hm : ∀ x ∈ m, x ∈ l ∨ a.heap.size ≤ x) : Fr l a c :=
  ⟨k.os.trans h.os, k.tape.trans h.tape, k.output.trans h.output, Nat.le_trans h.drawn k.drawn, Nat.le_trans h.size k.size, fun x hx hl =>
    (k.block x (Nat.lt_of_lt_of_le hx h.size) (fun hxm => by rcases hm x hxm with h1 | h1; exact hl h1; omega)).trans (h.block x hx hl)⟩
theorem Fr.mono {l m : List Nat} {a b : World} (h : Fr l a b) (hm : ∀ x ∈ l, x ∈ m) : Fr m a b :=
  ⟨h.os, h.tape, h.output, h.drawn, h.size, fun x hx hl => h.block x hx (fun hh => hl (hm x hh))⟩
theorem Fr.below {w w' : World} (h : Fr [] w w') : Below w.heap.size w w' := ⟨h.os, h.tape, h.output, h.size, fun k hk => h.block k hk (by simp)⟩
theorem Fr.drew {l : List Nat} {a w : World} (h : Fr l a w) : Fr l a { w with drawn := w.drawn + 1 } := ⟨h.os, h.tape, h.output, Nat.le_succ_of_le h.drawn, h.size, h.block⟩
theorem Fr.cell {l : List Nat} {w w' : World} (h : Fr l w w') {a : Addr} {v : Value} (ha : a.block ∉ l) (hv : w.cell? a = some v) : w'.cell? a = some v := by
  have hlt := World.block_lt_of_cell? w a hv
  have := h.block a.block hlt ha
  unfold World.cell? at *
  rw [this]; exact hv

/-- What a function's walk knows of the world: w0 as the call began, W the blocks that it may write of those that were there. -/
structure Ctx where
  w0 : World
  W : List Nat

structure Good (Γ : Ctx) (own : Own) (w : World) : Prop where
  fr : Fr Γ.W Γ.w0 w
  ok : OwnOk own w
  mine : ∀ b k, (b, k) ∈ own → b ∈ Γ.W ∨ Γ.w0.heap.size ≤ b

theorem mem_ids {own : Own} {b : Nat} (h : b ∈ ids own) : ∃ k, (b, k) ∈ own := by
  obtain ⟨p, hp, rfl⟩ := List.mem_map.1 h
  exact ⟨p.2, hp⟩
theorem ids_mem {own : Own} {b : Nat} {k : Blk} (h : (b, k) ∈ own) : b ∈ ids own := List.mem_map.2 ⟨(b, k), h, rfl⟩

theorem OwnOk.drew {own : Own} {w : World} (h : OwnOk own w) : OwnOk own { w with drawn := w.drawn + 1 } := ⟨h.nodup, h.blk⟩
theorem Good.drew {Γ : Ctx} {own : Own} {w : World} (h : Good Γ own w) : Good Γ own { w with drawn := w.drawn + 1 } := ⟨h.fr.drew, h.ok.drew, h.mine⟩

theorem OwnOk.lt {own : Own} {w : World} (h : OwnOk own w) {b : Nat} (hb : b ∈ ids own) : b < w.heap.size := by
  obtain ⟨k, hk⟩ := mem_ids hb
  obtain ⟨x, h1⟩ := (h.blk b k hk).isSome
  rcases Nat.lt_or_ge b w.heap.size with h' | h'
  · exact h'
  · simp [Array.getElem?_eq_none h'] at h1

/-- The call of something that writes nothing of what is there. -/
theorem OwnOk.same {own : Own} {w w' : World} (h : OwnOk own w) (hf : Fr [] w w') : OwnOk own w' :=
  ⟨h.nodup, fun b k hb => by
    rw [hf.block b (h.lt (ids_mem hb)) (by simp)]
    exact h.blk b k hb⟩
theorem Good.same {Γ : Ctx} {own : Own} {w w' : World} (h : Good Γ own w) (hf : Fr [] w w') : Good Γ own w' :=
  ⟨h.fr.trans hf (by simp), h.ok.same hf, h.mine⟩

theorem cell_of_blk {own : Own} {w : World} (h : OwnOk own w) {b : Nat} {k : Blk} (hb : (b, k) ∈ own) {i : Nat} {v : Value} (hv : k.cells[i]? = some v) : w.cell? ⟨b, i, none⟩ = some v := by
  have hk := h.blk b k hb
  obtain ⟨arr, h1, _, h3⟩ := hk.toRow (hk.noObj (List.getElem?_eq_some_iff.1 hv).1)
  simp [World.cell?, h1, h3 i v hv]
theorem OwnOk.row {own : Own} {w : World} (h : OwnOk own w) {b : Nat} {k : Blk} (hb : (b, k) ∈ own) (hk : k.obj = none) : ∃ arr : Array Value, w.heap[b]? = some (.cells arr k.elem (0, 0)) ∧ arr.size = k.size ∧ ∀ (i : Nat) (v : Value), k.cells[i]? = some v → arr[i]? = some v :=
  (h.blk b k hb).toRow hk
theorem OwnOk.rowLt {own : Own} {w : World} (h : OwnOk own w) {b : Nat} {k : Blk} (hb : (b, k) ∈ own) {i : Nat} (hi : i < k.cells.length) : k.obj = none := (h.blk b k hb).noObj hi

/-! the steps of operations -/
def RunsTo (P : Program) (r : Result Next) (S : Value → World → Prop) : Prop :=
  match r with
  | .ok (.value v) w' => S v w'
  | .ok .skip w' => S undef w'
  | .ok (.enter g args) w' => Calls P g args w' (fun e w'' => ∃ v, e = .returned v ∧ S v w'')
  | .ok (.round l g tmps assign body) w' => RoundIn Fence.wide 0 P l g tmps assign body w' (fun e w'' => ∃ v, e = .returned v ∧ S v w'')
  | _ => False

theorem RunsTo.mono {P : Program} {r : Result Next} {S S' : Value → World → Prop} (h : RunsTo P r S) (hs : ∀ v w, S v w → S' v w) : RunsTo P r S' := by
  cases r with
  | ok n w' =>
    cases n <;> simp only [RunsTo] at h ⊢
    case value v => exact hs _ _ h
    case skip => exact hs _ _ h
    case enter g args => exact h.mono fun e w'' ⟨v, he, hv⟩ => ⟨v, he, hs _ _ hv⟩
    case round l g tmps assign body => exact h.mono fun e w'' ⟨v, he, hv⟩ => ⟨v, he, hs _ _ hv⟩
  | halt x w' => exact h

def Step (P : Program) (Γ : Ctx) (o : Oper) (f : Nat → Value) (own : Own) (S : Value → Own → Prop) : Prop :=
  ∀ w, Good Γ own w → RunsTo P ((execOp (ev f) o).run P w) (fun v w' => ∃ own', Good Γ own' w' ∧ (Fr (ids own) w w' ∧ ∀ b ∈ ids own', b ∈ ids own ∨ w.heap.size ≤ b) ∧ S v own')
/-- The world stands still. -/
theorem stay {l : List Nat} {own : Own} (w : World) : Fr l w w ∧ ∀ b ∈ ids own, b ∈ ids own ∨ w.heap.size ≤ b := ⟨Fr.refl _ _, fun _ h => .inl h⟩

/-- The fence that fences nothing; in a round, or not. -/
@[reducible] def fen : Option Nat → Fence
  | none => Fence.wide
  | some l => Fence.wide.inRound l
theorem fen_fn (ro : Option Nat) (f : FuncId) : (fen ro).fn f := by cases ro <;> trivial
def noDefer (o : Oper) : Bool := match o.op with | .defer _ => false | _ => true
theorem semAt_plain {o : Oper} (h : noDefer o = true) (ro : Option Nat) (ρ : Operand → Value) : o.semAt ro ρ = execOp ρ o := by
  unfold Oper.semAt
  unfold noDefer at h
  split <;> first | rfl | simp_all
theorem wp_of_runs {P : Program} {ro : Option Nat} {o : Oper} {a : Act} {w : World} {next : Act → World → Prop} {Q : Exit → Act → World → Prop} (hd : noDefer o = true)
    (h : RunsTo P ((execOp a.eval o).run P w) (fun v w' => next (a.put o.dst v) w')) : o.wpIn (fen ro) 0 P a w next Q := by
  refine ⟨fun f _ => fen_fn ro f, ?_⟩
  rw [semAt_plain hd]
  generalize (execOp a.eval o).run P w = r at *
  cases r with
  | ok n w' =>
    cases n <;> simp only [RunsTo] at h <;> simp only [Oper.uponIn]
    case value v => exact h
    case skip => exact h
    case enter g args =>
      refine ⟨fun hh => (by cases ro <;> cases hh), ?_⟩
      have h1 : Calls P g args w' (fun
        | .returned v, w'' => next (a.put o.dst v) w''
        | .panicked chain, w'' => Q (.panic chain) a w''
        | .outgrown, _ => LetsOut Q) := h.mono fun e w'' ⟨v, he, hv⟩ => by subst he; exact hv
      cases ro <;> exact callsIn_wide.2 h1
    case round l g tmps assign body =>
      refine ⟨fun hh => (by cases ro <;> cases hh), ?_⟩
      have h1 : RoundIn Fence.wide 0 P l g tmps assign body w' (fun
        | .returned v, w'' => next (a.put o.dst v) w''
        | .panicked chain, w'' => Q (.panic chain) a w''
        | .outgrown, _ => LetsOut Q) := h.mono fun e w'' ⟨v, he, hv⟩ => by subst he; exact hv
      cases ro <;> exact h1
  | halt x w' => exact h.elim

/-! the logic -/
/-- Both ways behind a test. -/
def BSplit (b : Bool) (A B : Prop) : Prop := (b = true → A) ∧ (b = false → B)
theorem bs_dec {p : Prop} [Decidable p] {A B : Prop} (ht : p → A) (hf : ¬ p → B) : BSplit (decide p) A B := ⟨fun h => ht (of_decide_eq_true h), fun h => hf (of_decide_eq_false h)⟩
theorem bs_ndec {p : Prop} [Decidable p] {A B : Prop} (hf : p → B) (ht : ¬ p → A) : BSplit (!decide p) A B :=
  ⟨fun h => ht (by simpa using h), fun h => hf (by simpa using h)⟩
theorem bs_ndec2 {p : Prop} [Decidable p] {A B : Prop} (ht : ¬ p → A) (hf : p → B) : BSplit (!decide p) A B := bs_ndec hf ht
theorem bs_true {A B : Prop} (h : A) : BSplit true A B := ⟨fun _ => h, fun h => by cases h⟩
theorem bs_false {A B : Prop} (h : B) : BSplit false A B := ⟨fun h => (by cases h), fun _ => h⟩
theorem bs_ntrue {A B : Prop} (h : B) : BSplit (!true) A B := bs_false h
theorem bs_nfalse {A B : Prop} (h : A) : BSplit (!false) A B := bs_true h
theorem bs_nbeq {x y : Bool} {A B : Prop} (e : x = y) (h : B) : BSplit (!(x == y)) A B := by subst e; simpa using bs_false (A := A) h
theorem bs_any {b : Bool} {A B : Prop} (ht : b = true → A) (hf : b = false → B) : BSplit b A B := ⟨ht, hf⟩
theorem bs_nany {b : Bool} {A B : Prop} (hf : b = true → B) (ht : b = false → A) : BSplit (!b) A B := ⟨fun h => ht (by simpa using h), fun h => hf (by simpa using h)⟩

abbrev Post := Exit → (Nat → Value) → Own → Prop

/-- The mark that a range over a function leaves among the deferred calls. -/
def mark (r : Nat) : Deferred := { target := .collected r, args := #[] }
/-- The deferred calls are marks, of blocks that nobody else has; in a round there is none. -/
def Mk (ro : Option Nat) (Γ : Ctx) (own : Own) (ds : List Deferred) (w : World) : Prop :=
  (ro ≠ none → ds = []) ∧ ∃ rs : List Nat, ds = rs.map mark ∧ rs.Nodup ∧ ∀ r ∈ rs, w.heap[r]? = some (.deferred (some [])) ∧ r ∉ ids own ∧ Γ.w0.heap.size ≤ r
theorem Mk.nil (ro : Option Nat) (Γ : Ctx) (own : Own) (w : World) : Mk ro Γ own [] w := ⟨fun _ => rfl, [], rfl, List.nodup_nil, fun _ h => by cases h⟩
theorem Mk.step {ro : Option Nat} {Γ : Ctx} {own own' : Own} {ds : List Deferred} {w w' : World} (h : Mk ro Γ own ds w) (hf : Fr (ids own) w w') (hi : ∀ b ∈ ids own', b ∈ ids own ∨ w.heap.size ≤ b) : Mk ro Γ own' ds w' := by
  obtain ⟨h0, rs, h1, h2, h3⟩ := h
  refine ⟨h0, rs, h1, h2, fun r hr => ?_⟩
  obtain ⟨k1, k2, k3⟩ := h3 r hr
  have hlt : r < w.heap.size := (Array.getElem?_eq_some_iff.1 k1).1
  refine ⟨(hf.block r hlt k2).trans k1, fun hm => ?_, k3⟩
  rcases hi r hm with h | h
  · exact k2 h
  · omega
theorem Mk.sub {ro : Option Nat} {Γ : Ctx} {own own' : Own} {ds : List Deferred} {w : World} (h : Mk ro Γ own ds w) (hi : ∀ b ∈ ids own', b ∈ ids own) : Mk ro Γ own' ds w :=
  h.step (Fr.refl _ _) fun b hb => .inl (hi b hb)
theorem Mk.drew {ro : Option Nat} {Γ : Ctx} {own : Own} {ds : List Deferred} {w : World} (h : Mk ro Γ own ds w) : Mk ro Γ own ds { w with drawn := w.drawn + 1 } := h
theorem put_defers (a : Act) (d : Option Tmp) (v : Value) : (a.put d v).defers = a.defers := by cases d <;> rfl

def VQ (ro : Option Nat) (Γ : Ctx) (n : Nat) (Q : Post) : Exit → Act → World → Prop :=
  fun e a w => ∃ f own, FR n f a ∧ Good Γ own w ∧ Mk ro Γ own a.defers w ∧ Q e f own

def VWr (ro : Option Nat) (P : Program) (Γ : Ctx) (n : Nat) (c : Code) (Q : Post) (f : Nat → Value) (own : Own) : Prop :=
  ∀ a w, FR n f a → Good Γ own w → Mk ro Γ own a.defers w → c.wpIn (fen ro) 0 P (VQ ro Γ n Q) a w
/-- .. outside of rounds. -/
abbrev VW (P : Program) (Γ : Ctx) (n : Nat) (c : Code) (Q : Post) (f : Nat → Value) (own : Own) : Prop := VWr none P Γ n c Q f own

def gval (ops : Array Oper) (f : Nat → Value) (j : Nat) : Option Bool :=
  match (ops[j]?).bind (·.dst) with
  | some t => match f t with | .bool b => some b | _ => none
  | none => none

theorem yielded_eq {n : Nat} {f : Nat → Value} {a : Act} (h : FR n f a) (ops : Array Oper) (j : Nat) : yielded ops a.tmps j = gval ops f j := by
  unfold yielded gval
  cases (ops[j]?).bind (·.dst) with
  | none => rfl
  | some t =>
    show (match a.tmps[t]? with | some (.bool b) => some b | _ => none) = _
    have := h.get t
    cases ht : a.tmps[t]? with
    | none =>
      have hu : f t = undef := by rw [← this]; simp [ht]
      show none = (match f t with | .bool b => some b | _ => none)
      rw [hu]; rfl
    | some v =>
      have hu : f t = v := by rw [← this]; simp [ht]
      show _ = (match f t with | .bool b => some b | _ => none)
      rw [hu]
      cases v <;> rfl

def dstOk (n : Nat) (ops : List Oper) : Bool := ops.all fun o => noDefer o && match o.dst with | some d => Nat.blt d n | none => true

def VOps (P : Program) (Γ : Ctx) (ops : Array Oper) (Q : (Nat → Value) → Own → Prop) : List Oper → (Nat → Value) → Own → Prop
  | [], f, own => Q f own
  | o :: rest, f, own =>
    match o.guard with
    | none => Step P Γ o f own (fun v own' => VOps P Γ ops Q rest (put f o.dst v) own')
    | some (j, want) =>
      (gval ops f j = some want ∧ Step P Γ o f own (fun v own' => VOps P Γ ops Q rest (put f o.dst v) own')) ∨
      (gval ops f j ≠ some want ∧ VOps P Γ ops Q rest (put f o.dst undef) own)

def wpTail (ro : Option Nat) (P : Program) (ops : Array Oper) (Q : Exit → Act → World → Prop) : List Oper → Act → World → Prop
  | [], a, w => Q .normal a w
  | o :: rest, a, w =>
    if Region.wanted o (yielded ops a.tmps) then o.wpIn (fen ro) 0 P a w (wpTail ro P ops Q rest) Q else wpTail ro P ops Q rest (a.put o.dst undef) w

theorem wpOps_of_tail {ro : Option Nat} {P : Program} {ops : Array Oper} {Q : Exit → Act → World → Prop} (l : List Oper) :
    ∀ k, (∀ j, l[j]? = ops[k + j]?) → ∀ a w, wpTail ro P ops Q l a w → wpOpsIn (fen ro) 0 P ops Q (List.range' k l.length) a w := by
  induction l with
  | nil => intro k _ a w h; simpa [wpOpsIn, wpTail] using h
  | cons o l ih =>
    intro k hk a w h
    have h0 : ops[k]? = some o := by simpa using (hk 0).symm
    have hl : ∀ j, l[j]? = ops[k + 1 + j]? := fun j => by have := hk (j + 1); simpa [Nat.add_assoc, Nat.add_comm 1 j] using this
    simp only [List.length_cons, List.range'_succ, wpOpsIn, h0]
    simp only [wpTail] at h
    split
    · rename_i hw
      simp only [hw, if_true] at h
      exact Oper.wpIn_mono (fun a w => ih (k + 1) hl a w) h
    · rename_i hw
      simp only [hw] at h
      exact ⟨fun f _ => fen_fn ro f, ih (k + 1) hl _ _ h⟩

theorem tail_of_vops {ro : Option Nat} {P : Program} {Γ : Ctx} {n : Nat} {ops : Array Oper} {Q : Post} : ∀ (l : List Oper) (f : Nat → Value) (own : Own), dstOk n l = true →
    VOps P Γ ops (fun f own => Q .normal f own) l f own → ∀ a w, FR n f a → Good Γ own w → Mk ro Γ own a.defers w → wpTail ro P ops (VQ ro Γ n Q) l a w := by
  intro l
  induction l with
  | nil => intro f own _ h a w ha hg hm; exact ⟨f, own, ha, hg, hm, h⟩
  | cons o l ih =>
    intro f own hd h a w ha hg hm
    simp only [dstOk, List.all_cons, Bool.and_eq_true] at hd
    obtain ⟨⟨hnd, hd0⟩, hd1⟩ := hd
    have hdo : ∀ t, o.dst = some t → t < n := fun t ht => by rw [ht] at hd0; simpa [Nat.blt_eq] using hd0
    have go : ∀ S : Value → Own → Prop, Step P Γ o f own S → (∀ v own', S v own' → VOps P Γ ops (fun f own => Q .normal f own) l (put f o.dst v) own') →
        o.wpIn (fen ro) 0 P a w (wpTail ro P ops (VQ ro Γ n Q) l) (VQ ro Γ n Q) := fun S hs hk => by
      refine wp_of_runs hnd ?_
      rw [ha.eval]
      exact (hs w hg).mono fun v w' ⟨own', hg', hfr, hS⟩ => ih _ _ hd1 (hk v own' hS) _ _ (ha.put _ _ hdo) hg' (by rw [put_defers]; exact hm.step hfr.1 hfr.2)
    simp only [VOps] at h
    simp only [wpTail]
    cases hgd : o.guard with
    | none =>
      simp only [hgd] at h
      have hw : Region.wanted o (yielded ops a.tmps) = true := by simp [Region.wanted, hgd]
      simp only [hw, if_true]
      exact go _ h fun _ _ hh => hh
    | some jw =>
      obtain ⟨j, want⟩ := jw
      simp only [hgd] at h
      have hy := yielded_eq ha ops j
      rcases h with ⟨h1, h2⟩ | ⟨h1, h2⟩
      · have hw : Region.wanted o (yielded ops a.tmps) = true := by simp [Region.wanted, hgd, hy, h1]
        simp only [hw, if_true]
        exact go _ h2 fun _ _ hh => hh
      · have hw : Region.wanted o (yielded ops a.tmps) = false := by simpa [Region.wanted, hgd, hy] using h1
        simp only [hw, Bool.false_eq_true, if_false]
        exact ih _ _ hd1 h2 _ _ (ha.put _ _ hdo) hg (by rw [put_defers]; exact hm)

theorem vw_region {ro : Option Nat} {P : Program} {Γ : Ctx} {n : Nat} {id : Nat} {l : List Oper} {Q : Post} {f : Nat → Value} {own : Own} (hd : dstOk n l = true)
    (h : VOps P Γ l.toArray (fun f own => Q .normal f own) l f own) : VWr ro P Γ n (.region id l.toArray false) Q f own := by
  intro a w ha hg hm
  refine wpIn_region ?_
  have := wpOps_of_tail (ro := ro) (Q := VQ ro Γ n Q) l 0 (fun j => by simp) a w (tail_of_vops l f own hd h a w ha hg hm)
  rw [List.range_eq_range']
  simpa using this

theorem vw_mono {ro : Option Nat} {P : Program} {Γ : Ctx} {n : Nat} {c : Code} {Q Q' : Post} {f : Nat → Value} {own : Own} (h : VWr ro P Γ n c Q f own) (hq : ∀ e f own, Q e f own → Q' e f own) : VWr ro P Γ n c Q' f own :=
  fun a w ha hg hm => wpIn_mono (h a w ha hg hm) fun _ _ _ ⟨f, own, h1, h2, hm, h3⟩ => ⟨f, own, h1, h2, hm, hq _ _ _ h3⟩

/-- Behind normal: K; else Q. -/
@[reducible] def Then (K : (Nat → Value) → Own → Prop) (Q : Post) : Post
  | .normal, f, own => K f own
  | e, f, own => Q e f own

section
variable {ro : Option Nat} {P : Program} {Γ : Ctx} {n : Nat} {Q : Post} {f : Nat → Value} {own : Own}

theorem vw_seq {x y : Code} (h : VWr ro P Γ n x (Then (VWr ro P Γ n y Q) Q) f own) : VWr ro P Γ n (.seq x y) Q f own := by
  intro a w ha hg hm
  refine wpIn_seq (wpIn_mono (h a w ha hg hm) ?_)
  rintro e a' w' ⟨f', own', h1, h2, hm', h3⟩
  cases e with
  | normal => exact h3 a' w' h1 h2 hm'
  | _ => exact ⟨f', own', h1, h2, hm', h3⟩

theorem vw_skip (h : Q .normal f own) : VWr ro P Γ n .skip Q f own := fun _ _ ha hg hm => wpIn_skip ⟨f, own, ha, hg, hm, h⟩
theorem vw_ret (h : Q .ret f own) : VWr ro P Γ n .ret Q f own := fun _ _ ha hg hm => wpIn_ret ⟨f, own, ha, hg, hm, h⟩
theorem vw_exit {id : Nat} (h : Q (.exit id) f own) : VWr ro P Γ n (.exit id) Q f own := fun _ _ ha hg hm => wpIn_exit ⟨f, own, ha, hg, hm, h⟩
theorem vw_true {c : Operand} {x y : Code} (hc : ev f c = .bool true) (h : VWr ro P Γ n x Q f own) : VWr ro P Γ n (.cond c x y) Q f own :=
  fun a w ha hg hm => wpIn_cond_true (by rw [ha.eval]; exact hc) (h a w ha hg hm)
theorem vw_false {c : Operand} {x y : Code} (hc : ev f c = .bool false) (h : VWr ro P Γ n y Q f own) : VWr ro P Γ n (.cond c x y) Q f own :=
  fun a w ha hg hm => wpIn_cond_false (by rw [ha.eval]; exact hc) (h a w ha hg hm)
/-- A test: both ways. -/
theorem vw_cond {c : Operand} {x y : Code} {b : Bool} (hc : ev f c = .bool b) (h : BSplit b (VWr ro P Γ n x Q f own) (VWr ro P Γ n y Q f own)) : VWr ro P Γ n (.cond c x y) Q f own := by
  cases b
  · exact vw_false hc (h.2 rfl)
  · exact vw_true hc (h.1 rfl)
@[reducible] def InBlock (id : Nat) (Q : Post) : Post
  | .exit i, f, own => if i = id then Q .normal f own else Q (.exit i) f own
  | e, f, own => Q e f own

theorem vw_block {id : Nat} {c : Code} (h : VWr ro P Γ n c (InBlock id Q) f own) : VWr ro P Γ n (.block id c) Q f own := by
  intro a w ha hg hm
  refine wpIn_block (wpIn_mono (h a w ha hg hm) ?_)
  rintro e a' w' ⟨f', own', h1, h2, hm', h3⟩
  cases e with
  | exit i =>
    simp only [Exit.inBlock, InBlock] at *
    split
    · rename_i hi; simp only [hi, if_true] at h3; exact ⟨f', own', h1, h2, hm', h3⟩
    · rename_i hi; simp only [hi, if_false] at h3; exact ⟨f', own', h1, h2, hm', h3⟩
  | _ => exact ⟨f', own', h1, h2, hm', h3⟩

theorem vw_loop {c : Code} (I : Nat → (Nat → Value) → Own → Prop) (m : Nat) (h0 : I m f own)
    (round : ∀ m f own, I m f own → VWr ro P Γ n c (Then (fun f' own' => ∃ m', m' < m ∧ I m' f' own') Q) f own) : VWr ro P Γ n (.loop c) Q f own := by
  intro a w ha hg hm b k cs hro hb hr
  have key : ∀ m f own, I m f own → ∀ a w, FR n f a → Good Γ own w → Mk ro Γ own a.defers w →
      ∃ e a' w', VQ ro Γ n Q e a' w' ∧ ArrivesIn (Machine.fenced P (fen ro)) P (lone (b.atR a (.code c :: .inLoop c :: k)) cs w) b k cs e a' w' := by
    intro m
    induction m using Nat.strongRecOn with
    | _ m ih =>
      intro f own hI a w ha hg hm
      obtain ⟨e, a₁, w₁, ⟨f₁, own₁, h1, h2, hm₁, h3⟩, harr⟩ := round m f own hI a w ha hg hm b (.inLoop c :: k) cs hro hb hr
      cases e with
      | normal =>
        obtain ⟨m', hlt, hI₁⟩ := h3
        obtain ⟨e₂, a₂, w₂, hq₂, harr₂⟩ := ih m' hlt f₁ own₁ hI₁ a₁ w₁ h1 h2 hm₁
        exact ⟨e₂, a₂, w₂, hq₂, .of_steps (StepsIn.trans harr (.one (fenced_calm hb hr rfl) stepR_inLoop)) harr₂⟩
      | exit id => exact ⟨_, a₁, w₁, ⟨f₁, own₁, h1, h2, hm₁, h3⟩, .pass (x := .inLoop c) rfl (fun _ _ => .inl (by simp)) harr⟩
      | goto l => exact ⟨_, a₁, w₁, ⟨f₁, own₁, h1, h2, hm₁, h3⟩, .pass (x := .inLoop c) rfl (fun _ _ => .inl (by simp)) harr⟩
      | ret => exact ⟨_, a₁, w₁, ⟨f₁, own₁, h1, h2, hm₁, h3⟩, .pass (x := .inLoop c) rfl (fun _ _ => .inl (by simp)) harr⟩
      | panic ch => exact ⟨_, a₁, w₁, ⟨f₁, own₁, h1, h2, hm₁, h3⟩, .pass (x := .inLoop c) rfl (fun _ _ => .inl (by simp)) harr⟩
      | outgrown => exact ⟨_, a₁, w₁, ⟨f₁, own₁, h1, h2, hm₁, h3⟩, .pass (x := .inLoop c) rfl (fun _ _ => .inl (by simp)) harr⟩
  obtain ⟨e, a', w', hq, harr⟩ := key m f own h0 a w ha hg hm
  exact ⟨e, a', w', hq, .of_steps (.one (fenced_calm hb hr rfl) stepR_loop) harr⟩
end
end Go.VL

/- A part of the proof: Step. No conditions of its own. -/
namespace Go.VL
open Go.RowKit

/-! types, as a table -/
inductive Sh where
  | int (k : IntKind)
  | bool
  | string
  | ptr (e : Nat)
  | slice (e : Nat)
  | arr (n e : Nat)
  | struct (fs : List (Nat × Nat))
  | func
  | other
structure TI where
  sh : Sh
  size : Nat
  bytes : Nat
  zero : List Value

def ikeq : IntKind → IntKind → Bool
  | .i8, .i8 | .i16, .i16 | .i32, .i32 | .i64, .i64 | .u8, .u8 | .u16, .u16 | .u32, .u32 | .u64, .u64 => true
  | _, _ => false
theorem ikeq_eq {a b : IntKind} (h : ikeq a b = true) : a = b := by cases a <;> cases b <;> first | rfl | cases h

def Sh.fits (d : TypeDesc) : Sh → Prop
  | .int k => d = .int k
  | .bool => d = .bool
  | .string => d = .string
  | .ptr e => d = .pointer e
  | .slice e => d = .slice e
  | .arr n e => d = .array n e
  | .struct fs => ∃ fields, d = .struct fields ∧ fields.toList.map (fun f => (f.offset, f.type)) = fs
  | .func => ∃ a b c, d = .func a b c
  | .other => True

def TI.isAgg (i : TI) : Bool := match i.sh with | .arr .. | .struct _ => true | _ => false
def TI.plain (i : TI) : Bool := match i.sh with | .arr .. | .struct _ | .other => false | _ => true

structure TI.Ok (P : Program) (t : Nat) (i : TI) : Prop where
  desc : ∃ d, P.underlying t = some d ∧ i.sh.fits d
  info : ∃ x : TypeInfo, P.info? t = some x ∧ x.size = i.size ∧ x.bytes = i.bytes ∧ (i.zero = [] ∨ ∃ z, x.zero = some z ∧ z.cells.toList = i.zero)

def TyOk (P : Program) (T : Nat → Option TI) : Prop := ∀ t i, T t = some i → i.Ok P t

/-! whether a table is right, by program -/
def Value.sameB : Value → Value → Bool
  | .bool a, .bool b => a == b
  | .int k a, .int j b => ikeq k j && a == b
  | .string s, .string t => s.data == t.data
  | .pointer none, .pointer none => true
  | .slice none a b, .slice none c d => a == c && b == d
  | .map none, .map none => true
  | .nilFunc, .nilFunc => true
  | .nilIface, .nilIface => true
  | _, _ => false
theorem Value.sameB_eq {a b : Value} (h : Value.sameB a b = true) : a = b := by
  unfold Value.sameB at h
  split at h
  · simpa using h
  · simp only [Bool.and_eq_true, beq_iff_eq] at h; rw [ikeq_eq h.1, h.2]
  · rename_i s t
    have : s.data = t.data := by simpa using h
    cases s; cases t; simp_all
  · rfl
  · simp only [Bool.and_eq_true, beq_iff_eq] at h; rw [h.1, h.2]
  · rfl
  · rfl
  · rfl
  · cases h
def sameAll : List Value → List Value → Bool
  | [], [] => true
  | a :: x, b :: y => Value.sameB a b && sameAll x y
  | _, _ => false
theorem sameAll_eq : ∀ {x y : List Value}, sameAll x y = true → x = y
  | [], [], _ => rfl
  | a :: x, b :: y, h => by simp only [sameAll, Bool.and_eq_true] at h; rw [Value.sameB_eq h.1, sameAll_eq h.2]
  | [], _ :: _, h => by cases h
  | _ :: _, [], h => by cases h
def Sh.fitsB (d : TypeDesc) : Sh → Bool
  | .int k => match d with | .int j => ikeq j k | _ => false
  | .bool => match d with | .bool => true | _ => false
  | .string => match d with | .string => true | _ => false
  | .ptr e => match d with | .pointer x => x == e | _ => false
  | .slice e => match d with | .slice x => x == e | _ => false
  | .arr n e => match d with | .array m x => m == n && x == e | _ => false
  | .struct fs => match d with | .struct fields => fields.toList.map (fun f => (f.offset, f.type)) == fs | _ => false
  | .func => match d with | .func .. => true | _ => false
  | .other => true
theorem Sh.fits_of_B {d : TypeDesc} {s : Sh} (h : s.fitsB d = true) : s.fits d := by
  cases s with
  | other => trivial
  | func => cases d <;> first | exact ⟨_, _, _, rfl⟩ | cases h
  | struct fs =>
    simp only [Sh.fitsB] at h
    split at h
    · exact ⟨_, rfl, by simpa using h⟩
    · cases h
  | int k => cases d <;> first | cases h | exact congrArg _ (ikeq_eq h)
  | bool => cases d <;> first | exact rfl | cases h
  | string => cases d <;> first | exact rfl | cases h
  | ptr e => cases d <;> first | cases h | (simp only [Sh.fitsB, beq_iff_eq] at h; rw [h]; rfl)
  | slice e => cases d <;> first | cases h | (simp only [Sh.fitsB, beq_iff_eq] at h; rw [h]; rfl)
  | arr n e => cases d <;> first | cases h | (simp only [Sh.fitsB, Bool.and_eq_true, beq_iff_eq] at h; rw [h.1, h.2]; rfl)
def TI.okB (P : Program) (t : Nat) (i : TI) : Bool :=
  (match P.underlying t with | some d => i.sh.fitsB d | none => false) &&
  match P.info? t with
  | some x => x.size == i.size && x.bytes == i.bytes && (i.zero.isEmpty || match x.zero with | some z => sameAll z.cells.toList i.zero | none => false)
  | none => false
theorem TI.ok_of_B {P : Program} {t : Nat} {i : TI} (h : i.okB P t = true) : i.Ok P t := by
  unfold TI.okB at h
  simp only [Bool.and_eq_true] at h
  obtain ⟨h1, h2⟩ := h
  constructor
  · split at h1
    · exact ⟨_, by assumption, Sh.fits_of_B h1⟩
    · cases h1
  · split at h2
    · rename_i x hx
      simp only [Bool.and_eq_true, beq_iff_eq, Bool.or_eq_true] at h2
      refine ⟨x, hx, h2.1.1, h2.1.2, ?_⟩
      rcases h2.2 with h3 | h3
      · exact .inl (by simpa using h3)
      · right
        split at h3
        · exact ⟨_, by assumption, sameAll_eq h3⟩
        · cases h3
    · cases h2
def tblOf (l : List (Nat × TI)) (t : Nat) : Option TI := match l with
  | [] => none
  | (s, i) :: r => match Nat.beq s t with | true => some i | false => tblOf r t
def tblOkB (P : Program) (l : List (Nat × TI)) : Bool := l.all fun x => x.2.okB P x.1
theorem tyOk_of_B {P : Program} : ∀ {l : List (Nat × TI)}, tblOkB P l = true → TyOk P (tblOf l)
  | [], _, t, i, h => by cases h
  | (s, j) :: r, hB, t, i, h => by
    simp only [tblOkB, List.all_cons, Bool.and_eq_true] at hB
    simp only [tblOf] at h
    split at h
    · rename_i hb
      have : s = t := Nat.eq_of_beq_eq_true hb
      subst this
      cases h
      exact TI.ok_of_B hB.1
    · exact tyOk_of_B (l := r) hB.2 t i h

/-! what an operation that touches no memory comes to: under which condition, and which value -/
def force : Value → Option Value
  | .bool b => some (.bool b)
  | .int k n => some (.int k n)
  | .string s => some (.string s)
  | .pointer a => some (.pointer a)
  | .slice a n c => some (.slice a n c)
  | .map r => some (.map r)
  | .func a b c => some (.func a b c)
  | .nilFunc => some .nilFunc
  | .iface t v => some (.iface t v)
  | .nilIface => some .nilIface
  | .agg cs => some (.agg cs)
  | .tuple vs => some (.tuple vs)
  | .float k b => some (.float k b)
  | .complex k a b => some (.complex k a b)
  | .chan r => some (.chan r)
theorem force_eq {v u : Value} (h : force v = some u) : v = u := by cases v <;> simp only [force, Option.some.injEq] at h <;> exact h

def inR : IntKind → Int → Prop
  | .i8, n => -128 ≤ n ∧ n ≤ 127
  | .i16, n => -32768 ≤ n ∧ n ≤ 32767
  | .i32, n => -2147483648 ≤ n ∧ n ≤ 2147483647
  | .i64, n => -9223372036854775808 ≤ n ∧ n ≤ 9223372036854775807
  | .u8, n => 0 ≤ n ∧ n ≤ 255
  | .u16, n => 0 ≤ n ∧ n ≤ 65535
  | .u32, n => 0 ≤ n ∧ n ≤ 4294967295
  | .u64, n => 0 ≤ n ∧ n ≤ 18446744073709551615
theorem wrap_of_inR {k : IntKind} {n : Int} (h : inR k n) : k.wrap n = n := by
  cases k <;> simp only [inR] at h <;> simp [IntKind.wrap, IntKind.bits, IntKind.signed] <;> omega

def intOp (op : BinOp) (k : IntKind) (a b : Int) : Option (Prop × Value) :=
  match op with
  | .add => some (inR k (a + b), .int k (a + b))
  | .sub => some (inR k (a - b), .int k (a - b))
  | .mul => some (inR k (a * b), .int k (a * b))
  | .quo => some (inR k (a / b) ∧ 0 ≤ a ∧ 0 < b, .int k (a / b))
  | .rem => some (0 ≤ a ∧ 0 < b, .int k (a % b))
  | .eql => some (True, .bool (decide (a = b)))
  | .neq => some (True, .bool (!decide (a = b)))
  | .lss => some (True, .bool (decide (a < b)))
  | .leq => some (True, .bool (decide (a ≤ b)))
  | .gtr => some (True, .bool (decide (b < a)))
  | .geq => some (True, .bool (decide (b ≤ a)))
  | _ => none
def boolOp (op : BinOp) (a b : Bool) : Option (Prop × Value) :=
  match op with
  | .eql => some (True, .bool (a == b))
  | .neq => some (True, .bool (!(a == b)))
  | _ => none

theorem run_intOp {P : Program} {op : BinOp} {k : IntKind} {a b : Int} {c : Prop} {v : Value} (h : intOp op k a b = some (c, v)) (hc : c) (t : TypeId) (w : World) :
    (binOp op t (.int k a) (.int k b)).run P w = .ok v w := by
  cases op <;> simp only [intOp, Option.some.injEq, Prod.mk.injEq, reduceCtorEq] at h <;> obtain ⟨rfl, rfl⟩ := h
  case add => simp [binOp, Op.intArith, wrap_of_inR hc]
  case sub => simp [binOp, Op.intArith, wrap_of_inR hc]
  case mul => simp [binOp, Op.intArith, wrap_of_inR hc]
  case quo =>
    obtain ⟨h1, h2, h3⟩ := hc
    have hb : b ≠ 0 := by omega
    have : a.tdiv b = a / b := Int.tdiv_eq_ediv_of_nonneg h2
    simp [binOp, Op.intDiv, hb, this, wrap_of_inR h1]
  case rem =>
    obtain ⟨h2, h3⟩ := hc
    have hb : b ≠ 0 := by omega
    have : a.tmod b = a % b := Int.tmod_eq_emod_of_nonneg h2
    simp [binOp, Op.intDiv, hb, this]
  case eql => simp [binOp, Op.intCmp]; rfl
  case neq => simp [binOp, Op.intCmp]; rfl
  all_goals simp [binOp, Op.intCmp]
theorem run_equalIn_bool {P : Program} (d : Nat) {a b : Bool} {t : TypeId} (ht : P.underlying t = some .bool) (w : World) :
    (Op.equalIn (d + 1) t (.bool a) (.bool b)).run P w = .ok (a == b) w := by
  simp [Op.equalIn, run_underlying ht]
theorem run_boolOp {P : Program} {op : BinOp} {a b : Bool} {c : Prop} {v : Value} (h : boolOp op a b = some (c, v)) {t : TypeId} (ht : P.underlying t = some .bool) (w : World) :
    (binOp op t (.bool a) (.bool b)).run P w = .ok v w := by
  have he : (Op.equal t (.bool a) (.bool b)).run P w = .ok (a == b) w := run_equalIn_bool 9999 ht w
  cases op <;> simp only [boolOp, Option.some.injEq, Prod.mk.injEq, reduceCtorEq] at h <;> obtain ⟨rfl, rfl⟩ := h
  · show ((Op.equal t (.bool a) (.bool b)) >>= fun x => pure (Value.bool x)).run P w = _
    rw [Sem.run_bind, he]; rfl
  · show ((Op.equal t (.bool a) (.bool b)) >>= fun x => pure (Value.bool (!x))).run P w = _
    rw [Sem.run_bind, he]; rfl
end Go.VL

/- A part of the proof: Op. No conditions of its own. -/
namespace Go.VL
open Go.RowKit

/-- i times s, handed on: s = 1 leaves no trace. -/
def withMul {α : Type} (i s : Nat) (k : Nat → α) : α := match s with | 1 => k i | s => k (i * s)
theorem withMul_eq {α : Type} (i s : Nat) (k : Nat → α) : withMul i s k = k (i * s) := by unfold withMul; split <;> simp

def fieldOf (T : Nat → Option TI) (t i : Nat) : Option (Nat × TI) :=
  match T t with
  | some ⟨.struct fs, _, _, _⟩ => match fs[i]? with
    | some (off, ft) => match T ft with | some fi => some (off, fi) | none => none
    | none => none
  | _ => none

def aexec (T : Nat → Option TI) (f : Nat → Value) (op : Op) : Option (Prop × Value) :=
  match op with
  | .move x | .assign x => match force (ev f x) with | some v => some (True, v) | none => none
  | .pick c a b => match ev f c with
    | .bool true => match force (ev f a) with | some v => some (True, v) | none => none
    | .bool false => match force (ev f b) with | some v => some (True, v) | none => none
    | _ => none
  | .binOp op t x y _ => match ev f x, ev f y with
    | .int k a, .int j b => match ikeq k j with | true => intOp op k a b | false => none
    | .bool a, .bool b => match T t with | some ⟨.bool, _, _, _⟩ => boolOp op a b | _ => none
    | _, _ => none
  | .unOp .not _ x => match ev f x with | .bool b => some (True, .bool (!b)) | _ => none
  | .unOp .neg _ x => match ev f x with | .int k n => some (inR k (-n), .int k (-n)) | _ => none
  | .convert s d x => match T s, T d, ev f x with | some _, some ⟨.int k, _, _, _⟩, .int _ n => some (inR k n, .int k n) | _, _, _ => none
  | .extract x i => match ev f x with
    | .tuple vs => match vs[i]? with | some v => (match force v with | some v => some (True, v) | none => none) | none => none
    | _ => none
  | .field t x i => match fieldOf T t i, ev f x with
    | some (off, fi), .agg cs => match fi.plain with
      | true => match cs[off]? with | some v => (match force v with | some v => some (True, v) | none => none) | none => none
      | false => none
    | _, _ => none
  | .fieldAddr t x i => match fieldOf T t i, ev f x with
    | some (off, fi), .pointer (some ⟨b, o, none⟩) => match fi.size with | 0 => none | _ + 1 => some (True, .pointer (some ⟨b, o + off, none⟩))
    | _, _ => none
  | .indexAddr t x i => match T t, ev f x, ev f i with
    | some ⟨.slice e, _, _, _⟩, .slice (some ⟨b, o, none⟩) len _, .int _ i => match T e with
      | some ei => withMul i.toNat ei.size fun m => some (0 ≤ i ∧ i < len, .pointer (some ⟨b, o + m, none⟩))
      | none => none
    | some ⟨.arr n e, _, _, _⟩, .pointer (some ⟨b, o, none⟩), .int _ i => match T e with
      | some ei => withMul i.toNat ei.size fun m => some (0 ≤ i ∧ i < n, .pointer (some ⟨b, o + m, none⟩))
      | none => none
    | _, _, _ => none
  | .call ⟨.builtin .len, args, atys⟩ => match args[0]?, atys[0]? with
    | some x, some t => match T t, ev f x with
      | some ⟨.slice _, _, _, _⟩, .slice _ n _ => some (True, .int .i64 n)
      | some ⟨.string, _, _, _⟩, .string s => some (True, .int .i64 s.size)
      | some ⟨.arr n _, _, _, _⟩, _ => some (True, .int .i64 n)
      | _, _ => none
    | _, _ => none
  | .nilCheck x => match ev f x with
    | .pointer (some a) => some (True, .pointer (some a))
    | _ => none
  | _ => none

section
variable {P : Program} {T : Nat → Option TI}

theorem run_val (s : Sem Value) (w : World) : (s >>= fun v => pure (Next.value v)).run P w = (s.run P w).andThen fun v w => .ok (.value v) w := by
  rw [Sem.run_bind]; rfl

theorem TyOk.und {t : Nat} {i : TI} (h : TyOk P T) (ht : T t = some i) {d : TypeDesc} (hf : ∀ d', i.sh.fits d' → d' = d) : P.underlying t = some d := by
  obtain ⟨d', hd, hfit⟩ := (h t i ht).desc
  rw [hd, hf d' hfit]
theorem TyOk.size {t : Nat} {i : TI} (h : TyOk P T) (ht : T t = some i) (w : World) : (sizeOf t).run P w = .ok i.size w := by
  obtain ⟨x, hx, hs, _⟩ := (h t i ht).info
  simp [sizeOf, typeInfo, hx, hs]

theorem fieldOf_spec {t i off : Nat} {fi : TI} (hT : TyOk P T) (h : fieldOf T t i = some (off, fi)) :
    ∃ fields fd, P.underlying t = some (.struct fields) ∧ fields[i]? = some fd ∧ fd.offset = off ∧ T fd.type = some fi := by
  unfold fieldOf at h
  split at h
  · rename_i fs a b c ht
    split at h
    · rename_i off' ft hft
      split at h
      · rename_i fi' hfi
        simp only [Option.some.injEq, Prod.mk.injEq] at h
        obtain ⟨rfl, rfl⟩ := h
        obtain ⟨d, hd, fields, rfl, hm⟩ := (hT t _ ht).desc
        have hm' : fields.toList.map (fun f => (f.offset, f.type)) = fs := hm
        rw [← hm', List.getElem?_map] at hft
        cases hfd : fields.toList[i]? with
        | none => rw [hfd] at hft; cases hft
        | some fd =>
          rw [hfd] at hft
          simp only [Option.map_some, Option.some.injEq, Prod.mk.injEq] at hft
          exact ⟨fields, fd, hd, by simpa using hfd, hft.1, by rw [hft.2]; exact hfi⟩
      · cases h
    · cases h
  · cases h

theorem isAgg_plain {t : Nat} {i : TI} (hT : TyOk P T) (ht : T t = some i) (hp : i.plain = true) (w : World) : (isAgg t).run P w = .ok false w := by
  obtain ⟨d, hd, hf⟩ := (hT t i ht).desc
  unfold isAgg
  rw [Sem.run_bind, run_underlying hd]
  cases hs : i.sh <;> simp only [TI.plain, hs] at hp <;> simp only [hs, Sh.fits] at hf <;> first | (cases hp; done) | (subst hf; rfl) | (obtain ⟨_, _, _, rfl⟩ := hf; rfl)

theorem aexec_sound {f : Nat → Value} {op : Op} {c : Prop} {v : Value} (hT : TyOk P T) (h : aexec T f op = some (c, v)) (hc : c)
    (d : Option Tmp) (ty : TypeId) (pos : String) (aft : Array Edge) (g : Option (Nat × Bool)) (w : World) :
    (execOp (ev f) ⟨d, op, ty, pos, aft, g⟩).run P w = .ok (.value v) w := by
  unfold aexec at h
  split at h
  case h_1 x =>
    split at h
    · rename_i u hu
      simp only [Option.some.injEq, Prod.mk.injEq] at h
      obtain ⟨-, rfl⟩ := h
      rw [← force_eq hu]; rfl
    · cases h
  case h_2 x =>
    split at h
    · rename_i u hu
      simp only [Option.some.injEq, Prod.mk.injEq] at h
      obtain ⟨-, rfl⟩ := h
      rw [← force_eq hu]; rfl
    · cases h
  case h_3 x a b =>
    split at h
    · rename_i hx
      split at h
      · rename_i u hu
        simp only [Option.some.injEq, Prod.mk.injEq] at h
        obtain ⟨-, rfl⟩ := h
        show (do pure (Next.value (if ← asBool (ev f x) then ev f a else ev f b)) : Sem Next).run P w = _
        rw [hx, ← force_eq hu]; rfl
      · cases h
    · rename_i hx
      split at h
      · rename_i u hu
        simp only [Option.some.injEq, Prod.mk.injEq] at h
        obtain ⟨-, rfl⟩ := h
        show (do pure (Next.value (if ← asBool (ev f x) then ev f a else ev f b)) : Sem Next).run P w = _
        rw [hx, ← force_eq hu]; rfl
      · cases h
    · cases h
  case h_4 bop t x y yt =>
    show ((do eqGuard bop t x y (ev f x) (ev f y); binOp bop t (ev f x) (ev f y)) >>= fun v => pure (Next.value v)).run P w = _
    rw [run_val]
    split at h
    · rename_i k a j b hx hy
      split at h
      · rename_i hk
        have := ikeq_eq hk
        subst this
        rw [hx, hy, eqGuard_at_int, Sem.run_bind, Sem.run_pure, Result.andThen_ok, run_intOp h hc]; rfl
      · cases h
    · rename_i a b hx hy
      split at h
      · rename_i ht
        have hu := hT.und ht (d := .bool) (fun d' hd' => hd')
        rw [hx, hy, eqGuard_at_bool, Sem.run_bind, Sem.run_pure, Result.andThen_ok, run_boolOp h hu]; rfl
      · cases h
    · cases h
  case h_5 t x =>
    split at h
    · rename_i b hx
      simp only [Option.some.injEq, Prod.mk.injEq] at h
      obtain ⟨-, rfl⟩ := h
      show (Op.unary .not (ev f x) >>= fun v => pure (Next.value v)).run P w = _
      rw [hx]; rfl
    · cases h
  case h_6 t x =>
    split at h
    · rename_i k n hx
      simp only [Option.some.injEq, Prod.mk.injEq] at h
      obtain ⟨rfl, rfl⟩ := h
      show (Op.unary .neg (ev f x) >>= fun v => pure (Next.value v)).run P w = _
      rw [hx]
      show Result.ok (Next.value (.int k (k.wrap (0 - n)))) w = _
      rw [Int.zero_sub, wrap_of_inR hc]
    · cases h
  case h_7 s d' x =>
    split at h
    · rename_i si k s1 s2 s3 q n hs hd hx
      simp only [Option.some.injEq, Prod.mk.injEq] at h
      obtain ⟨rfl, rfl⟩ := h
      obtain ⟨ds, hds, _⟩ := (hT _ _ hs).desc
      have hu := hT.und hd (d := .int k) (fun d' hd' => hd')
      show (convert s d' (ev f x) >>= fun v => pure (Next.value v)).run P w = _
      rw [hx, run_val]
      have : (convert s d' (.int q n)).run P w = .ok (.int k (k.wrap n)) w := by
        unfold convert
        rw [Sem.run_bind, run_underlying hds, Result.andThen_ok, Sem.run_bind, run_underlying hu, Result.andThen_ok]
        cases ds <;> rfl
      rw [this, wrap_of_inR hc]; rfl
    · cases h
  case h_8 x i =>
    split at h
    · rename_i vs hx
      split at h
      · rename_i u hu
        split at h
        · rename_i u' hu'
          simp only [Option.some.injEq, Prod.mk.injEq] at h
          obtain ⟨-, rfl⟩ := h
          show (Instr.extract (ev f x) i >>= fun v => pure (Next.value v)).run P w = _
          rw [hx, run_val, ← force_eq hu']
          simp [Instr.extract, hu]
        · cases h
      · cases h
    · cases h
  case h_9 t x i =>
    split at h
    · rename_i off fi cs hf hx
      split at h
      · rename_i hp
        split at h
        · rename_i u hu
          split at h
          · rename_i u' hu'
            simp only [Option.some.injEq, Prod.mk.injEq] at h
            obtain ⟨-, rfl⟩ := h
            obtain ⟨fields, fd, h1, h2, h3, h4⟩ := fieldOf_spec hT hf
            show (Instr.field t (ev f x) i >>= fun v => pure (Next.value v)).run P w = _
            rw [hx, run_val, ← force_eq hu']
            unfold Instr.field
            rw [Sem.run_bind, run_underlying h1, Result.andThen_ok]
            simp only [h2]
            have : (part fd.type cs fd.offset).run P w = .ok u w := by
              unfold part
              rw [Sem.run_bind, isAgg_plain hT h4 hp, Result.andThen_ok]
              simp [h3, hu]
            rw [Sem.run_bind]
            show ((part fd.type cs fd.offset).run P w).andThen _ = _
            rw [this]; rfl
          · cases h
        · cases h
      · cases h
    · cases h
  case h_10 t x i =>
    split at h
    · rename_i off fi b o hf hx
      split at h
      · cases h
      · rename_i m hm
        simp only [Option.some.injEq, Prod.mk.injEq] at h
        obtain ⟨-, rfl⟩ := h
        obtain ⟨fields, fd, h1, h2, h3, h4⟩ := fieldOf_spec hT hf
        show (Instr.fieldAt t (ev f x) i >>= fun v => pure (Next.value v)).run P w = _
        rw [hx, run_val]
        unfold Instr.fieldAt
        rw [Sem.run_bind, run_underlying h1, Result.andThen_ok]
        simp only [h2]
        rw [Sem.run_bind]
        show ((fieldPlace ⟨b, o, none⟩ fd >>= fun a => pure (Value.pointer (some a))).run P w).andThen _ = _
        have : (fieldPlace ⟨b, o, none⟩ fd).run P w = .ok ⟨b, o + off, none⟩ w := by
          unfold fieldPlace
          rw [Sem.run_bind, hT.size h4, Result.andThen_ok, hm]
          simp [Addr.add_lit, h3]
        rw [Sem.run_bind, this]; rfl
    · cases h
  case h_11 t x i =>
    split at h
    · rename_i e s1 s2 s3 b o len cap k n ht hx hi
      split at h
      · rename_i ei he
        simp only [withMul_eq, Option.some.injEq, Prod.mk.injEq] at h
        obtain ⟨rfl, rfl⟩ := h
        have hu := hT.und ht (d := .slice e) (fun d' hd' => hd')
        have hel : P.elem t = e := by simp [Program.elem, hu]
        show (Instr.indexAt t (ev f x) (ev f i) >>= fun v => pure (Next.value v)).run P w = _
        rw [hx, hi, run_val, run_indexAt_slice w t ⟨b, o, none⟩ len cap k n (by rw [hel]; exact hu), if_pos hc, hel, hT.size he]
        simp only [Result.andThen_ok, Addr.add_lit]
      · cases h
    · rename_i m e s1 s2 s3 b o k n ht hx hi
      split at h
      · rename_i ei he
        simp only [withMul_eq, Option.some.injEq, Prod.mk.injEq] at h
        obtain ⟨rfl, rfl⟩ := h
        have hu := hT.und ht (d := .array m e) (fun d' hd' => hd')
        have hel : P.elem t = e := by simp [Program.elem, hu]
        have hal : P.arrayLen t = m := by simp [Program.arrayLen, hu]
        show (Instr.indexAt t (ev f x) (ev f i) >>= fun v => pure (Next.value v)).run P w = _
        rw [hx, hi, run_val, run_indexAt_array w t ⟨b, o, none⟩ k n (by rw [hel, hal]; exact hu), if_pos (by rw [hal]; exact hc), hel, hT.size he]
        simp only [Result.andThen_ok, Addr.add_lit]
      · cases h
    · cases h
  case h_12 args atys =>
    split at h
    · rename_i x t hx0 ht0
      have hrun : ∀ n : Int, (Builtin.len_ atys ty (args.map (ev f))).run P w = .ok (goInt n) w →
          (execOp (ev f) ⟨d, .call ⟨.builtin .len, args, atys⟩, ty, pos, aft, g⟩).run P w = .ok (.value (.int .i64 n)) w := fun n hn => by
        show (Builtin.len_ atys ty (args.map (ev f)) >>= fun v => pure (Next.value v)).run P w = _
        rw [run_val, hn]; rfl
      have hm : (args.map (ev f))[0]? = some (ev f x) := by rw [Array.getElem?_map, hx0]; rfl
      split at h
      · rename_i e s1 s2 s3 base n cap ht hx
        simp only [Option.some.injEq, Prod.mk.injEq] at h
        obtain ⟨-, rfl⟩ := h
        have hu := hT.und ht (d := .slice e) (fun d' hd' => hd')
        refine hrun n ?_
        unfold Builtin.len_
        simp only [ht0, hm, hx]
        rw [Sem.run_bind, run_underlying hu]; rfl
      · rename_i s1 s2 s3 st ht hx
        simp only [Option.some.injEq, Prod.mk.injEq] at h
        obtain ⟨-, rfl⟩ := h
        have hu := hT.und ht (d := .string) (fun d' hd' => hd')
        refine hrun st.size ?_
        unfold Builtin.len_
        simp only [ht0, hm, hx]
        rw [Sem.run_bind, run_underlying hu]; rfl
      · rename_i q n e s1 s2 s3 ht
        simp only [Option.some.injEq, Prod.mk.injEq] at h
        obtain ⟨-, rfl⟩ := h
        have hu := hT.und ht (d := .array n e) (fun d' hd' => hd')
        refine hrun n ?_
        unfold Builtin.len_
        simp only [ht0, hm]
        rw [Sem.run_bind, run_underlying hu, Result.andThen_ok]
        cases ev f x <;> rfl
      · cases h
    · cases h
  case h_13 x =>
    split at h
    · rename_i a hx
      simp only [Option.some.injEq, Prod.mk.injEq] at h
      obtain ⟨-, rfl⟩ := h
      show (match ev f x with
        | .pointer none | .nilIface | .nilFunc => _
        | .func (.method name) first captured => _
        | x => pure (Next.value x) : Sem Next).run P w = _
      rw [hx]; rfl
    · cases h
  case h_14 => cases h
end
end Go.VL

/- A part of the proof: Mem. No conditions of its own. -/
namespace Go.VL
open Go.RowKit

/-! own lists -/
theorem ids_set {own : Own} {i : Nat} {b : Nat} {k k' : Blk} (h : own[i]? = some (b, k)) : ids (own.set i (b, k')) = ids own := by
  unfold ids
  rw [List.map_set]
  apply List.ext_getElem?
  intro j
  by_cases hj : i = j
  · subst hj
    have hlt := (List.getElem?_eq_some_iff.1 h).1
    rw [List.getElem?_set_self (by simpa using hlt), List.getElem?_map, h]; rfl
  · rw [List.getElem?_set_ne hj]

theorem mem_set_cases {own : Own} {i : Nat} {x p : Nat × Blk} (h : p ∈ own.set i x) : p = x ∨ ∃ j, j ≠ i ∧ own[j]? = some p := by
  obtain ⟨j, hj⟩ := List.mem_iff_getElem?.1 h
  by_cases hij : i = j
  · subst hij
    rw [List.getElem?_set] at hj
    simp only [if_true] at hj
    split at hj
    · left; exact (Option.some.inj hj).symm
    · cases hj
  · rw [List.getElem?_set_ne hij] at hj
    exact .inr ⟨j, fun e => hij e.symm, hj⟩

theorem nodup_idx {own : Own} (h : (ids own).Nodup) {i j : Nat} {b : Nat} {k k' : Blk} (hi : own[i]? = some (b, k)) (hj : own[j]? = some (b, k')) : i = j := by
  have h1 : (ids own)[i]? = some b := by unfold ids; rw [List.getElem?_map, hi]; rfl
  have h2 : (ids own)[j]? = some b := by unfold ids; rw [List.getElem?_map, hj]; rfl
  have hl : i < (ids own).length := (List.getElem?_eq_some_iff.1 h1).1
  exact (List.getElem?_inj hl h).1 (h1.trans h2.symm)

/-- One block of the call's own gets a new content. -/
theorem Good.write {Γ : Ctx} {own : Own} {w w' : World} {i b : Nat} {k k' : Blk} (hg : Good Γ own w) (hi : own[i]? = some (b, k)) (hf : Fr [b] w w')
    (hn : k'.at w'.heap[b]?) : Good Γ (own.set i (b, k')) w' := by
  have hm : (b, k) ∈ own := List.mem_of_getElem? hi
  have hmine : ∀ x ∈ [b], x ∈ Γ.W ∨ Γ.w0.heap.size ≤ x := fun x hx => by
    have e : x = b := by simpa using hx
    rw [e]; exact hg.mine b k hm
  refine ⟨hg.fr.trans hf hmine, ⟨by rw [ids_set hi]; exact hg.ok.nodup, fun c q hc => ?_⟩, fun c q hc => ?_⟩
  · rcases mem_set_cases hc with h | ⟨j, hj, hjj⟩
    · cases h; exact hn
    · have h1 := hg.ok.blk c q (List.mem_of_getElem? hjj)
      have hne : c ≠ b := fun e => by subst e; exact hj (nodup_idx hg.ok.nodup hjj hi)
      rw [hf.block c (hg.ok.lt (ids_mem (List.mem_of_getElem? hjj))) (by simpa using hne)]; exact h1
  · rcases mem_set_cases hc with h | ⟨j, hj, hjj⟩
    · cases h; exact hg.mine b k hm
    · exact hg.mine c q (List.mem_of_getElem? hjj)

/-- A new block. -/
theorem Good.new {Γ : Ctx} {own : Own} {w : World} (hg : Good Γ own w) (arr : Array Value) (e : TypeId) :
    Good Γ ((w.heap.size, ⟨arr.toList, e, arr.size, none⟩) :: own) (w.alloc (.cells arr e)) ∧ w.heap.size ∉ ids own ∧ Fr [] w (w.alloc (.cells arr e)) := by
  have hfr : Fr [] w (w.alloc (.cells arr e)) := ⟨rfl, rfl, rfl, Nat.le_refl _, by simp, fun k hk _ => heap_alloc_old w _ k hk⟩
  have hno : w.heap.size ∉ ids own := fun h => Nat.lt_irrefl _ (hg.ok.lt h)
  refine ⟨⟨hg.fr.trans hfr (by simp), ⟨?_, fun b k hb => ?_⟩, fun b k hb => ?_⟩, hno, hfr⟩
  · show (w.heap.size :: ids own).Nodup
    exact List.nodup_cons.2 ⟨hno, hg.ok.nodup⟩
  · rcases List.mem_cons.1 hb with h | h
    · cases h; exact Blk.ofRow ⟨arr, heap_alloc_new w _, rfl, fun i v hv => by simpa using hv⟩
    · exact (hg.ok.same hfr).blk b k h
  · rcases List.mem_cons.1 hb with h | h
    · cases h; exact .inr hg.fr.size
    · exact hg.mine b k h

/-! what is seen -/
def Sees (Γ : Ctx) (own : Own) (b o : Nat) (v : Value) : Prop := ∀ w, Good Γ own w → w.cell? ⟨b, o, none⟩ = some v
def SeesL (Γ : Ctx) (own : Own) (b o : Nat) (cs : List Value) : Prop := ∀ j v, cs[j]? = some v → Sees Γ own b (o + j) v

theorem sees_mem {Γ : Ctx} {own : Own} {b o : Nat} {k : Blk} {v : Value} (h : (b, k) ∈ own) (hv : k.cells[o]? = some v) : Sees Γ own b o v :=
  fun _ hg => cell_of_blk hg.ok h hv
theorem sees_at {Γ : Ctx} {own : Own} {b o : Nat} (i : Nat) {k : Blk} {v : Value} (h : own[i]? = some (b, k)) (hv : k.cells[o]? = some v) : Sees Γ own b o v :=
  sees_mem (List.mem_of_getElem? h) hv
theorem sees_old {Γ : Ctx} {own : Own} {b o : Nat} {v : Value} (h : Γ.w0.cell? ⟨b, o, none⟩ = some v) (hb : b ∉ Γ.W) : Sees Γ own b o v :=
  fun _ hg => hg.fr.cell hb h
theorem seesL_at {Γ : Ctx} {own : Own} {b : Nat} (i : Nat) {k : Blk} {cs : List Value} (h : own[i]? = some (b, k)) (hv : k.cells = cs) : SeesL Γ own b 0 cs :=
  fun j v hj => by rw [Nat.zero_add]; exact sees_at i h (by rw [hv]; exact hj)

section
variable {P : Program} {T : Nat → Option TI} {Γ : Ctx} {ops : Array Oper} {Q : (Nat → Value) → Own → Prop} {rest : List Oper} {f : Nat → Value} {own : Own}
variable {ty : TypeId} {pos : String} {aft : Array Edge}

/-! taking a step -/
theorem vops_go {d : Nat} {op : Op} (h : Step P Γ ⟨some d, op, ty, pos, aft, none⟩ f own (fun v own' => VOps P Γ ops Q rest (upd f d v) own')) : VOps P Γ ops Q (⟨some d, op, ty, pos, aft, none⟩ :: rest) f own := h
theorem vops_go0 {op : Op} (h : Step P Γ ⟨none, op, ty, pos, aft, none⟩ f own (fun _ own' => VOps P Γ ops Q rest f own')) : VOps P Γ ops Q (⟨none, op, ty, pos, aft, none⟩ :: rest) f own := h
theorem vops_nil (h : Q f own) : VOps P Γ ops Q [] f own := h

/-- A guarded operation: the guard is known. -/
theorem vops_gon {d : Tmp} {op : Op} {j : Nat} {want : Bool} (hg : gval ops f j = some want)
    (h : VOps P Γ ops Q (⟨some d, op, ty, pos, aft, none⟩ :: rest) f own) : VOps P Γ ops Q (⟨some d, op, ty, pos, aft, some (j, want)⟩ :: rest) f own := by
  have h' : Step P Γ ⟨some d, op, ty, pos, aft, none⟩ f own (fun v own' => VOps P Γ ops Q rest (upd f d v) own') := h
  exact .inl ⟨hg, h'⟩
theorem vops_goff {d : Tmp} {op : Op} {j : Nat} {want b : Bool} (hg : gval ops f j = some b) (hb : b ≠ want)
    (h : VOps P Γ ops Q rest (upd f d undef) own) : VOps P Γ ops Q (⟨some d, op, ty, pos, aft, some (j, want)⟩ :: rest) f own :=
  .inr ⟨by rw [hg]; simpa using hb, h⟩
theorem upd_self (f : Nat → Value) (d : Nat) : upd f d (f d) = f := by
  funext t
  by_cases h : t = d
  · subst h; rw [upd_same]
  · rw [upd_ne _ _ h]
theorem gval_of {j t : Nat} {b : Bool} (hd : (ops[j]?).bind (·.dst) = some t) (hf : f t = .bool b) : gval ops f j = some b := by
  unfold gval; rw [hd]
  show (match f t with | .bool b => some b | _ => none) = some b
  rw [hf]
/-- A guarded operation. -/
theorem vops_guardT {d : Tmp} {op : Op} {j t : Nat} {b : Bool} (hd : (ops[j]?).bind (·.dst) = some t) (hf : f t = .bool b)
    (h : BSplit b (VOps P Γ ops Q (⟨some d, op, ty, pos, aft, none⟩ :: rest) (upd f t (.bool true)) own) (VOps P Γ ops Q rest (upd (upd f t (.bool false)) d undef) own)) :
    VOps P Γ ops Q (⟨some d, op, ty, pos, aft, some (j, true)⟩ :: rest) f own := by
  cases b
  · have := h.2 rfl
    rw [← hf, upd_self] at this
    exact vops_goff (gval_of hd hf) (by decide) this
  · have := h.1 rfl
    rw [← hf, upd_self] at this
    exact vops_gon (gval_of hd hf) this
theorem vops_guardF {d : Tmp} {op : Op} {j t : Nat} {b : Bool} (hd : (ops[j]?).bind (·.dst) = some t) (hf : f t = .bool b)
    (h : BSplit b (VOps P Γ ops Q rest (upd (upd f t (.bool true)) d undef) own) (VOps P Γ ops Q (⟨some d, op, ty, pos, aft, none⟩ :: rest) (upd f t (.bool false)) own)) :
    VOps P Γ ops Q (⟨some d, op, ty, pos, aft, some (j, false)⟩ :: rest) f own := by
  cases b
  · have := h.2 rfl
    rw [← hf, upd_self] at this
    exact vops_gon (gval_of hd hf) this
  · have := h.1 rfl
    rw [← hf, upd_self] at this
    exact vops_goff (gval_of hd hf) (by decide) this

/-- .. whose guard itself was not run. -/
theorem vops_guardU {d : Tmp} {op : Op} {j t : Nat} {want : Bool} (hd : (ops[j]?).bind (·.dst) = some t) (hf : f t = .tuple #[])
    (h : VOps P Γ ops Q rest (upd f d undef) own) : VOps P Γ ops Q (⟨some d, op, ty, pos, aft, some (j, want)⟩ :: rest) f own :=
  .inr ⟨by
    unfold gval; rw [hd]
    show (match f t with | .bool b => some b | _ => none) ≠ some want
    rw [hf]; simp, h⟩

/-- An operation that touches no memory. -/
theorem vops_p (hT : TyOk P T) {d : Nat} {op : Op} {c : Prop} {v : Value} (h : aexec T f op = some (c, v)) (hc : c) (k : VOps P Γ ops Q rest (upd f d v) own) :
    VOps P Γ ops Q (⟨some d, op, ty, pos, aft, none⟩ :: rest) f own :=
  vops_go fun w hg => by rw [aexec_sound hT h hc]; exact ⟨own, hg, stay w, k⟩
/-- .. where no condition is. -/
theorem vops_q (hT : TyOk P T) {d : Nat} {op : Op} {v : Value} (h : aexec T f op = some (True, v)) (k : VOps P Γ ops Q rest (upd f d v) own) :
    VOps P Γ ops Q (⟨some d, op, ty, pos, aft, none⟩ :: rest) f own := vops_p hT h trivial k

theorem sizeAgg {t : Nat} {i : TI} (hT : TyOk P T) (ht : T t = some i) (ha : i.isAgg = true) (w : World) : (isAgg t).run P w = .ok true w := by
  obtain ⟨d, hd, hf⟩ := (hT t i ht).desc
  unfold isAgg
  rw [Sem.run_bind, run_underlying hd]
  cases hs : i.sh <;> simp only [TI.isAgg, hs, Bool.false_eq_true] at ha <;> simp only [hs, Sh.fits] at hf
  · subst hf; rfl
  · obtain ⟨fields, rfl, _⟩ := hf; rfl

theorem run_loadCells {w : World} {b o : Nat} : ∀ (cs : List Value) (i : Nat) (acc : Array Value), (∀ j v, cs[j]? = some v → w.cell? ⟨b, o + (i + j), none⟩ = some v) →
    (loadCellsFrom ⟨b, o, none⟩ i cs.length acc).run P w = .ok (acc ++ cs.toArray) w := by
  intro cs
  induction cs with
  | nil => intro i acc _; simp [loadCellsFrom]
  | cons v cs ih =>
    intro i acc h
    have h0 : w.cell? ((⟨b, o, none⟩ : Addr).add i) = some v := by rw [Addr.add_lit]; exact h 0 v rfl
    simp only [List.length_cons, loadCellsFrom]
    rw [Sem.run_bind, run_load, h0]
    show (loadCellsFrom ⟨b, o, none⟩ (i + 1) cs.length (acc.push v)).run P w = _
    rw [ih (i + 1) (acc.push v) fun j u hu => by have := h (j + 1) u hu; rwa [show i + (j + 1) = i + 1 + j by omega] at this]
    simp

theorem vops_load (hT : TyOk P T) {d : Nat} {t : Nat} {x : Operand} {i : TI} {b o : Nat} {v : Value} (ht : T t = some i) (hp : i.plain = true) (hx : ev f x = .pointer (some ⟨b, o, none⟩)) (hs : Sees Γ own b o v)
    (k : VOps P Γ ops Q rest (upd f d v) own) : VOps P Γ ops Q (⟨some d, .load t x, ty, pos, aft, none⟩ :: rest) f own :=
  vops_go fun w hg => by
    show RunsTo P ((Instr.loadAt t (ev f x) >>= fun v => pure (Next.value v)).run P w) _
    have : (Instr.loadAt t (ev f x)).run P w = .ok v w := by
      rw [hx]
      show (loadVar t ⟨b, o, none⟩).run P w = _
      unfold loadVar
      rw [Sem.run_bind, isAgg_plain hT ht hp, Result.andThen_ok, if_neg (by simp), run_load, hs w hg]
    rw [run_val, this]
    exact ⟨own, hg, stay w, k⟩

theorem vops_loadN (hT : TyOk P T) {d : Nat} {t : Nat} {x : Operand} {i : TI} {b o : Nat} (cs : List Value) (ht : T t = some i) (ha : i.isAgg = true) (hx : ev f x = .pointer (some ⟨b, o, none⟩)) (hn : cs.length = i.size) (hs : SeesL Γ own b o cs)
    (k : VOps P Γ ops Q rest (upd f d (.agg cs.toArray)) own) : VOps P Γ ops Q (⟨some d, .load t x, ty, pos, aft, none⟩ :: rest) f own :=
  vops_go fun w hg => by
    show RunsTo P ((Instr.loadAt t (ev f x) >>= fun v => pure (Next.value v)).run P w) _
    have : (Instr.loadAt t (ev f x)).run P w = .ok (.agg cs.toArray) w := by
      rw [hx]
      show (loadVar t ⟨b, o, none⟩).run P w = _
      unfold loadVar
      rw [Sem.run_bind, sizeAgg hT ht ha, Result.andThen_ok, if_pos rfl, Sem.run_bind, hT.size ht, Result.andThen_ok, Sem.run_bind]
      unfold loadCells
      rw [← hn, run_loadCells cs 0 #[] (fun j v hv => by rw [Nat.zero_add]; exact hs j v hv w hg)]
      simp
    rw [run_val, this]
    exact ⟨own, hg, stay w, k⟩

/-! new blocks -/
theorem run_zero {t : Nat} {i : TI} (hT : TyOk P T) (ht : T t = some i) (hz : i.zero ≠ []) (w : World) : ∃ z : Value, (zeroValue t).run P w = .ok z w ∧ z.cells.toList = i.zero := by
  obtain ⟨x, hx, _, _, h | ⟨z, hz1, hz2⟩⟩ := (hT t i ht).info
  · exact absurd h hz
  · exact ⟨z, by simp [zeroValue, typeInfo, hx, hz1], hz2⟩

theorem vops_alloc (hT : TyOk P T) {d : Nat} {t : Nat} {i : TI} (ht : T t = some i) (hz : i.zero ≠ [])
    (k : ∀ b, b ∉ ids own → VOps P Γ ops Q rest (upd f d (.pointer (some ⟨b, 0, none⟩))) ((b, ⟨i.zero, t, i.zero.length, none⟩) :: own)) :
    VOps P Γ ops Q (⟨some d, .alloc t, ty, pos, aft, none⟩ :: rest) f own :=
  vops_go fun w hg => by
    obtain ⟨z, hz1, hz2⟩ := run_zero hT ht hz w
    show RunsTo P ((Instr.alloc t true (.tuple #[]) >>= fun v => pure (Next.value v)).run P w) _
    have : (Instr.alloc t true (.tuple #[])).run P w = .ok (.pointer (some ⟨w.heap.size, 0, none⟩)) (w.alloc (.cells z.cells t)) := by
      unfold Instr.alloc
      rw [Sem.run_bind, hz1, Result.andThen_ok]
      rfl
    rw [run_val, this]
    obtain ⟨g1, g2, g3⟩ := hg.new z.cells t
    refine ⟨_, g1, ⟨g3.mono (by simp), fun c hc => ?_⟩, ?_⟩
    · rcases List.mem_cons.1 hc with h | h
      · exact .inr (Nat.le_of_eq h.symm)
      · exact .inl h
    have e : z.cells.size = i.zero.length := by rw [← hz2]; simp
    rw [hz2, e]
    exact k _ g2

theorem vops_box {d : Nat} {t : Nat} {x : Operand} (cs : List Value) (hx : (ev f x).cells.toList = cs)
    (k : ∀ b, b ∉ ids own → VOps P Γ ops Q rest (upd f d (.pointer (some ⟨b, 0, none⟩))) ((b, ⟨cs, t, cs.length, none⟩) :: own)) :
    VOps P Γ ops Q (⟨some d, .box t x, ty, pos, aft, none⟩ :: rest) f own :=
  vops_go fun w hg => by
    show RunsTo P ((Instr.box t (ev f x) >>= fun v => pure (Next.value v)).run P w) _
    have : (Instr.box t (ev f x)).run P w = .ok (.pointer (some ⟨w.heap.size, 0, none⟩)) (w.alloc (.cells (ev f x).cells t)) := rfl
    rw [run_val, this]
    obtain ⟨g1, g2, g3⟩ := hg.new (ev f x).cells t
    refine ⟨_, g1, ⟨g3.mono (by simp), fun c hc => ?_⟩, ?_⟩
    · rcases List.mem_cons.1 hc with h | h
      · exact .inr (Nat.le_of_eq h.symm)
      · exact .inl h
    have e : (ev f x).cells.size = cs.length := by rw [← hx]; simp
    rw [hx, e]
    exact k _ g2

/-! stores -/
def Value.one : Value → Bool
  | .agg _ | .tuple _ => false
  | _ => true

theorem fr_setCell (w : World) (b o : Nat) (v : Value) : Fr [b] w (w.setCell ⟨b, o, none⟩ v) :=
  ⟨rfl, rfl, rfl, Nat.le_refl _, by simp, fun k hk hb => by
    refine heap_setCell_other w _ k v ?_
    simpa using hb⟩

theorem Good.setCell {w : World} (hg : Good Γ own w) {i b o : Nat} {k : Blk} (hi : own[i]? = some (b, k)) (hk : k.obj = none) (v : Value) :
    Good Γ (own.set i (b, ⟨k.cells.set o v, k.elem, k.size, none⟩)) (w.setCell ⟨b, o, none⟩ v) := by
  obtain ⟨arr, h1, h2, h3⟩ := hg.ok.row (List.mem_of_getElem? hi) hk
  refine hg.write hi (fr_setCell w b o v) <| Blk.ofRow ⟨arr.setIfInBounds o v, heap_setCell_same w b o arr k.elem v h1, by simpa using h2, fun j u hu => ?_⟩
  show (arr.setIfInBounds o v)[j]? = some u
  have hu' : (k.cells.set o v)[j]? = some u := hu
  by_cases hj : o = j
  · subst hj
    rw [List.getElem?_set] at hu'
    simp only [if_true] at hu'
    split at hu'
    · rename_i hlt
      obtain ⟨u0, hu0⟩ : ∃ u0, k.cells[o]? = some u0 := ⟨_, List.getElem?_eq_getElem hlt⟩
      have := h3 o u0 hu0
      have hlt2 := (Array.getElem?_eq_some_iff.1 this).1
      rw [Array.getElem?_setIfInBounds_self_of_lt hlt2]; exact hu'
    · cases hu'
  · rw [List.getElem?_set_ne hj] at hu'
    rw [Array.getElem?_setIfInBounds_ne hj]
    exact h3 j u hu'

theorem vops_store (hT : TyOk P T) {t : Nat} {x y : Operand} {b o : Nat} {v : Value} {ti : TI} {k : Blk} (i : Nat) (ht : T t = some ti) (hp : ti.size = 1) (hx : ev f x = .pointer (some ⟨b, o, none⟩)) (hy : ev f y = v) (hv : Value.one v = true)
    (hi : own[i]? = some (b, k)) (hlt : o < k.cells.length)
    (kk : VOps P Γ ops Q rest f (own.set i (b, ⟨k.cells.set o v, k.elem, k.size, none⟩))) : VOps P Γ ops Q (⟨none, .store t x y, ty, pos, aft, none⟩ :: rest) f own :=
  vops_go0 fun w hg => by
    show RunsTo P ((do Instr.storeAt t (ev f x) (ev f y); pure Next.skip : Sem Next).run P w) _
    have hm := List.mem_of_getElem? hi
    have hkk := hg.ok.rowLt hm hlt
    obtain ⟨arr, h1, h2, h3⟩ := hg.ok.row hm hkk
    obtain ⟨u0, hu0⟩ : ∃ u0, k.cells[o]? = some u0 := ⟨_, List.getElem?_eq_getElem hlt⟩
    have hc : w.cell? ⟨b, o, none⟩ = some u0 := cell_of_blk hg.ok hm hu0
    have hfz : w.frozen? ⟨b, o, none⟩ = false := frozen_of_row w b o arr k.elem h1
    have hcells : v.cells = #[v] := by cases v <;> first | rfl | cases hv
    have hone : v.oneCell' = true := by cases v <;> first | rfl | cases hv
    have : (Instr.storeAt t (ev f x) (ev f y)).run P w = .ok () (w.setCell ⟨b, o, none⟩ v) := by
      rw [hx, hy]
      show (storeVar t ⟨b, o, none⟩ v).run P w = _
      unfold storeVar
      rw [Sem.run_bind, hT.size ht, Result.andThen_ok, hcells, hp]
      show (storeCells ⟨b, o, none⟩ [v] 0).run P w = _
      unfold storeCells
      rw [Sem.run_bind]
      have hs : (store ((⟨b, o, none⟩ : Addr).add 0) v).run P w = .ok () (w.setCell ⟨b, o, none⟩ v) := by
        rw [show (⟨b, o, none⟩ : Addr).add 0 = ⟨b, o, none⟩ from rfl, run_store P w _ v _ hone]
        simp [hc, hfz]
      rw [hs]; rfl
    rw [Sem.run_bind, this]
    exact ⟨_, hg.setCell hi hkk v, ⟨(fr_setCell w b o v).mono (fun x hx => by
      have e : x = b := by simpa using hx
      rw [e]; exact ids_mem hm), fun c hc => .inl (by rwa [ids_set hi] at hc)⟩, kk⟩
end
end Go.VL

/- A part of the proof: Call. No conditions of its own. -/
namespace Go.VL
open Go.RowKit

/-! calls -/
def Ent (P : Program) (g : Nat) : Prop := ∃ fn : Func, P.funcs[g]? = some fn ∧ (fn.name == "runtime.NumGoroutine") = false ∧ fn.body.isNone = false

theorem run_callFunc {P : Program} {g : Nat} (h : Ent P g) (args : Array Value) (w : World) : (callFunc g args).run P w = .ok (.enter g args) w := by
  obtain ⟨fn, h1, h2, h3⟩ := h
  unfold callFunc
  rw [Sem.run_bind, run_program, Result.andThen_ok]
  simp only [h1, h2, h3]
  rfl

theorem run_callOp {P : Program} {g : Nat} (h : Ent P g) (f : Nat → Value) (d : Option Tmp) (l : List Operand) (atys : Array TypeId) (ty : TypeId) (pos : String) (aft : Array Edge) (gd : Option (Nat × Bool)) (w : World) {as : List Value} (ha : l.map (ev f) = as) :
    (execOp (ev f) ⟨d, .call ⟨.value (.func g), l.toArray, atys⟩, ty, pos, aft, gd⟩).run P w = .ok (.enter g as.toArray) w := by
  show (do let d ← (pure { target := .fn (.func g) #[], args := #[] ++ l.toArray.map (ev f) } : Sem Deferred); invoke d.target d.args : Sem Next).run P w = _
  rw [Sem.run_bind, Sem.run_pure, Result.andThen_ok]
  show (callFunc g ((#[] ++ l.toArray.map (ev f)) ++ #[])).run P w = _
  rw [run_callFunc h]
  simp [ha]

/-- What a call that writes nothing of what was there comes to: a value, new blocks, and what is said of both. -/
def Res (w : World) (S : Value → Own → Prop) : Ending → World → Prop :=
  fun e w' => ∃ v new, e = .returned v ∧ Fr [] w w' ∧ OwnOk new w' ∧ (∀ b ∈ ids new, w.heap.size ≤ b) ∧ S v new
def Is (v : Value) : Value → Own → Prop := fun v' new => v' = v ∧ new = []

theorem Res.pure {w w' : World} {v : Value} (h : Fr [] w w') : Res w (Is v) (.returned v) w' :=
  ⟨v, [], rfl, h, ⟨List.nodup_nil, fun _ _ h => (by simp at h)⟩, fun _ h => (by simp [ids] at h), rfl, rfl⟩

theorem Good.join {Γ : Ctx} {own new : Own} {w w' : World} (hg : Good Γ own w) (hf : Fr [] w w') (hn : OwnOk new w') (hi : ∀ b ∈ ids new, w.heap.size ≤ b) : Good Γ (new ++ own) w' := by
  have h1 := hg.same hf
  refine ⟨h1.fr, ⟨?_, fun b k hb => ?_⟩, fun b k hb => ?_⟩
  · show (List.map Prod.fst (new ++ own)).Nodup
    rw [List.map_append]
    refine List.nodup_append.2 ⟨hn.nodup, h1.ok.nodup, fun x hx y hy e => ?_⟩
    subst e
    exact Nat.lt_irrefl _ (Nat.lt_of_lt_of_le (hg.ok.lt hy) (hi x hx))
  · rcases List.mem_append.1 hb with h | h
    · exact hn.blk b k h
    · exact h1.ok.blk b k h
  · rcases List.mem_append.1 hb with h | h
    · exact .inr (Nat.le_trans hg.fr.size (hi b (ids_mem h)))
    · exact h1.mine b k h

/-- A call that may write blocks that were there: those of own0. -/
def ResM (w : World) (own0 : Own) (S : Value → Own → Prop) : Ending → World → Prop :=
  fun e w' => ∃ v new, e = .returned v ∧ Fr (ids own0) w w' ∧ OwnOk new w' ∧ (∀ b ∈ ids new, b ∈ ids own0 ∨ w.heap.size ≤ b) ∧ S v new

theorem OwnOk.sub {own new : Own} {w : World} (h : OwnOk own w) (hn : (ids new).Nodup) (hs : ∀ p ∈ new, p ∈ own) : OwnOk new w :=
  ⟨hn, fun b k hb => h.blk b k (hs _ hb)⟩

theorem Good.joinM {Γ : Ctx} {own0 own new : Own} {w w' : World} (hg : Good Γ (own0 ++ own) w) (hf : Fr (ids own0) w w') (hn : OwnOk new w') (hi : ∀ b ∈ ids new, b ∈ ids own0 ∨ w.heap.size ≤ b) : Good Γ (new ++ own) w' := by
  have hnd : (ids own0 ++ ids own).Nodup := by have := hg.ok.nodup; rwa [ids, List.map_append] at this
  have hdis : ∀ x ∈ ids own0, ∀ y ∈ ids own, x ≠ y := (List.nodup_append.1 hnd).2.2
  have hold : ∀ b k, (b, k) ∈ own → b ∉ ids own0 := fun b k hb h => hdis b h b (ids_mem hb) rfl
  have hlt : ∀ b k, (b, k) ∈ own → b < w.heap.size := fun b k hb => hg.ok.lt (ids_mem (List.mem_append_right _ hb))
  refine ⟨hg.fr.trans hf (fun x hx => ?_), ⟨?_, fun b k hb => ?_⟩, fun b k hb => ?_⟩
  · obtain ⟨k, hk⟩ := mem_ids hx
    exact hg.mine x k (List.mem_append_left _ hk)
  · show (List.map Prod.fst (new ++ own)).Nodup
    rw [List.map_append]
    refine List.nodup_append.2 ⟨hn.nodup, (List.nodup_append.1 hnd).2.1, fun x hx y hy e => ?_⟩
    subst e
    obtain ⟨k, hk⟩ := mem_ids hy
    rcases hi x hx with h | h
    · exact hdis x h x hy rfl
    · exact Nat.lt_irrefl _ (Nat.lt_of_lt_of_le (hlt x k hk) h)
  · rcases List.mem_append.1 hb with h | h
    · exact hn.blk b k h
    · rw [hf.block b (hlt b k h) (hold b k h)]
      exact hg.ok.blk b k (List.mem_append_right _ h)
  · rcases List.mem_append.1 hb with h | h
    · rcases hi b (ids_mem h) with h' | h'
      · obtain ⟨k', hk'⟩ := mem_ids h'
        exact hg.mine b k' (List.mem_append_left _ hk')
      · exact .inr (Nat.le_trans hg.fr.size h')
    · exact hg.mine b k (List.mem_append_right _ h)

section
variable {P : Program} {T : Nat → Option TI} {Γ : Ctx} {ops : Array Oper} {Q : (Nat → Value) → Own → Prop} {rest : List Oper} {f : Nat → Value} {own : Own}
variable {ty : TypeId} {pos : String} {aft : Array Edge}

theorem vops_call {d g : Nat} {l : List Operand} {atys : Array TypeId} {as : List Value} {S : Value → Own → Prop} (he : Ent P g) (ha : l.map (ev f) = as)
    (h : ∀ w, Good Γ own w → Calls P g as.toArray w (Res w S)) (k : ∀ v new, S v new → VOps P Γ ops Q rest (upd f d v) (new ++ own)) :
    VOps P Γ ops Q (⟨some d, .call ⟨.value (.func g), l.toArray, atys⟩, ty, pos, aft, none⟩ :: rest) f own :=
  vops_go fun w hg => by
    rw [run_callOp he f _ l atys ty pos aft none w ha]
    exact (h w hg).mono fun e w' ⟨v, new, he, h1, h2, h3, h4⟩ => ⟨v, he, new ++ own, hg.join h1 h2 h3, ⟨h1.mono (by simp), fun b hb => by
      have hb' : b ∈ ids new ++ ids own := by rwa [ids, List.map_append] at hb
      rcases List.mem_append.1 hb' with h | h
      · exact .inr (h3 b h)
      · exact .inl h⟩, k v new h4⟩
theorem vops_callp {d g : Nat} {l : List Operand} {atys : Array TypeId} {as : List Value} {v : Value} (he : Ent P g) (ha : l.map (ev f) = as)
    (h : ∀ w, Good Γ own w → Calls P g as.toArray w (Res w (Is v))) (k : VOps P Γ ops Q rest (upd f d v) own) :
    VOps P Γ ops Q (⟨some d, .call ⟨.value (.func g), l.toArray, atys⟩, ty, pos, aft, none⟩ :: rest) f own :=
  vops_call he ha h fun v' new ⟨h1, h2⟩ => by subst h1; subst h2; exact k
theorem vops_callM {d g : Nat} {l : List Operand} {atys : Array TypeId} {as : List Value} {own0 own1 : Own} {S : Value → Own → Prop} (he : Ent P g) (ha : l.map (ev f) = as)
    (hp : own.Perm (own0 ++ own1))
    (h : ∀ w, Good Γ (own0 ++ own1) w → Calls P g as.toArray w (ResM w own0 S)) (k : ∀ v new, S v new → VOps P Γ ops Q rest (upd f d v) (new ++ own1)) :
    VOps P Γ ops Q (⟨some d, .call ⟨.value (.func g), l.toArray, atys⟩, ty, pos, aft, none⟩ :: rest) f own :=
  vops_go fun w hg => by
    have hg' : Good Γ (own0 ++ own1) w := ⟨hg.fr, ⟨(hp.map Prod.fst).nodup_iff.1 hg.ok.nodup, fun b k hb => hg.ok.blk b k (hp.mem_iff.2 hb)⟩, fun b k hb => hg.mine b k (hp.mem_iff.2 hb)⟩
    rw [run_callOp he f _ l atys ty pos aft none w ha]
    have hin : ∀ x ∈ ids own0 ++ ids own1, x ∈ ids own := fun x hx => by
      have e : ids (own0 ++ own1) = ids own0 ++ ids own1 := List.map_append
      exact (hp.map Prod.fst).mem_iff.2 (by rw [← e] at hx; exact hx)
    exact (h w hg').mono fun e w' ⟨v, new, he, h1, h2, h3, h4⟩ => ⟨v, he, new ++ own1, hg'.joinM h1 h2 h3, ⟨h1.mono fun x hx => hin x (List.mem_append_left _ hx), fun b hb => by
      have hb' : b ∈ ids new ++ ids own1 := by rwa [ids, List.map_append] at hb
      rcases List.mem_append.1 hb' with h | h
      · rcases h3 b h with h' | h'
        · exact .inl (hin b (List.mem_append_left _ h'))
        · exact .inr h'
      · exact .inl (hin b (List.mem_append_right _ h))⟩, k v new h4⟩

theorem Good.perm {own own' : Own} {w : World} (hg : Good Γ own w) (hp : own.Perm own') : Good Γ own' w :=
  ⟨hg.fr, ⟨(hp.map Prod.fst).nodup_iff.1 hg.ok.nodup, fun b k hb => hg.ok.blk b k (hp.mem_iff.2 hb)⟩, fun b k hb => hg.mine b k (hp.mem_iff.2 hb)⟩
/-- The order of what is owned does not matter. -/
theorem vw_perm {ro : Option Nat} {n : Nat} {c : Code} {Q : Post} {own' : Own} (hp : own.Perm own') (h : VWr ro P Γ n c Q f own') : VWr ro P Γ n c Q f own :=
  fun a w ha hg hm => h a w ha (hg.perm hp) (hm.sub fun _ hb => (hp.map Prod.fst).mem_iff.2 hb)
theorem vw_drop {ro : Option Nat} {n : Nat} {c : Code} {Q : Post} {own' : Own} (hp : own'.Sublist own) (h : VWr ro P Γ n c Q f own') : VWr ro P Γ n c Q f own :=
  fun a w ha hg hm => h a w ha ⟨hg.fr, hg.ok.sub ((hp.map Prod.fst).nodup hg.ok.nodup) (fun _ hp' => hp.subset hp'), fun b k hb => hg.mine b k (hp.subset hb)⟩ (hm.sub fun _ hb => (hp.map Prod.fst).subset hb)

/-! a function, entered and left -/
def fr0 : List Value → Nat → Value
  | [], _ => undef
  | v :: _, 0 => v
  | _ :: r, t + 1 => fr0 r t
theorem fr0_eq : ∀ (as : List Value) (t : Nat), fr0 as t = as.getD t undef
  | [], t => by simp [fr0]
  | v :: r, 0 => by simp [fr0]
  | v :: r, t + 1 => by rw [fr0, fr0_eq r t]; simp

theorem fr_start (as : List Value) (n : Nat) (hl : as.length ≤ n) : FR n (fr0 as) ⟨as.toArray ++ Array.replicate (n - as.toArray.size) undef, []⟩ := by
  refine ⟨by simp; omega, fun t => ?_⟩
  rw [fr0_eq]
  by_cases h : t < as.length
  · simp [Array.getElem?_append, h]
  · have h' : as.length ≤ t := by omega
    by_cases h2 : t < n
    · simp [Array.getElem?_append, h, show t - as.length < n - as.length by omega]
    · simp [Array.getElem?_append, h, show ¬ t - as.length < n - as.length by omega]

/-- How the results are read. -/
def RV (P : Program) (Γ : Ctx) (n : Nat) (fn : Func) (f : Nat → Value) (own : Own) (v : Value) : Prop :=
  ∀ a w, FR n f a → Good Γ own w → (results fn a.tmps).run P w = .ok v w

/-- What is asked of the end of a body. -/
@[reducible] def Out (P : Program) (Γ : Ctx) (n : Nat) (fn : Func) (S : Value → Own → Prop) : Post
  | .ret, f, own | .normal, f, own => ∃ v new, RV P Γ n fn f own v ∧ (ids new).Nodup ∧ (∀ p ∈ new, p ∈ own) ∧ S v new
  | _, _, _ => False

/-- The marks are taken off; then the results are read. -/
theorem leaves_marks {fn : Func} {tmps : Array Value} {R : Ending → World → Prop} : ∀ (rs : List Nat) (w : World), rs.Nodup → (∀ r ∈ rs, w.heap[r]? = some (.deferred (some []))) →
    (∀ w', Fr rs w w' → ∃ v, (results fn tmps).run P w' = .ok v w' ∧ R (.returned v) w') → LeavesInM Fence.wide 0 P fn tmps R (rs.map mark) .returning w
  | [], w, _, _, h => h w (Fr.refl _ _)
  | r :: rs, w, hn, hr, h => by
    have hr0 := hr r List.mem_cons_self
    have hn' := List.nodup_cons.1 hn
    have hfr : Fr [r] w (w.putObj r (.deferred none)) := ⟨rfl, rfl, rfl, Nat.le_refl _, by simp, fun b _ hb => World.putObj_heap_other (by simpa using hb)⟩
    refine ⟨by simp, .inl ⟨r, _, rfl, run_takeDeferred hr0, leaves_marks rs _ hn'.2 (fun q hq => ?_) fun w' hf => h w' ?_⟩⟩
    · rw [World.putObj_heap_other (fun e : q = r => hn'.1 (by rw [← e]; exact hq))]
      exact hr q (List.mem_cons_of_mem _ hq)
    · exact (hfr.mono (m := r :: rs) (fun x hx => by simp at hx; simp [hx])).trans hf (fun x hx => .inl (List.mem_cons_of_mem _ hx))
theorem Good.marks {own : Own} {w w' : World} {rs : List Nat} (hg : Good Γ own w) (hr : ∀ r ∈ rs, r ∉ ids own ∧ Γ.w0.heap.size ≤ r) (hf : Fr rs w w') : Good Γ own w' :=
  ⟨⟨hf.os.trans hg.fr.os, hf.tape.trans hg.fr.tape, hf.output.trans hg.fr.output, Nat.le_trans hg.fr.drawn hf.drawn, Nat.le_trans hg.fr.size hf.size, fun b hb hw => (hf.block b (Nat.lt_of_lt_of_le hb hg.fr.size) (fun hm => by have := (hr b hm).2; omega)).trans (hg.fr.block b hb hw)⟩,
   ⟨hg.ok.nodup, fun b k hb => by rw [hf.block b (hg.ok.lt (ids_mem hb)) (fun hm => (hr b hm).1 (ids_mem hb))]; exact hg.ok.blk b k hb⟩, hg.mine⟩
theorem leaves_of_vw {own0 : Own} {w0 : World} {fn : Func} {n : Nat} {S : Value → Own → Prop} {a : Act} {w : World} {f : Nat → Value} {own : Own} (h1 : FR n f a) (h2 : Good ⟨w0, ids own0⟩ own w) (hm : Mk none ⟨w0, ids own0⟩ own a.defers w)
    (h3 : ∃ v new, RV P ⟨w0, ids own0⟩ n fn f own v ∧ (ids new).Nodup ∧ (∀ p ∈ new, p ∈ own) ∧ S v new) : LeavesInM Fence.wide 0 P fn a.tmps (ResM w0 own0 S) a.defers .returning w := by
  obtain ⟨v, new, hr, hnd, hs, hS⟩ := h3
  obtain ⟨_, rs, e, hrn, hrs⟩ := hm
  rw [e]
  refine leaves_marks rs w hrn (fun r hr => (hrs r hr).1) fun w' hf => ?_
  have h2' := h2.marks (fun r hr => (hrs r hr).2) hf
  refine ⟨v, hr a w' h1 h2', v, new, rfl, h2'.fr, h2'.ok.sub hnd hs, fun b hb => ?_, hS⟩
  obtain ⟨k, hk⟩ := mem_ids hb
  exact h2'.mine b k (hs _ hk)

theorem calls_of_vwM {g n : Nat} {fn : Func} {c : Code} {as : List Value} {w : World} {own0 : Own} {S : Value → Own → Prop} (hf : P.funcs[g]? = some fn) (hb : fn.body = some c) (hn : fn.ntmps = n) (hl : as.length ≤ n)
    (ho : OwnOk own0 w) (h : VW P ⟨w, ids own0⟩ n c (Out P ⟨w, ids own0⟩ n fn S) (fr0 as) own0) : Calls P g as.toArray w (ResM w own0 S) := by
  refine callsIn_wide.1 (callsIn_of_wp_marks (n := 0) hf hb trivial ?_)
  rw [hn]
  refine wpIn_mono (h _ w (fr_start as n hl) ⟨Fr.refl _ _, ho, fun b k hb => .inl (ids_mem hb)⟩ (Mk.nil _ _ _ _)) ?_
  rintro e a w' ⟨f, own, h1, h2, hm, h3⟩
  cases e with
  | normal => exact leaves_of_vw h1 h2 hm h3
  | ret => exact leaves_of_vw h1 h2 hm h3
  | _ => exact h3.elim

theorem calls_of_vw {g n : Nat} {fn : Func} {c : Code} {as : List Value} {w : World} {S : Value → Own → Prop} (hf : P.funcs[g]? = some fn) (hb : fn.body = some c) (hn : fn.ntmps = n) (hl : as.length ≤ n)
    (h : VW P ⟨w, []⟩ n c (Out P ⟨w, []⟩ n fn S) (fr0 as) []) : Calls P g as.toArray w (Res w S) := by
  refine (calls_of_vwM (own0 := []) hf hb hn hl ⟨List.nodup_nil, fun _ _ h => by cases h⟩ h).mono ?_
  rintro e w' ⟨v, new, rfl, h1, h2, h3, h4⟩
  exact ⟨v, new, rfl, h1, h2, fun b hb => (h3 b hb).resolve_left (by simp [ids]), h4⟩

theorem rv_tmp {n t : Nat} {fn : Func} {v : Value} (h : fn.results = #[.tmp t]) (hv : f t = v) : RV P Γ n fn f own v :=
  fun a w ha _ => by rw [results_tmp h, ha.get t, hv]
theorem rv_tmp2 {n t u : Nat} {fn : Func} {v x : Value} (h : fn.results = #[.tmp t, .tmp u]) (hv : f t = v) (hx : f u = x) : RV P Γ n fn f own (.tuple #[v, x]) :=
  fun a w ha _ => by rw [results_tmp2 h, ha.get t, ha.get u, hv, hx]

theorem rv_one {n t : Nat} {fn : Func} {v : Value} {S : Value → Own → Prop} (h : fn.results = #[.tmp t]) (hv : f t = v) (hS : S v []) : Out P Γ n fn S .ret f own :=
  ⟨v, [], rv_tmp h hv, List.nodup_nil, fun _ h => (by simp at h), hS⟩
theorem rv_bool {n t : Nat} {fn : Func} {b b' : Bool} (h : fn.results = #[.tmp t]) (hv : f t = .bool b) (hb : b = b') : Out P Γ n fn (Is (.bool b')) .ret f own :=
  rv_one h hv ⟨by rw [hb], rfl⟩
theorem rv_int {n t : Nat} {fn : Func} {k : IntKind} {b b' : Int} (h : fn.results = #[.tmp t]) (hv : f t = .int k b) (hb : b = b') : Out P Γ n fn (Is (.int k b')) .ret f own :=
  rv_one h hv ⟨by rw [hb], rfl⟩

theorem run_loadVarN {w : World} (hT : TyOk P T) {t : Nat} {i : TI} {b o : Nat} (cs : List Value) (ht : T t = some i) (ha : i.isAgg = true) (hn : cs.length = i.size) (hs : SeesL Γ own b o cs) (hg : Good Γ own w) :
    (loadVar t ⟨b, o, none⟩).run P w = .ok (.agg cs.toArray) w := by
  unfold loadVar
  rw [Sem.run_bind, sizeAgg hT ht ha, Result.andThen_ok, if_pos rfl, Sem.run_bind, hT.size ht, Result.andThen_ok, Sem.run_bind]
  unfold loadCells
  rw [← hn, run_loadCells cs 0 #[] (fun j v hv => by rw [Nat.zero_add]; exact hs j v hv w hg)]
  simp

/-- One result, in a cell. -/
theorem rv_cell (hT : TyOk P T) {n p t b o : Nat} {i : TI} {fn : Func} {cs : List Value} (h : fn.results = #[.cell p t]) (hp : f p = .pointer (some ⟨b, o, none⟩)) (ht : T t = some i) (ha : i.isAgg = true) (hn : cs.length = i.size) (hs : SeesL Γ own b o cs) :
    RV P Γ n fn f own (.agg cs.toArray) :=
  fun a w ha' hg => by
    have := run_loadVarN hT cs ht ha hn hs hg
    have hq := ha'.get p
    simp only [Array.getD_eq_getD_getElem?] at hq
    simp [results, h, hq, hp, asAddr, this]
/-- Two results, the first one in a cell. -/
theorem rv_cell2 (hT : TyOk P T) {n p t b o u : Nat} {i : TI} {fn : Func} {cs : List Value} {x : Value} (h : fn.results = #[.cell p t, .tmp u]) (hp : f p = .pointer (some ⟨b, o, none⟩)) (ht : T t = some i) (ha : i.isAgg = true) (hn : cs.length = i.size) (hs : SeesL Γ own b o cs) (hx : f u = x) :
    RV P Γ n fn f own (.tuple #[.agg cs.toArray, x]) :=
  fun a w ha' hg => by
    have := run_loadVarN hT cs ht ha hn hs hg
    have hu := ha'.get u
    have hq := ha'.get p
    simp only [Array.getD_eq_getD_getElem?] at hu hq
    simp [results, h, hq, hp, asAddr, this, hu, hx]
end

end Go.VL

/- A part of the proof: Arr. No conditions of its own. -/
namespace Go.VL
open Go.RowKit
def ints (r : List Int) : List Value := r.map (Value.int .i64)
theorem ints_length (r : List Int) : (ints r).length = r.length := by simp [ints]
theorem ints_get {r : List Int} {i : Nat} (h : i < r.length) : (ints r)[i]? = some (.int .i64 (r.getD i 0)) := by
  simp [ints, h]

theorem ints_get0 {r : List Int} {i : Nat} (h : i < r.length) : (ints r)[0 + i]? = some (.int .i64 (r.getD i 0)) := by rw [Nat.zero_add]; exact ints_get h
theorem upd_of {f : Nat → Value} {d : Nat} {v : Value} (h : f d = v) : f = upd f d v := by rw [← h]; exact (upd_self f d).symm

theorem all_step {p : Nat → Prop} {a : Int} (ha : 0 ≤ a) (h : ∀ j : Nat, (j : Int) < a → p j) (h1 : p a.toNat) : ∀ j : Nat, (j : Int) < a + 1 → p j := fun j hj => by
  by_cases hja : (j : Int) < a
  · exact h j hja
  · have : j = a.toNat := by omega
    rw [this]; exact h1

theorem run_forIn_list {P : Program} (w : World) (g : Nat → Option Bool × Unit → Sem (ForInStep (Option Bool × Unit))) (c : Nat → Bool) :
    ∀ (l : List Nat), (∀ i ∈ l, (g i (none, ())).run P w = .ok (if c i then .yield (none, ()) else .done (some false, ())) w) →
    (forIn l (none, ()) g).run P w = .ok (if l.all c then (none, ()) else (some false, ())) w
  | [], _ => by simp
  | i :: l, h => by
    have h0 := h i (by simp)
    have ih := run_forIn_list w g c l (fun j hj => h j (by simp [hj]))
    rw [List.forIn_cons, Sem.run_bind, h0, Result.andThen_ok]
    cases hc : c i
    · simp [hc]
    · simp [hc, ih]
theorem run_forIn_range {P : Program} (w : World) (g : Nat → Option Bool × Unit → Sem (ForInStep (Option Bool × Unit))) (c : Nat → Bool) (len : Nat)
    (h : ∀ i, i < len → (g i (none, ())).run P w = .ok (if c i then .yield (none, ()) else .done (some false, ())) w) :
    (forIn [:len] (none, ()) g).run P w = .ok (if (List.range len).all c then (none, ()) else (some false, ())) w := by
  rw [Std.Legacy.Range.forIn_eq_forIn_range']
  have e : List.range' (0 : Nat) (Std.Legacy.Range.size [:len]) 1 = List.range len := by
    rw [List.range_eq_range']; simp [Std.Legacy.Range.size]
  rw [show List.range' ([:len] : Std.Legacy.Range).start (Std.Legacy.Range.size [:len]) ([:len] : Std.Legacy.Range).step = List.range len from e]
  exact run_forIn_list w g c _ fun i hi => h i (List.mem_range.1 hi)

theorem all_getD_eq {r q : List Int} {len : Nat} (hr : r.length = len) (hq : q.length = len) : (List.range len).all (fun i => decide (r.getD i 0 = q.getD i 0)) = decide (r = q) := by
  rw [Bool.eq_iff_iff]
  simp only [List.all_eq_true, List.mem_range, decide_eq_true_eq]
  constructor
  · intro h
    apply List.ext_getElem (by omega)
    intro i h1 h2
    have := h i (by omega)
    simpa [List.getD_eq_getElem?_getD, h1, h2] using this
  · rintro rfl i _; rfl

theorem run_part_ints {P : Program} {T : Nat → Option TI} (hT : TyOk P T) {e : Nat} {a b : Nat} {z : List Value} (he : T e = some ⟨.int .i64, a, b, z⟩) {r : List Int} {i : Nat} (h : i < r.length) (w : World) :
    (part e (ints r).toArray i).run P w = .ok (.int .i64 (r.getD i 0)) w := by
  unfold part
  rw [Sem.run_bind, isAgg_plain hT he rfl, Result.andThen_ok]
  simp [ints, h]

theorem run_equalIn_arr {P : Program} {T : Nat → Option TI} (hT : TyOk P T) (w : World) (d len t e : Nat) (r q : List Int) {a b b2 : Nat} {z z2 : List Value} (ht : T t = some ⟨.arr len e, a, b, z⟩) (he : T e = some ⟨.int .i64, 1, b2, z2⟩)
    (hr : r.length = len) (hq : q.length = len) : (Op.equalIn (d + 2) t (.agg (ints r).toArray) (.agg (ints q).toArray)).run P w = .ok (decide (r = q)) w := by
  have hs := hT.size he w
  have hu := hT.und ht (d := .array len e) (fun d' hd' => hd')
  have hue := hT.und he (d := .int .i64) (fun d' hd' => hd')
  have hs : (sizeOf e).run P w = .ok 1 w := hs
  have heq : ∀ x y : Int, (Op.equalIn (d + 1) e (.int .i64 x) (.int .i64 y)).run P w = .ok (x == y) w := fun x y => run_equalIn_int w d e .i64 .i64 x y hue
  rw [Op.equalIn]
  rw [Sem.run_bind, run_underlying hu, Result.andThen_ok]
  simp only
  rw [Sem.run_bind, hs, Result.andThen_ok, Sem.run_bind]
  rw [run_forIn_range w _ (fun i => decide (r.getD i 0 = q.getD i 0)) len ?_]
  · rw [all_getD_eq hr hq]
    by_cases h : r = q
    · simp [h]
    · simp [h]
  · intro i hi
    rw [Nat.mul_one, Sem.run_bind, run_part_ints hT he (by omega), Result.andThen_ok, Sem.run_bind, run_part_ints hT he (by omega), Result.andThen_ok, Sem.run_bind, heq, Result.andThen_ok]
    have hd : decide (r.getD i 0 = q.getD i 0) = (r.getD i 0 == q.getD i 0) := rfl
    rw [hd]
    cases (r.getD i 0 == q.getD i 0) <;> rfl

section
variable {P : Program} {T : Nat → Option TI} {Γ : Ctx} {ops : Array Oper} {Q : (Nat → Value) → Own → Prop} {rest : List Oper} {f : Nat → Value} {own : Own}
variable {ty : TypeId} {pos : String} {aft : Array Edge}
theorem run_eql_arr (hT : TyOk P T) {len t e : Nat} {r q : List Int} {a b a2 b2 : Nat} {z z2 : List Value} (ht : T t = some ⟨.arr len e, a, b, z⟩) (he : T e = some ⟨.int .i64, a2, b2, z2⟩) (ha2 : a2 = 1)
    (hg : P.eqGuardType P.depth t = false) (hr : r.length = len) (hq : q.length = len) (x y : Operand) (w : World) :
    (do eqGuard .eql t x y (.agg (ints r).toArray) (.agg (ints q).toArray); binOp .eql t (.agg (ints r).toArray) (.agg (ints q).toArray) : Sem Value).run P w = .ok (.bool (decide (r = q))) w := by
  subst ha2
  rw [Sem.run_bind, run_eqGuard_agg _ _ _ _ _ _ _ hg, Result.andThen_ok, run_eql_struct, show (10000 : Nat) = 9998 + 2 from rfl, run_equalIn_arr hT w 9998 len t e r q ht he hr hq]; rfl
theorem run_neq_arr (hT : TyOk P T) {len t e : Nat} {r q : List Int} {a b a2 b2 : Nat} {z z2 : List Value} (ht : T t = some ⟨.arr len e, a, b, z⟩) (he : T e = some ⟨.int .i64, a2, b2, z2⟩) (ha2 : a2 = 1)
    (hg : P.eqGuardType P.depth t = false) (hr : r.length = len) (hq : q.length = len) (x y : Operand) (w : World) :
    (do eqGuard .neq t x y (.agg (ints r).toArray) (.agg (ints q).toArray); binOp .neq t (.agg (ints r).toArray) (.agg (ints q).toArray) : Sem Value).run P w = .ok (.bool (!decide (r = q))) w := by
  subst ha2
  rw [Sem.run_bind, run_eqGuard_agg _ _ _ _ _ _ _ hg, Result.andThen_ok, run_neq_struct, show (10000 : Nat) = 9998 + 2 from rfl, run_equalIn_arr hT w 9998 len t e r q ht he hr hq]; rfl

theorem vops_neA (hT : TyOk P T) {d t u len e : Nat} {x y : Operand} {r q : List Int} {a b a2 b2 : Nat} {z z2 : List Value} (hx : ev f x = .agg (ints r).toArray) (hy : ev f y = .agg (ints q).toArray)
    (ht : T t = some ⟨.arr len e, a, b, z⟩) (he : T e = some ⟨.int .i64, a2, b2, z2⟩) (ha2 : a2 = 1) (hg : P.eqGuardType P.depth t = false) (hr : r.length = len) (hq : q.length = len)
    (k : VOps P Γ ops Q rest (upd f d (.bool (!decide (r = q)))) own) : VOps P Γ ops Q (⟨some d, .binOp .neq t x y u, ty, pos, aft, none⟩ :: rest) f own :=
  vops_go fun w hgd => by
    show RunsTo P ((do let v ← (do eqGuard .neq t x y (ev f x) (ev f y); binOp .neq t (ev f x) (ev f y)); pure (Next.value v) : Sem Next).run P w) _
    rw [hx, hy, run_val, run_neq_arr hT ht he ha2 hg hr hq]
    exact ⟨own, hgd, stay w, k⟩

/-- A whole block of a known content is written anew. -/
theorem vops_storeA (hT : TyOk P T) {t : Nat} {x y : Operand} {b : Nat} {cs : List Value} {ti : TI} {k : Blk} (i : Nat) (ht : T t = some ti) (hn : cs.length = ti.size) (hx : ev f x = .pointer (some ⟨b, 0, none⟩)) (hy : ev f y = .agg cs.toArray)
    (h1 : ∀ v ∈ cs, v.oneCell' = true) (hi : own[i]? = some (b, k)) (hlen : k.size = cs.length)
    (kk : VOps P Γ ops Q rest f (own.set i (b, ⟨cs, k.elem, k.size, none⟩))) (hrow : k.obj = none := by rfl) : VOps P Γ ops Q (⟨none, .store t x y, ty, pos, aft, none⟩ :: rest) f own :=
  vops_go0 fun w hg => by
    show RunsTo P ((do Instr.storeAt t (ev f x) (ev f y); pure Next.skip : Sem Next).run P w) _
    have hm := List.mem_of_getElem? hi
    obtain ⟨arr, a1, a2, a3⟩ := hg.ok.row hm hrow
    have hst : (storeVar t ⟨b, 0, none⟩ (.agg cs.toArray)).run P w = .ok () (w.setRow b cs.toArray) := by
      unfold storeVar
      rw [Sem.run_bind, hT.size ht, Result.andThen_ok]
      have e : (Value.agg cs.toArray).cells.size = ti.size := by rw [← hn]; simp [Value.cells]
      rw [if_neg (by simpa using e)]
      have := run_storeCells_from (P := P) b k.elem cs 0 arr w a1 (by omega) h1
      simpa [Value.cells] using this
    have : (Instr.storeAt t (ev f x) (ev f y)).run P w = .ok () (w.setRow b cs.toArray) := by
      rw [hx, hy]; exact hst
    rw [Sem.run_bind, this]
    have hfr : Fr [b] w (w.setRow b cs.toArray) := ⟨rfl, rfl, rfl, Nat.le_refl _, by simp, fun c hc hne => setRow_other w b c _ (by simpa using hne)⟩
    refine ⟨_, hg.write (k' := ⟨cs, k.elem, k.size, none⟩) hi hfr (Blk.ofRow ⟨cs.toArray, setRow_heap w b arr _ _ _ a1, by simp [hlen], fun j v hv => by simpa using hv⟩), ⟨hfr.mono (fun x hx => by
      have e : x = b := by simpa using hx
      rw [e]; exact ids_mem hm), fun c hc => .inl (by rwa [ids_set hi] at hc)⟩, kk⟩
/-- A store of a number into a block of numbers. -/
theorem ints_set (q : List Int) (o : Nat) (x : Int) : (ints q).set o (.int .i64 x) = ints (q.set o x) := by simp [ints, List.map_set]
theorem vops_storeI (i : Nat) (hT : TyOk P T) {t : Nat} {x y : Operand} {b o : Nat} {v : Int} {ti : TI} {q : List Int} {e n : Nat} (ht : T t = some ti) (hp : ti.size = 1) (hx : ev f x = .pointer (some ⟨b, 0 + o, none⟩)) (hy : ev f y = .int .i64 v)
    (hi : own[i]? = some (b, ⟨ints q, e, n, none⟩)) (hlt : o < q.length)
    (kk : VOps P Γ ops Q rest f (own.set i (b, ⟨ints (q.set o v), e, n, none⟩))) : VOps P Γ ops Q (⟨none, .store t x y, ty, pos, aft, none⟩ :: rest) f own := by
  rw [Nat.zero_add] at hx
  refine vops_store hT i ht hp hx hy rfl hi (by rw [ints_length]; exact hlt) ?_
  rw [ints_set]; exact kk
theorem vops_allocZ (cs : List Value) (hT : TyOk P T) {d : Nat} {t : Nat} {i : TI} (ht : T t = some i) (hz : i.zero = cs) (hne : cs ≠ [])
    (k : ∀ b, b ∉ ids own → VOps P Γ ops Q rest (upd f d (.pointer (some ⟨b, 0, none⟩))) ((b, ⟨cs, t, cs.length, none⟩) :: own)) :
    VOps P Γ ops Q (⟨some d, .alloc t, ty, pos, aft, none⟩ :: rest) f own := by
  subst hz; exact vops_alloc hT ht hne k
theorem ints_one {r : List Int} : ∀ v ∈ ints r, v.oneCell' = true := by
  intro v hv
  simp only [ints, List.mem_map] at hv
  obtain ⟨x, _, rfl⟩ := hv; rfl
/-- Twenty ways to read a block of numbers whole. -/
theorem sees_ints (i : Nat) {b e n : Nat} {r : List Int} (h : own[i]? = some (b, ⟨ints r, e, n, none⟩)) : SeesL Γ own b 0 (ints r) := seesL_at i h rfl
/-- The one result is an array of numbers, in the i-th block. -/
theorem rvc_ints (i : Nat) (hT : TyOk P T) {n p t b e m : Nat} {ti : TI} {fn : Func} {r r' : List Int} (h : fn.results = #[.cell p t]) (hp : f p = .pointer (some ⟨b, 0, none⟩)) (ht : T t = some ti) (ha : ti.isAgg = true) (hn : (ints r).length = ti.size)
    (hi : own[i]? = some (b, ⟨ints r, e, m, none⟩)) (hr : r = r') : Out P Γ n fn (Is (.agg (ints r').toArray)) .ret f own :=
  ⟨_, [], rv_cell hT h hp ht ha hn (sees_ints i hi), List.nodup_nil, fun _ h => (by simp at h), by rw [hr], rfl⟩
end
end Go.VL

/- A part of the proof: Draw. No conditions of its own. -/
namespace Go.VL
open Go.RowKit

/-! a region whose order is drawn -/
section
variable {P : Program} {Γ : Ctx} {ops : Array Oper} {Q : (Nat → Value) → Own → Prop} {f : Nat → Value} {own : Own}

theorem Step.mono {o : Oper} {S S' : Value → Own → Prop} (h : Step P Γ o f own S) (hs : ∀ v own', S v own' → S' v own') : Step P Γ o f own S' :=
  fun w hg => (h w hg).mono fun _ _ ⟨own', h1, h2, h3⟩ => ⟨own', h1, h2, hs _ _ h3⟩

theorem ev_put {d : Option Tmp} {v : Value} {x : Operand} (h : ∀ t, d = some t → x ≠ .tmp t) : ev (put f d v) x = ev f x := by
  cases d with
  | none => rfl
  | some d =>
    cases x with
    | tmp t =>
      have hne : t ≠ d := fun e => h d rfl (by rw [e])
      exact upd_ne f v hne
    | _ => rfl
theorem gval_put {o : Oper} {j : Nat} {want : Bool} (hg : o.guard = some (j, want)) {d : Option Tmp} {v : Value} (h : ∀ t, d = some t → t ∉ o.looksAt ops) : gval ops (put f d v) j = gval ops f j := by
  cases d with
  | none => rfl
  | some d =>
    unfold gval
    cases ht : (ops[j]?).bind (·.dst) with
    | none => rfl
    | some t =>
      have hne : t ≠ d := fun e => h d rfl (by subst e; simp [Oper.looksAt, hg, ht])
      show (match upd f d v t with | .bool b => some b | _ => none) = (match f t with | .bool b => some b | _ => none)
      rw [upd_ne f v hne]
theorem exec_put {o : Oper} (hs : ∀ cs b, o.op ≠ .select cs b) {d : Option Tmp} {v : Value} (h : ∀ t, d = some t → t ∉ o.looksAt ops) : execOp (ev (put f d v)) o = execOp (ev f) o :=
  execOp_congr o hs fun x hx => ev_put fun t ht hxt => h t ht (by
    subst hxt
    exact List.mem_append_left _ (List.mem_filterMap.2 ⟨.tmp t, by simpa using hx, rfl⟩))
theorem put_comm {d e : Option Tmp} (v u : Value) (h : ∀ t, d = some t → e ≠ some t) : put (put f d v) e u = put (put f e u) d v := by
  cases d with
  | none => rfl
  | some d =>
    cases e with
    | none => rfl
    | some e =>
      have hne : d ≠ e := fun he => h d rfl (by rw [he])
      exact upd_comm f v u hne

def OpV (P : Program) (Γ : Ctx) (ops : Array Oper) (o : Oper) (f : Nat → Value) (own : Own) (S : Value → Own → Prop) : Prop :=
  match o.guard with
  | none => Step P Γ o f own S
  | some (j, want) => (gval ops f j = some want ∧ Step P Γ o f own S) ∨ (gval ops f j ≠ some want ∧ S undef own)

theorem OpV.mono {o : Oper} {S S' : Value → Own → Prop} (h : OpV P Γ ops o f own S) (hs : ∀ v own', S v own' → S' v own') : OpV P Γ ops o f own S' := by
  unfold OpV at *
  cases hg : o.guard with
  | none => simp only [hg] at h ⊢; exact h.mono hs
  | some jw =>
    obtain ⟨j, want⟩ := jw
    simp only [hg] at h ⊢
    exact h.imp (fun h => ⟨h.1, h.2.mono hs⟩) (fun h => ⟨h.1, hs _ _ h.2⟩)
theorem OpV.put {o : Oper} (hs : ∀ cs b, o.op ≠ .select cs b) {d : Option Tmp} {v : Value} (hd : ∀ t, d = some t → t ∉ o.looksAt ops) {S : Value → Own → Prop} (h : OpV P Γ ops o (put f d v) own S) : OpV P Γ ops o f own S := by
  have he := exec_put (f := f) (ops := ops) hs (v := v) hd
  have hst : Step P Γ o (VL.put f d v) own S → Step P Γ o f own S := fun h w hg => by have := h w hg; rwa [he] at this
  unfold OpV at *
  cases hg : o.guard with
  | none => simp only [hg] at h ⊢; exact hst h
  | some jw =>
    obtain ⟨j, want⟩ := jw
    simp only [hg] at h ⊢
    rw [gval_put hg hd] at h
    exact h.imp (fun h => ⟨h.1, hst h.2⟩) id
theorem OpV.put' {o : Oper} (hs : ∀ cs b, o.op ≠ .select cs b) {d : Option Tmp} {v : Value} (hd : ∀ t, d = some t → t ∉ o.looksAt ops) {S : Value → Own → Prop} (h : OpV P Γ ops o f own S) : OpV P Γ ops o (VL.put f d v) own S := by
  have he := exec_put (f := f) (ops := ops) hs (v := v) hd
  have hst : Step P Γ o f own S → Step P Γ o (VL.put f d v) own S := fun h w hg => by have := h w hg; rwa [← he] at this
  unfold OpV at *
  cases hg : o.guard with
  | none => simp only [hg] at h ⊢; exact hst h
  | some jw =>
    obtain ⟨j, want⟩ := jw
    simp only [hg] at h ⊢
    rw [gval_put hg hd]
    exact h.imp (fun h => ⟨h.1, hst h.2⟩) id

def Sub (base own : Own) : Prop := ∀ p ∈ base, p ∈ own
def keepB (o : Oper) : Bool := match o.op with | .store .. | .mapUpdate .. | .mapEntry .. | .entryStore .. | .insert .. => false | _ => true

def AnyV (P : Program) (Γ : Ctx) (ops : Array Oper) (base : Own) (Q : (Nat → Value) → Own → Prop) : Nat → Array Bool → (Nat → Value) → Own → Prop
  | 0, listed, f, own => Region.ready .any ops listed = [] ∧ Q f own
  | fuel + 1, listed, f, own => (Region.ready .any ops listed = [] → Q f own) ∧
    ∀ i ∈ Region.ready .any ops listed, ∀ o, ops[i]? = some o →
      OpV P Γ ops o f own (fun v own' => (keepB o = true → ∀ p ∈ base, p ∈ own → p ∈ own') ∧ AnyV P Γ ops base Q fuel (listed.setIfInBounds i true) (put f o.dst v) own')

theorem anyV_sound {ro : Option Nat} {base : Own} {n : Nat} {Q : Post} (hd : dstOk n ops.toList = true) : ∀ (fuel : Nat) (listed : Array Bool) (f : Nat → Value) (own : Own),
    AnyV P Γ ops base (fun f own => Q .normal f own) fuel listed f own → ∀ a w, FR n f a → Good Γ own w → Mk ro Γ own a.defers w → wpAnyIn (fen ro) 0 P .any ops (VQ ro Γ n Q) fuel listed a w := by
  have hdo : ∀ (i : Nat) (o : Oper), ops[i]? = some o → ∀ t, o.dst = some t → t < n := fun i o ho t ht => by
    have := List.all_eq_true.1 hd o (by
      have := Array.mem_of_getElem? ho
      simpa using this)
    simp only [Bool.and_eq_true] at this
    have := this.2
    rw [ht] at this
    simpa [Nat.blt_eq] using this
  have hnd : ∀ (i : Nat) (o : Oper), ops[i]? = some o → noDefer o = true := fun i o ho => by
    have := List.all_eq_true.1 hd o (by
      have := Array.mem_of_getElem? ho
      simpa using this)
    simp only [Bool.and_eq_true] at this
    exact this.1
  intro fuel
  induction fuel with
  | zero => intro listed f own h a w ha hg hm; exact ⟨h.1, f, own, ha, hg, hm, h.2⟩
  | succ fuel ih =>
    intro listed f own h a w ha hg hm
    refine ⟨fun h0 => ⟨f, own, ha, hg, hm, h.1 h0⟩, fun i hi => ?_⟩
    obtain ⟨_, o, ho, _⟩ := mem_ready.1 hi
    have hv := h.2 i hi o ho
    unfold wpOpIn
    simp only [ho]
    have hy : ∀ j, yielded ops a.tmps j = gval ops f j := yielded_eq ha ops
    have go : Step P Γ o f own (fun v own' => (keepB o = true → ∀ p ∈ base, p ∈ own → p ∈ own') ∧ AnyV P Γ ops base (fun f own => Q .normal f own) fuel (listed.setIfInBounds i true) (put f o.dst v) own') →
        o.wpIn (fen ro) 0 P a w (wpAnyIn (fen ro) 0 P .any ops (VQ ro Γ n Q) fuel (listed.setIfInBounds i true)) (VQ ro Γ n Q) := fun hs => by
      refine wp_of_runs (hnd i o ho) ?_
      rw [ha.eval]
      exact (hs w hg).mono fun v w' ⟨own', hg', hfr, hS⟩ => ih _ _ _ hS.2 _ _ (ha.put _ _ (hdo i o ho)) hg' (by rw [put_defers]; exact hm.step hfr.1 hfr.2)
    unfold OpV at hv
    cases hgd : o.guard with
    | none =>
      simp only [hgd] at hv
      have hw : Region.wanted o (yielded ops a.tmps) = true := by simp [Region.wanted, hgd]
      simp only [hw, if_true]
      exact go hv
    | some jw =>
      obtain ⟨j, want⟩ := jw
      simp only [hgd] at hv
      rcases hv with ⟨h1, h2⟩ | ⟨h1, h2⟩
      · have hw : Region.wanted o (yielded ops a.tmps) = true := by simp [Region.wanted, hgd, hy, h1]
        simp only [hw, if_true]
        exact go h2
      · have hw : Region.wanted o (yielded ops a.tmps) = false := by simpa [Region.wanted, hgd, hy] using h1
        simp only [hw, Bool.false_eq_true, if_false]
        exact ⟨fun f _ => fen_fn ro f, ih _ _ _ h2.2 _ _ (ha.put _ _ (hdo i o ho)) hg (by rw [put_defers]; exact hm)⟩

/-- A quiet operation: one value, in every world in which the blocks base lie as they did. -/
def QY (P : Program) (Γ : Ctx) (ops : Array Oper) (base : Own) (o : Oper) (f : Nat → Value) (v : Value) : Prop :=
  match o.guard with
  | none => ∀ w, Good Γ base w → (execOp (ev f) o).run P w = .ok (.value v) w
  | some (j, want) => (gval ops f j = some want ∧ ∀ w, Good Γ base w → (execOp (ev f) o).run P w = .ok (.value v) w) ∨ (gval ops f j ≠ some want ∧ v = undef)

theorem Good.sub {base own : Own} {w : World} (hg : Good Γ own w) (hn : (ids base).Nodup) (hs : Sub base own) : Good Γ base w :=
  ⟨hg.fr, hg.ok.sub hn hs, fun b k hb => hg.mine b k (hs _ hb)⟩

theorem QY.opV {base : Own} {o : Oper} {v : Value} {S : Value → Own → Prop} (h : QY P Γ ops base o f v) (hn : (ids base).Nodup) (hs : Sub base own) (hS : S v own) : OpV P Γ ops o f own S := by
  have st : (∀ w, Good Γ base w → (execOp (ev f) o).run P w = .ok (.value v) w) → Step P Γ o f own S := fun h w hg => by
    rw [h w (hg.sub hn hs)]; exact ⟨own, hg, stay w, hS⟩
  unfold QY at h
  unfold OpV
  cases hg : o.guard with
  | none => simp only [hg] at h ⊢; exact st h
  | some jw =>
    obtain ⟨j, want⟩ := jw
    simp only [hg] at h ⊢
    rcases h with ⟨h1, h2⟩ | ⟨h1, rfl⟩
    · exact .inl ⟨h1, st h2⟩
    · exact .inr ⟨h1, hS⟩

theorem QY.put {base : Own} {o : Oper} {v : Value} (hs : ∀ cs b, o.op ≠ .select cs b) {d : Option Tmp} {u : Value} (hd : ∀ t, d = some t → t ∉ o.looksAt ops) (h : QY P Γ ops base o f v) : QY P Γ ops base o (VL.put f d u) v := by
  have he := exec_put (f := f) (ops := ops) hs (v := u) hd
  unfold QY at *
  cases hg : o.guard with
  | none => simp only [hg] at h ⊢; rw [he]; exact h
  | some jw =>
    obtain ⟨j, want⟩ := jw
    simp only [hg] at h ⊢
    rw [gval_put hg hd, he]; exact h

theorem anyV_first {base qb : Own} (hqb : qb = [] ∨ qb = base) (hnd : (ids base).Nodup) {i : Nat} {oi : Oper} {v : Value} (hi : ops[i]? = some oi) (hsel : ∀ (j : Nat) (o : Oper) cs b, ops[j]? = some o → o.op ≠ .select cs b) :
    ∀ (fuel : Nat) (listed : Array Bool) (f : Nat → Value) (own : Own),
      (∀ j oj, ops[j]? = some oj → j ≠ i → listed.getD j true = false → (∀ e ∈ oj.after, Region.binds .any e = true → e.on ≠ i) → oi.apart ops oj = true ∧ (qb = [] ∨ keepB oj = true)) →
      i ∈ Region.ready .any ops listed → QY P Γ ops qb oi f v → (qb = [] ∨ Sub base own) →
      AnyV P Γ ops base Q fuel (listed.setIfInBounds i true) (put f oi.dst v) own → AnyV P Γ ops base Q (fuel + 1) listed f own := by
  have hnq : (ids qb).Nodup := by rcases hqb with h | h <;> rw [h]; exact List.nodup_nil; exact hnd
  have hsq : ∀ own, (qb = [] ∨ Sub base own) → Sub qb own := fun own h => by
    rcases hqb with h1 | h1
    · rw [h1]; intro p hp; cases hp
    · rcases h with h2 | h2
      · rw [h2]; intro p hp; cases hp
      · rw [h1]; exact h2
  intro fuel
  induction fuel with
  | zero =>
    intro listed f own _ hr hy hb H
    refine ⟨fun h => (by rw [h] at hr; cases hr), fun j hj o ho => ?_⟩
    by_cases hji : j = i
    · subst hji
      obtain rfl : oi = o := Option.some.inj (hi.symm.trans ho)
      exact hy.opV hnq (hsq own hb) ⟨fun _ _ _ h => h, H⟩
    · have := ready_mono hj hji
      rw [H.1] at this
      cases this
  | succ fuel ih =>
    intro listed f own hfree hr hy hb H
    refine ⟨fun h => (by rw [h] at hr; cases hr), fun j hj oj hoj => ?_⟩
    by_cases hji : j = i
    · subst hji
      obtain rfl : oi = oj := Option.some.inj (hi.symm.trans hoj)
      exact hy.opV hnq (hsq own hb) ⟨fun _ _ _ h => h, H⟩
    · have h1 := H.2 j (ready_mono hj hji) oj hoj
      obtain ⟨hjun, oj', hoj', hall⟩ := mem_ready.1 hj
      obtain rfl : oj = oj' := Option.some.inj (hoj.symm.trans hoj')
      have hnot : ∀ e ∈ oj.after, Region.binds .any e = true → e.on ≠ i := fun e he hbd heq => by
        have h1 := hall e he hbd
        have h0 := (mem_ready.1 hr).1
        rw [heq] at h1
        rcases Nat.lt_or_ge i listed.size with h' | h'
        · simp [h'] at h0 h1; rw [h0] at h1; cases h1
        · simp [Array.getElem?_eq_none h'] at h1
      obtain ⟨hap, hkeep⟩ := hfree j oj hoj hji hjun hnot
      obtain ⟨a1, a2, a3⟩ := Oper.apart_spec hap
      refine (OpV.put (fun cs b => hsel j oj cs b hoj) a1 h1).mono fun u own' ⟨k1, k2⟩ => ⟨k1, ?_⟩
      have hfree' : ∀ k ok, ops[k]? = some ok → k ≠ i → (listed.setIfInBounds j true).getD k true = false →
          (∀ e ∈ ok.after, Region.binds .any e = true → e.on ≠ i) → oi.apart ops ok = true ∧ (qb = [] ∨ keepB ok = true) := fun k ok hk hki hun hno => by
        refine hfree k ok hk hki ?_ hno
        by_cases hjk : j = k
        · subst hjk; exact hjun
        · rw [getD_set_ne true hjk] at hun; exact hun
      refine ih (listed.setIfInBounds j true) (put f oj.dst u) own' hfree' (ready_mono hr (Ne.symm hji)) (hy.put (fun cs b => hsel i oi cs b hi) a3) ?_ ?_
      · rcases hkeep with h | h
        · exact .inl h
        · rcases hb with hb | hb
          · exact .inl hb
          · exact .inr (fun p hp => k1 h p hp (hb p hp))
      · rw [Array.setIfInBounds_comm _ _ hji, ← put_comm (f := f) v u a2]
        exact k2

/-! the canonical order -/
def allocB (o : Oper) : Bool := match o.op, o.guard with | .alloc _, none => true | _, _ => false
/-- listed, and all allocations besides. -/
def orAll (ops : Array Oper) (listed : Array Bool) : Array Bool := (List.range ops.size).foldl (fun l i => if ((ops[i]?).map allocB).getD false then l.setIfInBounds i true else l) listed

def freeK (ops : Array Oper) (listed : Array Bool) (i : Nat) : Bool :=
  (List.range ops.size).all fun j => j == i || listed.getD j true || match ops[j]? with
    | some oj => oj.after.any (fun e => Region.binds .any e && e.on == i) || keepB oj
    | none => true

def VD (P : Program) (Γ : Ctx) (ops : Array Oper) (base : Own) (Q : (Nat → Value) → Own → Prop) : List Nat → Array Bool → (Nat → Value) → Own → Prop
  | [], listed, f, own => Region.ready .any ops listed = [] ∧ Q f own
  | i :: L, listed, f, own => ∃ o, ops[i]? = some o ∧ (Region.ready .any ops listed).contains i = true ∧
    ((Region.free .any ops listed i = true ∧ ∃ v, QY P Γ ops [] o f v ∧ VD P Γ ops base Q L (listed.setIfInBounds i true) (put f o.dst v) own) ∨
     (Region.free .any ops listed i = true ∧ freeK ops listed i = true ∧ Sub base own ∧ ∃ v, QY P Γ ops base o f v ∧ VD P Γ ops base Q L (listed.setIfInBounds i true) (put f o.dst v) own) ∨
     (Region.ready .any ops listed = [i] ∧ OpV P Γ ops o f own (fun v own' => (keepB o = true → ∀ p ∈ base, p ∈ own → p ∈ own') ∧ VD P Γ ops base Q L (listed.setIfInBounds i true) (put f o.dst v) own')) ∨
     ((ids base).Nodup → Region.noSelect ops = true → AnyV P Γ ops base Q (L.length + 1) listed f own))

theorem freeK_spec {i : Nat} {listed : Array Bool} (h : freeK ops listed i = true) (j : Nat) (oj : Oper) (hj : ops[j]? = some oj) (hne : j ≠ i) (hun : listed.getD j true = false) (hno : ∀ e ∈ oj.after, Region.binds .any e = true → e.on ≠ i) : keepB oj = true := by
  simp only [freeK, List.all_eq_true, List.mem_range] at h
  have h1 := h j (Array.getElem?_eq_some_iff.1 hj).1
  simp only [hj, Bool.or_eq_true, beq_iff_eq, hne, false_or, hun, Bool.false_eq_true] at h1
  rcases h1 with h1 | h1
  · obtain ⟨e, he, hb⟩ := Array.any_eq_true'.1 h1
    simp only [Bool.and_eq_true, beq_iff_eq] at hb
    exact absurd hb.2 (hno e he hb.1)
  · exact h1

theorem anyV_of_vd {base : Own} (hnd : (ids base).Nodup) (hsel : Region.noSelect ops = true) : ∀ (L : List Nat) (listed : Array Bool) (f : Nat → Value) (own : Own),
    VD P Γ ops base Q L listed f own → AnyV P Γ ops base Q L.length listed f own
  | [], _, _, _, h => h
  | i :: L, listed, f, own, h => by
    obtain ⟨o, ho, hr, h | h | h | h⟩ := h
    · obtain ⟨hf, v, hy, hk⟩ := h
      exact anyV_first (qb := []) (.inl rfl) hnd ho (Region.noSelect_spec hsel) L.length listed f own
        (fun j oj hj hne hun hno => ⟨Region.free_spec ho hf j oj hj hne hun hno, .inl rfl⟩) (by simpa using hr) hy (.inl rfl) (anyV_of_vd hnd hsel L _ _ _ hk)
    · obtain ⟨hf, hkp, hsb, v, hy, hk⟩ := h
      exact anyV_first (qb := base) (.inr rfl) hnd ho (Region.noSelect_spec hsel) L.length listed f own
        (fun j oj hj hne hun hno => ⟨Region.free_spec ho hf j oj hj hne hun hno, .inr (freeK_spec hkp j oj hj hne hun hno)⟩) (by simpa using hr) hy (.inr hsb) (anyV_of_vd hnd hsel L _ _ _ hk)
    · obtain ⟨h1, h2⟩ := h
      refine ⟨fun h0 => (by rw [h0] at h1; cases h1), fun j hj oj hoj => ?_⟩
      rw [h1] at hj
      obtain rfl : j = i := by simpa using hj
      obtain rfl : o = oj := Option.some.inj (ho.symm.trans hoj)
      exact h2.mono fun v own' ⟨k1, k2⟩ => ⟨k1, anyV_of_vd hnd hsel L _ _ _ k2⟩
    · exact h hnd hsel

theorem vw_draw {ro : Option Nat} {n : Nat} {id : Nat} {l : List Oper} {Q : Post} (L : List Nat) (hm : P.follows .mixedOrders = true) (hd : dstOk n l = true) (hsel : Region.noSelect l.toArray = true) (hL : L.length = l.length)
    (h : VD P Γ l.toArray own (fun f own => Q .normal f own) L (Array.replicate l.length false) f own) : VWr ro P Γ n (.region id l.toArray true) Q f own := by
  intro a w ha hg hmk
  refine wpIn_region_any hm ?_
  have h1 := anyV_of_vd (base := own) hg.ok.nodup hsel L _ f own h
  have h2 := anyV_sound (ro := ro) (n := n) (Q := Q) (by simpa using hd) _ _ f own h1 a { w with drawn := w.drawn + 1 } ha hg.drew hmk.drew
  rw [hL] at h2
  simpa using h2

def GOn (ops : Array Oper) (f : Nat → Value) : Option (Nat × Bool) → Prop
  | none => True
  | some (j, want) => gval ops f j = some want

variable {T : Nat → Option TI} {base : Own} {L : List Nat} {listed : Array Bool} {i d : Nat} {op : Op} {ty : TypeId} {pos : String} {aft : Array Edge} {g : Option (Nat × Bool)}

theorem qy_of_run {v : Value} (hg : GOn ops f g) (h : ∀ w, Good Γ base w → (execOp (ev f) ⟨some d, op, ty, pos, aft, g⟩).run P w = .ok (.value v) w) : QY P Γ ops base ⟨some d, op, ty, pos, aft, g⟩ f v := by
  unfold QY
  cases g with
  | none => exact h
  | some jw => exact .inl ⟨hg, h⟩

theorem vd_p (hT : TyOk P T) (ho : ops[i]? = some ⟨some d, op, ty, pos, aft, g⟩) {c : Prop} {v : Value} (hg : GOn ops f g) (h : aexec T f op = some (c, v)) (hr : (Region.ready .any ops listed).contains i = true) (hf : Region.free .any ops listed i = true) (hc : c)
    (k : VD P Γ ops base Q L (listed.setIfInBounds i true) (upd f d v) own) : VD P Γ ops base Q (i :: L) listed f own :=
  ⟨_, ho, hr, .inl ⟨hf, v, qy_of_run hg fun w _ => aexec_sound hT h hc _ _ _ _ _ w, k⟩⟩
theorem vd_q (hT : TyOk P T) (ho : ops[i]? = some ⟨some d, op, ty, pos, aft, g⟩) {v : Value} (hg : GOn ops f g) (h : aexec T f op = some (True, v)) (hr : (Region.ready .any ops listed).contains i = true) (hf : Region.free .any ops listed i = true)
    (k : VD P Γ ops base Q L (listed.setIfInBounds i true) (upd f d v) own) : VD P Γ ops base Q (i :: L) listed f own := vd_p hT ho hg h hr hf trivial k
/-- A guard that says no. -/
theorem vd_skip {j : Nat} {want : Bool} {b : Option Bool} (ho : ops[i]? = some ⟨some d, op, ty, pos, aft, some (j, want)⟩) (hg : gval ops f j = b) (hb : b ≠ some want) (hr : (Region.ready .any ops listed).contains i = true) (hf : Region.free .any ops listed i = true)
    (k : VD P Γ ops base Q L (listed.setIfInBounds i true) (upd f d undef) own) : VD P Γ ops base Q (i :: L) listed f own :=
  ⟨_, ho, hr, .inl ⟨hf, undef, .inr ⟨by rw [hg]; exact hb, rfl⟩, k⟩⟩
theorem vd_skipT {j : Nat} (ho : ops[i]? = some ⟨some d, op, ty, pos, aft, some (j, false)⟩) (hg : gval ops f j = some true) (hr : (Region.ready .any ops listed).contains i = true) (hf : Region.free .any ops listed i = true)
    (k : VD P Γ ops base Q L (listed.setIfInBounds i true) (upd f d undef) own) : VD P Γ ops base Q (i :: L) listed f own := vd_skip ho hg (by decide) hr hf k
theorem vd_skipF {j : Nat} (ho : ops[i]? = some ⟨some d, op, ty, pos, aft, some (j, true)⟩) (hg : gval ops f j = some false) (hr : (Region.ready .any ops listed).contains i = true) (hf : Region.free .any ops listed i = true)
    (k : VD P Γ ops base Q L (listed.setIfInBounds i true) (upd f d undef) own) : VD P Γ ops base Q (i :: L) listed f own := vd_skip ho hg (by decide) hr hf k
theorem vd_skipU {j : Nat} {want : Bool} (ho : ops[i]? = some ⟨some d, op, ty, pos, aft, some (j, want)⟩) (hg : gval ops f j = none) (hr : (Region.ready .any ops listed).contains i = true) (hf : Region.free .any ops listed i = true)
    (k : VD P Γ ops base Q L (listed.setIfInBounds i true) (upd f d undef) own) : VD P Γ ops base Q (i :: L) listed f own := vd_skip ho hg (by simp) hr hf k
theorem vd_load (hT : TyOk P T) {t : Nat} {x : Operand} {ti : TI} {b o : Nat} {v : Value} (ho : ops[i]? = some ⟨some d, .load t x, ty, pos, aft, g⟩) (hg : GOn ops f g) (ht : T t = some ti) (hp : ti.plain = true) (hx : ev f x = .pointer (some ⟨b, o, none⟩))
    (hr : (Region.ready .any ops listed).contains i = true) (hf : Region.free .any ops listed i = true) (hk : freeK ops listed i = true) (hs : Sees Γ base b o v) (hsb : Sub base own)
    (k : VD P Γ ops base Q L (listed.setIfInBounds i true) (upd f d v) own) : VD P Γ ops base Q (i :: L) listed f own :=
  ⟨_, ho, hr, .inr (.inl ⟨hf, hk, hsb, v, qy_of_run hg fun w hgd => by
    show ((Instr.loadAt t (ev f x) >>= fun v => pure (Next.value v)).run P w) = _
    have : (Instr.loadAt t (ev f x)).run P w = .ok v w := by
      rw [hx]
      show (loadVar t ⟨b, o, none⟩).run P w = _
      unfold loadVar
      rw [Sem.run_bind, isAgg_plain hT ht hp, Result.andThen_ok, if_neg (by simp), run_load, hs w hgd]
    rw [run_val, this]; rfl, k⟩)⟩
theorem vd_loadN (hT : TyOk P T) {t : Nat} {x : Operand} {ti : TI} {b o : Nat} (cs : List Value) (ho : ops[i]? = some ⟨some d, .load t x, ty, pos, aft, g⟩) (hg : GOn ops f g) (ht : T t = some ti) (hp : ti.isAgg = true) (hx : ev f x = .pointer (some ⟨b, o, none⟩)) (hn : cs.length = ti.size)
    (hr : (Region.ready .any ops listed).contains i = true) (hf : Region.free .any ops listed i = true) (hk : freeK ops listed i = true) (hs : SeesL Γ base b o cs) (hsb : Sub base own)
    (k : VD P Γ ops base Q L (listed.setIfInBounds i true) (upd f d (.agg cs.toArray)) own) : VD P Γ ops base Q (i :: L) listed f own :=
  ⟨_, ho, hr, .inr (.inl ⟨hf, hk, hsb, _, qy_of_run hg fun w hgd => by
    show ((Instr.loadAt t (ev f x) >>= fun v => pure (Next.value v)).run P w) = _
    have : (Instr.loadAt t (ev f x)).run P w = .ok (.agg cs.toArray) w := by
      rw [hx]
      exact run_loadVarN hT cs ht hp hn hs hgd
    rw [run_val, this]; rfl, k⟩)⟩
theorem vd_eqA (hT : TyOk P T) {t u len e : Nat} {x y : Operand} {r q : List Int} {a b a2 b2 : Nat} {z z2 : List Value} (ho : ops[i]? = some ⟨some d, .binOp .eql t x y u, ty, pos, aft, g⟩) (hg : GOn ops f g) (hx : ev f x = .agg (ints r).toArray) (hy : ev f y = .agg (ints q).toArray)
    (ht : T t = some ⟨.arr len e, a, b, z⟩) (he : T e = some ⟨.int .i64, a2, b2, z2⟩) (ha2 : a2 = 1) (hgt : P.eqGuardType P.depth t = false) (hr : r.length = len) (hq : q.length = len)
    (hrd : (Region.ready .any ops listed).contains i = true) (hf : Region.free .any ops listed i = true)
    (k : VD P Γ ops base Q L (listed.setIfInBounds i true) (upd f d (.bool (decide (r = q)))) own) : VD P Γ ops base Q (i :: L) listed f own :=
  ⟨_, ho, hrd, .inl ⟨hf, _, qy_of_run hg fun w _ => by
    show (do let v ← (do eqGuard .eql t x y (ev f x) (ev f y); binOp .eql t (ev f x) (ev f y)); pure (Next.value v) : Sem Next).run P w = _
    rw [hx, hy, run_val, run_eql_arr hT ht he ha2 hgt hr hq]; rfl, k⟩⟩
/-- The one that stands next. -/
theorem vd_one {o : Oper} (ho : ops[i]? = some o) (hr : (Region.ready .any ops listed).contains i = true) (h1 : Region.ready .any ops listed = [i]) (hg : o.guard = none)
    (h : VOps P Γ ops (fun f' own' => (keepB o = true → ∀ p ∈ base, p ∈ own → p ∈ own') ∧ VD P Γ ops base Q L (listed.setIfInBounds i true) f' own') [o] f own) : VD P Γ ops base Q (i :: L) listed f own := by
  refine ⟨o, ho, hr, .inr (.inr (.inl ⟨h1, ?_⟩))⟩
  unfold OpV
  simp only [hg]
  simp only [VOps, hg] at h
  exact h
theorem vd_oneG {op : Op} {j : Nat} {want : Bool} (ho : ops[i]? = some ⟨some d, op, ty, pos, aft, some (j, want)⟩) (hr : (Region.ready .any ops listed).contains i = true) (h1 : Region.ready .any ops listed = [i]) (hg : gval ops f j = some want)
    (h : VOps P Γ ops (fun f' own' => (keepB ⟨some d, op, ty, pos, aft, none⟩ = true → ∀ p ∈ base, p ∈ own → p ∈ own') ∧ VD P Γ ops base Q L (listed.setIfInBounds i true) f' own') [⟨some d, op, ty, pos, aft, none⟩] f own) : VD P Γ ops base Q (i :: L) listed f own := by
  refine ⟨_, ho, hr, .inr (.inr (.inl ⟨h1, .inl ⟨hg, ?_⟩⟩))⟩
  exact h
/-- Two stand next: each of them first. -/
theorem vd_two {j : Nat} {o u : Oper} (L1 L2 : List Nat) (ho : ops[i]? = some o) (hu : ops[j]? = some u) (hr : Region.ready .any ops listed = [i, j]) (hg : o.guard = none) (hgu : u.guard = none) (hl1 : L1.length = L.length) (hl2 : L2.length = L.length)
    (h : VOps P Γ ops (fun f' own' => (keepB o = true → ∀ p ∈ base, p ∈ own → p ∈ own') ∧ VD P Γ ops base Q L1 (listed.setIfInBounds i true) f' own') [o] f own)
    (k : VOps P Γ ops (fun f' own' => (keepB u = true → ∀ p ∈ base, p ∈ own → p ∈ own') ∧ VD P Γ ops base Q L2 (listed.setIfInBounds j true) f' own') [u] f own) : VD P Γ ops base Q (i :: L) listed f own := by
  refine ⟨o, ho, by rw [hr]; simp, .inr (.inr (.inr fun hnd hsel => ⟨fun h0 => (by rw [h0] at hr; cases hr), fun x hx ox hox => ?_⟩))⟩
  rw [hr] at hx
  rcases List.mem_cons.1 hx with rfl | hx
  · obtain rfl : o = ox := Option.some.inj (ho.symm.trans hox)
    unfold OpV
    simp only [hg]
    simp only [VOps, hg] at h
    exact h.mono fun v own' ⟨k1, k2⟩ => ⟨k1, by rw [← hl1]; exact anyV_of_vd hnd hsel L1 _ _ _ k2⟩
  · obtain rfl : x = j := by simpa using hx
    obtain rfl : u = ox := Option.some.inj (hu.symm.trans hox)
    unfold OpV
    simp only [hgu]
    simp only [VOps, hgu] at k
    exact k.mono fun v own' ⟨k1, k2⟩ => ⟨k1, by rw [← hl2]; exact anyV_of_vd hnd hsel L2 _ _ _ k2⟩
theorem vd_nil (hr : Region.ready .any ops listed = []) (h : Q f own) : VD P Γ ops base Q [] listed f own := ⟨hr, h⟩
theorem vd_gsplit {j t : Nat} {want b : Bool} (ho : ops[i]? = some ⟨some d, op, ty, pos, aft, some (j, want)⟩) (hd : (ops[j]?).bind (·.dst) = some t) (hf : f t = .bool b)
    (h : BSplit b (VD P Γ ops base Q (i :: L) listed (upd f t (.bool true)) own) (VD P Γ ops base Q (i :: L) listed (upd f t (.bool false)) own)) : VD P Γ ops base Q (i :: L) listed f own := by
  have _ := ho
  have _ := hd
  cases b
  · have := h.2 rfl
    rwa [← hf, upd_self] at this
  · have := h.1 rfl
    rwa [← hf, upd_self] at this
theorem sub_refl : Sub own own := fun _ h => h
theorem sub_cons {x : Nat × Blk} (h : Sub base own) : Sub base (x :: own) := fun p hp => List.mem_cons_of_mem _ (h p hp)
theorem sub_app {new : Own} (h : Sub base own) : Sub base (new ++ own) := fun p hp => List.mem_append_right _ (h p hp)
end
end Go.VL

