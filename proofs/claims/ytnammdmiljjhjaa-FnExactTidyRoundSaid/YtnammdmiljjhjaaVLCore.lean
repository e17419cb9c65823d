import Derived.Calls
import Derived.Orders
import Derived.KernelRfl
import Derived.Laws.Rows
import Derived.Laws.Slices
import Derived.Laws.Entries
import Derived.Laws.Small
import Derived.Laws.Tables
import Derived.Below
import Derived.OrdersIn
import Derived.ControlIn
import Derived.RangeFuncRecord
/- A part of the proof: Core. No conditions of its own. -/
namespace Go.VL
open Go.RowKit

/-! frames as functions -/
def upd (f : Nat → Value) (d : Nat) (v : Value) : Nat → Value := fun t => match Nat.beq t d with | true => v | false => f t
theorem upd_same (f : Nat → Value) (d : Nat) (v : Value) : upd f d v d = v := by simp [upd]
theorem upd_ne (f : Nat → Value) {d t : Nat} (v : Value) (h : t ≠ d) : upd f d v t = f t := by
  have : Nat.beq t d = false := by
    cases hb : Nat.beq t d with
    | false => rfl
    | true => exact absurd (Nat.eq_of_beq_eq_true hb) h
  simp [upd, this]
theorem upd_comm (f : Nat → Value) {d e : Nat} (u v : Value) (h : d ≠ e) : upd (upd f d u) e v = upd (upd f e v) d u := by
  funext t
  by_cases h1 : t = d
  · subst h1; rw [upd_ne _ _ h, upd_same, upd_same]
  · by_cases h2 : t = e
    · subst h2; rw [upd_same, upd_ne _ _ h1, upd_same]
    · rw [upd_ne _ _ h2, upd_ne _ _ h1, upd_ne _ _ h1, upd_ne _ _ h2]
def put (f : Nat → Value) (d : Option Tmp) (v : Value) : Nat → Value := match d with | some d => upd f d v | none => f
def ev (f : Nat → Value) : Operand → Value
  | .tmp t => f t
  | .const v => v
  | .global g => .pointer (some ⟨g, 0, none⟩)
  | .func g => .func (.func g) #[] #[]

/-- The frame a is the function f, with n places. -/
structure FR (n : Nat) (f : Nat → Value) (a : Act) : Prop where
  size : a.tmps.size = n
  get : ∀ t, a.tmps.getD t undef = f t

theorem FR.eval {n : Nat} {f : Nat → Value} {a : Act} (h : FR n f a) : a.eval = ev f := by
  funext x
  cases x with
  | tmp t => exact h.get t
  | _ => rfl

theorem FR.put {n : Nat} {f : Nat → Value} {a : Act} (h : FR n f a) (d : Option Tmp) (v : Value) (hd : ∀ t, d = some t → t < n) : FR n (put f d v) (a.put d v) := by
  cases d with
  | none => exact h
  | some d =>
    have hd' := hd d rfl
    refine ⟨by simp [Act.put, h.size], fun t => ?_⟩
    show (a.tmps.setIfInBounds d v).getD t undef = upd f d v t
    by_cases ht : t = d
    · subst ht
      have : t < a.tmps.size := by rw [h.size]; exact hd'
      rw [upd_same]; simp [this]
    · rw [upd_ne _ _ ht, ← h.get t]
      simp [Array.getElem?_setIfInBounds_ne (Ne.symm ht)]

/-! memory -/
structure Blk where
  cells : List Value
  elem : TypeId
  size : Nat
  /-- What lies there, where it is no row. -/
  obj : Option Obj
def Blk.at (k : Blk) (o : Option Obj) : Prop :=
  match k.obj with
  | none => ∃ arr : Array Value, o = some (.cells arr k.elem (0, 0)) ∧ arr.size = k.size ∧ ∀ (i : Nat) (v : Value), k.cells[i]? = some v → arr[i]? = some v
  | some x => o = some x ∧ k.cells = []
theorem Blk.at.toRow {k : Blk} {o : Option Obj} (h : k.at o) (hk : k.obj = none) : ∃ arr : Array Value, o = some (.cells arr k.elem (0, 0)) ∧ arr.size = k.size ∧ ∀ (i : Nat) (v : Value), k.cells[i]? = some v → arr[i]? = some v := by
  simp only [Blk.at, hk] at h; exact h
theorem Blk.at.toObj {k : Blk} {o : Option Obj} {x : Obj} (h : k.at o) (hk : k.obj = some x) : o = some x := by
  simp only [Blk.at, hk] at h; exact h.1
theorem Blk.at.isSome {k : Blk} {o : Option Obj} (h : k.at o) : ∃ x, o = some x := by
  cases hk : k.obj with
  | none => obtain ⟨arr, h1, _⟩ := h.toRow hk; exact ⟨_, h1⟩
  | some x => exact ⟨x, h.toObj hk⟩
theorem Blk.ofRow {cells : List Value} {e : TypeId} {n : Nat} {o : Option Obj} (h : ∃ arr : Array Value, o = some (.cells arr e (0, 0)) ∧ arr.size = n ∧ ∀ (i : Nat) (v : Value), cells[i]? = some v → arr[i]? = some v) : Blk.at ⟨cells, e, n, none⟩ o := h
theorem Blk.ofObj {e : TypeId} {n : Nat} {o : Option Obj} {x : Obj} (h : o = some x) : Blk.at ⟨[], e, n, some x⟩ o := ⟨h, rfl⟩
theorem Blk.at.noObj {k : Blk} {o : Option Obj} (h : k.at o) {i : Nat} (hi : i < k.cells.length) : k.obj = none := by
  cases hk : k.obj with
  | none => rfl
  | some x => simp only [Blk.at, hk] at h; rw [h.2] at hi; simp at hi
abbrev Own := List (Nat × Blk)

def ids (own : Own) : List Nat := own.map Prod.fst

structure OwnOk (own : Own) (w : World) : Prop where
  nodup : (ids own).Nodup
  blk : ∀ b k, (b, k) ∈ own → k.at w.heap[b]?

/-- Nothing but the blocks ids has turned. -/
structure Fr (l : List Nat) (w w' : World) : Prop where
  os : w'.os = w.os
  tape : w'.tape = w.tape
  output : w'.output = w.output
  drawn : w.drawn ≤ w'.drawn
  size : w.heap.size ≤ w'.heap.size
  block : ∀ b, b < w.heap.size → b ∉ l → w'.heap[b]? = w.heap[b]?

theorem Fr.refl (l : List Nat) (w : World) : Fr l w w := ⟨rfl, rfl, rfl, Nat.le_refl _, Nat.le_refl _, fun _ _ _ => rfl⟩
theorem Fr.trans {l m : List Nat} {a b c : World} (h : Fr l a b) (k : Fr m b c) (hm : ∀ x ∈ m, x ∈ l ∨ a.heap.size ≤ x) : Fr l a c :=
  ⟨k.os.trans h.os, k.tape.trans h.tape, k.output.trans h.output, Nat.le_trans h.drawn k.drawn, Nat.le_trans h.size k.size, fun x hx hl =>
    (k.block x (Nat.lt_of_lt_of_le hx h.size) (fun hxm => by rcases hm x hxm with h1 | h1; exact hl h1; omega)).trans (h.block x hx hl)⟩
theorem Fr.mono {l m : List Nat} {a b : World} (h : Fr l a b) (hm : ∀ x ∈ l, x ∈ m) : Fr m a b :=
  ⟨h.os, h.tape, h.output, h.drawn, h.size, fun x hx hl => h.block x hx (fun hh => hl (hm x hh))⟩
theorem Fr.below {w w' : World} (h : Fr [] w w') : Below w.heap.size w w' := ⟨h.os, h.tape, h.output, h.size, fun k hk => h.block k hk (by simp)⟩
theorem Fr.drew {l : List Nat} {a w : World} (h : Fr l a w) : Fr l a { w with drawn := w.drawn + 1 } := ⟨h.os, h.tape, h.output, Nat.le_succ_of_le h.drawn, h.size, h.block⟩
theorem Fr.cell {l : List Nat} {w w' : World} (h : Fr l w w') {a : Addr} {v : Value} (ha : a.block ∉ l) (hv : w.cell? a = some v) : w'.cell? a = some v := by
  have hlt := World.block_lt_of_cell? w a hv
  have := h.block a.block hlt ha
  unfold World.cell? at *
  rw [this]; exact hv

/-- What a function's walk knows of the world: w0 as the call began, W the blocks that it may write of those that were there. -/
structure Ctx where
  w0 : World
  W : List Nat

structure Good (Γ : Ctx) (own : Own) (w : World) : Prop where
  fr : Fr Γ.W Γ.w0 w
  ok : OwnOk own w
  mine : ∀ b k, (b, k) ∈ own → b ∈ Γ.W ∨ Γ.w0.heap.size ≤ b

theorem mem_ids {own : Own} {b : Nat} (h : b ∈ ids own) : ∃ k, (b, k) ∈ own := by
  obtain ⟨p, hp, rfl⟩ := List.mem_map.1 h
  exact ⟨p.2, hp⟩
theorem ids_mem {own : Own} {b : Nat} {k : Blk} (h : (b, k) ∈ own) : b ∈ ids own := List.mem_map.2 ⟨(b, k), h, rfl⟩

theorem OwnOk.drew {own : Own} {w : World} (h : OwnOk own w) : OwnOk own { w with drawn := w.drawn + 1 } := ⟨h.nodup, h.blk⟩
theorem Good.drew {Γ : Ctx} {own : Own} {w : World} (h : Good Γ own w) : Good Γ own { w with drawn := w.drawn + 1 } := ⟨h.fr.drew, h.ok.drew, h.mine⟩

theorem OwnOk.lt {own : Own} {w : World} (h : OwnOk own w) {b : Nat} (hb : b ∈ ids own) : b < w.heap.size := by
  obtain ⟨k, hk⟩ := mem_ids hb
  obtain ⟨x, h1⟩ := (h.blk b k hk).isSome
  rcases Nat.lt_or_ge b w.heap.size with h' | h'
  · exact h'
  · simp [Array.getElem?_eq_none h'] at h1

/-- The call of something that writes nothing of what is there. -/
theorem OwnOk.same {own : Own} {w w' : World} (h : OwnOk own w) (hf : Fr [] w w') : OwnOk own w' :=
  ⟨h.nodup, fun b k hb => by
    rw [hf.block b (h.lt (ids_mem hb)) (by simp)]
    exact h.blk b k hb⟩
theorem Good.same {Γ : Ctx} {own : Own} {w w' : World} (h : Good Γ own w) (hf : Fr [] w w') : Good Γ own w' :=
  ⟨h.fr.trans hf (by simp), h.ok.same hf, h.mine⟩

theorem cell_of_blk {own : Own} {w : World} (h : OwnOk own w) {b : Nat} {k : Blk} (hb : (b, k) ∈ own) {i : Nat} {v : Value} (hv : k.cells[i]? = some v) : w.cell? ⟨b, i, none⟩ = some v := by
  have hk := h.blk b k hb
  obtain ⟨arr, h1, _, h3⟩ := hk.toRow (hk.noObj (List.getElem?_eq_some_iff.1 hv).1)
  simp [World.cell?, h1, h3 i v hv]
theorem OwnOk.row {own : Own} {w : World} (h : OwnOk own w) {b : Nat} {k : Blk} (hb : (b, k) ∈ own) (hk : k.obj = none) : ∃ arr : Array Value, w.heap[b]? = some (.cells arr k.elem (0, 0)) ∧ arr.size = k.size ∧ ∀ (i : Nat) (v : Value), k.cells[i]? = some v → arr[i]? = some v :=
  (h.blk b k hb).toRow hk
theorem OwnOk.rowLt {own : Own} {w : World} (h : OwnOk own w) {b : Nat} {k : Blk} (hb : (b, k) ∈ own) {i : Nat} (hi : i < k.cells.length) : k.obj = none := (h.blk b k hb).noObj hi

/-! the steps of operations -/
def RunsTo (P : Program) (r : Result Next) (S : Value → World → Prop) : Prop :=
  match r with
  | .ok (.value v) w' => S v w'
  | .ok .skip w' => S undef w'
  | .ok (.enter g args) w' => Calls P g args w' (fun e w'' => ∃ v, e = .returned v ∧ S v w'')
  | .ok (.round l g tmps assign body) w' => RoundIn Fence.wide 0 P l g tmps assign body w' (fun e w'' => ∃ v, e = .returned v ∧ S v w'')
  | _ => False

theorem RunsTo.mono {P : Program} {r : Result Next} {S S' : Value → World → Prop} (h : RunsTo P r S) (hs : ∀ v w, S v w → S' v w) : RunsTo P r S' := by
  cases r with
  | ok n w' =>
    cases n <;> simp only [RunsTo] at h ⊢
    case value v => exact hs _ _ h
    case skip => exact hs _ _ h
    case enter g args => exact h.mono fun e w'' ⟨v, he, hv⟩ => ⟨v, he, hs _ _ hv⟩
    case round l g tmps assign body => exact h.mono fun e w'' ⟨v, he, hv⟩ => ⟨v, he, hs _ _ hv⟩
  | halt x w' => exact h

def Step (P : Program) (Γ : Ctx) (o : Oper) (f : Nat → Value) (own : Own) (S : Value → Own → Prop) : Prop :=
  ∀ w, Good Γ own w → RunsTo P ((execOp (ev f) o).run P w) (fun v w' => ∃ own', Good Γ own' w' ∧ (Fr (ids own) w w' ∧ ∀ b ∈ ids own', b ∈ ids own ∨ w.heap.size ≤ b) ∧ S v own')
/-- The world stands still. -/
theorem stay {l : List Nat} {own : Own} (w : World) : Fr l w w ∧ ∀ b ∈ ids own, b ∈ ids own ∨ w.heap.size ≤ b := ⟨Fr.refl _ _, fun _ h => .inl h⟩

/-- The fence that fences nothing; in a round, or not. -/
@[reducible] def fen : Option Nat → Fence
  | none => Fence.wide
  | some l => Fence.wide.inRound l
theorem fen_round (ro : Option Nat) : (fen ro).round = ro := by cases ro <;> rfl
theorem fen_fn (ro : Option Nat) (f : FuncId) : (fen ro).fn f := by cases ro <;> trivial
def noDefer (o : Oper) : Bool := match o.op with | .defer _ => false | _ => true
theorem semAt_plain {o : Oper} (h : noDefer o = true) (ro : Option Nat) (ρ : Operand → Value) : o.semAt ro ρ = execOp ρ o := by
  unfold Oper.semAt
  unfold noDefer at h
  split <;> first | rfl | simp_all
theorem wp_of_runs {P : Program} {ro : Option Nat} {o : Oper} {a : Act} {w : World} {next : Act → World → Prop} {Q : Exit → Act → World → Prop} (hd : noDefer o = true)
    (h : RunsTo P ((execOp a.eval o).run P w) (fun v w' => next (a.put o.dst v) w')) : o.wpIn (fen ro) 0 P a w next Q := by
  refine ⟨fun f _ => fen_fn ro f, ?_⟩
  rw [semAt_plain hd]
  generalize (execOp a.eval o).run P w = r at *
  cases r with
  | ok n w' =>
    cases n <;> simp only [RunsTo] at h <;> simp only [Oper.uponIn]
    case value v => exact h
    case skip => exact h
    case enter g args =>
      refine ⟨fun hh => (by cases ro <;> cases hh), ?_⟩
      have h1 : Calls P g args w' (fun
        | .returned v, w'' => next (a.put o.dst v) w''
        | .panicked chain, w'' => Q (.panic chain) a w''
        | .outgrown, _ => LetsOut Q) := h.mono fun e w'' ⟨v, he, hv⟩ => by subst he; exact hv
      cases ro <;> exact callsIn_wide.2 h1
    case round l g tmps assign body =>
      refine ⟨fun hh => (by cases ro <;> cases hh), ?_⟩
      have h1 : RoundIn Fence.wide 0 P l g tmps assign body w' (fun
        | .returned v, w'' => next (a.put o.dst v) w''
        | .panicked chain, w'' => Q (.panic chain) a w''
        | .outgrown, _ => LetsOut Q) := h.mono fun e w'' ⟨v, he, hv⟩ => by subst he; exact hv
      cases ro <;> exact h1
  | halt x w' => exact h.elim

/-! the logic -/
/-- Both ways behind a test. -/
def BSplit (b : Bool) (A B : Prop) : Prop := (b = true → A) ∧ (b = false → B)
theorem bs_dec {p : Prop} [Decidable p] {A B : Prop} (ht : p → A) (hf : ¬ p → B) : BSplit (decide p) A B := ⟨fun h => ht (of_decide_eq_true h), fun h => hf (of_decide_eq_false h)⟩
theorem bs_ndec {p : Prop} [Decidable p] {A B : Prop} (hf : p → B) (ht : ¬ p → A) : BSplit (!decide p) A B :=
  ⟨fun h => ht (by simpa using h), fun h => hf (by simpa using h)⟩
theorem bs_ndec2 {p : Prop} [Decidable p] {A B : Prop} (ht : ¬ p → A) (hf : p → B) : BSplit (!decide p) A B := bs_ndec hf ht
theorem bs_true {A B : Prop} (h : A) : BSplit true A B := ⟨fun _ => h, fun h => by cases h⟩
theorem bs_false {A B : Prop} (h : B) : BSplit false A B := ⟨fun h => (by cases h), fun _ => h⟩
theorem bs_ntrue {A B : Prop} (h : B) : BSplit (!true) A B := bs_false h
theorem bs_nfalse {A B : Prop} (h : A) : BSplit (!false) A B := bs_true h
theorem bs_nbeq {x y : Bool} {A B : Prop} (e : x = y) (h : B) : BSplit (!(x == y)) A B := by subst e; simpa using bs_false (A := A) h
theorem bs_any {b : Bool} {A B : Prop} (ht : b = true → A) (hf : b = false → B) : BSplit b A B := ⟨ht, hf⟩
theorem bs_nany {b : Bool} {A B : Prop} (hf : b = true → B) (ht : b = false → A) : BSplit (!b) A B := ⟨fun h => ht (by simpa using h), fun h => hf (by simpa using h)⟩

abbrev Post := Exit → (Nat → Value) → Own → Prop

/-- The mark that a range over a function leaves among the deferred calls. -/
def mark (r : Nat) : Deferred := { target := .collected r, args := #[] }
/-- The deferred calls are marks, of blocks that nobody else has; in a round there is none. -/
def Mk (ro : Option Nat) (Γ : Ctx) (own : Own) (ds : List Deferred) (w : World) : Prop :=
  (ro ≠ none → ds = []) ∧ ∃ rs : List Nat, ds = rs.map mark ∧ rs.Nodup ∧ ∀ r ∈ rs, w.heap[r]? = some (.deferred (some [])) ∧ r ∉ ids own ∧ Γ.w0.heap.size ≤ r
theorem Mk.nil (ro : Option Nat) (Γ : Ctx) (own : Own) (w : World) : Mk ro Γ own [] w := ⟨fun _ => rfl, [], rfl, List.nodup_nil, fun _ h => by cases h⟩
theorem Mk.step {ro : Option Nat} {Γ : Ctx} {own own' : Own} {ds : List Deferred} {w w' : World} (h : Mk ro Γ own ds w) (hf : Fr (ids own) w w') (hi : ∀ b ∈ ids own', b ∈ ids own ∨ w.heap.size ≤ b) : Mk ro Γ own' ds w' := by
  obtain ⟨h0, rs, h1, h2, h3⟩ := h
  refine ⟨h0, rs, h1, h2, fun r hr => ?_⟩
  obtain ⟨k1, k2, k3⟩ := h3 r hr
  have hlt : r < w.heap.size := (Array.getElem?_eq_some_iff.1 k1).1
  refine ⟨(hf.block r hlt k2).trans k1, fun hm => ?_, k3⟩
  rcases hi r hm with h | h
  · exact k2 h
  · omega
theorem Mk.sub {ro : Option Nat} {Γ : Ctx} {own own' : Own} {ds : List Deferred} {w : World} (h : Mk ro Γ own ds w) (hi : ∀ b ∈ ids own', b ∈ ids own) : Mk ro Γ own' ds w :=
  h.step (Fr.refl _ _) fun b hb => .inl (hi b hb)
theorem Mk.drew {ro : Option Nat} {Γ : Ctx} {own : Own} {ds : List Deferred} {w : World} (h : Mk ro Γ own ds w) : Mk ro Γ own ds { w with drawn := w.drawn + 1 } := h
theorem put_defers (a : Act) (d : Option Tmp) (v : Value) : (a.put d v).defers = a.defers := by cases d <;> rfl

def VQ (ro : Option Nat) (Γ : Ctx) (n : Nat) (Q : Post) : Exit → Act → World → Prop :=
  fun e a w => ∃ f own, FR n f a ∧ Good Γ own w ∧ Mk ro Γ own a.defers w ∧ Q e f own

def VWr (ro : Option Nat) (P : Program) (Γ : Ctx) (n : Nat) (c : Code) (Q : Post) (f : Nat → Value) (own : Own) : Prop :=
  ∀ a w, FR n f a → Good Γ own w → Mk ro Γ own a.defers w → c.wpIn (fen ro) 0 P (VQ ro Γ n Q) a w
/-- .. outside of rounds. -/
abbrev VW (P : Program) (Γ : Ctx) (n : Nat) (c : Code) (Q : Post) (f : Nat → Value) (own : Own) : Prop := VWr none P Γ n c Q f own

def gval (ops : Array Oper) (f : Nat → Value) (j : Nat) : Option Bool :=
  match (ops[j]?).bind (·.dst) with
  | some t => match f t with | .bool b => some b | _ => none
  | none => none

theorem yielded_eq {n : Nat} {f : Nat → Value} {a : Act} (h : FR n f a) (ops : Array Oper) (j : Nat) : yielded ops a.tmps j = gval ops f j := by
  unfold yielded gval
  cases (ops[j]?).bind (·.dst) with
  | none => rfl
  | some t =>
    show (match a.tmps[t]? with | some (.bool b) => some b | _ => none) = _
    have := h.get t
    cases ht : a.tmps[t]? with
    | none =>
      have hu : f t = undef := by rw [← this]; simp [ht]
      show none = (match f t with | .bool b => some b | _ => none)
      rw [hu]; rfl
    | some v =>
      have hu : f t = v := by rw [← this]; simp [ht]
      show _ = (match f t with | .bool b => some b | _ => none)
      rw [hu]
      cases v <;> rfl

def dstOk (n : Nat) (ops : List Oper) : Bool := ops.all fun o => noDefer o && match o.dst with | some d => Nat.blt d n | none => true

def VOps (P : Program) (Γ : Ctx) (ops : Array Oper) (Q : (Nat → Value) → Own → Prop) : List Oper → (Nat → Value) → Own → Prop
  | [], f, own => Q f own
  | o :: rest, f, own =>
    match o.guard with
    | none => Step P Γ o f own (fun v own' => VOps P Γ ops Q rest (put f o.dst v) own')
    | some (j, want) =>
      (gval ops f j = some want ∧ Step P Γ o f own (fun v own' => VOps P Γ ops Q rest (put f o.dst v) own')) ∨
      (gval ops f j ≠ some want ∧ VOps P Γ ops Q rest (put f o.dst undef) own)

def wpTail (ro : Option Nat) (P : Program) (ops : Array Oper) (Q : Exit → Act → World → Prop) : List Oper → Act → World → Prop
  | [], a, w => Q .normal a w
  | o :: rest, a, w =>
    if Region.wanted o (yielded ops a.tmps) then o.wpIn (fen ro) 0 P a w (wpTail ro P ops Q rest) Q else wpTail ro P ops Q rest (a.put o.dst undef) w

theorem wpOps_of_tail {ro : Option Nat} {P : Program} {ops : Array Oper} {Q : Exit → Act → World → Prop} (l : List Oper) :
    ∀ k, (∀ j, l[j]? = ops[k + j]?) → ∀ a w, wpTail ro P ops Q l a w → wpOpsIn (fen ro) 0 P ops Q (List.range' k l.length) a w := by
  induction l with
  | nil => intro k _ a w h; simpa [wpOpsIn, wpTail] using h
  | cons o l ih =>
    intro k hk a w h
    have h0 : ops[k]? = some o := by simpa using (hk 0).symm
    have hl : ∀ j, l[j]? = ops[k + 1 + j]? := fun j => by have := hk (j + 1); simpa [Nat.add_assoc, Nat.add_comm 1 j] using this
    simp only [List.length_cons, List.range'_succ, wpOpsIn, h0]
    simp only [wpTail] at h
    split
    · rename_i hw
      simp only [hw, if_true] at h
      exact Oper.wpIn_mono (fun a w => ih (k + 1) hl a w) h
    · rename_i hw
      simp only [hw] at h
      exact ⟨fun f _ => fen_fn ro f, ih (k + 1) hl _ _ h⟩

theorem tail_of_vops {ro : Option Nat} {P : Program} {Γ : Ctx} {n : Nat} {ops : Array Oper} {Q : Post} : ∀ (l : List Oper) (f : Nat → Value) (own : Own), dstOk n l = true →
    VOps P Γ ops (fun f own => Q .normal f own) l f own → ∀ a w, FR n f a → Good Γ own w → Mk ro Γ own a.defers w → wpTail ro P ops (VQ ro Γ n Q) l a w := by
  intro l
  induction l with
  | nil => intro f own _ h a w ha hg hm; exact ⟨f, own, ha, hg, hm, h⟩
  | cons o l ih =>
    intro f own hd h a w ha hg hm
    simp only [dstOk, List.all_cons, Bool.and_eq_true] at hd
    obtain ⟨⟨hnd, hd0⟩, hd1⟩ := hd
    have hdo : ∀ t, o.dst = some t → t < n := fun t ht => by rw [ht] at hd0; simpa [Nat.blt_eq] using hd0
    have go : ∀ S : Value → Own → Prop, Step P Γ o f own S → (∀ v own', S v own' → VOps P Γ ops (fun f own => Q .normal f own) l (put f o.dst v) own') →
        o.wpIn (fen ro) 0 P a w (wpTail ro P ops (VQ ro Γ n Q) l) (VQ ro Γ n Q) := fun S hs hk => by
      refine wp_of_runs hnd ?_
      rw [ha.eval]
      exact (hs w hg).mono fun v w' ⟨own', hg', hfr, hS⟩ => ih _ _ hd1 (hk v own' hS) _ _ (ha.put _ _ hdo) hg' (by rw [put_defers]; exact hm.step hfr.1 hfr.2)
    simp only [VOps] at h
    simp only [wpTail]
    cases hgd : o.guard with
    | none =>
      simp only [hgd] at h
      have hw : Region.wanted o (yielded ops a.tmps) = true := by simp [Region.wanted, hgd]
      simp only [hw, if_true]
      exact go _ h fun _ _ hh => hh
    | some jw =>
      obtain ⟨j, want⟩ := jw
      simp only [hgd] at h
      have hy := yielded_eq ha ops j
      rcases h with ⟨h1, h2⟩ | ⟨h1, h2⟩
      · have hw : Region.wanted o (yielded ops a.tmps) = true := by simp [Region.wanted, hgd, hy, h1]
        simp only [hw, if_true]
        exact go _ h2 fun _ _ hh => hh
      · have hw : Region.wanted o (yielded ops a.tmps) = false := by simpa [Region.wanted, hgd, hy] using h1
        simp only [hw, Bool.false_eq_true, if_false]
        exact ih _ _ hd1 h2 _ _ (ha.put _ _ hdo) hg (by rw [put_defers]; exact hm)

theorem vw_region {ro : Option Nat} {P : Program} {Γ : Ctx} {n : Nat} {id : Nat} {l : List Oper} {Q : Post} {f : Nat → Value} {own : Own} (hd : dstOk n l = true)
    (h : VOps P Γ l.toArray (fun f own => Q .normal f own) l f own) : VWr ro P Γ n (.region id l.toArray false) Q f own := by
  intro a w ha hg hm
  refine wpIn_region ?_
  have := wpOps_of_tail (ro := ro) (Q := VQ ro Γ n Q) l 0 (fun j => by simp) a w (tail_of_vops l f own hd h a w ha hg hm)
  rw [List.range_eq_range']
  simpa using this

theorem vw_mono {ro : Option Nat} {P : Program} {Γ : Ctx} {n : Nat} {c : Code} {Q Q' : Post} {f : Nat → Value} {own : Own} (h : VWr ro P Γ n c Q f own) (hq : ∀ e f own, Q e f own → Q' e f own) : VWr ro P Γ n c Q' f own :=
  fun a w ha hg hm => wpIn_mono (h a w ha hg hm) fun _ _ _ ⟨f, own, h1, h2, hm, h3⟩ => ⟨f, own, h1, h2, hm, hq _ _ _ h3⟩

/-- Behind normal: K; else Q. -/
@[reducible] def Then (K : (Nat → Value) → Own → Prop) (Q : Post) : Post
  | .normal, f, own => K f own
  | e, f, own => Q e f own

section
variable {ro : Option Nat} {P : Program} {Γ : Ctx} {n : Nat} {Q : Post} {f : Nat → Value} {own : Own}

theorem vw_seq {x y : Code} (h : VWr ro P Γ n x (Then (VWr ro P Γ n y Q) Q) f own) : VWr ro P Γ n (.seq x y) Q f own := by
  intro a w ha hg hm
  refine wpIn_seq (wpIn_mono (h a w ha hg hm) ?_)
  rintro e a' w' ⟨f', own', h1, h2, hm', h3⟩
  cases e with
  | normal => exact h3 a' w' h1 h2 hm'
  | _ => exact ⟨f', own', h1, h2, hm', h3⟩

theorem vw_skip (h : Q .normal f own) : VWr ro P Γ n .skip Q f own := fun _ _ ha hg hm => wpIn_skip ⟨f, own, ha, hg, hm, h⟩
theorem vw_ret (h : Q .ret f own) : VWr ro P Γ n .ret Q f own := fun _ _ ha hg hm => wpIn_ret ⟨f, own, ha, hg, hm, h⟩
theorem vw_exit {id : Nat} (h : Q (.exit id) f own) : VWr ro P Γ n (.exit id) Q f own := fun _ _ ha hg hm => wpIn_exit ⟨f, own, ha, hg, hm, h⟩
theorem vw_goto {id : Nat} (h : Q (.goto id) f own) : VWr ro P Γ n (.goto id) Q f own := fun _ _ ha hg hm => wpIn_goto ⟨f, own, ha, hg, hm, h⟩
theorem vw_label {id : Nat} (h : Q .normal f own) : VWr ro P Γ n (.label id) Q f own := fun _ _ ha hg hm => wpIn_label ⟨f, own, ha, hg, hm, h⟩

theorem vw_true {c : Operand} {x y : Code} (hc : ev f c = .bool true) (h : VWr ro P Γ n x Q f own) : VWr ro P Γ n (.cond c x y) Q f own :=
  fun a w ha hg hm => wpIn_cond_true (by rw [ha.eval]; exact hc) (h a w ha hg hm)
theorem vw_false {c : Operand} {x y : Code} (hc : ev f c = .bool false) (h : VWr ro P Γ n y Q f own) : VWr ro P Γ n (.cond c x y) Q f own :=
  fun a w ha hg hm => wpIn_cond_false (by rw [ha.eval]; exact hc) (h a w ha hg hm)
/-- A test: both ways. -/
theorem vw_cond {c : Operand} {x y : Code} {b : Bool} (hc : ev f c = .bool b) (h : BSplit b (VWr ro P Γ n x Q f own) (VWr ro P Γ n y Q f own)) : VWr ro P Γ n (.cond c x y) Q f own := by
  cases b
  · exact vw_false hc (h.2 rfl)
  · exact vw_true hc (h.1 rfl)
theorem vw_ndec {c : Operand} {x y : Code} {p : Prop} [Decidable p] (hc : ev f c = .bool (!decide p)) (ht : ¬ p → VWr ro P Γ n x Q f own) (hf : p → VWr ro P Γ n y Q f own) : VWr ro P Γ n (.cond c x y) Q f own := by
  by_cases h : p
  · exact vw_false (by rw [hc, decide_eq_true h]; rfl) (hf h)
  · exact vw_true (by rw [hc, decide_eq_false h]; rfl) (ht h)
theorem vw_if {c : Operand} {x y : Code} {t : Bool} (hc : ev f c = .bool t) (ht : t = true → VWr ro P Γ n x Q f own) (hf : t = false → VWr ro P Γ n y Q f own) : VWr ro P Γ n (.cond c x y) Q f own := by
  cases t
  · exact vw_false hc (hf rfl)
  · exact vw_true hc (ht rfl)
theorem vw_dec {c : Operand} {x y : Code} {p : Prop} [Decidable p] (hc : ev f c = .bool (decide p)) (ht : p → VWr ro P Γ n x Q f own) (hf : ¬ p → VWr ro P Γ n y Q f own) : VWr ro P Γ n (.cond c x y) Q f own :=
  vw_if hc (fun h => ht (of_decide_eq_true h)) (fun h => hf (of_decide_eq_false h))

@[reducible] def InBlock (id : Nat) (Q : Post) : Post
  | .exit i, f, own => if i = id then Q .normal f own else Q (.exit i) f own
  | e, f, own => Q e f own

theorem vw_block {id : Nat} {c : Code} (h : VWr ro P Γ n c (InBlock id Q) f own) : VWr ro P Γ n (.block id c) Q f own := by
  intro a w ha hg hm
  refine wpIn_block (wpIn_mono (h a w ha hg hm) ?_)
  rintro e a' w' ⟨f', own', h1, h2, hm', h3⟩
  cases e with
  | exit i =>
    simp only [Exit.inBlock, InBlock] at *
    split
    · rename_i hi; simp only [hi, if_true] at h3; exact ⟨f', own', h1, h2, hm', h3⟩
    · rename_i hi; simp only [hi, if_false] at h3; exact ⟨f', own', h1, h2, hm', h3⟩
  | _ => exact ⟨f', own', h1, h2, hm', h3⟩

theorem vw_loop {c : Code} (I : Nat → (Nat → Value) → Own → Prop) (m : Nat) (h0 : I m f own)
    (round : ∀ m f own, I m f own → VWr ro P Γ n c (Then (fun f' own' => ∃ m', m' < m ∧ I m' f' own') Q) f own) : VWr ro P Γ n (.loop c) Q f own := by
  intro a w ha hg hm b k cs hro hb hr
  have key : ∀ m f own, I m f own → ∀ a w, FR n f a → Good Γ own w → Mk ro Γ own a.defers w →
      ∃ e a' w', VQ ro Γ n Q e a' w' ∧ ArrivesIn (Machine.fenced P (fen ro)) P (lone (b.atR a (.code c :: .inLoop c :: k)) cs w) b k cs e a' w' := by
    intro m
    induction m using Nat.strongRecOn with
    | _ m ih =>
      intro f own hI a w ha hg hm
      obtain ⟨e, a₁, w₁, ⟨f₁, own₁, h1, h2, hm₁, h3⟩, harr⟩ := round m f own hI a w ha hg hm b (.inLoop c :: k) cs hro hb hr
      cases e with
      | normal =>
        obtain ⟨m', hlt, hI₁⟩ := h3
        obtain ⟨e₂, a₂, w₂, hq₂, harr₂⟩ := ih m' hlt f₁ own₁ hI₁ a₁ w₁ h1 h2 hm₁
        exact ⟨e₂, a₂, w₂, hq₂, .of_steps (StepsIn.trans harr (.one (fenced_calm hb hr rfl) stepR_inLoop)) harr₂⟩
      | exit id => exact ⟨_, a₁, w₁, ⟨f₁, own₁, h1, h2, hm₁, h3⟩, .pass (x := .inLoop c) rfl (fun _ _ => .inl (by simp)) harr⟩
      | goto l => exact ⟨_, a₁, w₁, ⟨f₁, own₁, h1, h2, hm₁, h3⟩, .pass (x := .inLoop c) rfl (fun _ _ => .inl (by simp)) harr⟩
      | ret => exact ⟨_, a₁, w₁, ⟨f₁, own₁, h1, h2, hm₁, h3⟩, .pass (x := .inLoop c) rfl (fun _ _ => .inl (by simp)) harr⟩
      | panic ch => exact ⟨_, a₁, w₁, ⟨f₁, own₁, h1, h2, hm₁, h3⟩, .pass (x := .inLoop c) rfl (fun _ _ => .inl (by simp)) harr⟩
      | outgrown => exact ⟨_, a₁, w₁, ⟨f₁, own₁, h1, h2, hm₁, h3⟩, .pass (x := .inLoop c) rfl (fun _ _ => .inl (by simp)) harr⟩
  obtain ⟨e, a', w', hq, harr⟩ := key m f own h0 a w ha hg hm
  exact ⟨e, a', w', hq, .of_steps (.one (fenced_calm hb hr rfl) stepR_loop) harr⟩
end
end Go.VL
