import Derived.Test.YtnammdmiljjhjaaVLOpen
/-! Blocks of one's own are found by search: in what is owned, by their numbers. -/
namespace Go.VL
open Go.RowKit

theorem mem_here {α : Type} {x : α} {R : List α} : x ∈ x :: R := List.mem_cons_self
theorem mem_next {α : Type} {x y : α} {R : List α} (h : x ∈ R) : x ∈ y :: R := List.mem_cons_of_mem _ h
theorem mem_past {α : Type} {x : α} {A R : List α} (h : x ∈ R) : x ∈ A ++ R := List.mem_append_right _ h
theorem mem_in {α : Type} {x : α} {A R : List α} (h : x ∈ A) : x ∈ A ++ R := List.mem_append_left _ h
theorem sub_hereL {A R : Own} : Sub A (A ++ R) := fun _ h => List.mem_append_left _ h
theorem sub_nil {R : Own} : Sub [] R := fun _ h => by cases h
theorem pm_here {A R : Own} : (A ++ R).Perm (A ++ R) := List.Perm.refl _
theorem pm_next {x : Nat × Blk} {B R R' : Own} (h : R.Perm (B ++ R')) : (x :: R).Perm (B ++ (x :: R')) := (h.cons x).trans List.perm_middle.symm
theorem pm_past {A B R R' : Own} (h : R.Perm (B ++ R')) : (A ++ R).Perm (B ++ (A ++ R')) := (h.append_left A).trans (by
  rw [← List.append_assoc, ← List.append_assoc]; exact List.perm_append_comm.append_right R')

/-- One block is written anew. -/
def Upd (own own' : Own) (b : Nat) (k k' : Blk) : Prop := ∃ A B, own = A ++ (b, k) :: B ∧ own' = A ++ (b, k') :: B
theorem upd_here {b : Nat} {k k' : Blk} {R : Own} : Upd ((b, k) :: R) ((b, k') :: R) b k k' := ⟨[], R, rfl, rfl⟩
theorem upd_next {b : Nat} {k k' : Blk} {x : Nat × Blk} {R R' : Own} (h : Upd R R' b k k') : Upd (x :: R) (x :: R') b k k' := by
  obtain ⟨A, B, rfl, rfl⟩ := h; exact ⟨x :: A, B, rfl, rfl⟩
theorem upd_past {b : Nat} {k k' : Blk} {X R R' : Own} (h : Upd R R' b k k') : Upd (X ++ R) (X ++ R') b k k' := by
  obtain ⟨A, B, rfl, rfl⟩ := h; exact ⟨X ++ A, B, by simp, by simp⟩
theorem Upd.idx {own own' : Own} {b : Nat} {k k' : Blk} (h : Upd own own' b k k') : ∃ i, own[i]? = some (b, k) ∧ own' = own.set i (b, k') := by
  obtain ⟨A, B, rfl, rfl⟩ := h
  exact ⟨A.length, by simp, by simp⟩

/-- In every world in which what is owned lies as it is told. -/
def See (Γ : Ctx) (own : Own) (R : World → Prop) : Prop := ∀ w, Good Γ own w → R w
theorem See.sub {Γ : Ctx} {own new : Own} {R : World → Prop} (h : ∀ w, OwnOk new w → R w) (hn : (ids new).Nodup) (hs : Sub new own) : See Γ own R :=
  fun w hg => h w (hg.ok.sub hn hs)

section
variable {P : Program} {T : Nat → Option TI} {Γ : Ctx} {ops : Array Oper} {Q : (Nat → Value) → Own → Prop} {rest : List Oper} {f : Nat → Value} {own own' : Own}
variable {ty : TypeId} {pos : String} {aft : Array Edge}

theorem vops_loadM (hT : TyOk P T) {d : Nat} {t : Nat} {x : Operand} {i : TI} {b o : Nat} {v : Value} {cs : List Value} {e n : Nat} (ht : T t = some i) (hp : i.plain = true) (hx : ev f x = .pointer (some ⟨b, o, none⟩)) (hm : (b, (⟨cs, e, n, none⟩ : Blk)) ∈ own) (hv : cs[o]? = some v)
    (k : VOps P Γ ops Q rest (upd f d v) own) : VOps P Γ ops Q (⟨some d, .load t x, ty, pos, aft, none⟩ :: rest) f own :=
  vops_load hT ht hp hx (sees_mem hm hv) k
theorem vops_loadNM (hT : TyOk P T) {d : Nat} {t : Nat} {x : Operand} {i : TI} {b : Nat} {cs : List Value} {e n : Nat} (ht : T t = some i) (ha : i.isAgg = true) (hx : ev f x = .pointer (some ⟨b, 0, none⟩)) (hm : (b, (⟨cs, e, n, none⟩ : Blk)) ∈ own) (hn : cs.length = i.size)
    (k : VOps P Γ ops Q rest (upd f d (.agg cs.toArray)) own) : VOps P Γ ops Q (⟨some d, .load t x, ty, pos, aft, none⟩ :: rest) f own :=
  vops_loadN hT cs ht ha hx hn (fun j v hj => by rw [Nat.zero_add]; exact sees_mem hm hj) k
theorem vops_storeM (hT : TyOk P T) {t : Nat} {x y : Operand} {b o : Nat} {v : Value} {ti : TI} {cs : List Value} {e n : Nat} (ht : T t = some ti) (hp : ti.size = 1) (hx : ev f x = .pointer (some ⟨b, o, none⟩)) (hy : force (ev f y) = some v) (hv : Value.one v = true)
    (hu : Upd own own' b ⟨cs, e, n, none⟩ ⟨cs.set o v, e, n, none⟩) (hlt : o < cs.length)
    (kk : VOps P Γ ops Q rest f own') : VOps P Γ ops Q (⟨none, .store t x y, ty, pos, aft, none⟩ :: rest) f own := by
  obtain ⟨i, h1, rfl⟩ := hu.idx
  exact vops_store hT i ht hp hx (force_eq hy) hv h1 hlt kk
theorem vops_storeIM (hT : TyOk P T) {t : Nat} {x y : Operand} {b o : Nat} {v : Int} {ti : TI} {q : List Int} {e n : Nat} (ht : T t = some ti) (hp : ti.size = 1) (hx : ev f x = .pointer (some ⟨b, 0 + o, none⟩)) (hy : ev f y = .int .i64 v)
    (hu : Upd own own' b ⟨ints q, e, n, none⟩ ⟨ints (q.set o v), e, n, none⟩) (hlt : o < q.length)
    (kk : VOps P Γ ops Q rest f own') : VOps P Γ ops Q (⟨none, .store t x y, ty, pos, aft, none⟩ :: rest) f own := by
  obtain ⟨i, h1, rfl⟩ := hu.idx
  exact vops_storeI i hT ht hp hx hy h1 hlt kk
theorem vops_storeAM (hT : TyOk P T) {t : Nat} {x y : Operand} {b : Nat} {cs cs0 : List Value} {ti : TI} {e n : Nat} (ht : T t = some ti) (hx : ev f x = .pointer (some ⟨b, 0, none⟩)) (hy : ev f y = .agg cs.toArray)
    (hn : cs.length = ti.size) (h1 : ∀ v ∈ cs, v.oneCell' = true) (hu : Upd own own' b ⟨cs0, e, n, none⟩ ⟨cs, e, n, none⟩) (hlen : n = cs.length)
    (kk : VOps P Γ ops Q rest f own') : VOps P Γ ops Q (⟨none, .store t x y, ty, pos, aft, none⟩ :: rest) f own := by
  obtain ⟨i, h1', rfl⟩ := hu.idx
  exact vops_storeA hT i ht hn hx hy h1 h1' hlen kk
end

/-! lists of numbers -/
/-- v is a list of numbers that lies in w. -/
def RdI (w : World) (v : Value) (l : List Int) : Prop :=
  (∃ a cap, v = .slice a 0 cap ∧ l = []) ∨ ∃ b o cap, v = .slice (some ⟨b, o, none⟩) l.length cap ∧ ∀ j x, (ints l)[j]? = some x → w.cell? ⟨b, o + j, none⟩ = some x
theorem RdI.same {w w' : World} {v : Value} {l : List Int} (h : RdI w v l) (hf : Fr [] w w') : RdI w' v l := by
  rcases h with h | ⟨b, o, cap, hv, hc⟩
  · exact .inl h
  · exact .inr ⟨b, o, cap, hv, fun j x hx => hf.cell (by simp) (hc j x hx)⟩
theorem RdI.len {w : World} {v : Value} {l : List Int} (h : RdI w v l) : ∃ a cap, v = .slice a l.length cap := by
  rcases h with ⟨a, cap, hv, rfl⟩ | ⟨b, o, cap, hv, _⟩
  · exact ⟨a, cap, hv⟩
  · exact ⟨_, cap, hv⟩
theorem RdI.at {w : World} {v : Value} {l : List Int} (h : RdI w v l) {i : Nat} (hi : i < l.length) : ∃ b o cap, v = .slice (some ⟨b, o, none⟩) l.length cap ∧ ∀ j, j < l.length → w.cell? ⟨b, o + j, none⟩ = some (.int .i64 (l.getD j 0)) := by
  rcases h with ⟨a, cap, hv, rfl⟩ | ⟨b, o, cap, hv, hc⟩
  · simp at hi
  · exact ⟨b, o, cap, hv, fun j hj => hc j _ (ints_get hj)⟩

/-- A new list of numbers. -/
def NewI (e : Nat) (l : List Int) (v : Value) (new : Own) : Prop := SlAt e 1 v l.length (ints l) new []
/-- A new list of rows of k numbers. -/
def NewR (e k : Nat) (rs : List (List Int)) (v : Value) (new : Own) : Prop := SlAt e k v rs.length (ints rs.flatten) new []

theorem SlAt.form {e k n : Nat} {v : Value} {cells : List Value} {own rest : Own} (h : SlAt e k v n cells own rest) : ∃ p cap, v = .slice p n cap := by
  rcases h.2 with ⟨h1, h2, _⟩ | ⟨b, cap, h1, _⟩
  · exact ⟨none, 0, by rw [h1, h2]⟩
  · exact ⟨_, cap, h1⟩
theorem SlAt.nodup {e k n : Nat} {v : Value} {cells : List Value} {own : Own} (h : SlAt e k v n cells own []) : (ids own).Nodup := by
  rcases h.2 with ⟨_, _, rfl⟩ | ⟨b, cap, _, _, _, rfl⟩ <;> simp [ids]
theorem NewI.rd {e : Nat} {l : List Int} {v : Value} {new : Own} (h : NewI e l v new) {w : World} (hw : OwnOk new w) : RdI w v l := by
  rcases h.2 with ⟨h1, h2, _⟩ | ⟨b, cap, h1, _, _, rfl⟩
  · exact .inl ⟨none, 0, h1, List.eq_nil_of_length_eq_zero h2⟩
  · exact .inr ⟨b, 0, cap, h1, fun j x hx => by rw [Nat.zero_add]; exact cell_of_blk hw List.mem_cons_self hx⟩
theorem NewR.rd {e k : Nat} {rs : List (List Int)} {v : Value} {new : Own} (h : NewR e k rs v new) {w : World} (hw : OwnOk new w) : RdS w v rs := by
  rcases h.2 with ⟨h1, h2, _⟩ | ⟨b, cap, h1, _, _, rfl⟩
  · exact .inl ⟨none, 0, h1, List.eq_nil_of_length_eq_zero h2⟩
  · exact .inr ⟨b, 0, cap, h1, fun j x hx => by rw [Nat.zero_add]; exact cell_of_blk hw List.mem_cons_self hx⟩
theorem NewI.see {Γ : Ctx} {own : Own} {e : Nat} {l : List Int} {v : Value} {new : Own} (h : NewI e l v new) (hs : Sub new own) : See Γ own (fun w => RdI w v l) :=
  See.sub (fun _ hw => h.rd hw) (SlAt.nodup h) hs
theorem NewR.see {Γ : Ctx} {own : Own} {e k : Nat} {rs : List (List Int)} {v : Value} {new : Own} (h : NewR e k rs v new) (hs : Sub new own) : See Γ own (fun w => RdS w v rs) :=
  See.sub (fun _ hw => h.rd hw) (SlAt.nodup h) hs
theorem see_old {w : World} {own : Own} {R : World → Prop} (h : R w) (hf : ∀ w', Fr [] w w' → R w') : See ⟨w, []⟩ own R := by
  have _ := h
  exact fun w' hg => hf w' hg.fr
theorem see_rdI {w : World} {own : Own} {v : Value} {l : List Int} (h : RdI w v l) : See ⟨w, []⟩ own (fun w => RdI w v l) := fun _ hg => h.same hg.fr
theorem see_rdS {w : World} {own : Own} {v : Value} {rs : List (List Int)} (h : RdS w v rs) : See ⟨w, []⟩ own (fun w => RdS w v rs) := fun _ hg => h.same hg.fr
end Go.VL

namespace Go.VL
open Go.RowKit
/-! lists of numbers, flat -/
/-- v is n elements of k numbers each that lie in w; together they are q. -/
def RdF (w : World) (k n : Nat) (v : Value) (q : List Int) : Prop :=
  (∃ a cap, v = .slice a 0 cap ∧ n = 0 ∧ q = []) ∨ ∃ b o cap, v = .slice (some ⟨b, o, none⟩) n cap ∧ q.length = n * k ∧ ∀ j x, (ints q)[j]? = some x → w.cell? ⟨b, o + j, none⟩ = some x
/-- A new list of n elements of k numbers each. -/
def NewF (e k n : Nat) (q : List Int) (v : Value) (new : Own) : Prop := SlAt e k v n (ints q) new []
theorem RdF.len {w : World} {k n : Nat} {v : Value} {q : List Int} (h : RdF w k n v q) : ∃ a cap, v = .slice a n cap := by
  rcases h with ⟨a, cap, hv, rfl, rfl⟩ | ⟨b, o, cap, hv, _⟩
  · exact ⟨a, cap, hv⟩
  · exact ⟨_, cap, hv⟩
theorem RdF.at {w : World} {k n : Nat} {v : Value} {q : List Int} (h : RdF w k n v q) {i : Nat} (hi : i < n) :
    ∃ b o cap, v = .slice (some ⟨b, o, none⟩) n cap ∧ q.length = n * k ∧ ∀ j, j < n * k → w.cell? ⟨b, o + j, none⟩ = some (.int .i64 (q.getD j 0)) := by
  rcases h with ⟨a, cap, hv, rfl, rfl⟩ | ⟨b, o, cap, hv, hq, hc⟩
  · omega
  · exact ⟨b, o, cap, hv, hq, fun j hj => hc j _ (ints_get (by omega))⟩
theorem NewF.rd {e k n : Nat} {q : List Int} {v : Value} {new : Own} (h : NewF e k n q v new) {w : World} (hw : OwnOk new w) : RdF w k n v q := by
  have hl := h.1
  rw [ints_length] at hl
  rcases h.2 with ⟨h1, h2, _⟩ | ⟨b, cap, h1, _, _, rfl⟩
  · subst h2; exact .inl ⟨none, 0, h1, rfl, List.eq_nil_of_length_eq_zero (by simpa using hl)⟩
  · exact .inr ⟨b, 0, cap, h1, hl, fun j x hx => by rw [Nat.zero_add]; exact cell_of_blk hw List.mem_cons_self hx⟩
theorem NewF.see {Γ : Ctx} {own : Own} {e k n : Nat} {q : List Int} {v : Value} {new : Own} (h : NewF e k n q v new) (hs : Sub new own) : See Γ own (fun w => RdF w k n v q) :=
  See.sub (fun _ hw => h.rd hw) (SlAt.nodup h) hs
theorem NewR.f {e k : Nat} {rs : List (List Int)} {v : Value} {new : Own} (h : NewR e k rs v new) : NewF e k rs.length rs.flatten v new := h
theorem NewI.f {e : Nat} {l : List Int} {v : Value} {new : Own} (h : NewI e l v new) : NewF e 1 l.length l v new := h

/-- The numbers from k on. -/
def iota (k : Int) (n : Nat) : List Int := (List.range n).map fun (j : Nat) => k + (j : Int)
theorem iota_length (k : Int) (n : Nat) : (iota k n).length = n := by simp [iota]
theorem iota_get (k : Int) (n j : Nat) (h : j < n) : (iota k n).getD j 0 = k + j := by simp [iota, h]
/-- The first t places marked. -/
def markTo (q : List Int) (k : Int) (t : Nat) : List Int := iota k t ++ q.drop t
theorem markTo_length {q : List Int} {k : Int} {t : Nat} (h : t ≤ q.length) : (markTo q k t).length = q.length := by simp [markTo, iota_length]; omega
theorem markTo_zero (q : List Int) (k : Int) : markTo q k 0 = q := by simp [markTo, iota]
theorem markTo_all {q : List Int} {k : Int} {n : Nat} (h : q.length = n) : markTo q k n = iota k n := by
  subst h; simp [markTo]
theorem markTo_step {q : List Int} {k : Int} {t : Nat} (h : t < q.length) : (markTo q k t).set t (k + t) = markTo q k (t + 1) := by
  unfold markTo
  rw [List.set_append_right _ _ (by simp [iota_length]), iota_length, Nat.sub_self]
  have hd : q.drop t = q[t] :: q.drop (t + 1) := List.drop_eq_getElem_cons h
  rw [hd, List.set_cons_zero]
  have : iota k (t + 1) = iota k t ++ [k + (t : Int)] := by simp [iota, List.range_succ]
  rw [this]; simp

/-! what a loop collects -/
def collect (p : Nat → Bool) (g : Nat → Int) (k : Nat) : List Int := ((List.range k).filter p).map g
theorem collect_zero (p : Nat → Bool) (g : Nat → Int) : collect p g 0 = [] := rfl
theorem collect_yes {p : Nat → Bool} {g : Nat → Int} {k : Nat} (h : p k = true) : collect p g (k + 1) = collect p g k ++ [g k] := by
  simp [collect, List.range_succ, List.filter_append, h]
theorem collect_no {p : Nat → Bool} {g : Nat → Int} {k : Nat} (h : p k = false) : collect p g (k + 1) = collect p g k := by
  simp [collect, List.range_succ, List.filter_append, h]
theorem collect_le (p : Nat → Bool) (g : Nat → Int) (k : Nat) : (collect p g k).length ≤ k := by
  have := List.length_filter_le p (List.range k)
  simpa [collect] using this

section
variable {P : Program} {T : Nat → Option TI} {Γ : Ctx} {ops : Array Oper} {Q : (Nat → Value) → Own → Prop} {rest : List Oper} {f : Nat → Value} {own own' : Own}
variable {ty : TypeId} {pos : String} {aft : Array Edge}
theorem perm_ids {own own' : Own} (hp : own.Perm own') {b : Nat} : b ∈ ids own ↔ b ∈ ids own' := (hp.map Prod.fst).mem_iff
theorem Step.perm {o : Oper} {S : Value → Own → Prop} (hp : own.Perm own') (h : Step P Γ o f own' S) : Step P Γ o f own S := fun w hg =>
  (h w (hg.perm hp)).mono fun _ _ ⟨o', h1, ⟨h2, h3⟩, h4⟩ => ⟨o', h1, ⟨h2.mono fun _ hx => (perm_ids hp).2 hx, fun b hb => (h3 b hb).imp (perm_ids hp).2 id⟩, h4⟩
theorem vops_perm {d : Option Tmp} {op : Op} {l : List Oper} (hp : own.Perm own') (h : VOps P Γ ops Q (⟨d, op, ty, pos, aft, none⟩ :: l) f own') : VOps P Γ ops Q (⟨d, op, ty, pos, aft, none⟩ :: l) f own :=
  Step.perm hp h
theorem slAt_rest {e size n : Nat} {v : Value} {cells : List Value} {new R : Own} (h : SlAt e size v n cells new []) : SlAt e size v n cells (new ++ R) R := by
  refine ⟨h.1, ?_⟩
  rcases h.2 with ⟨h1, h2, rfl⟩ | ⟨b, cap, h1, h2, h3, rfl⟩
  · exact .inl ⟨h1, h2, rfl⟩
  · exact .inr ⟨b, cap, h1, h2, h3, rfl⟩
theorem slAt_new {e size n : Nat} {v : Value} {cells : List Value} {own R : Own} (h : SlAt e size v n cells own R) : ∃ new, own = new ++ R ∧ SlAt e size v n cells new [] := by
  rcases h.2 with ⟨h1, h2, rfl⟩ | ⟨b, cap, h1, h2, h3, rfl⟩
  · exact ⟨[], rfl, h.1, .inl ⟨h1, h2, rfl⟩⟩
  · exact ⟨[_], rfl, h.1, .inr ⟨b, cap, h1, h2, h3, rfl⟩⟩
/-- Elements behind a slice of one's own, wherever it lies. -/
theorem vops_appendM (hT : TyOk P T) {d t e a b : Nat} {z : List Value} {x y : Operand} {ei : TI} {n m c : Nat} {cells news : List Value} {ob oo : Nat} {v0 : Value} {new R : Own}
    (hx : ev f x = v0) (hs : SlAt e ei.size v0 n cells new []) (hp : own.Perm (new ++ R))
    (ht : T t = some ⟨.slice e, a, b, z⟩) (he : T e = some ei) (hz : ei.zero ≠ [])
    (hzl : ei.zero.length = ei.size)
    (hy : ev f y = .slice (some ⟨ob, oo, none⟩) m c) (hl : news.length = m * ei.size) (hnews : SeesL Γ own ob oo news) (h1 : ∀ u ∈ news, u.oneCell' = true)
    (hm : 0 < m) (h63 : n + m ≤ maxLen) (hbytes : (n + m) * ei.bytes ≤ 140737488355328)
    (k : ∀ v new', SlAt e ei.size v (n + m) (cells ++ news) new' [] → VOps P Γ ops Q rest (upd f d v) (new' ++ R)) :
    VOps P Γ ops Q (⟨some d, .call ⟨.builtin .append, #[x, y], #[t, t]⟩, ty, pos, aft, none⟩ :: rest) f own := by
  subst hx
  refine vops_perm hp (vops_append hT ht he hz hzl (slAt_rest hs) hy hl (fun j v hj w hg => hnews j v hj w (hg.perm hp.symm)) h1 hm h63 hbytes fun v own' h => ?_)
  obtain ⟨new', rfl, h'⟩ := slAt_new h
  exact k v new' h'

theorem vd_loadNM (hT : TyOk P T) {base : Own} {L : List Nat} {listed : Array Bool} {i d : Nat} {g : Option (Nat × Bool)} {t : Nat} {x : Operand} {ti : TI} {b : Nat} {cs : List Value} {e n : Nat} (ho : ops[i]? = some ⟨some d, .load t x, ty, pos, aft, g⟩) (hg : GOn ops f g) (ht : T t = some ti) (hp : ti.isAgg = true) (hx : ev f x = .pointer (some ⟨b, 0, none⟩))
    (hm : (b, (⟨cs, e, n, none⟩ : Blk)) ∈ base) (hn : cs.length = ti.size)
    (hr : (Region.ready .any ops listed).contains i = true) (hf : Region.free .any ops listed i = true) (hk : freeK ops listed i = true) (hsb : Sub base own)
    (k : VD P Γ ops base Q L (listed.setIfInBounds i true) (upd f d (.agg cs.toArray)) own) : VD P Γ ops base Q (i :: L) listed f own :=
  vd_loadN hT cs ho hg ht hp hx hn hr hf hk (fun j v hj => by rw [Nat.zero_add]; exact sees_mem hm hj) hsb k
end
end Go.VL
