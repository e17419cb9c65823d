import Derived.Test.YtlfflmoegfibgaaVLRows
/-! Lists of lists of one's own that grow. -/
namespace Go.VL
open Go.RowKit
section
variable {P : Program} {T : Nat → Option TI} {Γ : Ctx} {ops : Array Oper} {Q : (Nat → Value) → Own → Prop} {rest : List Oper} {f : Nat → Value} {own own' : Own}
variable {ty : TypeId} {pos : String} {aft : Array Edge}
/-- A literal list of one value. -/
theorem vops_litV {v : Value} (hT : TyOk P T) {d t e a b : Nat} {z : List Value} {ei : TI} {x : Operand} (ht : T t = some ⟨.slice e, a, b, z⟩) (he : T e = some ei) (hz : ei.zero ≠ []) (hk : ei.size = 1) (hx : ev f x = v) (hv : v.cells.toList = [v])
    (kk : ∀ b, b ∉ ids own → VOps P Γ ops Q rest (upd f d (.slice (some ⟨b, 0, none⟩) 1 1)) ((b, ⟨[v], e, 1 * 1, none⟩) :: own)) :
    VOps P Γ ops Q (⟨some d, .buildSlice t 1 #[(0, x)], ty, pos, aft, none⟩ :: rest) f own := by
  have := vops_buildS (P := P) (Γ := Γ) (ops := ops) (Q := Q) (rest := rest) (f := f) (own := own) (ty := ty) (pos := pos) (aft := aft) (ps := [(0, x)]) (n := 1) [v] [v] hT ht he hz (by rw [← hx]; rfl) rfl (by omega) (by omega) (by omega) (d := d) (fun u hu => by
    obtain rfl : u = v := by simpa using hu
    have : u.cells.size = u.cells.toList.length := by simp
    rw [this, hv, hk]; rfl) (by simp [hv])
  rw [hk] at this
  exact this kk
/-- One value behind a list of one's own. -/
theorem vops_appendV (hT : TyOk P T) {d t e a b : Nat} {z : List Value} {x y : Operand} {ei : TI} {n c ob e' c' : Nat} {vs : List Value} {u v0 : Value} {new R : Own}
    (ht : T t = some ⟨.slice e, a, b, z⟩) (he : T e = some ei) (hz : ei.zero ≠ []) (hzl : ei.zero.length = ei.size) (hk : ei.size = 1) (hbt : ei.bytes ≤ 1000)
    (hx : ev f x = v0) (hN : SlAt e 1 v0 n vs new []) (hp : own.Perm (new ++ R))
    (hy : ev f y = .slice (some ⟨ob, 0, none⟩) 1 c) (hm : (ob, (⟨[u], e', c', none⟩ : Blk)) ∈ own) (hu : u.oneCell' = true) (hn : n ≤ 1073741824)
    (kk : ∀ p cap new', SlAt e 1 (.slice p (n + 1) cap) (n + 1) (vs ++ [u]) new' [] → VOps P Γ ops Q rest (upd f d (.slice p (n + 1) cap)) (new' ++ R)) :
    VOps P Γ ops Q (⟨some d, .call ⟨.builtin .append, #[x, y], #[t, t]⟩, ty, pos, aft, none⟩ :: rest) f own := by
  refine vops_appendM (cells := vs) (news := [u]) hT hx (by rw [hk]; exact hN) hp ht he hz hzl hy (by rw [hk]; rfl) (fun j v hj => by rw [Nat.zero_add]; exact sees_mem hm hj) (fun v hv => by
    obtain rfl : v = u := by simpa using hv
    exact hu) (by omega) (by simp only [maxLen]; omega) ?_ (fun v new' h => ?_)
  · calc (n + 1) * ei.bytes ≤ 1073741825 * 1000 := Nat.mul_le_mul (by omega) hbt
      _ ≤ _ := by omega
  · rw [hk] at h
    obtain ⟨p, cap, rfl⟩ := h.form
    exact kk p cap new' h
end
theorem flat_snoc {n : Own} {ns : List Own} : (ns ++ [n]).flatten = ns.flatten ++ n := by simp
theorem RowsAt.nil {ei : Nat} : RowsAt ei [] [] [] := trivial
theorem SlAt.empty {e b : Nat} : SlAt e 1 (.slice (some ⟨b, 0, none⟩) 0 0) 0 [] [(b, ⟨[], e, 0, none⟩)] [] :=
  ⟨by simp, .inr ⟨b, 0, rfl, Nat.le_refl 0, Nat.zero_le _, rfl⟩⟩
/-- Two results: a list of lists of numbers, and a code. -/
def PairLL (eo ei : Nat) (r : List (List Int) × Int) (v : Value) (new : Own) : Prop := ∃ p cap, v = .tuple #[.slice p r.1.length cap, .int .i64 r.2] ∧ NewLL eo ei r.1 (.slice p r.1.length cap) new
section
variable {P : Program} {T : Nat → Option TI} {Γ : Ctx} {f : Nat → Value} {own : Own}
theorem NewLL.nil {eo ei : Nat} : NewLL eo ei [] (.slice none 0 0) [] := ⟨[], [], [], trivial, SlAt.nil, rfl⟩
theorem pairLL_err {eo ei : Nat} {n t u : Nat} {fn : Func} {c : Int} {r : List (List Int) × Int} (h : fn.results = #[.tmp t, .tmp u]) (hv : f t = .slice none 0 0) (hx : f u = .int .i64 c) (hr : r = ([], c)) : Out P Γ n fn (PairLL eo ei r) .ret f own :=
  out2 (new := []) h hv hx List.nodup_nil (fun _ h => by cases h) ⟨none, 0, by rw [hr]; rfl, by rw [hr]; exact NewLL.nil⟩
theorem pairLL_ok {eo ei : Nat} {n t u m cap : Nat} {fn : Func} {p : Option Addr} {ls : List (List Int)} {vs : List Value} {ns : List Own} {outer : Own} {r : List (List Int) × Int} (h : fn.results = #[.tmp t, .tmp u]) (hv : f t = .slice p m cap) (hx : f u = .int .i64 0)
    (hR : RowsAt ei ls vs ns) (hO : SlAt eo 1 (.slice p m cap) m vs outer []) (hm : m = ls.length) (hn : (ids (outer ++ ns.flatten)).Nodup) (hs : Sub (outer ++ ns.flatten) own) (hr : r = (ls, 0)) : Out P Γ n fn (PairLL eo ei r) .ret f own := by
  subst hm; subst hr
  exact out2 h hv hx hn hs ⟨p, cap, rfl, vs, ns, outer, hR, hO, rfl⟩
theorem outLL {eo ei : Nat} {n t m cap : Nat} {fn : Func} {p : Option Addr} {ls : List (List Int)} {vs : List Value} {ns : List Own} {outer : Own} (h : fn.results = #[.tmp t]) (hv : f t = .slice p m cap)
    (hR : RowsAt ei ls vs ns) (hO : SlAt eo 1 (.slice p m cap) m vs outer []) (hm : m = ls.length) (hn : (ids (outer ++ ns.flatten)).Nodup) (hs : Sub (outer ++ ns.flatten) own) : Out P Γ n fn (NewLL eo ei ls) .ret f own := by
  subst hm
  exact out1 h hv hn hs ⟨vs, ns, outer, hR, hO, rfl⟩
theorem nodup_sub {a b : Own} (h : (ids b).Nodup) (hs : a.Sublist b) : (ids a).Nodup := (hs.map Prod.fst).nodup h
theorem vops_nodup {ops : Array Oper} {Q : (Nat → Value) → Own → Prop} {d : Option Tmp} {op : Op} {ty : TypeId} {pos : String} {aft : Array Edge} {l : List Oper} (h : (ids own).Nodup → VOps P Γ ops Q (⟨d, op, ty, pos, aft, none⟩ :: l) f own) : VOps P Γ ops Q (⟨d, op, ty, pos, aft, none⟩ :: l) f own :=
  vops_have fun _ hg => h hg.ok.nodup
end
end Go.VL
