import Derived.Test.YtlfflmoegfibgaaVLClo
import Derived.Test.YtlfflmoegfibgaaVLBB
import Derived.Test.YtlfflmoegfibgaaVLSquare
import Derived.Laws.Cover3
import Derived.WalkSpells
import Derived.Lib.AppendZeros
/-! Bits of small numbers, arrays out of slices, arrays of arrays, a list of zeros, comparisons with nil, parts of lists. -/
namespace Go.VL
open Go.RowKit
section
variable {P : Program} {T : Nat → Option TI} {Γ : Ctx} {ops : Array Oper} {Q : (Nat → Value) → Own → Prop} {rest : List Oper} {f : Nat → Value} {own : Own}
variable {ty : TypeId} {pos : String} {aft : Array Edge}
theorem run_xorN {a b : Nat} (ha : a < 1024) (hb : b < 1024) (t : TypeId) (w : World) : (binOp .xor t (.int .i64 (a : Int)) (.int .i64 (b : Int))).run P w = .ok (.int .i64 ((a ^^^ b : Nat) : Int)) w := by
  have hx : a ^^^ b < 1024 := Nat.xor_lt_two_pow (n := 10) ha hb
  have e1 : ∀ c : Nat, c < 1024 → (BitVec.ofInt 64 (c : Int)).toNat = c := fun c hc => by
    rw [BitVec.toNat_ofInt]; omega
  have h : (BitVec.ofInt 64 (a : Int) ^^^ BitVec.ofInt 64 (b : Int)).toNat = a ^^^ b := by rw [BitVec.toNat_xor, e1 a ha, e1 b hb]
  have hw : IntKind.i64.wrap ((a ^^^ b : Nat) : Int) = ((a ^^^ b : Nat) : Int) := wrap_of_inR (by simp only [inR]; omega)
  show (Op.intBits .xor .i64 (a : Int) (b : Int)).run P w = _
  show (pure (Value.int .i64 (IntKind.i64.wrap (((BitVec.ofInt 64 (a : Int) ^^^ BitVec.ofInt 64 (b : Int)).toNat : Nat) : Int))) : Sem Value).run P w = _
  rw [h, hw]; rfl
theorem x_xor {a b : Nat} {t u : Nat} {x y : Operand} {d : Option Tmp} {g : Option (Nat × Bool)} {a' b' : Int} (hx : ev f x = .int .i64 a') (hy : ev f y = .int .i64 b') (ea : a' = (a : Int)) (eb : b' = (b : Int)) (ha : a < 1024) (hb : b < 1024) (w : World) :
    (execOp (ev f) ⟨d, .binOp .xor t x y u, ty, pos, aft, g⟩).run P w = .ok (.value (.int .i64 ((a ^^^ b : Nat) : Int))) w := by
  subst ea; subst eb
  show ((do eqGuard .xor t x y (ev f x) (ev f y); binOp .xor t (ev f x) (ev f y)) >>= fun v => pure (Next.value v)).run P w = _
  rw [run_val, eqGuard_xor, Sem.run_bind, Sem.run_pure, Result.andThen_ok, hx, hy, run_xorN ha hb]; rfl
/-- Bits of small numbers that differ. -/
theorem vops_xor (a b : Nat) {d t u : Nat} {x y : Operand} {a' b' : Int} (hx : ev f x = .int .i64 a') (hy : ev f y = .int .i64 b') (ea : a' = (a : Int)) (eb : b' = (b : Int)) (ha : a < 1024) (hb : b < 1024)
    (k : VOps P Γ ops Q rest (upd f d (.int .i64 ((a ^^^ b : Nat) : Int))) own) : VOps P Γ ops Q (⟨some d, .binOp .xor t x y u, ty, pos, aft, none⟩ :: rest) f own :=
  vops_run (x_xor hx hy ea eb ha hb) k
/-- Whether a slice is nil. -/
theorem vops_isNil (hT : TyOk P T) {d t u e a0 b0 n c n' c' : Nat} {z0 : List Value} {x y : Operand} {a : Option Addr} (ht : T t = some ⟨.slice e, a0, b0, z0⟩) (hx : ev f x = .slice a n c) (hy : ev f y = .slice none n' c')
    (k : VOps P Γ ops Q rest (upd f d (.bool a.isNone)) own) : VOps P Γ ops Q (⟨some d, .binOp .eql t x y u, ty, pos, aft, none⟩ :: rest) f own :=
  vops_run (fun w => by
    show ((do eqGuard .eql t x y (ev f x) (ev f y); binOp .eql t (ev f x) (ev f y)) >>= fun v => pure (Next.value v)).run P w = _
    have hg : eqGuard .eql t x y (.slice a n c) (.slice none n' c') = pure () := rfl
    rw [run_val, hx, hy, hg, Sem.run_bind, Sem.run_pure, Result.andThen_ok, Lib.run_eql_slice_nil w t e a n c n' c' (hT.slice ht)]; rfl) k
/-- n zeros behind nothing. -/
theorem vops_appendZeros (hT : TyOk P T) {d t tn e a b a2 b2 : Nat} {z z2 : List Value} {x y : Operand} {ei : TI} {k : IntKind} {n : Nat} {n' : Int} (ht : T t = some ⟨.slice e, a, b, z⟩) (htn : T tn = some ⟨.int k, a2, b2, z2⟩) (he : T e = some ei) (hz : ei.zero ≠ []) (hzl : ei.zero.length = ei.size) (hs : 0 < ei.size) (hb : ei.bytes ≤ 1000)
    (hx : ev f x = .slice none 0 0) (hy : ev f y = .int k n') (hn' : n' = (n : Int)) (h0 : 0 < n) (hn : n ≤ 1073741824)
    (kk : ∀ b cap, b ∉ ids own → n ≤ cap → cap ≤ maxLen → VOps P Γ ops Q rest (upd f d (.slice (some ⟨b, 0, none⟩) n cap)) ((b, ⟨[], e, cap * ei.size, none⟩) :: own)) :
    VOps P Γ ops Q (⟨some d, .call ⟨.builtin .append, #[x, y], #[t, tn]⟩, ty, pos, aft, none⟩ :: rest) f own :=
  vops_go fun w hg => by
    subst hn'
    obtain ⟨xi, zv, i1, i2, i3, i4, i5⟩ := hT.full he hz
    have hzs : zv.cells.size = ei.size := by rw [← Array.length_toList, i5, hzl]
    have hbb : n * xi.bytes ≤ 281474976710656 := by
      rw [i3]
      calc n * ei.bytes ≤ 1073741824 * 1000 := Nat.mul_le_mul hn hb
        _ ≤ _ := by omega
    have hr := Lib.run_append_nil_zeros (P := P) w t tn ty e xi zv k k (hT.slice ht) (hT.und htn (d := .int k) (fun d' hd' => hd')) i1 i4 n h0 (by rw [i2]; exact hs) (by omega) hbb
    rw [← hx, ← hy] at hr
    have run : (execOp (ev f) ⟨some d, .call ⟨.builtin .append, #[x, y], #[t, tn]⟩, ty, pos, aft, none⟩).run P w = .ok (.value (.slice (some ⟨w.heap.size, 0, none⟩) n (grownCap w n 0 e))) (w.drew.alloc (.cells (Builtin.zeroCells zv.cells n ++ Builtin.zeroCells zv.cells (grownCap w n 0 e - n)) e)) := by
      unfold execOp
      simp only [resolve, invoke, builtin, Sem.run_bind, Sem.run_pure, Result.andThen_ok, List.map_toArray, List.map_cons, List.map_nil, hr]
    rw [run]
    have hge := grownCap_ge w n 0 e
    have hcm : grownCap w n 0 e ≤ maxLen := grownCap_le_maxLen w n 0 e (by simp only [maxLen]; omega)
    refine ⟨(w.heap.size, ⟨[], e, grownCap w n 0 e * ei.size, none⟩) :: own, hg.drew.newP _ e ?_ (fun j v hj => by simp at hj), ⟨⟨rfl, rfl, rfl, Nat.le_succ _, by simp, fun k hk _ => heap_alloc_old w.drew _ hk⟩, fun b hb => ?_⟩, kk _ _ (fun h => ?_) hge hcm⟩
    · rw [Array.size_append, size_zeroCells, size_zeroCells, hzs, ← Nat.add_mul]
      congr 1; omega
    · rcases List.mem_cons.1 hb with h | h
      · exact .inr (Nat.le_of_eq h.symm)
      · exact .inl h
    · have := hg.ok.lt h
      omega
/-- How much a slice can hold. -/
theorem vops_cap (hT : TyOk P T) {d t e a0 b0 n c : Nat} {z0 : List Value} {x : Operand} {a : Option Addr} (ht : T t = some ⟨.slice e, a0, b0, z0⟩) (hx : ev f x = .slice a n c)
    (k : VOps P Γ ops Q rest (upd f d (.int .i64 c)) own) : VOps P Γ ops Q (⟨some d, .call ⟨.builtin .cap, #[x], #[t]⟩, ty, pos, aft, none⟩ :: rest) f own :=
  vops_run (fun w => by
    have hr : (Builtin.cap_ #[t] ty #[ev f x]).run P w = .ok (.int .i64 c) w := by
      rw [hx]
      unfold Builtin.cap_
      simp [run_underlying (hT.slice ht), goInt]
    unfold execOp
    simp only [resolve, invoke, builtin, Sem.run_bind, Sem.run_pure, Result.andThen_ok, List.map_toArray, List.map_cons, List.map_nil, hr]) k
end
end Go.VL
/-! lists that are read, and hold at most what they can -/
namespace Go.VL
def CapOk : Value → Prop
  | .slice _ n c => n ≤ c
  | _ => True
def RdC (w : World) (v : Value) (l : List Int) : Prop := RdI w v l ∧ CapOk v
theorem RdC.same {w w' : World} {v : Value} {l : List Int} (h : RdC w v l) (hf : Fr [] w w') : RdC w' v l := ⟨h.1.same hf, h.2⟩
theorem RdC.len {w : World} {v : Value} {l : List Int} (h : RdC w v l) : ∃ a cap, v = .slice a l.length cap ∧ l.length ≤ cap := by
  obtain ⟨a, cap, rfl⟩ := h.1.len
  exact ⟨a, cap, rfl, h.2⟩
def RdCC (w : World) (v : Value) (ls : List (List Int)) : Prop := RdL RdC w v ls
theorem RdCC.same {w w' : World} {v : Value} {ls : List (List Int)} (h : RdCC w v ls) (hf : Fr [] w w') : RdCC w' v ls := RdL.same (fun h hf => h.same hf) h hf
theorem RdCC.len {w : World} {v : Value} {ls : List (List Int)} (h : RdCC w v ls) : ∃ a cap, v = .slice a ls.length cap := RdL.len h
theorem RdCC.rd {w : World} {v : Value} {ls : List (List Int)} (h : RdCC w v ls) : RdII w v ls := by
  obtain ⟨vs, h1, h2, h3⟩ := h
  exact ⟨vs, h1, fun i u y hu hy => (h2 i u y hu hy).1, h3⟩
theorem NewI.rdC {Γ : Ctx} {own new : Own} {w : World} {e : Nat} {l : List Int} {v : Value} (h : NewI e l v new) (hs : Sub new own) (hg : Go.VL.Good Γ own w) : RdC w v l := by
  refine ⟨h.rdG hs hg, ?_⟩
  rcases h.2 with ⟨h1, _, _⟩ | ⟨b, cap, h1, h2, _, _⟩
  · rw [h1]; exact Nat.le_refl _
  · rw [h1]; exact h2
/-- Where a list of a list of lists lies. -/
theorem RdCC.row {w : World} {v : Value} {ls : List (List Int)} (hv : RdCC w v ls) {i : Nat} (hi : i < ls.length) :
    ∃ b o cap u cap2, v = .slice (some ⟨b, o, none⟩) ls.length cap ∧ w.cell? ⟨b, o + i, none⟩ = some (.slice u (ls.getD i []).length cap2) ∧ RdC w (.slice u (ls.getD i []).length cap2) (ls.getD i []) := by
  have hl : ls[i]? = some (ls.getD i []) := by rw [List.getD_eq_getElem?_getD, List.getElem?_eq_getElem hi]; rfl
  obtain ⟨b, o, cap, u, he, hc, hu⟩ := RdL.at hv hl
  obtain ⟨a2, cap2, rfl, _⟩ := hu.len
  exact ⟨b, o, cap, a2, cap2, he, hc, hu⟩
end Go.VL
