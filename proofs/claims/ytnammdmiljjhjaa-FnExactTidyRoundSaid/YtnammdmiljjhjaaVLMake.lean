import Derived.Test.YtnammdmiljjhjaaVLMore
/- A part of the proof: Make. No conditions of its own. -/
namespace Go.VL
open Go.RowKit
section
variable {P : Program} {T : Nat → Option TI} {Γ : Ctx} {ops : Array Oper} {Q : (Nat → Value) → Own → Prop} {rest : List Oper} {f : Nat → Value} {own own' : Own}
variable {ty : TypeId} {pos : String} {aft : Array Edge}
/-- An empty slice is made, with room. -/
theorem vops_makeCap {k : Nat} (hT : TyOk P T) {d t e a b : Nat} {z : List Value} {x y : Operand} {ei : TI} {kl kc : IntKind} {n : Nat} {c : Int} (ht : T t = some ⟨.slice e, a, b, z⟩) (he : T e = some ei) (hz : ei.zero ≠ []) (hk : ei.size = k)
    (hx : ev f x = .int kl 0) (hy : ev f y = .int kc c) (hc : c = n) (hbt : ei.bytes ≤ 1000) (hn : n ≤ 1073741824)
    (kk : ∀ b, b ∉ ids own → VOps P Γ ops Q rest (upd f d (.slice (some ⟨b, 0, none⟩) 0 n)) ((b, ⟨ints [], e, n * k, none⟩) :: own)) :
    VOps P Γ ops Q (⟨some d, .makeSlice t x y, ty, pos, aft, none⟩ :: rest) f own :=
  vops_go fun w hg => by
    subst hk; subst hc
    obtain ⟨xi, zv, h1, h2, h3, h4, h5⟩ := hT.full he hz
    show RunsTo P ((Instr.makeSlice t (ev f x) (ev f y) >>= fun v => pure (Next.value v)).run P w) _
    have hb : ei.bytes * n ≤ 281474976710656 := calc ei.bytes * n ≤ 1000 * 1073741824 := Nat.mul_le_mul hbt hn
      _ ≤ _ := by omega
    have hr := run_make (P := P) w t e xi zv (hT.slice ht) h1 h4 kl kc 0 n (by omega) (by omega) (by rw [h3]; omega) (by omega)
    rw [hx, hy, run_val, hr]
    simp only [Int.toNat_natCast]
    have g1 := hg.newP (cells := ints []) (madeCells zv.cells (n * xi.size)) e (n := n * ei.size) (by rw [size_madeCells, h2]) (fun j v hv => by simp [ints] at hv)
    obtain ⟨_, g2, g3⟩ := hg.new (madeCells zv.cells (n * xi.size)) e
    refine ⟨_, g1, ⟨g3.mono (by simp), fun c hc => ?_⟩, kk _ g2⟩
    rcases List.mem_cons.1 hc with h | h
    · exact .inr (Nat.le_of_eq h.symm)
    · exact .inl h
/-- A literal list of one row. -/
theorem vops_litR {k : Nat} (hT : TyOk P T) {d t e a b : Nat} {z : List Value} {ei : TI} {x : Operand} {r : List Int} (ht : T t = some ⟨.slice e, a, b, z⟩) (he : T e = some ei) (hz : ei.zero ≠ []) (hx : ev f x = .agg (ints r).toArray) (hr : r.length = k) (hk : ei.size = k) (h0 : 0 < k) (h1 : k ≤ 1000)
    (kk : ∀ b, b ∉ ids own → VOps P Γ ops Q rest (upd f d (.slice (some ⟨b, 0, none⟩) 1 1)) ((b, ⟨ints r, e, 1 * k, none⟩) :: own)) :
    VOps P Γ ops Q (⟨some d, .buildSlice t 1 #[(0, x)], ty, pos, aft, none⟩ :: rest) f own := by
  subst hk
  exact vops_buildS (ps := [(0, x)]) [.agg (ints r).toArray] (ints r) hT ht he hz (by rw [← hx]; rfl) rfl (by omega) h0 (by omega) (fun v hv => by
    obtain rfl : v = .agg (ints r).toArray := by simpa using hv
    simp [Value.cells, ints_length, hr]) (by simp [Value.cells]) kk
theorem NewR.one {e b k : Nat} {r : List Int} (hr : r.length = k) : NewR e k [r] (.slice (some ⟨b, 0, none⟩) 1 1) [(b, ⟨ints r, e, 1 * k, none⟩)] := by
  have := NewF.mk (e := e) (k := k) (n := 1) (q := r) (b := b) (cap := 1) (by omega) (by omega) (by simp only [maxLen]; omega)
  unfold NewR
  simpa [NewF] using this
end
end Go.VL
namespace Go.VL
theorem NewF.empty {e k b : Nat} : NewF e k 0 [] (.slice (some ⟨b, 0, none⟩) 0 0) [(b, ⟨[], e, 0, none⟩)] := by
  have := NewF.mk (e := e) (k := k) (n := 0) (q := []) (b := b) (cap := 0) (by simp) (Nat.le_refl 0) (Nat.zero_le _)
  simpa [ints] using this
theorem NewI.empty {e b : Nat} : NewI e [] (.slice (some ⟨b, 0, none⟩) 0 0) [(b, ⟨[], e, 0, none⟩)] := NewF.empty
end Go.VL
namespace Go.VL
section
variable {P : Program} {T : Nat → Option TI} {Γ : Ctx} {f : Nat → Value} {own : Own}
/-- A new schedule. -/
def SchG (e : Nat) (n : Int) (rs : List (List Int)) (u : Value) (new : Own) : Prop := ∃ p cap, u = .agg #[.int .i64 n, .slice p rs.length cap] ∧ NewR e 14 rs (.slice p rs.length cap) new
theorem schG_ok (hT : TyOk P T) {e e' m n p t b : Nat} {ti : TI} {fn : Func} {len cap : Nat} {nn nn' : Int} {q : Option Addr} {rs rs' : List (List Int)} {new : Own} (h : fn.results = #[.cell p t]) (ht : T t = some ti) (ha : ti.isAgg = true) (hsz : ti.size = 2)
    (hp : f p = .pointer (some ⟨b, 0, none⟩)) (hm : (b, (⟨[.int .i64 nn, .slice q len cap], e', m, none⟩ : Blk)) ∈ own) (hl : len = rs.length) (hN : NewR e 14 rs (.slice q len cap) new) (hs : Sub new own) (hn : nn = nn') (hr : rs = rs') : Out P Γ n fn (SchG e nn' rs') .ret f own := by
  subst hl; subst hn; subst hr
  exact ⟨_, new, rv_cell (cs := [.int .i64 nn, .slice q rs.length cap]) hT h hp ht ha hsz.symm (fun j v hj => by rw [Nat.zero_add]; exact sees_mem hm hj), SlAt.nodup hN, hs, q, cap, rfl, hN⟩
end
end Go.VL
