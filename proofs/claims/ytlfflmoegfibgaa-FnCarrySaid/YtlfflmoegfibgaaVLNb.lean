import Derived.Test.YtlfflmoegfibgaaVLRanG
/-! Lists that are read in a range over a function: they lie in no block that the round owns. -/
namespace Go.VL
open Go.RowKit
/-- n elements of k numbers each are read, in no block of own. -/
def RdFW (w : World) (k n : Nat) (v : Value) (q : List Int) (own : Own) : Prop :=
  n = 0 ∨ ∃ b o cap, v = .slice (some ⟨b, o, none⟩) n cap ∧ b ∉ ids own ∧ ∀ j, j < n * k → w.cell? ⟨b, o + j, none⟩ = some (.int .i64 (q.getD j 0))
theorem RdFW.later {w w' : World} {W own : Own} {v : Value} {k n : Nat} {q : List Int} (hk : 0 < k) (h : RdFW w k n v q W) (hg : Go.VL.Good ⟨w, ids W⟩ own w') : RdFW w' k n v q own := by
  rcases h with h | ⟨b, o, cap, h1, h2, h3⟩
  · exact .inl h
  · refine n.eq_zero_or_pos.elim (fun h0 => .inl h0) fun h0 => .inr ⟨b, o, cap, h1, (old_stays hg (h3 0 (Nat.mul_pos h0 hk)) h2).2, fun j hj => (old_stays hg (h3 j hj) h2).1⟩
theorem RdFW.sub {w : World} {v : Value} {k n : Nat} {q : List Int} {own own' : Own} (h : RdFW w k n v q own) (hs : ∀ b ∈ ids own', b ∈ ids own) : RdFW w k n v q own' := by
  rcases h with h | ⟨b, o, cap, h1, h2, h3⟩
  · exact .inl h
  · exact .inr ⟨b, o, cap, h1, fun hb => h2 (hs b hb), h3⟩
theorem RdFW.subL {w : World} {v : Value} {k n : Nat} {q : List Int} {own cap : Own} (h : RdFW w k n v q (own ++ cap)) : RdFW w k n v q own :=
  h.sub fun b hb => by rw [ids_app]; exact List.mem_append_left _ hb
theorem RdFW.addr {w : World} {k n cap : Nat} {a : Option Addr} {q : List Int} {own : Own} (h : RdFW w k n (.slice a n cap) q own) (hn : 0 < n) :
    ∃ b o, a = some ⟨b, o, none⟩ ∧ b ∉ ids own ∧ ∀ j, j < n * k → w.cell? ⟨b, o + j, none⟩ = some (.int .i64 (q.getD j 0)) := by
  rcases h with h | ⟨b, o, cap', h1, h2, h3⟩
  · omega
  · injection h1 with h1; exact ⟨b, o, h1, h2, h3⟩
/-- What lies in another part of what is owned. -/
theorem rdFW_new {Γ : Ctx} {own' cap new : Own} {w : World} {e k n : Nat} {q : List Int} {v : Value} (hg : Go.VL.Good Γ (own' ++ cap) w) (hN : NewF e k n q v new) (hs : Sub new cap) : RdFW w k n v q own' := by
  have hl : (ints q).length = n * k := hN.1
  rw [ints_length] at hl
  rcases hN.2 with ⟨_, h2, _⟩ | ⟨b, cp, h1, _, _, rfl⟩
  · exact .inl h2
  · have hm := hs _ List.mem_cons_self
    refine .inr ⟨b, 0, cp, h1, fun hb => ?_, fun j hj => ?_⟩
    · have hnd := hg.ok.nodup
      rw [ids_app] at hnd
      exact (List.nodup_append.1 hnd).2.2 b hb b (ids_mem hm) rfl
    · rw [Nat.zero_add]; exact cell_of_blk hg.ok (List.mem_append_right _ hm) (ints_get (by omega))
/-- One of the elements. -/
theorem RdFW.rowR {w : World} {k n : Nat} {v : Value} {rs : List (List Int)} {own : Own} (h : RdFW w k n v rs.flatten own) (hk : ∀ r ∈ rs, r.length = k) (hn : n = rs.length) {i : Nat} {r : List Int} (hi : rs[i]? = some r) :
    ∃ b o cap, v = .slice (some ⟨b, o, none⟩) n cap ∧ b ∉ ids own ∧ ∀ j x, (ints r)[j]? = some x → w.cell? ⟨b, o + i * k + j, none⟩ = some x := by
  have hil := (List.getElem?_eq_some_iff.1 hi).1
  rcases h with h | ⟨b, o, cap, h1, h2, h3⟩
  · omega
  · have hS : RdS w v rs := .inr ⟨b, o, cap, by rw [← hn]; exact h1, fun j x hx => by
      have hj : j < rs.flatten.length := by have := (List.getElem?_eq_some_iff.1 hx).1; rwa [ints_length] at this
      rw [ints_get hj] at hx
      cases hx
      exact h3 j (by rw [flat_length hk] at hj; rw [hn]; exact hj)⟩
    obtain ⟨b', o', cap', he, hc⟩ := hS.row hk hi
    rw [h1] at he
    cases he
    exact ⟨b, o, cap, h1, h2, hc⟩
section
variable {P : Program} {Γ : Ctx} {f : Nat → Value} {own : Own}
theorem out_bn {n t u : Nat} {fn : Func} {b b' : Bool} {c : Int} {r : Bool × Int} (h : fn.results = #[.tmp t, .tmp u]) (hv : f t = .bool b) (hx : f u = .int .i64 c) (hb : b = b') (hr : r = (b', c)) : Out P Γ n fn (Is (.tuple #[.bool r.1, .int .i64 r.2])) .ret f own := by
  subst hb; subst hr
  exact out2 (new := []) h hv hx List.nodup_nil sub_nil ⟨rfl, rfl⟩
end
end Go.VL
