import Derived.Test.YtlfflmoegfibgaaVLBA
import Derived.Test.YtlfflmoegfibgaaVLBB
/-! A block of one's own is known by a shorter beginning. -/
namespace Go.VL
theorem at_take {o : Option Obj} {cs ds : List Value} {e : TypeId} {n : Nat} (hp : cs <+: ds) (h : Blk.at ⟨ds, e, n, none⟩ o) : Blk.at ⟨cs, e, n, none⟩ o := by
  obtain ⟨arr, h1, h2, h3⟩ := h.toRow rfl
  refine Blk.ofRow ⟨arr, h1, h2, fun i v hi => h3 i v ?_⟩
  obtain ⟨t, rfl⟩ := hp
  show (cs ++ t)[i]? = some v
  rw [List.getElem?_append_left (List.getElem?_eq_some_iff.1 hi).1]
  exact hi
theorem Good.cutB {Γ : Ctx} {w : World} {b n : Nat} {cs ds : List Value} {e : TypeId} {R : Own} (hp : cs <+: ds) (h : Go.VL.Good Γ ((b, ⟨ds, e, n, none⟩) :: R) w) : Go.VL.Good Γ ((b, ⟨cs, e, n, none⟩) :: R) w := by
  refine ⟨h.fr, ⟨h.ok.nodup, fun b' k hk => ?_⟩, fun b' k hk => ?_⟩
  · rcases List.mem_cons.1 hk with he | hk
    · cases he
      exact at_take hp (h.ok.blk b _ List.mem_cons_self)
    · exact h.ok.blk b' k (List.mem_cons_of_mem _ hk)
  · rcases List.mem_cons.1 hk with he | hk
    · cases he
      exact h.mine b _ List.mem_cons_self
    · exact h.mine b' k (List.mem_cons_of_mem _ hk)
section
variable {P : Program} {Γ : Ctx} {f : Nat → Value} {R : Own}
theorem vw_take {ro : Option Nat} {n : Nat} {c : Code} {Q : Post} {b m : Nat} {cs ds : List Value} {e : TypeId} (hp : cs <+: ds) (h : VWr ro P Γ n c Q f ((b, ⟨cs, e, m, none⟩) :: R)) : VWr ro P Γ n c Q f ((b, ⟨ds, e, m, none⟩) :: R) :=
  fun a w ha hg hm => h a w ha (hg.cutB hp) (hm.sub fun _ hb => hb)
end
/-- Rows of one's own, cut: the first i of them, in the same block. -/
theorem NewR.cut {e k c : Nat} {rs : List (List Int)} {p : Option Addr} {new : Own} (h : NewR e k rs (.slice p rs.length c) new) (hk : ∀ r ∈ rs, r.length = k) {i : Nat} (hi : i ≤ rs.length) (h0 : 0 < rs.length) :
    ∃ b, p = some ⟨b, 0, none⟩ ∧ new = [(b, ⟨ints rs.flatten, e, c * k, none⟩)] ∧ ints (rs.take i).flatten <+: ints rs.flatten ∧ NewR e k (rs.take i) (.slice (some ⟨b, 0, none⟩) i c) [(b, ⟨ints (rs.take i).flatten, e, c * k, none⟩)] := by
  obtain ⟨b, rfl, rfl, h1, h2, h3⟩ := NewF.blk (NewR.f h) h0
  refine ⟨b, rfl, rfl, ?_, ?_⟩
  · refine ⟨ints (rs.drop i).flatten, ?_⟩
    unfold ints
    rw [← List.map_append, ← List.flatten_append, List.take_append_drop]
  · have hl : (rs.take i).length = i := by rw [List.length_take]; omega
    have hlf : (rs.take i).flatten.length = i * k := by rw [flat_length (k := k) fun r hr => hk r (List.mem_of_mem_take hr), hl]
    show SlAt e k _ (rs.take i).length _ _ _
    rw [hl]
    exact NewF.mk hlf (by omega) h2
theorem sliced_front (b h m s : Nat) : sliced (some ⟨b, 0, none⟩) 0 h m s = .slice (some ⟨b, 0, none⟩) h m := by
  unfold sliced
  split
  · rfl
  · rw [Option.map_some, Addr.add_lit, Nat.zero_mul]; rfl
/-- Rows of one's own, cut, whether there are any or not. -/
theorem NewR.cutL {e k c i : Nat} {rs : List (List Int)} {p : Option Addr} {new : Own} (h : NewR e k rs (.slice p rs.length c) new) (hk : ∀ r ∈ rs, r.length = k) (hi : i ≤ rs.length) :
    i ≤ c ∧ ∃ new', sliced p 0 i c k = .slice p i c ∧ NewR e k (rs.take i) (.slice p i c) new' ∧ ∀ (P : Program) (Γ : Ctx) (f : Nat → Value) (ro : Option Nat) (n : Nat) (cd : Code) (Q : Post) (R : Own), VWr ro P Γ n cd Q f (new' ++ R) → VWr ro P Γ n cd Q f (new ++ R) := by
  by_cases h0 : 0 < rs.length
  · obtain ⟨b, rfl, rfl, h1, h2⟩ := NewR.cut h hk hi h0
    obtain ⟨_, _, _, h3, _, _⟩ := NewF.blk (NewR.f h) h0
    exact ⟨by omega, _, sliced_front b i c k, h2, fun P Γ f ro n cd Q R hh => vw_take h1 hh⟩
  · obtain rfl : rs = [] := List.eq_nil_of_length_eq_zero (by omega)
    obtain rfl : i = 0 := by simpa using hi
    refine ⟨Nat.zero_le _, new, ?_, h, fun P Γ f ro n cd Q R hh => hh⟩
    rcases h.2 with ⟨h1, _, _⟩ | ⟨b, cap, h1, _, _, _⟩
    · cases h1; rfl
    · cases h1; exact sliced_front b 0 c k
theorem NewR.cutS {e k c : Nat} {rs : List (List Int)} {p : Option Addr} {new : Own} (h : NewR e k rs (.slice p rs.length c) new) (hk : ∀ r ∈ rs, r.length = k) {z : Int} (hi : z.toNat ≤ rs.length) : sliced p (Int.toNat 0) z.toNat c k = .slice p z.toNat c := by
  obtain ⟨_, _, h1, _⟩ := NewR.cutL h hk hi
  exact h1
end Go.VL
namespace Go.VL
section
variable {P : Program} {T : Nat → Option TI} {Γ : Ctx} {f : Nat → Value} {own : Own} {Q : (Nat → Value) → Own → Prop} {rest : List Oper} {ops : Array Oper} {ty : TypeId} {pos : String} {aft : Array Edge}
theorem vops_sliceTo (hT : TyOk P T) {d t e a0 b0 : Nat} {z0 : List Value} {ei : TI} {x : Operand} {lo hi : Option Operand} {a : Option Addr} {n c : Nat} {l h : Int} (v : Value)
    (ht : T t = some ⟨.slice e, a0, b0, z0⟩) (he : T e = some ei) (hx : ev f x = .slice a n c) (hl : bnd (ev f) lo 0 = some l) (hh : bnd (ev f) hi n = some h) (hc : 0 ≤ l ∧ l ≤ h ∧ h ≤ (c : Int)) (hv : sliced a l.toNat h.toNat c ei.size = v)
    (k : VOps P Γ ops Q rest (upd f d v) own) : VOps P Γ ops Q (⟨some d, .slice t x lo hi none, ty, pos, aft, none⟩ :: rest) f own := by
  subst hv
  exact vops_slice hT ht he hx hl hh hc k
end
end Go.VL
