import Derived.Test.YtnammdmiljjhjaaVLAuto
/-! Lists in memory, of anything. -/
namespace Go.VL
open Go.RowKit Go.ChangeShapes Go.WideShapes Go.ChangeAt

/-- v is a list that lies in w, and its elements are what R tells. -/
def RdL {α : Type} (R : World → Value → α → Prop) (w : World) (v : Value) (ys : List α) : Prop :=
  ∃ vs : List Value, vs.length = ys.length ∧ (∀ (i : Nat) (u : Value) (y : α), vs[i]? = some u → ys[i]? = some y → R w u y) ∧
    ((∃ a cap, v = .slice a 0 cap ∧ ys = []) ∨ ∃ b o cap, v = .slice (some ⟨b, o, none⟩) ys.length cap ∧ ∀ (j : Nat) (x : Value), vs[j]? = some x → w.cell? ⟨b, o + j, none⟩ = some x)
theorem RdL.same {α : Type} {R : World → Value → α → Prop} (hR : ∀ {w w' : World} {v : Value} {y : α}, R w v y → Fr [] w w' → R w' v y) {w w' : World} {v : Value} {ys : List α} (h : RdL R w v ys) (hf : Fr [] w w') : RdL R w' v ys := by
  obtain ⟨vs, h1, h2, h3⟩ := h
  refine ⟨vs, h1, fun i u y hu hy => hR (h2 i u y hu hy) hf, ?_⟩
  rcases h3 with h3 | ⟨b, o, cap, hv, hc⟩
  · exact .inl h3
  · exact .inr ⟨b, o, cap, hv, fun j x hx => hf.cell (by simp) (hc j x hx)⟩
theorem RdL.len {α : Type} {R : World → Value → α → Prop} {w : World} {v : Value} {ys : List α} (h : RdL R w v ys) : ∃ a cap, v = .slice a ys.length cap := by
  obtain ⟨vs, h1, h2, h3⟩ := h
  rcases h3 with ⟨a, cap, hv, rfl⟩ | ⟨b, o, cap, hv, _⟩
  · exact ⟨a, cap, hv⟩
  · exact ⟨_, cap, hv⟩
theorem RdL.at {α : Type} {R : World → Value → α → Prop} {w : World} {v : Value} {ys : List α} (h : RdL R w v ys) {i : Nat} {y : α} (hi : ys[i]? = some y) :
    ∃ b o cap u, v = .slice (some ⟨b, o, none⟩) ys.length cap ∧ w.cell? ⟨b, o + i, none⟩ = some u ∧ R w u y := by
  obtain ⟨vs, h1, h2, h3⟩ := h
  have hlt := (List.getElem?_eq_some_iff.1 hi).1
  rcases h3 with ⟨a, cap, hv, rfl⟩ | ⟨b, o, cap, hv, hc⟩
  · simp at hi
  · obtain ⟨u, hu⟩ : ∃ u, vs[i]? = some u := ⟨_, List.getElem?_eq_getElem (by omega)⟩
    exact ⟨b, o, cap, u, hv, hc i u hu, h2 i u y hu hi⟩

def RdII (w : World) (v : Value) (ls : List (List Int)) : Prop := RdL RdI w v ls
theorem RdII.same {w w' : World} {v : Value} {ls : List (List Int)} (h : RdII w v ls) (hf : Fr [] w w') : RdII w' v ls := RdL.same (fun h hf => h.same hf) h hf
theorem RdII.len {w : World} {v : Value} {ls : List (List Int)} (h : RdII w v ls) : ∃ a cap, v = .slice a ls.length cap := RdL.len h
theorem RdII.at {w : World} {v : Value} {ls : List (List Int)} (h : RdII w v ls) {i : Nat} {l : List Int} (hi : ls[i]? = some l) :
    ∃ b o cap u, v = .slice (some ⟨b, o, none⟩) ls.length cap ∧ w.cell? ⟨b, o + i, none⟩ = some u ∧ RdI w u l := RdL.at h hi
theorem see_rdII {w : World} {own : Own} {v : Value} {ls : List (List Int)} (h : RdII w v ls) : See ⟨w, []⟩ own (fun w => RdII w v ls) := fun _ hg => h.same hg.fr

section
variable {H : Type} {enc : TypeId × Value → H} {P : Program} {T : Nat → Option TI} {w : World} {spare : Nat → Bool} {held : Bool}

theorem rdL_of_trod {α : Type} {R : World → Value → α → Prop} (hT : TyOk P T) {t e a0 b0 : Nat} {z0 : List Value} (hts : T t = some ⟨.slice e, a0, b0, z0⟩) (hcu : P.cellsOf e = 1)
    (hR : ∀ {fuel : Nat} {cs : List Value} {x : DataW H × List MemPlace}, DataW.trod enc P w 0 spare held fuel e cs = some x → ∃ v y, cs = [v] ∧ R w v y) {fuel : Nat} {cs : List Value} {x : DataW H × List MemPlace}
    (h : DataW.trod enc P w 0 spare held fuel t cs = some x) : ∃ v ys, cs = [v] ∧ RdL R w v ys ∧ ys.length ≤ maxLen := by
  rcases DataW.trod_slice (hT.slice hts) h with ⟨rfl, _⟩ | ⟨ad, len, cap, elems, rest, m, _, rfl, _, _, hlc, hcm, hlen, hel, _⟩
  · exact ⟨_, [], rfl, ⟨[], rfl, by simp, .inl ⟨_, _, rfl, rfl⟩⟩, by simp⟩
  · rw [hcu] at hel
    have key : ∀ i, i < len → ∃ v y, w.cell? (ad.add i) = some v ∧ R w v y := fun i hi => by
      have h1 := hel i hi
      obtain ⟨y, hy⟩ : ∃ y, elems[i]? = some y := ⟨_, List.getElem?_eq_getElem (by omega)⟩
      rw [hy, Option.bind_eq_some_iff] at h1
      obtain ⟨cs', hc1, hc2⟩ := h1
      obtain ⟨_, hl, hcell⟩ := World.cells?_some hc1
      obtain ⟨v, q, rfl, hq⟩ := hR hc2
      refine ⟨v, q, ?_, hq⟩
      have := hcell 0 (by omega)
      simpa [Addr.add] using this
    have all : ∀ k, k ≤ len → ∃ (vs : List Value) (ys : List α), vs.length = k ∧ ys.length = k ∧ (∀ (i : Nat) (u : Value), vs[i]? = some u → w.cell? (ad.add i) = some u) ∧ ∀ (i : Nat) (u : Value) (y : α), vs[i]? = some u → ys[i]? = some y → R w u y := by
      intro k
      induction k with
      | zero => intro _; exact ⟨[], [], rfl, rfl, by simp, by simp⟩
      | succ k ih =>
        intro hk
        obtain ⟨vs, ys, h1, h2, h3, h4⟩ := ih (by omega)
        obtain ⟨v, y, hv, hy⟩ := key k (by omega)
        have hlast : ∀ {β : Type} (l : List β) (z q : β) (i : Nat), l.length = k → (l ++ [z])[i]? = some q → (i < k ∧ l[i]? = some q) ∨ (i = k ∧ q = z) := fun l z q i hl hi => by
          by_cases hik : i < l.length
          · rw [List.getElem?_append_left hik] at hi; exact .inl ⟨by omega, hi⟩
          · have hlt := (List.getElem?_eq_some_iff.1 hi).1
            have hik2 : i = k := by rw [List.length_append, hl] at hlt; simp at hlt; omega
            subst hik2
            rw [List.getElem?_append_right (by omega), hl] at hi
            exact .inr ⟨rfl, by simpa using hi.symm⟩
        refine ⟨vs ++ [v], ys ++ [y], by simp [h1], by simp [h2], fun i u hi => ?_, fun i u q hi hq => ?_⟩
        · rcases hlast vs v u i h1 hi with ⟨_, h⟩ | ⟨rfl, rfl⟩
          · exact h3 i u h
          · exact hv
        · rcases hlast vs v u i h1 hi with ⟨hik, h⟩ | ⟨rfl, rfl⟩
          · rcases hlast ys y q i h2 hq with ⟨_, h'⟩ | ⟨h', _⟩
            · exact h4 i u q h h'
            · omega
          · rcases hlast ys y q i h2 hq with ⟨h', _⟩ | ⟨_, rfl⟩
            · omega
            · exact hy
    obtain ⟨vs, ys, h1, h2, h3, h4⟩ := all len (Nat.le_refl _)
    refine ⟨_, ys, rfl, ⟨vs, by omega, h4, ?_⟩, by omega⟩
    by_cases h0 : len = 0
    · subst h0
      exact .inl ⟨_, _, rfl, List.eq_nil_of_length_eq_zero h2⟩
    · obtain ⟨r0, hr0⟩ : ∃ r, vs[0]? = some r := ⟨_, List.getElem?_eq_getElem (by omega)⟩
      have hc0 := h3 0 r0 hr0
      obtain ⟨b, off, spot⟩ := ad
      have hspot : spot = none := by simpa [Addr.add] using World.cell?_spot hc0
      subst hspot
      refine .inr ⟨b, off, cap, by rw [h2], fun j x hx => ?_⟩
      have := h3 j x hx
      rwa [Addr.add_lit] at this

theorem rdI_of_L {w : World} {v : Value} {ys : List Int} (h : RdL (fun _ v y => v = .int .i64 y) w v ys) : RdI w v ys := by
  obtain ⟨vs, h1, h2, h3⟩ := h
  have : vs = ints ys := by
    apply List.ext_getElem?
    intro i
    by_cases hi : i < ys.length
    · obtain ⟨u, hu⟩ : ∃ u, vs[i]? = some u := ⟨_, List.getElem?_eq_getElem (by omega)⟩
      obtain ⟨y, hy⟩ : ∃ y, ys[i]? = some y := ⟨_, List.getElem?_eq_getElem hi⟩
      rw [hu, h2 i u y hu hy]
      simp [ints, hy]
    · rw [List.getElem?_eq_none (by omega), List.getElem?_eq_none (by rw [ints_length]; omega)]
  subst this
  rcases h3 with h3 | h3
  · exact .inl h3
  · exact .inr h3
theorem rdI_of_trod (hT : TyOk P T) {t e a0 b0 b2 : Nat} {z0 z2 : List Value} (hts : T t = some ⟨.slice e, a0, b0, z0⟩) (he : T e = some ⟨.int .i64, 1, b2, z2⟩) {fuel : Nat} {cs : List Value} {x : DataW H × List MemPlace}
    (h : DataW.trod enc P w 0 spare held fuel t cs = some x) : ∃ v l, cs = [v] ∧ RdI w v l ∧ l.length ≤ maxLen := by
  have hue := hT.und he (d := .int .i64) (fun d' hd' => hd')
  obtain ⟨v, ys, h1, h2, h3⟩ := rdL_of_trod (R := fun _ v y => v = .int .i64 y) hT hts (hT.cells he) (fun hc => by
    obtain ⟨k, hk, _⟩ := DataW.trod_int hue hc
    exact ⟨_, k, hk, rfl⟩) h
  exact ⟨v, ys, h1, rdI_of_L h2, h3⟩
theorem rdII_of_trod (hT : TyOk P T) {t u e a0 b0 b1 b2 : Nat} {z0 z1 z2 : List Value} (hts : T t = some ⟨.slice u, a0, b0, z0⟩) (hu : T u = some ⟨.slice e, 1, b1, z1⟩) (he : T e = some ⟨.int .i64, 1, b2, z2⟩) {fuel : Nat} {cs : List Value} {x : DataW H × List MemPlace}
    (h : DataW.trod enc P w 0 spare held fuel t cs = some x) : ∃ v ls, cs = [v] ∧ RdL (fun w v l => RdI w v l ∧ l.length ≤ maxLen) w v ls ∧ ls.length ≤ maxLen :=
  rdL_of_trod (R := fun w v l => RdI w v l ∧ l.length ≤ maxLen) hT hts (hT.cells hu) (fun hc => by
    obtain ⟨v, l, h1, h2, h3⟩ := rdI_of_trod hT hu he hc
    exact ⟨v, l, h1, h2, h3⟩) h

theorem cells_one {v u : Value} (h : v.cells.toList = [u]) (hv : Value.one v = true) : v = u := by
  cases v <;> first | (simp [Value.cells] at h; exact h) | cases hv
/-- The argument is a list of numbers. -/
theorem o_ints (hT : TyOk P T) {t e a0 b0 b2 base : Nat} {z0 z2 : List Value} (hts : T t = some ⟨.slice e, a0, b0, z0⟩) (he : T e = some ⟨.int .i64, 1, b2, z2⟩) {v : Value} {r : Reach} {d : DataW H} {ps : List MemPlace}
    (hok : Value.okWide P w r base t v) (h : DataW.Trod enc P w 0 spare held t v d ps) : ∃ l, RdI w v l ∧ l.length ≤ maxLen := by
  obtain ⟨fuel, hf⟩ := h
  obtain ⟨u, l, hc, h1, h2⟩ := rdI_of_trod hT hts he hf
  have hu := hT.slice hts
  have : Value.one v = true := by
    unfold Value.okWide at hok
    rw [hu] at hok
    cases v <;> first | rfl | (exfalso; unfold Cell.okWide at hok; rw [hu] at hok; simp [Cell.ok, hu] at hok)
  rw [cells_one hc this]
  exact ⟨l, h1, h2⟩
theorem o_rows (hT : TyOk P T) {t u e a0 b0 b1 b2 base : Nat} {z0 z1 z2 : List Value} (hts : T t = some ⟨.slice u, a0, b0, z0⟩) (hu : T u = some ⟨.slice e, 1, b1, z1⟩) (he : T e = some ⟨.int .i64, 1, b2, z2⟩) {v : Value} {r : Reach} {d : DataW H} {ps : List MemPlace}
    (hok : Value.okWide P w r base t v) (h : DataW.Trod enc P w 0 spare held t v d ps) : ∃ ls, RdII w v ls ∧ ls.length ≤ maxLen ∧ ∀ l ∈ ls, l.length ≤ maxLen := by
  obtain ⟨fuel, hf⟩ := h
  obtain ⟨u, l, hc, h1, h2⟩ := rdII_of_trod hT hts hu he hf
  have hu := hT.slice hts
  have : Value.one v = true := by
    unfold Value.okWide at hok
    rw [hu] at hok
    cases v <;> first | rfl | (exfalso; unfold Cell.okWide at hok; rw [hu] at hok; simp [Cell.ok, hu] at hok)
  rw [cells_one hc this]
  obtain ⟨vs, g1, g2, g3⟩ := h1
  refine ⟨l, ⟨vs, g1, fun i u y hu hy => (g2 i u y hu hy).1, g3⟩, h2, fun q hq => ?_⟩
  obtain ⟨i, hi⟩ := List.mem_iff_getElem?.1 hq
  have hlt := (List.getElem?_eq_some_iff.1 hi).1
  obtain ⟨u, hu⟩ : ∃ u, vs[i]? = some u := ⟨_, List.getElem?_eq_getElem (by omega)⟩
  exact (g2 i u q hu hi).2
end
end Go.VL
