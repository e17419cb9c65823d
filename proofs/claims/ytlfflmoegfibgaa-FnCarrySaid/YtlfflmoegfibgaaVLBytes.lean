import Derived.Test.YtlfflmoegfibgaaVLSrc
import Derived.Test.YtlfflmoegfibgaaVLSquare
/-! Arguments that are lists of bytes. -/
namespace Go.VL
open Go.RowKit Go.ChangeShapes Go.WideShapes Go.ChangeAt
theorem in8_of_wf {n : Int} (h : (Lit.int .u8 n).wf = true) : 0 ≤ n ∧ n ≤ 255 := by
  have e1 : IntKind.u8.min = 0 := by rfl
  have e2 : IntKind.u8.max = 255 := by rfl
  simp only [Lit.wf, e1, e2, Bool.and_eq_true, decide_eq_true_eq] at h
  exact h
section
variable {H : Type} {enc : TypeId × Value → H} {P : Program} {T : Nat → Option TI} {w : World} {spare : Nat → Bool} {held : Bool}
/-- The argument is a list of bytes. -/
theorem o_bytes (hT : TyOk P T) {t e a0 b0 b2 base : Nat} {z0 z2 : List Value} (hts : T t = some ⟨.slice e, a0, b0, z0⟩) (he : T e = some ⟨.int .u8, 1, b2, z2⟩) {v : Value} {r : Reach} {d : DataW H} {ps : List MemPlace}
    (hok : Value.okWide P w r base t v) (h : DataW.Trod enc P w 0 spare held t v d ps) : ∃ a cap cs, v = .slice a cs.length cap ∧ RdB w a cs ∧ (∀ c ∈ cs, c < 256) ∧ cs.length ≤ maxLen := by
  obtain ⟨fuel, hf⟩ := h
  have hue := hT.und he (d := .int .u8) (fun d' hd' => hd')
  obtain ⟨u, ys, h1, h2, h3⟩ := rdL_of_trod (R := fun _ v (y : Nat) => v = .int .u8 (y : Int) ∧ y < 256) hT hts (hT.cells he) (fun hc => by
    obtain ⟨k, hk, _, hw⟩ := DataW.trod_int hue hc
    have := in8_of_wf hw
    exact ⟨_, k.toNat, hk, by rw [show ((k.toNat : Nat) : Int) = k by omega], by omega⟩) hf
  have hu := hT.slice hts
  have : Value.one v = true := by
    unfold Value.okWide at hok
    rw [hu] at hok
    cases v <;> first | rfl | (exfalso; unfold Cell.okWide at hok; rw [hu] at hok; simp [Cell.ok, hu] at hok)
  rw [cells_one h1 this]
  obtain ⟨vs, g1, g2, g3⟩ := h2
  have hvs : vs = byteVals ys := by
    apply List.ext_getElem?
    intro i
    by_cases hi : i < ys.length
    · obtain ⟨x, hx⟩ : ∃ x, vs[i]? = some x := ⟨_, List.getElem?_eq_getElem (by omega)⟩
      obtain ⟨y, hy⟩ : ∃ y, ys[i]? = some y := ⟨_, List.getElem?_eq_getElem hi⟩
      rw [hx, (g2 i x y hx hy).1]
      simp [byteVals, hy]
    · rw [List.getElem?_eq_none (by omega), List.getElem?_eq_none (by simp [byteVals]; omega)]
  have hall : ∀ c ∈ ys, c < 256 := fun c hc => by
    obtain ⟨i, hi⟩ := List.mem_iff_getElem?.1 hc
    have hlt := (List.getElem?_eq_some_iff.1 hi).1
    obtain ⟨x, hx⟩ : ∃ x, vs[i]? = some x := ⟨_, List.getElem?_eq_getElem (by omega)⟩
    exact (g2 i x c hx hi).2
  rcases g3 with ⟨a, cap, rfl, hn⟩ | ⟨b, o, cap, rfl, hc⟩
  · exact ⟨a, cap, ys, by rw [hn]; rfl, .inl hn, hall, h3⟩
  · exact ⟨_, cap, ys, rfl, .inr ⟨b, o, rfl, fun j x hx => hc j x (by rw [hvs]; exact hx)⟩, hall, h3⟩
theorem RdB.same {w w' : World} {a : Option Addr} {cs : List Nat} (h : RdB w a cs) (hf : Fr [] w w') : RdB w' a cs := by
  rcases h with h | ⟨b, o, h1, h2⟩
  · exact .inl h
  · exact .inr ⟨b, o, h1, fun j x hx => hf.cell (by simp) (h2 j x hx)⟩
end
end Go.VL
