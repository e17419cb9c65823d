import Derived.Test.YtnammdmiljjhjaaVLDraw
import Derived.ProofKit
import Derived.OpenShut
import Derived.ShutString
import Derived.ChangeOld
import Derived.Below
/- A part of the proof: Law. No conditions of its own. -/
namespace Go.VL
open Go.RowKit Go.ChangeShapes Go.WideShapes Go.ChangeAt

/-! arguments, opened -/
section
variable {H : Type} {enc : TypeId × Value → H} {P : Program} {T : Nat → Option TI} {w : World} {spare : Nat → Bool} {held : Bool}

theorem TyOk.cells {t : Nat} {i : TI} (h : TyOk P T) (ht : T t = some i) : P.cellsOf t = i.size := by
  obtain ⟨x, hx, hs, _⟩ := (h t i ht).info
  simp [Program.cellsOf, hx, hs]

theorem ints_of {cs : List Value} (h : ∀ i, i < cs.length → ∃ n, cs[i]? = some (.int .i64 n)) : ∃ r, cs = ints r := by
  induction cs with
  | nil => exact ⟨[], rfl⟩
  | cons v cs ih =>
    obtain ⟨n, hn⟩ := h 0 (by simp)
    obtain ⟨r, hr⟩ := ih fun i hi => by simpa using h (i + 1) (by simpa using hi)
    simp only [List.getElem?_cons_zero, Option.some.injEq] at hn
    exact ⟨n :: r, by rw [hn, hr]; rfl⟩

theorem ints_of_trod (hT : TyOk P T) {t n e : Nat} {a b b2 : Nat} {z z2 : List Value} (ht : T t = some ⟨.arr n e, a, b, z⟩) (he : T e = some ⟨.int .i64, 1, b2, z2⟩) (hn : a = n) {fuel : Nat} {cs : List Value} {x : DataW H × List MemPlace}
    (h : DataW.trod enc P w 0 spare held fuel t cs = some x) : ∃ r, cs = ints r ∧ r.length = n := by
  have hu := hT.und ht (d := .array n e) (fun d' hd' => hd')
  have hue := hT.und he (d := .int .i64) (fun d' hd' => hd')
  obtain ⟨xs, m, _, _, hl, hxl, hall⟩ := DataW.trod_array hu h
  have hce : P.cellsOf e = 1 := hT.cells he
  have hct : P.cellsOf t = n := (hT.cells ht).trans hn
  rw [hct] at hl
  obtain ⟨r, hr⟩ := ints_of (cs := cs) fun i hi => by
    have := hall i (by omega)
    rw [hce, Nat.mul_one] at this
    obtain ⟨y, hy⟩ : ∃ y, xs[i]? = some y := ⟨_, List.getElem?_eq_getElem (by omega)⟩
    rw [hy] at this
    obtain ⟨k, hk, _⟩ := DataW.trod_int hue this
    refine ⟨k, ?_⟩
    have h2 : ((cs.drop i).take 1)[0]? = some (.int .i64 k) := by rw [hk]; rfl
    simpa using h2
  exact ⟨r, hr, by rw [hr, ints_length] at hl; exact hl⟩

theorem o_arr (hT : TyOk P T) {t n e : Nat} {a b b2 base : Nat} {z z2 : List Value} (ht : T t = some ⟨.arr n e, a, b, z⟩) (he : T e = some ⟨.int .i64, 1, b2, z2⟩) (hn : a = n) {v : Value} {r : Reach} {d : DataW H} {ps : List MemPlace}
    (hok : Value.okWide P w r base t v) (h : DataW.Trod enc P w 0 spare held t v d ps) : ∃ q, v = .agg (ints q).toArray ∧ q.length = n := by
  have hu := hT.und ht (d := .array n e) (fun d' hd' => hd')
  unfold Value.okWide at hok
  rw [hu] at hok
  obtain ⟨cs, rfl, _, _⟩ := hok
  obtain ⟨fuel, hf⟩ := h
  obtain ⟨q, hq, hl⟩ := ints_of_trod hT ht he hn hf
  exact ⟨q, by rw [← hq]; simp [Value.cells], hl⟩

theorem trod_lt {t : Nat} {v : Value} {d : DataW H} {ps : List MemPlace} (h : DataW.Trod enc P w 0 spare held t v d ps) : ∀ x ∈ ps, x.block < w.heap.size := by
  obtain ⟨m, hm⟩ := h
  exact DataW.trod_lt m _ _ _ hm

theorem below_of_res {P : Program} {g : Nat} {as : Array Value} {w : World} {v : Value} (h : Calls P g as w (Res w (Is v))) : Calls P g as w fun e w' => e = .returned v ∧ Below w.heap.size w w' :=
  h.mono fun e w' ⟨v', new, he, hf, _, _, hv, _⟩ => ⟨by rw [he, hv], hf.below⟩
end
end Go.VL
