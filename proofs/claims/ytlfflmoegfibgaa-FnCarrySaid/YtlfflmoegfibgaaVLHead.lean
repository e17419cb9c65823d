import GoSem.ClaimJoined
/- A part of the proof: Head. No conditions of its own. -/
namespace Go.VL
theorem wordsSigns_nb (c : Char) (r : List Char) (hc : c ≠ Char.ofNat 32) : wordsSigns (c :: r) = match wordsSigns r with
    | w :: ws => (c :: w) :: ws
    | [] => [[c]] := by
  rw [wordsSigns.eq_def]
  split
  · rename_i h; cases h
  · rename_i h; cases h; exact absurd rfl hc
  · rename_i h; cases h; rfl

theorem wordsSigns_ne (r : List Char) : wordsSigns r ≠ [] := by
  rw [wordsSigns.eq_def]
  split
  · simp
  · simp
  · split <;> simp

theorem wordsSigns_word (r : List Char) : ∀ (a : List Char), (∀ c ∈ a, c ≠ Char.ofNat 32) → wordsSigns (a ++ Char.ofNat 32 :: r) = a :: wordsSigns r
  | [], _ => by show wordsSigns (Char.ofNat 32 :: r) = _; rw [wordsSigns.eq_def]; rfl
  | c :: a, h => by
    show wordsSigns (c :: (a ++ Char.ofNat 32 :: r)) = _
    rw [wordsSigns_nb c _ (h c (by simp)), wordsSigns_word r a (fun x hx => h x (by simp [hx]))]

theorem wordsSigns_codes {l a r : List Nat} (hl : l = a ++ 32 :: r) (ha : (a.all fun n => Char.ofNat n != Char.ofNat 32) = true) :
    wordsSigns (l.map Char.ofNat) = a.map Char.ofNat :: wordsSigns (r.map Char.ofNat) := by
  subst hl
  rw [List.map_append, List.map_cons]
  refine wordsSigns_word _ _ fun c hc => ?_
  obtain ⟨n, hn, rfl⟩ := List.mem_map.mp hc
  have := List.all_eq_true.mp ha n hn
  intro he
  rw [he] at this
  simp at this

/-! the head of a cut -/
def cutW : List Char := [Char.ofNat 99, Char.ofNat 117, Char.ofNat 116]
theorem behind_of {h s c : List Char} {R : List (List Char)} (hc : ((h == "harness".toList || h == "ownmain".toList) && isSumSigns s) = true) : behindMainWord (h :: s :: c :: R) = c :: R := by
  show (if ((h == "harness".toList || h == "ownmain".toList) && isSumSigns s) = true then c :: R else h :: s :: c :: R) = _
  rw [if_pos hc]
theorem strip_none {w : List Char} {ws : List (List Char)} : ∀ {os : List String}, (∀ o ∈ os, (w == o.toList) = false) → stripLifts os (w :: ws) = ([], w :: ws)
  | [], _ => by unfold stripLifts; rfl
  | o :: os, h => by
    unfold stripLifts
    rw [if_neg (by rw [h o (by simp)]; simp)]
    exact strip_none fun p hp => h p (by simp [hp])
theorem strip_cut (R : List (List Char)) : stripLifts liftWords (cutW :: R) = ([], cutW :: R) := strip_none (by decide)
theorem cut_is : (cutW == "cut".toList) = true := by decide
theorem cut_gc : (cutW == "gc".toList) = false := by decide
theorem cut_spec : (cutW == "spec".toList) = false := by decide
theorem cut_carried : (cutW == "carried".toList) = false := by decide
theorem cut_str : cutW = "cut".toList := by decide
variable {P : Program} {R : List (List Char)}
theorem make_of_cut (h : behindMainWord (wordsSigns P.initOrder.toList) = cutW :: R) : P.make = some .cut := by
  unfold Program.make; rw [h]
  simp only [cut_gc, cut_spec, cut_is, Bool.or_false, Bool.true_or, if_true, Bool.false_eq_true, if_false]
theorem headLifts_of_cut (h : behindMainWord (wordsSigns P.initOrder.toList) = cutW :: R) : P.headLifts = [] := by
  unfold Program.headLifts; rw [h]
  simp only [strip_cut, ite_self]
theorem liftsFinal_of_cut (h : behindMainWord (wordsSigns P.initOrder.toList) = cutW :: R) : P.liftsFinal = false := by
  unfold Program.liftsFinal
  rw [headLifts_of_cut h, h]
  have : (some cutW == some "carried".toList) = false := cut_carried
  simp only [List.head?_cons, this, Bool.false_and, Bool.false_or]
  rfl
theorem mayEnter_of_cut (h : behindMainWord (wordsSigns P.initOrder.toList) = cutW :: R) (h1 : P.laysLater = false) (h2 : P.bearsReflect = false) (h3 : P.doorFits [] = true) : P.mayEnter = true := by
  unfold Program.mayEnter; rw [h]
  have hc : (some cutW == some "cut".toList) = true := cut_is
  simp only [strip_cut, h1, h2, h3, List.head?_cons, hc, Bool.not_false, Bool.or_true, Bool.and_true, Bool.true_and]
  simp
end Go.VL
