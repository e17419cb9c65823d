import GoSem.ClaimJoined
/- A part of the proof: Head. No conditions of its own. -/
namespace Go.VL
theorem wordsSigns_nb (c : Char) (r : List Char) (hc : c ≠ Char.ofNat 32) : wordsSigns (c :: r) = match wordsSigns r with
    | w :: ws => (c :: w) :: ws
    | [] => [[c]] := by
  rw [wordsSigns.eq_def]
  split
  · rename_i h; cases h
  · rename_i h; cases h; exact absurd rfl hc
  · rename_i h; cases h; rfl

theorem wordsSigns_ne (r : List Char) : wordsSigns r ≠ [] := by
  rw [wordsSigns.eq_def]
  split
  · simp
  · simp
  · split <;> simp

theorem wordsSigns_word (r : List Char) : ∀ (a : List Char), (∀ c ∈ a, c ≠ Char.ofNat 32) → wordsSigns (a ++ Char.ofNat 32 :: r) = a :: wordsSigns r
  | [], _ => by show wordsSigns (Char.ofNat 32 :: r) = _; rw [wordsSigns.eq_def]; rfl
  | c :: a, h => by
    show wordsSigns (c :: (a ++ Char.ofNat 32 :: r)) = _
    rw [wordsSigns_nb c _ (h c (by simp)), wordsSigns_word r a (fun x hx => h x (by simp [hx]))]

theorem wordsSigns_codes {l a r : List Nat} (hl : l = a ++ 32 :: r) (ha : (a.all fun n => Char.ofNat n != Char.ofNat 32) = true) :
    wordsSigns (l.map Char.ofNat) = a.map Char.ofNat :: wordsSigns (r.map Char.ofNat) := by
  subst hl
  rw [List.map_append, List.map_cons]
  refine wordsSigns_word _ _ fun c hc => ?_
  obtain ⟨n, hn, rfl⟩ := List.mem_map.mp hc
  have := List.all_eq_true.mp ha n hn
  intro he
  rw [he] at this
  simp at this
end Go.VL
