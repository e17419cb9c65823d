import Derived.Test.YtnammdmiljjhjaaGA
import Derived.Test.YtnammdmiljjhjaaSX
import Derived.Test.YtnammdmiljjhjaaVLGolf
import Derived.Test.YtnammdmiljjhjaaVLGrp
import Derived.Test.YtnammdmiljjhjaaVLBB
import Derived.Test.YtnammdmiljjhjaaVLA
import Derived.Test.YtnammdmiljjhjaaVLAllocE
/- Parts of the proof, one after another. No conditions of their own. -/
/- A part of the proof: X12. No conditions of its own. -/
namespace Go.Proofs.Ytnammdmiljjhjaa
open Go.VL
attribute [local irreducible] VWr VOps VD Calls

/-! grids -/
def cellG (k s a x : Nat) : Int := (k : Int) * (x : Int) + ((a : Int) + (s : Int) * (x : Int)) % (k : Int)
def grX (k s a : Nat) : Nat → List Int
  | 0 => []
  | x + 1 => grX k s a x ++ [cellG k s a x]
def grA (k s : Nat) : Nat → List Int
  | 0 => []
  | a + 1 => grA k s a ++ grX k s a k
theorem grX_length (k s a : Nat) : ∀ x, (grX k s a x).length = x
  | 0 => rfl
  | x + 1 => by rw [grX, List.length_append, grX_length k s a x]; rfl
theorem grA_length (k s : Nat) : ∀ a, (grA k s a).length = a * k
  | 0 => by rw [Nat.zero_mul]; rfl
  | a + 1 => by rw [grA, List.length_append, grA_length k s a, grX_length, Nat.add_mul, Nat.one_mul]
def iotaN (n : Nat) : List Int := (List.range n).map fun (x : Nat) => (x : Int)
theorem iotaN_length (n : Nat) : (iotaN n).length = n := by simp [iotaN]
def gridS (k s : Nat) : List (List Int) := (List.range s).map fun i => grA k i k
theorem gridS_length (k s : Nat) : (gridS k s).length = s := by simp [gridS]
def gridL (k : Nat) : List (List Int) := gridS k k ++ [iotaN (k * k)]
def IsGrid (n : Int) : Prop := n = 2 ∨ n = 3 ∨ n = 5
instance (n : Int) : Decidable (IsGrid n) := inferInstanceAs (Decidable (_ ∨ _))
def gridR (n : Int) : (Int × Int × List (List Int)) × Int := if IsGrid n then ((n * n, n, gridL n.toNat), 0) else ((0, 0, []), 2)
theorem gridL_mem {k : Nat} {l : List Int} (h : l ∈ gridL k) : l.length = k * k := by
  rcases List.mem_append.1 h with h | h
  · obtain ⟨i, _, rfl⟩ := List.mem_map.1 h
    exact grA_length k i k
  · obtain rfl : l = iotaN (k * k) := List.mem_singleton.1 h
    exact iotaN_length _
end Go.Proofs.Ytnammdmiljjhjaa

/- A part of the proof: X12S. No conditions of its own. -/
namespace Go.Proofs.Ytnammdmiljjhjaa
open Go.VL
attribute [local irreducible] VWr VOps VD Calls

/-- Whether the model puts b behind a. -/
def condS (k i a b : Nat) : Bool := (decide ((i : Int) < (k : Int)) && decide ((((b : Int) / (k : Int) - (a : Int) / (k : Int)) * (i : Int) - ((b : Int) % (k : Int) - (a : Int) % (k : Int))).tmod (k : Int) = 0)) || (decide ((i : Int) = (k : Int)) && decide ((b : Int) / (k : Int) - (a : Int) / (k : Int) = 0))
/-- The places met and the round, when t places from a on have been seen. -/
def stB (k i a : Nat) (m : List Bool) (r : List Int) : Nat → List Bool × List Int
  | 0 => (m, r)
  | t + 1 => match stB k i a m r t with
    | (m', r') => if condS k i a (a + t) then (m'.set (a + t) true, r' ++ [((a + t : Nat) : Int)]) else (m', r')
def stA (k i : Nat) : Nat → List Bool × List Int
  | 0 => (List.replicate (k * k) false, [])
  | a + 1 => match stA k i a with
    | (m, r) => if m.getD a false then (m, r) else stB k i a m r (k * k - a)
theorem stB_len (k i a : Nat) (m : List Bool) (r : List Int) : ∀ t, (stB k i a m r t).1.length = m.length ∧ (stB k i a m r t).2.length ≤ r.length + t
  | 0 => ⟨rfl, Nat.le_refl _⟩
  | t + 1 => by
    have h := stB_len k i a m r t
    simp only [stB]
    split
    · simp only [List.length_set, List.length_append, List.length_singleton]; omega
    · exact ⟨h.1, Nat.le_trans h.2 (by omega)⟩
theorem stA_len (k i : Nat) : ∀ a, (stA k i a).1.length = k * k ∧ (stA k i a).2.length ≤ a * (k * k)
  | 0 => ⟨by simp [stA], by simp [stA]⟩
  | a + 1 => by
    have h := stA_len k i a
    have hm : (a + 1) * (k * k) = a * (k * k) + k * k := by rw [Nat.add_mul, Nat.one_mul]
    simp only [stA]
    rw [hm]
    split
    · exact ⟨h.1, Nat.le_trans h.2 (by omega)⟩
    · have h2 := stB_len k i a (stA k i a).1 (stA k i a).2 (k * k - a)
      exact ⟨h2.1.trans h.1, by omega⟩
/-- The round i of the model. -/
def rowS (k i : Nat) : List Int := (stA k i (k * k)).2
def allR (n : Nat) (p : Nat → Bool) : Bool := match n with | 0 => true | k + 1 => p k && allR k p
theorem allR_at {p : Nat → Bool} : ∀ {n : Nat}, allR n p = true → ∀ i, i < n → p i = true
  | 0, _, i, hi => by omega
  | n + 1, h, i, hi => by
    have h' : p n = true ∧ allR n p = true := by simpa [allR] using h
    by_cases e : i = n
    · rw [e]; exact h'.1
    · exact allR_at h'.2 i (by omega)
def eqL : List Int → List Int → Bool
  | [], [] => true
  | x :: l, y :: m => (decide (x = y)) && eqL l m
  | _, _ => false
theorem eqL_eq : ∀ {l m : List Int}, eqL l m = true → l = m
  | [], [], _ => rfl
  | x :: l, y :: m, h => by
    have h' : x = y ∧ eqL l m = true := by simpa [eqL] using h
    rw [h'.1, eqL_eq h'.2]
  | [], _ :: _, h => by simp [eqL] at h
  | _ :: _, [], h => by simp [eqL] at h
theorem chk2 : allR 3 (fun i => eqL (rowS 2 i) ((gridL 2).getD i [])) = true := by as_aux_lemma => kernel_rfl
theorem chk3 : allR 4 (fun i => eqL (rowS 3 i) ((gridL 3).getD i [])) = true := by as_aux_lemma => kernel_rfl
theorem chk5 : allR 6 (fun i => eqL (rowS 5 i) ((gridL 5).getD i [])) = true := by as_aux_lemma => kernel_rfl
theorem rowS_eq {k i : Nat} (h : k = 2 ∨ k = 3 ∨ k = 5) (hi : i ≤ k) : rowS k i = (gridL k).getD i [] := by
  rcases h with rfl | rfl | rfl
  · exact eqL_eq (allR_at chk2 i (by omega))
  · exact eqL_eq (allR_at chk3 i (by omega))
  · exact eqL_eq (allR_at chk5 i (by omega))

theorem condS_split {k i a b : Nat} : condS k i a b = true ↔ ((i : Int) < (k : Int) ∧ (((b : Int) / (k : Int) - (a : Int) / (k : Int)) * (i : Int) - ((b : Int) % (k : Int) - (a : Int) % (k : Int))).tmod (k : Int) = 0) ∨ ((i : Int) = (k : Int) ∧ (b : Int) / (k : Int) - (a : Int) / (k : Int) = 0) := by
  unfold condS
  simp only [Bool.or_eq_true, Bool.and_eq_true, decide_eq_true_eq]
set_option maxHeartbeats 4000000 in
set_option maxRecDepth 100000 in
theorem c_l08GridLL (k : Nat) (h : k = 2 ∨ k = 3 ∨ k = 5) (w : World) : Calls Try.prog 85 [.int .i64 k].toArray w (Res w (fun v new => ∃ p cap, v = .agg #[.int .i64 ((k : Int) * (k : Int)), .int .i64 k, .slice p (gridL k).length cap] ∧ NewLL 29 2 (gridL k) (.slice p (gridL k).length cap) new)) := by
  have hk5 : k ≤ 5 := by omega
  have hk2 : 2 ≤ k := by omega
  have hkk := Nat.mul_le_mul hk5 hk5
  have hkki : (k : Int) * (k : Int) = ((k * k : Nat) : Int) := by push_cast; rfl
  refine calls_of_vw Try.func85 rfl Try.ntmps85 (by simp) ?_
  refine vw_seq (vw_region (by kernel_rfl) (vops_allocZ [.int .i64 0, .int .i64 0, .slice none 0 0] tyOk rfl rfl (by simp) (fun b2 hb2 => ?_)))
  repeat (first | refine vops_q tyOk rfl ?_ | refine vops_nil ?_ | refine vw_seq ?_ | refine vw_region (by kernel_rfl) ?_ | refine vops_p tyOk rfl (by (try simp only [inR]); omega) ?_)
  refine vops_build0 tyOk rfl rfl (fun be hbe => ?_)
  repeat (first | refine vops_q tyOk rfl ?_ | refine vops_nil ?_ | refine vw_seq ?_ | refine vw_region (by kernel_rfl) ?_ | refine vw_block ?_ | (show VOps _ _ _ _ (⟨some _, Go.Op.build 26 _, _, _, _, none⟩ :: _) _ _; refine vops_run (x_build #[.int .i64 ((k : Int) * (k : Int)), .int .i64 k, .slice (some ⟨be, 0, none⟩) 0 0] rfl (by kernel_rfl)) ?_) | refine vops_allocZ [.int .i64 0, .int .i64 0, .slice none 0 0] tyOk rfl rfl (by simp) (fun b3 hb3 => ?_) | ((show VOps _ _ _ _ (⟨none, Go.Op.store _ _ _, _, _, _, none⟩ :: _) _ _); refine vops_storeAM tyOk rfl rfl rfl (by first | rfl | (rw [ints_length]; first | assumption | omega | (rw [ints_length]; first | assumption | omega | simp [*])) | simp [*]) (by first | exact ints_one | simp [Value.oneCell']) (by repeat (first | exact upd_here | apply upd_next | apply upd_past)) (by first | rfl | (rw [ints_length]; first | assumption | omega | (rw [ints_length]; first | assumption | omega | simp [*])) | simp [*]) ?_))
  refine vw_loopW (fun y f own => ∃ (i : Nat) (p : Option Addr) (c : Nat) (new : Own), i ≤ k + 1 ∧ y = k + 1 - i ∧ f 4 = .int .i64 i ∧ f 0 = .int .i64 k ∧ f 2 = .pointer (some ⟨b2, 0, none⟩) ∧ f 3 = .pointer (some ⟨b3, 0, none⟩) ∧ NewLL 29 2 ((gridL k).take i) (.slice p i c) new ∧
      own = new ++ [(b3, ⟨[.int .i64 ((k : Int) * (k : Int)), .int .i64 k, .slice p i c], 26, 3, none⟩), (b2, ⟨[.int .i64 0, .int .i64 0, .slice none 0 0], 26, 3, none⟩)]) (k + 1)
    ⟨[(be, ⟨[], 29, 0, none⟩)] ++ [(b3, ⟨[.int .i64 ((k : Int) * (k : Int)), .int .i64 k, .slice (some ⟨be, 0, none⟩) 0 0], 26, 3, none⟩), (b2, ⟨[.int .i64 0, .int .i64 0, .slice none 0 0], 26, 3, none⟩)], (by repeat (first | exact ole_nil | exact ole_refl | (apply ole_cons; (repeat (first | exact pm1_here | apply pm1_next | apply pm1_past))) | (apply ole_app; (repeat (first | exact pm_here | exact pm_last | apply pm_next | apply pm_past))))), 0, some ⟨be, 0, none⟩, 0, [(be, ⟨[], 29, 0, none⟩)], by omega, by omega, rfl, rfl, rfl, rfl, ⟨[], [], [(be, ⟨[], 29, 0, none⟩)], trivial, SlAt.empty, rfl⟩, rfl⟩ ?_
  rintro y f own ⟨i, p, c, new, hi, rfl, h4, h0, h2, h3, hN, rfl⟩
  rw [upd_of h4, upd_of h0, upd_of h2, upd_of h3]
  repeat (first | refine vops_q tyOk rfl ?_ | refine vops_nil ?_ | refine vw_seq ?_ | refine vw_region (by kernel_rfl) ?_ | refine vw_cond rfl ?_)
  refine bs_dec (fun hlt => ?_) (fun hlt => ?_)
  · have hik : i ≤ k := by omega
    have hgl : (gridL k).length = k + 1 := by unfold gridL; rw [List.length_append, gridS_length]; rfl
    have hti : ((gridL k).take i).length = i := by rw [List.length_take]; omega
    have hnx : (gridL k).take (i + 1) = (gridL k).take i ++ [rowS k i] := by
      rw [List.take_add_one, List.getElem?_eq_getElem (by omega), rowS_eq h hik, List.getD_eq_getElem?_getD, List.getElem?_eq_getElem (by omega)]; rfl
    repeat (first | refine vw_seq ?_ | refine vw_skip ?_ | refine vw_block ?_)
    refine vw_drawE (id := 5) (T := T) _ [1, 2, 3] [0, 5, 4, 6] 4 26 4 (bools (List.replicate (k * k) false)) (fun b => .slice (some ⟨b, 0, none⟩) (k * k) (k * k)) rfl (by kernel_rfl) (by kernel_rfl) (by kernel_rfl) rfl ole_refl ?_
    refine vpre_q tyOk rfl (by first | trivial | rfl) rfl (by kernel_rfl) (by kernel_rfl) ?_
    refine vpre_q tyOk rfl (by first | trivial | rfl) rfl (by kernel_rfl) (by kernel_rfl) ?_
    refine vpre_p tyOk rfl (by first | trivial | rfl) rfl (by kernel_rfl) (by kernel_rfl) (by (try simp only [inR]); omega) ⟨rfl, by kernel_rfl, ?_⟩
    refine ve_one (ok_bools (n := k * k) tyOk rfl rfl rfl rfl rfl rfl hkki (by decide) (by omega)) rfl rfl rfl (by kernel_rfl) (by kernel_rfl) rfl rfl (by kernel_rfl) ?_
    refine vops_build0 tyOk rfl rfl (fun be2 hbe2 => ?_)
    refine vops_nil ⟨fun _ p hp _ => List.mem_cons_of_mem _ hp, ?_⟩
    refine ve_q (ok_bools (n := k * k) tyOk rfl rfl rfl rfl rfl rfl hkki (by decide) (by omega)) tyOk rfl (by first | trivial | rfl) rfl rfl rfl (by kernel_rfl) (by kernel_rfl) ?_
    refine ve_alloc (ok_bools (n := k * k) tyOk rfl rfl rfl rfl rfl rfl hkki (by decide) (by omega)) (by kernel_rfl) (fun bm hbm => ?_)
    repeat' (first | refine vd_q tyOk rfl (by first | trivial | rfl) rfl (by kernel_rfl) (by kernel_rfl) ?_ | refine vd_nil (by kernel_rfl) ?_)
    repeat (first | refine vops_q tyOk rfl ?_ | refine vops_nil ?_ | refine vw_seq ?_ | refine vw_region (by kernel_rfl) ?_ | refine vw_block ?_)
    have hbkl : (bools (List.replicate (k * k) false)).length = k * k := by simp [bools]
    rw [hbkl]
    refine vw_loopW (fun y f own => ∃ (a : Nat) (p2 : Option Addr) (c2 : Nat) (newR : Own), a ≤ k * k ∧ y = k * k - a ∧ f 7 = .int .i64 a ∧ f 6 = .slice (some ⟨bm, 0, none⟩) (k * k) (k * k) ∧ f 5 = .slice p2 (stA k i a).2.length c2 ∧ f 4 = .int .i64 i ∧ f 0 = .int .i64 k ∧ f 2 = .pointer (some ⟨b2, 0, none⟩) ∧ f 3 = .pointer (some ⟨b3, 0, none⟩) ∧ NewI 2 (stA k i a).2 (.slice p2 (stA k i a).2.length c2) newR ∧
        own = newR ++ ((bm, ⟨bools (stA k i a).1, 4, k * k, none⟩) :: (new ++ [(b3, ⟨[.int .i64 ((k : Int) * (k : Int)), .int .i64 k, .slice p i c], 26, 3, none⟩), (b2, ⟨[.int .i64 0, .int .i64 0, .slice none 0 0], 26, 3, none⟩)]))) (k * k)
      ⟨[(be2, ⟨[], 2, 0, none⟩)] ++ ((bm, ⟨bools (List.replicate (k * k) false), 4, k * k, none⟩) :: (new ++ [(b3, ⟨[.int .i64 ((k : Int) * (k : Int)), .int .i64 k, .slice p i c], 26, 3, none⟩), (b2, ⟨[.int .i64 0, .int .i64 0, .slice none 0 0], 26, 3, none⟩)])), (by repeat (first | exact ole_nil | exact ole_refl | (apply ole_cons; (repeat (first | exact pm1_here | apply pm1_next | apply pm1_past))) | (apply ole_app; (repeat (first | exact pm_here | exact pm_last | apply pm_next | apply pm_past))))), 0, some ⟨be2, 0, none⟩, 0, [(be2, ⟨[], 2, 0, none⟩)], by omega, by omega, rfl, rfl, rfl, rfl, rfl, rfl, rfl, NewI.empty, rfl⟩ ?_
    rintro y f own ⟨a, p2, c2, newR, ha, rfl, h7, h6, h5, h4, h0, h2, h3, hR, rfl⟩
    rw [upd_of h7, upd_of h6, upd_of h5, upd_of h4, upd_of h0, upd_of h2, upd_of h3]
    have hAl := stA_len k i a
    repeat (first | refine vops_q tyOk rfl ?_ | refine vops_nil ?_ | refine vw_seq ?_ | refine vw_region (by kernel_rfl) ?_ | refine vops_p tyOk rfl (by (try simp only [inR]); omega) ?_ | refine vw_cond rfl ?_)
    refine bs_dec (fun hlt2 => ?_) (fun hlt2 => ?_)
    · have hak : a < k * k := by omega
      have hld : (bools (stA k i a).1)[0 + (a : Int).toNat]? = some (.bool ((stA k i a).1.getD a false)) := by rw [show (a : Int).toNat = a from Int.toNat_natCast a]; exact bools_get (by rw [hAl.1]; exact hak)
      obtain ⟨mm, hmm⟩ : ∃ mm, mm = (stA k i a).1.getD a false := ⟨_, rfl⟩
      have hst : stA k i (a + 1) = if mm then ((stA k i a).1, (stA k i a).2) else stB k i a (stA k i a).1 (stA k i a).2 (k * k - a) := by rw [hmm, stA]
      rw [← hmm] at hld
      repeat (first | refine vops_q tyOk rfl ?_ | refine vops_nil ?_ | refine vw_seq ?_ | refine vw_region (by kernel_rfl) ?_ | refine vops_p tyOk rfl (by (try simp only [inR]); omega) ?_ | refine vw_cond rfl ?_ | refine vw_skip ?_ | refine vw_block ?_ | refine vops_loadM tyOk rfl rfl rfl (by repeat (first | exact mem_here | apply mem_next | apply mem_past)) (by exact hld) ?_)
      refine bs_any (fun hb => ?_) (fun hb => ?_)
      · rw [hb] at hst
        have hst' : stA k i (a + 1) = stA k i a := hst
        repeat (first | refine vops_q tyOk rfl ?_ | refine vops_nil ?_ | refine vw_region (by kernel_rfl) ?_ | refine vops_p tyOk rfl (by (try simp only [inR]); omega) ?_ | refine vw_exit ?_)
        exact ⟨k * k - (a + 1), by omega, _, ole_refl, a + 1, p2, c2, newR, by omega, rfl, rfl, rfl, by rw [hst']; rfl, rfl, rfl, rfl, rfl, by rw [hst']; exact hR, by rw [hst']⟩
      · rw [hb] at hst
        have hst' : stA k i (a + 1) = stB k i a (stA k i a).1 (stA k i a).2 (k * k - a) := hst
        clear hst hld hmm hb
        obtain ⟨M, hM⟩ : ∃ M, M = (stA k i a).1 := ⟨_, rfl⟩
        obtain ⟨R0, hR0⟩ : ∃ R0, R0 = (stA k i a).2 := ⟨_, rfl⟩
        rw [← hM, ← hR0] at hAl hst'
        rw [← hR0] at hR
        rw [← hM, ← hR0]
        have ha25 : a ≤ 25 := by omega
        have hR25a := Nat.mul_le_mul ha25 hkk
        have hR25 : R0.length ≤ 625 := by
          have := hAl.2
          omega
        repeat (first | refine vops_q tyOk rfl ?_ | refine vops_nil ?_ | refine vw_seq ?_ | refine vw_region (by kernel_rfl) ?_ | refine vw_skip ?_ | refine vw_block ?_)
        refine vw_loopW (fun y f own => ∃ (t : Nat) (p2 : Option Addr) (c2 : Nat) (newR : Own), t ≤ k * k - a ∧ y = k * k - a - t ∧ f 8 = .int .i64 ((a + t : Nat) : Int) ∧ f 7 = .int .i64 a ∧ f 6 = .slice (some ⟨bm, 0, none⟩) (k * k) (k * k) ∧ f 5 = .slice p2 (stB k i a M R0 t).2.length c2 ∧ f 4 = .int .i64 i ∧ f 0 = .int .i64 k ∧ f 2 = .pointer (some ⟨b2, 0, none⟩) ∧ f 3 = .pointer (some ⟨b3, 0, none⟩) ∧ NewI 2 (stB k i a M R0 t).2 (.slice p2 (stB k i a M R0 t).2.length c2) newR ∧
            own = newR ++ ((bm, ⟨bools (stB k i a M R0 t).1, 4, k * k, none⟩) :: (new ++ [(b3, ⟨[.int .i64 ((k : Int) * (k : Int)), .int .i64 k, .slice p i c], 26, 3, none⟩), (b2, ⟨[.int .i64 0, .int .i64 0, .slice none 0 0], 26, 3, none⟩)]))) (k * k - a)
          ⟨_, ole_refl, 0, p2, c2, newR, by omega, by omega, rfl, rfl, rfl, rfl, rfl, rfl, rfl, rfl, hR, rfl⟩ ?_
        clear hR newR h7 h6 h5 h4 h0 h2 h3 f
        rintro y f own ⟨t, p2, c2, newR, ht, rfl, h8, h7, h6, h5, h4, h0, h2, h3, hR, rfl⟩
        rw [upd_of h8, upd_of h7, upd_of h6, upd_of h5, upd_of h4, upd_of h0, upd_of h2, upd_of h3]
        have hBl := stB_len k i a M R0 t
        obtain ⟨B, hB⟩ : ∃ B, B = a + t := ⟨_, rfl⟩
        have hstB : stB k i a M R0 (t + 1) = if condS k i a B then ((stB k i a M R0 t).1.set B true, (stB k i a M R0 t).2 ++ [(B : Int)]) else ((stB k i a M R0 t).1, (stB k i a M R0 t).2) := by rw [hB]; rfl
        obtain ⟨M1, hM1⟩ : ∃ M1, M1 = (stB k i a M R0 t).1 := ⟨_, rfl⟩
        obtain ⟨R1, hR1⟩ : ∃ R1, R1 = (stB k i a M R0 t).2 := ⟨_, rfl⟩
        rw [← hM1, ← hR1] at hBl hstB
        rw [← hR1] at hR
        rw [← hM1, ← hR1, ← hB]
        repeat (first | refine vops_q tyOk rfl ?_ | refine vops_nil ?_ | refine vw_seq ?_ | refine vw_region (by kernel_rfl) ?_ | refine vops_p tyOk rfl (by (try simp only [inR]); omega) ?_ | refine vw_cond rfl ?_)
        refine bs_dec (fun hlt3 => ?_) (fun hlt3 => ?_)
        · have hBk : B < k * k := by omega
          have hml : M1.length = k * k := by omega
          have q1 : 0 ≤ (B : Int) / (k : Int) := Int.ediv_nonneg (by omega) (by omega)
          have q2 : (B : Int) / (k : Int) ≤ 5 := by
            have h1 : B / k < k := Nat.div_lt_of_lt_mul hBk
            have h2 : ((B / k : Nat) : Int) = (B : Int) / (k : Int) := by push_cast; rfl
            omega
          have q3 : 0 ≤ (a : Int) / (k : Int) := Int.ediv_nonneg (by omega) (by omega)
          have q4 : (a : Int) / (k : Int) ≤ (B : Int) / (k : Int) := Int.ediv_le_ediv (by omega) (by omega)
          have q5 : 0 ≤ (B : Int) % (k : Int) := Int.emod_nonneg _ (by omega)
          have q6 : (B : Int) % (k : Int) < (k : Int) := Int.emod_lt_of_pos _ (by omega)
          have q7 : 0 ≤ (a : Int) % (k : Int) := Int.emod_nonneg _ (by omega)
          have q8 : (a : Int) % (k : Int) < (k : Int) := Int.emod_lt_of_pos _ (by omega)
          have q9 : 0 ≤ ((B : Int) / (k : Int) - (a : Int) / (k : Int)) * (i : Int) := Int.mul_nonneg (by omega) (by omega)
          have q10 : ((B : Int) / (k : Int) - (a : Int) / (k : Int)) * (i : Int) ≤ 5 * 5 := Int.mul_le_mul (by omega) (by omega) (by omega) (by omega)
          have hbl : ((B : Int)).toNat = B := Int.toNat_natCast _
          repeat (first | refine vw_seq ?_ | refine vw_skip ?_ | refine vw_block ?_)
          refine vw_draw [0, 1, 2, 3, 4, 5, 6, 7, 8, 9, 10, 11, 12, 13, 14, 15] (by kernel_rfl) (by kernel_rfl) (by kernel_rfl) rfl ?_
          repeat' (first | refine vd_q tyOk rfl (by first | trivial | rfl) rfl (by kernel_rfl) (by kernel_rfl) ?_ | refine vd_p tyOk rfl (by first | trivial | rfl) rfl (by kernel_rfl) (by kernel_rfl) (by (try simp only [inR]); omega) ?_ | refine vd_nil (by kernel_rfl) ?_)
          by_cases hc : condS k i a B = true
          · rw [if_pos hc] at hstB
            rw [condS_split] at hc
            repeat' (first | refine vops_q tyOk rfl ?_ | refine vops_nil ?_ | refine vw_seq ?_ | refine vw_region (by kernel_rfl) ?_ | refine vops_guardT rfl rfl ?_ | refine vops_guardF rfl rfl ?_ | refine vops_guardU rfl rfl ?_ | with_reducible refine bs_true ?_ | with_reducible refine bs_false ?_ | refine vops_p tyOk rfl (by (try simp only [inR]); omega) ?_ | refine vw_cond rfl ?_ | (with_reducible refine bs_dec (fun _ => ?_) (fun _ => ?_)) <;> try (exfalso; omega) | refine vops_remT rfl rfl (by omega) ?_ | refine vops_storeBM tyOk rfl rfl rfl rfl (by repeat (first | exact upd_here | apply upd_next | apply upd_past)) (by rw [hml]; omega) ?_ | refine vops_litI [_] tyOk rfl rfl (List.cons_ne_nil _ _) (by rfl) rfl (by omega) (by omega) (fun bt hbt => ?_) | refine vops_append1 (k := 1) tyOk rfl rfl (List.cons_ne_nil _ _) rfl rfl (by decide) rfl hR (by repeat (first | exact pm_here | exact pm_last | apply pm_next | apply pm_past)) rfl (by repeat (first | exact mem_here | apply mem_next | apply mem_past)) rfl (by omega) (fun p' cap' new' hN' => ?_))
            all_goals try (exfalso; omega)
            all_goals
              refine ⟨k * k - a - (t + 1), by omega, new' ++ ((bm, ⟨bools (M1.set B true), 4, k * k, none⟩) :: (new ++ [(b3, ⟨[.int .i64 ((k : Int) * (k : Int)), .int .i64 k, .slice p i c], 26, 3, none⟩), (b2, ⟨[.int .i64 0, .int .i64 0, .slice none 0 0], 26, 3, none⟩)])), (by repeat (first | exact ole_nil | exact ole_refl | (apply ole_cons; (repeat (first | exact pm1_here | apply pm1_next | apply pm1_past))) | (apply ole_app; (repeat (first | exact pm_here | exact pm_last | apply pm_next | apply pm_past))))), t + 1, p', cap', new', by omega, rfl, congrArg (Value.int .i64) (by omega), rfl, rfl, ?_, rfl, rfl, rfl, rfl, ?_, by rw [hstB]⟩
              · rw [hstB]; show _ = Value.slice p' (R1 ++ [(B : Int)]).length cap'; rw [List.length_append]; rfl
              · rw [hstB]; show NewI 2 (R1 ++ [(B : Int)]) (.slice p' (R1 ++ [(B : Int)]).length cap') new'; rw [List.length_append]; exact NewI.snoc hN' rfl
          · rw [if_neg hc] at hstB
            rw [condS_split] at hc
            repeat' (first | refine vops_q tyOk rfl ?_ | refine vops_nil ?_ | refine vw_seq ?_ | refine vw_region (by kernel_rfl) ?_ | refine vops_guardT rfl rfl ?_ | refine vops_guardF rfl rfl ?_ | with_reducible refine bs_true ?_ | with_reducible refine bs_false ?_ | refine vops_p tyOk rfl (by (try simp only [inR]); omega) ?_ | refine vw_cond rfl ?_ | refine vw_skip ?_ | (with_reducible refine bs_dec (fun _ => ?_) (fun _ => ?_)) <;> try (exfalso; omega) | refine vops_remT rfl rfl (by omega) ?_)
            all_goals try (exfalso; omega)
            all_goals
              exact ⟨k * k - a - (t + 1), by omega, newR ++ ((bm, ⟨bools M1, 4, k * k, none⟩) :: (new ++ [(b3, ⟨[.int .i64 ((k : Int) * (k : Int)), .int .i64 k, .slice p i c], 26, 3, none⟩), (b2, ⟨[.int .i64 0, .int .i64 0, .slice none 0 0], 26, 3, none⟩)])), ole_refl, t + 1, p2, c2, newR, by omega, rfl, congrArg (Value.int .i64) (by omega), rfl, rfl, by rw [hstB]; rfl, rfl, rfl, rfl, rfl, by rw [hstB]; exact hR, by rw [hstB]⟩
        · obtain rfl : t = k * k - a := by omega
          repeat (first | refine vops_q tyOk rfl ?_ | refine vops_nil ?_ | refine vw_region (by kernel_rfl) ?_ | refine vops_p tyOk rfl (by (try simp only [inR]); omega) ?_ | refine vw_exit ?_)
          exact ⟨k * k - (a + 1), by omega, _, ole_refl, a + 1, p2, c2, newR, by omega, rfl, rfl, rfl, by rw [hst', ← hR1]; rfl, rfl, rfl, rfl, rfl, by rw [hst', ← hR1]; exact hR, by rw [hst', ← hM1]⟩
    · obtain rfl : a = k * k := by omega
      have hrs : (stA k i (k * k)).2 = rowS k i := rfl
      rw [hrs] at hR ⊢
      obtain ⟨vs, ns, outer, hRw, hO, hnew⟩ := hN
      subst hnew
      rw [hti] at hO
      rw [List.append_assoc outer ns.flatten]
      repeat (first | refine vops_q tyOk rfl ?_ | refine vops_nil ?_ | refine vw_region (by kernel_rfl) ?_ | refine vops_p tyOk rfl (by (try simp only [inR]); omega) ?_ | refine vw_exit ?_ | refine vops_litV tyOk rfl rfl (List.cons_ne_nil _ _) rfl rfl rfl (fun bl hbl => ?_) | refine vops_appendV tyOk rfl rfl (List.cons_ne_nil _ _) rfl rfl (by decide) rfl hO (by repeat (first | exact pm_here | exact pm_last | apply pm_next | apply pm_past)) rfl (by repeat (first | exact mem_here | apply mem_next | apply mem_past)) rfl (by omega) (fun p' cap' outer' hO' => ?_) | ((show VOps _ _ _ _ (⟨some _, Go.Op.load _ _, _, _, _, none⟩ :: _) _ _); refine vops_loadM tyOk rfl rfl rfl (by repeat (first | exact mem_here | apply mem_next | apply mem_past)) (by rfl) ?_) | ((show VOps _ _ _ _ (⟨none, Go.Op.store _ _ _, _, _, _, none⟩ :: _) _ _); refine vops_storeM tyOk rfl rfl rfl rfl rfl (by repeat (first | exact upd_here | apply upd_next | apply upd_past)) (by simp) ?_))
      refine ⟨k + 1 - (i + 1), by omega, (outer' ++ (ns ++ [newR]).flatten) ++ [(b3, ⟨[.int .i64 ((k : Int) * (k : Int)), .int .i64 k, .slice p' (i + 1) cap'], 26, 3, none⟩), (b2, ⟨[.int .i64 0, .int .i64 0, .slice none 0 0], 26, 3, none⟩)], ?_, i + 1, p', cap', outer' ++ (ns ++ [newR]).flatten, by omega, rfl, rfl, rfl, rfl, rfl, ?_, rfl⟩
      · rw [flat_snoc, List.append_assoc, List.append_assoc]; exact (by repeat (first | exact ole_nil | exact ole_refl | (apply ole_cons; (repeat (first | exact pm1_here | apply pm1_next | apply pm1_past))) | (apply ole_app; (repeat (first | exact pm_here | exact pm_last | apply pm_next | apply pm_past)))))
      · rw [hnx]
        refine ⟨vs ++ [.slice p2 (rowS k i).length c2], ns ++ [newR], outer', RowsAt.snoc hR hRw, ?_, rfl⟩
        rw [List.length_append, hti]; exact hO'
  · obtain rfl : i = k + 1 := by omega
    have hgl : (gridL k).length = k + 1 := by unfold gridL; rw [List.length_append, gridS_length]; rfl
    rw [List.take_of_length_le (by omega)] at hN
    refine vw_nodup (fun hnd => ?_)
    repeat (first | refine vops_nil ?_ | refine vw_seq ?_ | refine vw_region (by kernel_rfl) ?_ | refine vw_ret ?_ | refine vw_exit ?_ | ((show VOps _ _ _ _ (⟨some _, Go.Op.load _ _, _, _, _, none⟩ :: _) _ _); refine vops_loadNM tyOk rfl rfl rfl (by repeat (first | exact mem_here | apply mem_next | apply mem_past)) (by first | rfl | (rw [ints_length]; first | assumption | omega | (rw [ints_length]; first | assumption | omega | simp [*])) | simp [*]) ?_) | ((show VOps _ _ _ _ (⟨none, Go.Op.store _ _ _, _, _, _, none⟩ :: _) _ _); refine vops_storeAM tyOk rfl rfl rfl (by first | rfl | (rw [ints_length]; first | assumption | omega | (rw [ints_length]; first | assumption | omega | simp [*])) | simp [*]) (by first | exact ints_one | simp [Value.oneCell']) (by repeat (first | exact upd_here | apply upd_next | apply upd_past)) (by first | rfl | (rw [ints_length]; first | assumption | omega | (rw [ints_length]; first | assumption | omega | simp [*])) | simp [*]) ?_))
    exact ⟨_, new, rv_cell (cs := [.int .i64 ((k : Int) * (k : Int)), .int .i64 k, .slice p (k + 1) c]) tyOk rfl rfl rfl rfl rfl (fun j v hj => by rw [Nat.zero_add]; exact sees_mem (by repeat (first | exact mem_here | apply mem_next | apply mem_past)) hj), nodup_sub hnd (List.sublist_append_left _ _), (by repeat (first | exact sub_hereL | exact sub_refl | apply sub_cons | apply sub_app)), p, c, by rw [hgl], by rw [hgl]; exact hN⟩
end Go.Proofs.Ytnammdmiljjhjaa

