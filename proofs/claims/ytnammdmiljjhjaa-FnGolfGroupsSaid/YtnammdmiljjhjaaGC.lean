import Derived.Test.YtnammdmiljjhjaaGB
import Derived.Test.YtnammdmiljjhjaaUC
import Derived.Test.YtnammdmiljjhjaaVLA
import Derived.Test.YtnammdmiljjhjaaSY
/- Parts of the proof, one after another. No conditions of their own. -/
/- A part of the proof: X8. No conditions of its own. -/
namespace Go.Proofs.Ytnammdmiljjhjaa
open Go.VL
attribute [local irreducible] VWr VOps VD Calls

/-- Social golfs, and full ones. -/
def Social (n g : Nat) (ls : List (List Int)) : Prop := ∀ x y : Nat, x < n → y < n → metN g ls x y ≤ 1
def FullG (n g : Nat) (ls : List (List Int)) : Prop := ∀ x y : Nat, x < n → y < x → metN g ls x y = 1
open Classical in
noncomputable def socialR (n g : Int) (ls : List (List Int)) : Bool × Int := if IsGf n g ls then (decide (Social n.toNat g.toNat ls), 0) else (false, 1)
open Classical in
noncomputable def fullR (n g : Int) (ls : List (List Int)) : Bool × Int := if IsGf n g ls then (decide (FullG n.toNat g.toNat ls), 0) else (false, 1)
end Go.Proofs.Ytnammdmiljjhjaa

/- A part of the proof: X9. No conditions of its own. -/
namespace Go.Proofs.Ytnammdmiljjhjaa
open Go.VL
attribute [local irreducible] VWr VOps VD Calls

open Classical in
noncomputable def codeG (n g : Int) (ls : List (List Int)) (b : Bool) : Int := if IsGf n g ls then (if b = true then 0 else 2) else 1
open Classical in
set_option maxRecDepth 100000 in
theorem c_codeOfGolf (m g : Int) (v : Value) (ls : List (List Int)) (b : Bool) (w : World) (hv : RdII w v ls) (hl : ls.length ≤ 1048576) (hll : ∀ l ∈ ls, l.length ≤ 1048576) :
    Calls Try.prog 57 [.agg #[.int .i64 m, .int .i64 g, v], .bool b].toArray w (Res w (Is (.int .i64 (codeG m g ls b)))) := by
  obtain ⟨a, cap, rfl⟩ := hv.len
  refine calls_of_vw Try.func57 rfl Try.ntmps57 (by simp) ?_
  refine vw_seq (vw_region (by kernel_rfl) (vops_box [.int .i64 m, .int .i64 g, .slice a ls.length cap] rfl (fun b1 hb1 => ?_)))
  repeat (first | refine vops_q tyOk rfl ?_ | refine vops_nil ?_ | refine vw_seq ?_ | refine vw_region (by kernel_rfl) ?_ | refine vw_cond rfl ?_ | refine vw_block ?_ | (apply vops_callp ent27 rfl; (intro w' hg; exact c_IsGolf _ _ _ ls w' (hv.same hg.fr) hl hll)) | ((show VOps _ _ _ _ (⟨some _, Go.Op.load _ _, _, _, _, none⟩ :: _) _ _); refine vops_loadNM tyOk rfl rfl rfl (by repeat (first | exact mem_here | apply mem_next | apply mem_past)) (by first | rfl | (rw [ints_length]; first | assumption | omega | (rw [ints_length]; first | assumption | omega | simp [*])) | simp [*]) ?_))
  refine bs_ndec2 (fun h => ?_) (fun h => ?_)
  · repeat (first | refine vops_q tyOk rfl ?_ | refine vops_nil ?_ | refine vw_seq ?_ | refine vw_region (by kernel_rfl) ?_ | refine vw_ret ?_)
    exact rv_int rfl rfl (by rw [codeG, if_neg h])
  repeat (first | refine vops_q tyOk rfl ?_ | refine vops_nil ?_ | refine vw_seq ?_ | refine vw_region (by kernel_rfl) ?_ | refine vw_cond rfl ?_)
  refine bs_nany (fun hb => ?_) (fun hb => ?_)
  · repeat (first | refine vops_q tyOk rfl ?_ | refine vops_nil ?_ | refine vw_seq ?_ | refine vw_region (by kernel_rfl) ?_ | refine vw_skip ?_ | refine vw_ret ?_)
    exact rv_int rfl rfl (by rw [codeG, if_pos h, if_pos hb])
  · repeat (first | refine vops_q tyOk rfl ?_ | refine vops_nil ?_ | refine vw_seq ?_ | refine vw_region (by kernel_rfl) ?_ | refine vw_ret ?_)
    exact rv_int rfl rfl (by rw [codeG, if_pos h, if_neg (by rw [hb]; exact Bool.false_ne_true)])
open Classical in
theorem codeG_dec {n g : Int} {ls : List (List Int)} {p : Prop} [Decidable p] {b : Bool} (hb : b = decide p) : codeG n g ls b = if IsGf n g ls then (if p then 0 else 2) else 1 := by
  subst hb
  unfold codeG
  by_cases hp : p
  · rw [decide_eq_true hp, if_pos rfl, if_pos hp]
  · rw [decide_eq_false hp, if_neg Bool.false_ne_true, if_neg hp]

/-- The players below k that a has not met. -/
def notTo (F : Nat → Nat → Int) (a : Nat) : Nat → List Int
  | 0 => []
  | k + 1 => if k ≠ a ∧ F a k = 0 then notTo F a k ++ [(k : Int)] else notTo F a k
theorem notTo_yes {F : Nat → Nat → Int} {a k : Nat} (h : k ≠ a ∧ F a k = 0) : notTo F a (k + 1) = notTo F a k ++ [(k : Int)] := by rw [notTo, if_pos h]
theorem notTo_no {F : Nat → Nat → Int} {a k : Nat} (h : ¬ (k ≠ a ∧ F a k = 0)) : notTo F a (k + 1) = notTo F a k := by rw [notTo, if_neg h]
theorem notTo_le (F : Nat → Nat → Int) (a : Nat) : ∀ k, (notTo F a k).length ≤ k
  | 0 => Nat.le_refl _
  | k + 1 => by
    have := notTo_le F a k
    rw [notTo]
    split
    · rw [List.length_append, List.length_singleton]; omega
    · omega
open Classical in
noncomputable def notMetR (n g : Int) (ls : List (List Int)) (a : Int) : List Int × Int :=
  if IsGf n g ls then (if 0 ≤ a ∧ a < n then (notTo (fun x y => (metN g.toNat ls x y : Int)) a.toNat n.toNat, 0) else ([], 2)) else ([], 1)
theorem notMetR_len (n g : Int) (ls : List (List Int)) (a : Int) : (notMetR n g ls a).1.length ≤ 1048576 := by
  unfold notMetR
  split
  · rename_i h
    have h25 := h.2.1
    split
    · have := notTo_le (fun x y => (metN g.toNat ls x y : Int)) a.toNat n.toNat
      show (notTo _ _ _).length ≤ _; omega
    · simp
  · simp

open Classical in
set_option maxHeartbeats 1000000 in
set_option maxRecDepth 100000 in
theorem c_impl_NotMet (m g i : Int) (v : Value) (ls : List (List Int)) (w : World) (hv : RdCC w v ls) (hl : ls.length ≤ 1048576) (hll : ∀ l ∈ ls, l.length ≤ 1048576) :
    Calls Try.prog 23 [.agg #[.int .i64 m, .int .i64 g, v], .int .i64 i].toArray w (Res w (PairI 2 (notMetR m g ls i))) := by
  obtain ⟨a, cap, rfl⟩ := hv.len
  refine calls_of_vw Try.func23 rfl Try.ntmps23 (by simp) ?_
  refine vw_seq (vw_region (by kernel_rfl) (vops_box [.int .i64 m, .int .i64 g, .slice a ls.length cap] rfl (fun b2 hb2 => ?_)))
  repeat (first | refine vops_q tyOk rfl ?_ | refine vops_nil ?_ | refine vw_seq ?_)
  refine vw_draw [0, 1, 2, 3, 4, 5, 6] (by kernel_rfl) (by kernel_rfl) (by kernel_rfl) rfl ?_
  repeat' (first | refine vd_q tyOk rfl (by first | trivial | rfl) rfl (by kernel_rfl) (by kernel_rfl) ?_ | refine vops_nil ?_ | refine vd_nil (by kernel_rfl) ?_ | refine ⟨fun _ _ _ h => h, ?_⟩ | refine vd_load tyOk rfl (by first | trivial | rfl) rfl rfl rfl (by kernel_rfl) (by kernel_rfl) (by kernel_rfl) (sees_mem (by repeat (first | exact mem_here | apply mem_next | apply mem_past)) (by rfl)) (by repeat (first | exact sub_hereL | exact sub_refl | apply sub_cons | apply sub_app)) ?_ | refine vd_loadNM tyOk rfl (by first | trivial | rfl) rfl rfl rfl (by repeat (first | exact mem_here | apply mem_next | apply mem_past)) (by first | rfl | (rw [ints_length]; first | assumption | omega | (rw [ints_length]; first | assumption | omega | simp [*])) | simp [*]) (by kernel_rfl) (by kernel_rfl) (by kernel_rfl) (by repeat (first | exact sub_hereL | exact sub_refl | apply sub_cons | apply sub_app)) ?_ | (apply vops_callp ent58 rfl; (intro w _; exact c_isBelow _ _ w)) | (apply vops_callp ent57 rfl; (intro w' hg; exact c_codeOfGolf _ _ _ ls _ w' (hv.rd.same hg.fr) hl hll)) | refine vd_one rfl (by kernel_rfl) (by kernel_rfl) rfl ?_)
  have hcd := codeG_dec (n := m) (g := g) (ls := ls) (p := 0 ≤ i ∧ i < m) rfl
  rw [hcd]
  by_cases h : IsGf m g ls
  rotate_left
  · rw [if_neg h]
    repeat (first | refine vops_q tyOk rfl ?_ | refine vops_nil ?_ | refine vw_seq ?_ | refine vw_region (by kernel_rfl) ?_ | refine vw_cond rfl ?_)
    refine bs_ndec2 (fun _ => ?_) (fun hh => by omega)
    repeat (first | refine vops_q tyOk rfl ?_ | refine vops_nil ?_ | refine vw_seq ?_ | refine vw_region (by kernel_rfl) ?_ | refine vw_ret ?_)
    exact pairI_err rfl rfl rfl (by rw [notMetR, if_neg h])
  rw [if_pos h]
  by_cases hi : 0 ≤ i ∧ i < m
  rotate_left
  · rw [if_neg hi]
    repeat (first | refine vops_q tyOk rfl ?_ | refine vops_nil ?_ | refine vw_seq ?_ | refine vw_region (by kernel_rfl) ?_ | refine vw_cond rfl ?_)
    refine bs_ndec2 (fun _ => ?_) (fun hh => by omega)
    repeat (first | refine vops_q tyOk rfl ?_ | refine vops_nil ?_ | refine vw_seq ?_ | refine vw_region (by kernel_rfl) ?_ | refine vw_ret ?_)
    exact pairI_err rfl rfl rfl (by rw [notMetR, if_pos h, if_neg hi])
  rw [if_pos hi]
  have hm2 := h.1
  have hm25 := h.2.1
  obtain ⟨k, d, rfl, rfl⟩ := h.nat
  obtain ⟨t, rfl⟩ : ∃ t : Nat, i = (t : Int) := ⟨i.toNat, by omega⟩
  obtain ⟨F, hF⟩ : ∃ F : Nat → Nat → Int, F = fun x y => (metN d ls x y : Int) := ⟨_, rfl⟩
  have hR : notMetR k d ls t = (notTo F t k, 0) := by rw [notMetR, if_pos h, if_pos hi, Int.toNat_natCast, Int.toNat_natCast, Int.toNat_natCast, hF]
  rw [hR]
  repeat (first | refine vops_q tyOk rfl ?_ | refine vops_nil ?_ | refine vw_seq ?_ | refine vw_region (by kernel_rfl) ?_ | refine vw_cond rfl ?_)
  refine bs_ndec2 (fun hh => absurd rfl hh) (fun _ => ?_)
  repeat (first | refine vops_q tyOk rfl ?_ | refine vops_nil ?_ | refine vw_seq ?_ | refine vw_region (by kernel_rfl) ?_ | refine vw_skip ?_ | ((show VOps _ _ _ _ (⟨some _, Go.Op.load _ _, _, _, _, none⟩ :: _) _ _); refine vops_loadNM tyOk rfl rfl rfl (by repeat (first | exact mem_here | apply mem_next | apply mem_past)) (by first | rfl | (rw [ints_length]; first | assumption | omega | (rw [ints_length]; first | assumption | omega | simp [*])) | simp [*]) ?_))
  apply vops_call ent64 rfl
  · intro w' hg; exact c_timesMet k d _ ls h w' (hv.same hg.fr)
  rintro _ newT hN
  obtain ⟨p, cp, rfl⟩ := hN.form
  rw [show (metT k d ls).length = k from tabOf_length _ _] at hN ⊢
  have hN' : NewLL 29 2 (tabOf k F) (.slice p k cp) newT := by rw [hF]; exact hN
  clear hN
  obtain ⟨vs, ns, outer, hRw, hO, hnew⟩ := id hN'
  obtain ⟨br, cr, ns1, ns2, hvi, hns⟩ := tab_cell hRw (show t < k by omega)
  rw [tabOf_length] at hO
  obtain ⟨bo, hpo, hob⟩ := outer_blk hO (by omega)
  subst hpo
  have hva := vals_get hvi (show 0 + (t : Int).toNat = t by omega)
  have hm1 : ∀ X : Own, (bo, (⟨vs, 29, cp * 1, none⟩ : Blk)) ∈ X ++ (newT ++ [(b2, (⟨[.int .i64 k, .int .i64 d, .slice a ls.length cap], 26, 3, none⟩ : Blk))]) := fun X => by
    rw [hnew, hob]; simp
  have hm2 : ∀ X : Own, (br, (⟨ints ((List.range k).map fun b => F t b), 2, cr * 1, none⟩ : Blk)) ∈ X ++ (newT ++ [(b2, (⟨[.int .i64 k, .int .i64 d, .slice a ls.length cap], 26, 3, none⟩ : Blk))]) := fun X => by
    rw [hnew, hns]; simp
  repeat (first | refine vops_q tyOk rfl ?_ | refine vops_nil ?_ | refine vops_p tyOk rfl (by (try simp only [inR]); omega) ?_ | refine vw_block ?_ | refine vops_loadM tyOk rfl rfl rfl (hm1 []) (by exact hva) ?_)
  refine vw_loopW (fun y f own => ∃ (x : Nat) (p2 : Option Addr) (c2 : Nat) (new : Own), x ≤ k ∧ y = k - x ∧ f 25 = .int .i64 x ∧ f 24 = .int .i64 k ∧ f 23 = .slice (some ⟨br, 0, none⟩) k cr ∧ f 7 = .slice p2 (notTo F t x).length c2 ∧ f 1 = .int .i64 t ∧
      NewI 2 (notTo F t x) (.slice p2 (notTo F t x).length c2) new ∧ own = new ++ (newT ++ [(b2, ⟨[.int .i64 k, .int .i64 d, .slice a ls.length cap], 26, 3, none⟩)])) k
    ⟨_, ole_refl, 0, none, 0, [], by omega, by omega, rfl, rfl, rfl, rfl, rfl, NewI.nil, rfl⟩ ?_
  rintro y f own ⟨x, p2, c2, new, hx, rfl, h25, h24, h23, h7, h1, hNl, rfl⟩
  rw [upd_of h25, upd_of h24, upd_of h23, upd_of h7, upd_of h1]
  have hsl := notTo_le F t x
  repeat (first | refine vops_q tyOk rfl ?_ | refine vops_nil ?_ | refine vw_seq ?_ | refine vw_region (by kernel_rfl) ?_ | refine vw_cond rfl ?_)
  refine bs_dec (fun hlt => ?_) (fun hlt => ?_)
  · have hcell : (ints ((List.range k).map fun b => F t b))[0 + (x : Int).toNat]? = some (.int .i64 (F t x)) := by
      rw [show 0 + (x : Int).toNat = x by omega, ints_get (by rw [row_length]; omega), row_get (by omega)]
    have hno : ¬ (x ≠ t ∧ F t x = 0) → notTo F t (x + 1) = notTo F t x := notTo_no
    repeat' (first | refine vops_q tyOk rfl ?_ | refine vops_nil ?_ | refine vw_seq ?_ | refine vw_region (by kernel_rfl) ?_ | refine vops_guardT rfl rfl ?_ | with_reducible refine bs_true ?_ | with_reducible refine bs_false ?_ | refine vops_p tyOk rfl (by (try simp only [inR]); omega) ?_ | refine vw_cond rfl ?_ | refine vw_skip ?_ | refine vw_block ?_ | (with_reducible refine bs_dec (fun _ => ?_) (fun _ => ?_)) <;> try (exfalso; omega) | (with_reducible refine bs_ndec (fun _ => ?_) (fun _ => ?_)) <;> try (exfalso; omega) | refine vops_loadM tyOk rfl rfl rfl (hm2 _) (by exact hcell) ?_)
    all_goals try (by_cases hc : x ≠ t ∧ F t x = 0)
    all_goals try (exfalso; omega)
    all_goals first
      | (repeat (first | refine vops_q tyOk rfl ?_ | refine vops_nil ?_ | refine vw_region (by kernel_rfl) ?_ | refine vops_p tyOk rfl (by (try simp only [inR]); omega) ?_ | refine vops_litI [_] tyOk rfl rfl (List.cons_ne_nil _ _) (by rfl) rfl (by omega) (by omega) (fun bt hbt => ?_) | refine vops_append1 (k := 1) tyOk rfl rfl (List.cons_ne_nil _ _) rfl rfl (by decide) rfl hNl (by repeat (first | exact pm_here | exact pm_last | apply pm_next | apply pm_past)) rfl (by repeat (first | exact mem_here | apply mem_next | apply mem_past)) rfl (by omega) (fun p' cap' new' hN' => ?_))
         have hst := notTo_yes hc
         refine ⟨k - (x + 1), by omega, _, (by repeat (first | exact ole_nil | exact ole_refl | (apply ole_cons; (repeat (first | exact pm1_here | apply pm1_next | apply pm1_past))) | (apply ole_app; (repeat (first | exact pm_here | exact pm_last | apply pm_next | apply pm_past))))), x + 1, p', cap', new', by omega, rfl, rfl, rfl, rfl, ?_, rfl, ?_, rfl⟩
         · rw [hst, List.length_append]; rfl
         · rw [hst, List.length_append]; exact NewI.snoc hN' rfl)
      | (skip
         have hst := hno hc
         exact ⟨k - (x + 1), by omega, _, ole_refl, x + 1, p2, c2, new, by omega, rfl, rfl, rfl, rfl, by rw [hst]; rfl, rfl, by rw [hst]; exact hNl, rfl⟩)
  · obtain rfl : x = k := by omega
    repeat (first | refine vops_q tyOk rfl ?_ | refine vops_nil ?_ | refine vw_seq ?_ | refine vw_region (by kernel_rfl) ?_ | refine vw_ret ?_ | refine vw_exit ?_)
    exact pairI_ok rfl rfl rfl hNl (by repeat (first | exact sub_hereL | exact sub_refl | apply sub_cons | apply sub_app)) rfl

open Classical in
set_option maxHeartbeats 1000000 in
set_option maxRecDepth 100000 in
theorem c_spec_NotMet (m g i : Int) (v : Value) (ls : List (List Int)) (w : World) (hv : RdII w v ls) (hl : ls.length ≤ 1048576) (hll : ∀ l ∈ ls, l.length ≤ 1048576) :
    Calls Try.prog 24 [.agg #[.int .i64 m, .int .i64 g, v], .int .i64 i].toArray w (Res w (PairI 2 (notMetR m g ls i))) := by
  obtain ⟨a, cap, rfl⟩ := hv.len
  refine calls_of_vw Try.func24 rfl Try.ntmps24 (by simp) ?_
  refine vw_seq (vw_region (by kernel_rfl) (vops_box [.int .i64 m, .int .i64 g, .slice a ls.length cap] rfl (fun b2 hb2 => ?_)))
  repeat (first | refine vops_q tyOk rfl ?_ | refine vops_nil ?_ | refine vw_seq ?_ | refine vw_region (by kernel_rfl) ?_ | refine vw_cond rfl ?_ | refine vw_block ?_ | (apply vops_callp ent65 rfl; (intro w' hg; exact c_l08Is _ _ _ ls w' (hv.same hg.fr) hl hll)) | ((show VOps _ _ _ _ (⟨some _, Go.Op.load _ _, _, _, _, none⟩ :: _) _ _); refine vops_loadNM tyOk rfl rfl rfl (by repeat (first | exact mem_here | apply mem_next | apply mem_past)) (by first | rfl | (rw [ints_length]; first | assumption | omega | (rw [ints_length]; first | assumption | omega | simp [*])) | simp [*]) ?_))
  refine bs_ndec2 (fun h => ?_) (fun h => ?_)
  · repeat (first | refine vops_q tyOk rfl ?_ | refine vops_nil ?_ | refine vw_seq ?_ | refine vw_region (by kernel_rfl) ?_ | refine vw_ret ?_)
    exact pairI_err rfl rfl rfl (by rw [notMetR, if_neg h])
  have hm2 := h.1
  have hm25 := h.2.1
  repeat (first | refine vops_q tyOk rfl ?_ | refine vops_nil ?_ | refine vw_seq ?_ | refine vw_region (by kernel_rfl) ?_ | refine vops_p tyOk rfl (by (try simp only [inR]); omega) ?_ | refine vw_cond rfl ?_ | (apply vops_callp ent67 rfl; (intro w _; exact c_l01In _ _ _ w)) | ((show VOps _ _ _ _ (⟨some _, Go.Op.load _ _, _, _, _, none⟩ :: _) _ _); refine vops_loadM tyOk rfl rfl rfl (by repeat (first | exact mem_here | apply mem_next | apply mem_past)) (by rfl) ?_))
  refine bs_ndec2 (fun hi => ?_) (fun hi => ?_)
  · repeat (first | refine vops_q tyOk rfl ?_ | refine vops_nil ?_ | refine vw_seq ?_ | refine vw_region (by kernel_rfl) ?_ | refine vw_ret ?_)
    exact pairI_err rfl rfl rfl (by rw [notMetR, if_pos h, if_neg (by omega)])
  obtain ⟨k, d, rfl, rfl⟩ := h.nat
  obtain ⟨t, rfl⟩ : ∃ t : Nat, i = (t : Int) := ⟨i.toNat, by omega⟩
  obtain ⟨F, hF⟩ : ∃ F : Nat → Nat → Int, F = fun x y => (metN d ls x y : Int) := ⟨_, rfl⟩
  have hR : notMetR k d ls t = (notTo F t k, 0) := by rw [notMetR, if_pos h, if_pos (by omega), Int.toNat_natCast, Int.toNat_natCast, Int.toNat_natCast, hF]
  rw [hR]
  repeat (first | refine vw_seq ?_ | refine vw_region (by kernel_rfl) ?_ | refine vw_skip ?_ | ((show VOps _ _ _ _ (⟨some _, Go.Op.load _ _, _, _, _, none⟩ :: _) _ _); refine vops_loadNM tyOk rfl rfl rfl (by repeat (first | exact mem_here | apply mem_next | apply mem_past)) (by first | rfl | (rw [ints_length]; first | assumption | omega | (rw [ints_length]; first | assumption | omega | simp [*])) | simp [*]) ?_))
  apply vops_call ent66 rfl
  · intro w' hg; exact c_l08Meetings k d _ ls h w' (hv.same hg.fr)
  rintro _ newT hN
  obtain ⟨p, cp, rfl⟩ := hN.form
  rw [show (metT k d ls).length = k from tabOf_length _ _] at hN ⊢
  have hN' : NewLL 29 2 (tabOf k F) (.slice p k cp) newT := by rw [hF]; exact hN
  clear hN
  obtain ⟨vs, ns, outer, hRw, hO, hnew⟩ := id hN'
  obtain ⟨br, cr, ns1, ns2, hvi, hns⟩ := tab_cell hRw (show t < k by omega)
  rw [tabOf_length] at hO
  obtain ⟨bo, hpo, hob⟩ := outer_blk hO (by omega)
  subst hpo
  have hva := vals_get hvi (show 0 + (t : Int).toNat = t by omega)
  have hm1 : ∀ X : Own, (bo, (⟨vs, 29, cp * 1, none⟩ : Blk)) ∈ X ++ (newT ++ [(b2, (⟨[.int .i64 k, .int .i64 d, .slice a ls.length cap], 26, 3, none⟩ : Blk))]) := fun X => by
    rw [hnew, hob]; simp
  have hm2 : ∀ X : Own, (br, (⟨ints ((List.range k).map fun b => F t b), 2, cr * 1, none⟩ : Blk)) ∈ X ++ (newT ++ [(b2, (⟨[.int .i64 k, .int .i64 d, .slice a ls.length cap], 26, 3, none⟩ : Blk))]) := fun X => by
    rw [hnew, hns]; simp
  refine vops_build0 tyOk rfl rfl (fun be hbe => ?_)
  repeat (first | refine vops_q tyOk rfl ?_ | refine vops_nil ?_ | refine vw_seq ?_ | refine vw_region (by kernel_rfl) ?_ | refine vw_block ?_)
  refine vw_loopW (fun y f own => ∃ (x : Nat) (p2 : Option Addr) (c2 : Nat) (new : Own), x ≤ k ∧ y = k - x ∧ f 8 = .int .i64 x ∧ f 6 = .slice (some ⟨bo, 0, none⟩) k cp ∧ f 7 = .slice p2 (notTo F t x).length c2 ∧ f 1 = .int .i64 t ∧ f 2 = .pointer (some ⟨b2, 0, none⟩) ∧
      NewI 2 (notTo F t x) (.slice p2 (notTo F t x).length c2) new ∧ own = new ++ (newT ++ [(b2, ⟨[.int .i64 k, .int .i64 d, .slice a ls.length cap], 26, 3, none⟩)])) k
    ⟨_, ole_refl, 0, some ⟨be, 0, none⟩, 0, [(be, ⟨[], 2, 0, none⟩)], by omega, by omega, rfl, rfl, rfl, rfl, rfl, NewI.empty, rfl⟩ ?_
  rintro y f own ⟨x, p2, c2, new, hx, rfl, h8, h6, h7, h1, h2, hNl, rfl⟩
  rw [upd_of h8, upd_of h6, upd_of h7, upd_of h1, upd_of h2]
  have hsl := notTo_le F t x
  repeat (first | refine vops_q tyOk rfl ?_ | refine vops_nil ?_ | refine vw_seq ?_ | refine vw_region (by kernel_rfl) ?_ | refine vw_cond rfl ?_ | ((show VOps _ _ _ _ (⟨some _, Go.Op.load _ _, _, _, _, none⟩ :: _) _ _); refine vops_loadM tyOk rfl rfl rfl (by repeat (first | exact mem_here | apply mem_next | apply mem_past)) (by rfl) ?_))
  refine bs_dec (fun hlt => ?_) (fun hlt => ?_)
  · have hcell : (ints ((List.range k).map fun b => F t b))[0 + (x : Int).toNat]? = some (.int .i64 (F t x)) := by
      rw [show 0 + (x : Int).toNat = x by omega, ints_get (by rw [row_length]; omega), row_get (by omega)]
    have hno : ¬ (x ≠ t ∧ F t x = 0) → notTo F t (x + 1) = notTo F t x := notTo_no
    repeat' (first | refine vops_q tyOk rfl ?_ | refine vops_nil ?_ | refine vw_seq ?_ | refine vw_region (by kernel_rfl) ?_ | refine vops_guardT rfl rfl ?_ | with_reducible refine bs_true ?_ | with_reducible refine bs_false ?_ | refine vops_p tyOk rfl (by (try simp only [inR]); omega) ?_ | refine vw_cond rfl ?_ | refine vw_skip ?_ | refine vw_block ?_ | (with_reducible refine bs_dec (fun _ => ?_) (fun _ => ?_)) <;> try (exfalso; omega) | (with_reducible refine bs_ndec (fun _ => ?_) (fun _ => ?_)) <;> try (exfalso; omega) | refine vops_loadM tyOk rfl rfl rfl (hm1 _) (by exact hva) ?_ | refine vops_loadM tyOk rfl rfl rfl (hm2 _) (by exact hcell) ?_)
    all_goals try (by_cases hc : x ≠ t ∧ F t x = 0)
    all_goals try (exfalso; omega)
    all_goals first
      | (repeat (first | refine vops_q tyOk rfl ?_ | refine vops_nil ?_ | refine vw_region (by kernel_rfl) ?_ | refine vops_p tyOk rfl (by (try simp only [inR]); omega) ?_ | refine vops_litI [_] tyOk rfl rfl (List.cons_ne_nil _ _) (by rfl) rfl (by omega) (by omega) (fun bt hbt => ?_) | refine vops_append1 (k := 1) tyOk rfl rfl (List.cons_ne_nil _ _) rfl rfl (by decide) rfl hNl (by repeat (first | exact pm_here | exact pm_last | apply pm_next | apply pm_past)) rfl (by repeat (first | exact mem_here | apply mem_next | apply mem_past)) rfl (by omega) (fun p' cap' new' hN' => ?_))
         have hst := notTo_yes hc
         refine ⟨k - (x + 1), by omega, _, (by repeat (first | exact ole_nil | exact ole_refl | (apply ole_cons; (repeat (first | exact pm1_here | apply pm1_next | apply pm1_past))) | (apply ole_app; (repeat (first | exact pm_here | exact pm_last | apply pm_next | apply pm_past))))), x + 1, p', cap', new', by omega, rfl, rfl, rfl, ?_, rfl, rfl, ?_, rfl⟩
         · rw [hst, List.length_append]; rfl
         · rw [hst, List.length_append]; exact NewI.snoc hN' rfl)
      | (skip
         have hst := hno hc
         exact ⟨k - (x + 1), by omega, _, ole_refl, x + 1, p2, c2, new, by omega, rfl, rfl, rfl, by rw [hst]; rfl, rfl, rfl, by rw [hst]; exact hNl, rfl⟩)
  · obtain rfl : x = k := by omega
    repeat (first | refine vops_q tyOk rfl ?_ | refine vops_nil ?_ | refine vw_seq ?_ | refine vw_region (by kernel_rfl) ?_ | refine vw_ret ?_ | refine vw_exit ?_)
    exact pairI_ok rfl rfl rfl hNl (by repeat (first | exact sub_hereL | exact sub_refl | apply sub_cons | apply sub_app)) rfl
end Go.Proofs.Ytnammdmiljjhjaa

/- A part of the proof: X10. No conditions of its own. -/
namespace Go.Proofs.Ytnammdmiljjhjaa
open Go.VL
attribute [local irreducible] VWr VOps VD Calls

/-- A list in order. -/
def sortL (l : List Int) : List Int := l.mergeSort fun x y => decide (x ≤ y)
theorem sortL_perm (l : List Int) : (sortL l).Perm l := List.mergeSort_perm _ _
theorem sortL_length (l : List Int) : (sortL l).length = l.length := (sortL_perm l).length_eq
theorem sortL_sorted (l : List Int) : (sortL l).Pairwise (· ≤ ·) := by
  have h := List.pairwise_mergeSort (le := fun x y : Int => decide (x ≤ y)) (fun _ _ _ h1 h2 => by simp at *; omega) (fun _ _ => by simp; omega) l
  exact h.imp fun hh => of_decide_eq_true hh
theorem sortL_eq {m l : List Int} (hp : m.Perm l) (hs : m.Pairwise (· ≤ ·)) : m = sortL l :=
  List.Perm.eq_of_pairwise (fun _ _ _ _ h1 h2 => Int.le_antisymm h1 h2) hs (sortL_sorted l) (hp.trans (sortL_perm l).symm)
/-- The group of a player. -/
def grpAt (g : Nat) (r : List Int) (x : Nat) : List Int := (r.drop (posI r x / g * g)).take g
theorem grp_bound {n g : Nat} {r : List Int} (h : IsPerm n r) (hgd : n % g = 0) {x : Nat} (hx : x < n) : posI r x / g * g + g ≤ n := by
  obtain ⟨m, hm⟩ : ∃ m, n = g * m := ⟨n / g, (Nat.mul_div_cancel' (Nat.dvd_of_mod_eq_zero hgd)).symm⟩
  have hp := pos_lt h hx
  have h1 : posI r x / g < m := Nat.div_lt_of_lt_mul (by omega)
  have h2 := Nat.mul_le_mul_right g (show posI r x / g + 1 ≤ m by omega)
  rw [Nat.add_mul, Nat.one_mul, Nat.mul_comm m g] at h2
  omega
theorem grpAt_length {n g : Nat} {r : List Int} (h : IsPerm n r) (hgd : n % g = 0) {x : Nat} (hx : x < n) : (grpAt g r x).length = g := by
  have h1 := grp_bound h hgd hx
  have hl := h.1
  unfold grpAt
  rw [List.length_take, List.length_drop]; omega
/-- A part of a list that is read. -/
theorem rdI_part {w : World} {b o n cap : Nat} {l : List Int} (h : RdI w (.slice (some ⟨b, o, none⟩) n cap) l) {s k : Nat} (hs : s + k ≤ l.length) (cap2 : Nat) : RdI w (.slice (some ⟨b, o + s, none⟩) k cap2) ((l.drop s).take k) := by
  have hl : ((l.drop s).take k).length = k := by rw [List.length_take, List.length_drop]; omega
  refine .inr ⟨b, o + s, cap2, by rw [hl], fun j x hx => ?_⟩
  have hj : j < k := by have := (List.getElem?_eq_some_iff.1 hx).1; rw [ints_length, hl] at this; exact this
  have hx' : (ints l)[s + j]? = some x := by
    rw [← hx]
    unfold ints
    rw [List.map_take, List.map_drop, List.getElem?_take_of_lt hj, List.getElem?_drop]
  obtain ⟨b', o', cap', he, hc⟩ := h.at (i := s + j) (by omega)
  cases he
  have hjl : s + j < l.length := by omega
  rw [ints_get hjl] at hx'
  cases hx'
  rw [Nat.add_assoc]
  exact hc (s + j) hjl

open Classical in
/-- The code of a golf, a round and players. -/
noncomputable def code8 (n g : Int) (ls : List (List Int)) (i : Int) (q : List Int) : Int := if IsGf n g ls then (if (0 ≤ i ∧ i < ls.length) ∧ ∀ p ∈ q, 0 ≤ p ∧ p < n then 0 else 2) else 1
open Classical in
set_option maxHeartbeats 1000000 in
set_option maxRecDepth 100000 in
theorem c_l08Code (m g i : Int) (v u : Value) (ls : List (List Int)) (q : List Int) (w : World) (hv : RdII w v ls) (hu : RdI w u q) (hl : ls.length ≤ 1048576) (hll : ∀ l ∈ ls, l.length ≤ 1048576) (hq : q.length ≤ 1048576) :
    Calls Try.prog 62 [.agg #[.int .i64 m, .int .i64 g, v], .int .i64 i, u].toArray w (Res w (Is (.int .i64 (code8 m g ls i q)))) := by
  obtain ⟨a, cap, rfl⟩ := hv.len
  obtain ⟨a2, cap2, rfl⟩ := hu.len
  refine calls_of_vw Try.func62 rfl Try.ntmps62 (by simp) ?_
  refine vw_seq (vw_region (by kernel_rfl) (vops_box [.int .i64 m, .int .i64 g, .slice a ls.length cap] rfl (fun b3 hb3 => ?_)))
  repeat (first | refine vops_q tyOk rfl ?_ | refine vops_nil ?_ | refine vw_seq ?_ | refine vw_region (by kernel_rfl) ?_ | refine vw_cond rfl ?_ | refine vw_block ?_ | (apply vops_callp ent65 rfl; (intro w' hg; exact c_l08Is _ _ _ ls w' (hv.same hg.fr) hl hll)) | ((show VOps _ _ _ _ (⟨some _, Go.Op.load _ _, _, _, _, none⟩ :: _) _ _); refine vops_loadNM tyOk rfl rfl rfl (by repeat (first | exact mem_here | apply mem_next | apply mem_past)) (by first | rfl | (rw [ints_length]; first | assumption | omega | (rw [ints_length]; first | assumption | omega | simp [*])) | simp [*]) ?_))
  refine bs_ndec2 (fun h => ?_) (fun h => ?_)
  · repeat (first | refine vops_q tyOk rfl ?_ | refine vops_nil ?_ | refine vw_seq ?_ | refine vw_region (by kernel_rfl) ?_ | refine vw_ret ?_)
    exact rv_int rfl rfl (by rw [code8, if_neg h])
  have hm2 := h.1
  have hm25 := h.2.1
  repeat (first | refine vops_q tyOk rfl ?_ | refine vops_nil ?_ | refine vw_seq ?_ | refine vw_region (by kernel_rfl) ?_ | refine vops_p tyOk rfl (by (try simp only [inR]); omega) ?_ | refine vw_cond rfl ?_ | (apply vops_callp ent67 rfl; (intro w _; exact c_l01In _ _ _ w)) | ((show VOps _ _ _ _ (⟨some _, Go.Op.load _ _, _, _, _, none⟩ :: _) _ _); refine vops_loadM tyOk rfl rfl rfl (by repeat (first | exact mem_here | apply mem_next | apply mem_past)) (by rfl) ?_))
  refine bs_ndec2 (fun hi => ?_) (fun hi => ?_)
  · repeat (first | refine vops_q tyOk rfl ?_ | refine vops_nil ?_ | refine vw_seq ?_ | refine vw_region (by kernel_rfl) ?_ | refine vw_ret ?_)
    exact rv_int rfl rfl (by rw [code8, if_pos h, if_neg fun hh => hi (by omega)])
  repeat (first | refine vops_q tyOk rfl ?_ | refine vops_nil ?_ | refine vw_seq ?_ | refine vw_region (by kernel_rfl) ?_ | refine vw_skip ?_ | refine vw_block ?_)
  refine vw_loop (fun y f own => ∃ j : Nat, j ≤ q.length ∧ y = q.length - j ∧ f 7 = .int .i64 j ∧ f 2 = .slice a2 q.length cap2 ∧ f 3 = .pointer (some ⟨b3, 0, none⟩) ∧ own = [(b3, ⟨[.int .i64 m, .int .i64 g, .slice a ls.length cap], 26, 3, none⟩)] ∧ ∀ z : Nat, z < j → 0 ≤ q.getD z 0 ∧ q.getD z 0 < m) q.length
    ⟨0, by omega, by omega, rfl, rfl, rfl, rfl, fun z hz => by omega⟩ ?_
  rintro y f own ⟨j, hj, rfl, h7, h2, h3, rfl, hall⟩
  rw [upd_of h7, upd_of h2, upd_of h3]
  repeat (first | refine vops_q tyOk rfl ?_ | refine vops_nil ?_ | refine vw_seq ?_ | refine vw_region (by kernel_rfl) ?_ | refine vw_cond rfl ?_)
  refine bs_dec (fun hlt => ?_) (fun hlt => ?_)
  · have hjq : j < q.length := by omega
    obtain ⟨b', o', cap', he, hcell⟩ := hu.at (i := j) hjq
    cases he
    have hc := hcell j hjq
    repeat (first | refine vw_seq ?_ | refine vw_skip ?_ | refine vw_block ?_)
    refine vw_draw [0, 1, 2, 3, 4, 5, 6, 7, 8] (by kernel_rfl) (by kernel_rfl) (by kernel_rfl) rfl ?_
    repeat' (first | refine vd_q tyOk rfl (by first | trivial | rfl) rfl (by kernel_rfl) (by kernel_rfl) ?_ | refine vd_p tyOk rfl (by first | trivial | rfl) rfl (by kernel_rfl) (by kernel_rfl) (by (try simp only [inR]); omega) ?_ | refine vops_nil ?_ | refine vd_nil (by kernel_rfl) ?_ | refine ⟨fun _ _ _ h => h, ?_⟩ | refine vd_load tyOk rfl (by first | trivial | rfl) rfl rfl rfl (by kernel_rfl) (by kernel_rfl) (by kernel_rfl) (sees_mem (by repeat (first | exact mem_here | apply mem_next | apply mem_past)) (by rfl)) (by repeat (first | exact sub_hereL | exact sub_refl | apply sub_cons | apply sub_app)) ?_ | refine vd_load tyOk rfl (by first | trivial | rfl) rfl rfl rfl (by kernel_rfl) (by kernel_rfl) (by kernel_rfl) (sees_old hc (by simp)) (by repeat (first | exact sub_hereL | exact sub_refl | apply sub_cons | apply sub_app)) ?_ | (apply vops_callp ent67 rfl; (intro w _; exact c_l01In _ _ _ w)) | refine vd_one rfl (by kernel_rfl) (by kernel_rfl) rfl ?_)
    repeat (first | refine vw_cond rfl ?_)
    refine bs_ndec2 (fun h7 => ?_) (fun h7 => ?_)
    · repeat (first | refine vops_q tyOk rfl ?_ | refine vops_nil ?_ | refine vw_seq ?_ | refine vw_region (by kernel_rfl) ?_ | refine vw_ret ?_)
      exact rv_int rfl rfl (by rw [code8, if_pos h, if_neg fun hh => h7 (by have := hh.2 _ (mem_getD hjq); omega)])
    · repeat (first | refine vops_q tyOk rfl ?_ | refine vops_nil ?_ | refine vw_region (by kernel_rfl) ?_ | refine vops_p tyOk rfl (by (try simp only [inR]); omega) ?_ | refine vw_skip ?_)
      refine ⟨q.length - (j + 1), by omega, j + 1, by omega, rfl, rfl, rfl, rfl, rfl, fun z hz => ?_⟩
      by_cases hzj : z = j
      · subst hzj; omega
      · exact hall z (by omega)
  · obtain rfl : j = q.length := by omega
    repeat (first | refine vops_q tyOk rfl ?_ | refine vops_nil ?_ | refine vw_seq ?_ | refine vw_region (by kernel_rfl) ?_ | refine vw_ret ?_ | refine vw_exit ?_)
    have hallq : ∀ p ∈ q, 0 ≤ p ∧ p < m := fun p hp => by
      obtain ⟨z, hz⟩ := List.mem_iff_getElem?.1 hp
      have := hall z (List.getElem?_eq_some_iff.1 hz).1
      rwa [List.getD_eq_getElem?_getD, hz] at this
    exact rv_int rfl rfl (by rw [code8, if_pos h, if_pos ⟨by omega, hallq⟩])

set_option maxHeartbeats 1000000 in
set_option maxRecDepth 100000 in
theorem c_l08Group (k d : Nat) (t v : Value) (r : List Int) (x : Nat) (hk : k ≤ 25) (hd : 0 < d) (hdk : d ≤ k) (hkd : k % d = 0) (hr : IsPerm k r) (hx : x < k) (w : World) (hv : RdC w v r) (a0 : Option Addr) (n0 c0 : Nat) (ht : t = .slice a0 n0 c0) :
    Calls Try.prog 63 [.agg #[.int .i64 k, .int .i64 d, t], v, .int .i64 x].toArray w (Res w (NewI 2 (sortL (grpAt d r x)))) := by
  subst ht
  obtain ⟨a, cap, rfl, hcap⟩ := hv.len
  have hrl : r.length = k := by have := hr.1; omega
  rw [hrl] at hv hcap ⊢
  have hp := pos_lt hr hx
  have hgb := grp_bound hr hkd hx
  obtain ⟨b, o, cap', he, hcell⟩ := hv.1.at (i := 0) (by omega)
  rw [hrl] at he hcell
  obtain ⟨rfl, rfl⟩ : a = some ⟨b, o, none⟩ ∧ cap = cap' := by injection he with e1 e2 e3; exact ⟨e1, e3⟩
  refine calls_of_vw Try.func63 rfl Try.ntmps63 (by simp) ?_
  refine vw_seq (vw_region (by kernel_rfl) (vops_box [.int .i64 k, .int .i64 d, .slice a0 n0 c0] rfl (fun b3 hb3 => ?_)))
  repeat (first | refine vops_q tyOk rfl ?_ | refine vops_nil ?_ | refine vw_seq ?_ | refine vw_region (by kernel_rfl) ?_ | refine vw_block ?_)
  refine vw_loop (fun y f own => ∃ j : Nat, j ≤ posI r x ∧ y = posI r x - j ∧ f 7 = .int .i64 j ∧ f 1 = .slice (some ⟨b, o, none⟩) k cap ∧ f 2 = .int .i64 x ∧ f 3 = .pointer (some ⟨b3, 0, none⟩) ∧ own = [(b3, ⟨[.int .i64 k, .int .i64 d, .slice a0 n0 c0], 26, 3, none⟩)]) (posI r x)
    ⟨0, by omega, by omega, rfl, rfl, rfl, rfl, rfl⟩ ?_
  rintro y f own ⟨j, hj, rfl, h7, h1, h2, h3, rfl⟩
  rw [upd_of h7, upd_of h1, upd_of h2, upd_of h3]
  have hc := hcell j (by omega)
  repeat (first | refine vops_q tyOk rfl ?_ | refine vops_nil ?_ | refine vw_seq ?_ | refine vw_region (by kernel_rfl) ?_ | refine vops_p tyOk rfl (by (try simp only [inR]); omega) ?_ | refine vw_cond rfl ?_ | refine vops_load tyOk rfl rfl rfl (sees_old hc (by simp)) ?_)
  refine bs_ndec2 (fun hne => ?_) (fun heq => ?_)
  · have hjp : j ≠ posI r x := fun e => hne (by rw [e]; exact pos_get hr hx)
    repeat (first | refine vops_q tyOk rfl ?_ | refine vops_nil ?_ | refine vw_region (by kernel_rfl) ?_ | refine vops_p tyOk rfl (by (try simp only [inR]); omega) ?_ | refine vw_skip ?_ | refine vw_block ?_)
    exact ⟨posI r x - (j + 1), by omega, j + 1, by omega, rfl, rfl, rfl, rfl, rfl, rfl⟩
  · obtain rfl : posI r x = j := (getD_iff hr (by omega)).1 heq
    obtain ⟨P, hP⟩ : ∃ P, P = posI r x := ⟨_, rfl⟩
    obtain ⟨O, hO⟩ : ∃ O, O = posI r x / d * d := ⟨_, rfl⟩
    have hqg : (P : Int) / (d : Int) * (d : Int) = (O : Int) := by rw [hO, hP]; push_cast; rfl
    have hqb : 0 ≤ (P : Int) / (d : Int) ∧ (P : Int) / (d : Int) ≤ 25 := ⟨Int.ediv_nonneg (by omega) (by omega), Int.le_trans (Int.ediv_le_self _ (by omega)) (by omega)⟩
    rw [← hO] at hgb
    have hgrp : grpAt d r x = (r.drop O).take d := by rw [hO]; rfl
    rw [hgrp, ← hP]
    have hl : ((r.drop O).take d).length = d := by rw [List.length_take, List.length_drop]; omega
    repeat (first | refine vw_seq ?_ | refine vw_exit ?_)
    refine vw_draw [0, 1, 2, 3, 4, 5, 6, 7] (by kernel_rfl) (by kernel_rfl) (by kernel_rfl) rfl ?_
    repeat' (first | refine vd_q tyOk rfl (by first | trivial | rfl) rfl (by kernel_rfl) (by kernel_rfl) ?_ | refine vd_p tyOk rfl (by first | trivial | rfl) rfl (by kernel_rfl) (by kernel_rfl) (by (try simp only [inR]); omega) ?_ | refine vd_nil (by kernel_rfl) ?_ | refine vd_load tyOk rfl (by first | trivial | rfl) rfl rfl rfl (by kernel_rfl) (by kernel_rfl) (by kernel_rfl) (sees_mem (by repeat (first | exact mem_here | apply mem_next | apply mem_past)) (by rfl)) (by repeat (first | exact sub_hereL | exact sub_refl | apply sub_cons | apply sub_app)) ?_)
    have e1 : ((P : Int) / (d : Int) * (d : Int)).toNat = O := by rw [hqg]; omega
    have e2 : ((P : Int) / (d : Int) * (d : Int) + (d : Int)).toNat = O + d := by rw [hqg]; omega
    have hsl : sliced (some ⟨b, o, none⟩) ((P : Int) / (d : Int) * (d : Int)).toNat ((P : Int) / (d : Int) * (d : Int) + (d : Int)).toNat cap 1 = .slice (some ⟨b, o + O, none⟩) d (cap - O) := by
      have hco : ¬ cap = O := by omega
      rw [e1, e2]
      by_cases h0 : O = 0
      · have hc0 : ¬ cap = 0 := by omega
        simp [sliced, Addr.add, h0, hc0]
      · simp [sliced, Addr.add, h0, hco]
    have hslr : ∀ w', Fr [] w w' → RdI w' (sliced (some ⟨b, o, none⟩) ((P : Int) / (d : Int) * (d : Int)).toNat ((P : Int) / (d : Int) * (d : Int) + (d : Int)).toNat cap 1) ((r.drop O).take d) := fun w' hf => by
      rw [hsl]; exact rdI_part (hv.1.same hf) (by omega) _
    repeat (first | refine vops_q tyOk rfl ?_ | refine vops_nil ?_ | refine vw_seq ?_ | refine vw_region (by kernel_rfl) ?_ | refine vops_p tyOk rfl (by (try simp only [inR]); omega) ?_ | refine vw_ret ?_ | (apply vops_call ent91 rfl; (intro w' hg; exact c_l02Sorted _ ((r.drop O).take d) w' (hslr _ hg.fr) (by omega)); (rintro _ newN ⟨mm, pp, cc, hpm, hpw, rfl, hN⟩)) | ((show VOps _ _ _ _ (⟨some _, Go.Op.load _ _, _, _, _, none⟩ :: _) _ _); refine vops_loadM tyOk rfl rfl rfl (by repeat (first | exact mem_here | apply mem_next | apply mem_past)) (by rfl) ?_) | refine vops_slice tyOk rfl rfl rfl rfl rfl (by omega) ?_)
    have hmm := sortL_eq hpm hpw
    subst hmm
    exact out1 rfl rfl (SlAt.nodup hN) (by repeat (first | exact sub_hereL | exact sub_refl | apply sub_cons | apply sub_app)) hN
end Go.Proofs.Ytnammdmiljjhjaa

