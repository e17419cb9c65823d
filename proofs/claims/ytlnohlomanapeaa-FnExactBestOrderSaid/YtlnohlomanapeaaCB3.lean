import Derived.Test.YtlnohlomanapeaaCA4
import Derived.Test.YtlnohlomanapeaaVLOrd
import Derived.Test.YtlnohlomanapeaaVLA
/- A part of the proof: CB3. No conditions of its own. -/
namespace Go.Proofs.Ytlnohlomanapeaa
open Go.VL
attribute [local irreducible] VWr VOps VD Calls

/-- The steps of a list, modulo n. -/
def stN (n : Nat) (t : List Int) (m : Nat) : List Int := (List.range m).map fun k => (t.getD (k + 1) 0 - t.getD k 0 + n) % n
def StN (n : Nat) (t : List Int) : Prop := (stN n t (t.length - 1)).Nodup
open Classical in
/-- How many step sequences begin with l, with d more numbers. -/
noncomputable def cntR (n : Nat) : Nat → List Int → Nat
  | 0, _ => 1
  | d + 1, l => ((List.range n).map fun x : Nat => if (x : Int) ∉ l ∧ StN n (l ++ [(x : Int)]) then cntR n d (l ++ [(x : Int)]) else 0).sum
open Classical in
noncomputable def cntTo (n d : Nat) (l : List Int) (k : Nat) : Nat := ((List.range k).map fun x : Nat => if (x : Int) ∉ l ∧ StN n (l ++ [(x : Int)]) then cntR n d (l ++ [(x : Int)]) else 0).sum
theorem rdI_F1 {w : World} {v : Value} {l : List Int} (h : RdI w v l) : RdF w 1 l.length v l := by
  rcases h with ⟨a, cap, h1, h2⟩ | ⟨b, o, cap, h1, h2⟩
  · exact .inl ⟨a, cap, h1, by rw [h2]; rfl, h2⟩
  · exact .inr ⟨b, o, cap, h1, by rw [Nat.mul_one], h2⟩
set_option maxRecDepth 100000 in
theorem c_l01OwnL (v : Value) (l : List Int) (w : World) (hv : RdI w v l) (hl : l.length ≤ 1048576) : Calls Try.prog 93 [v].toArray w (Res w (NewI 2 l)) := by
  obtain ⟨a, cap, rfl⟩ := hv.len
  refine calls_of_vw Try.func93 rfl Try.ntmps93 (by simp) ?_
  repeat (first | refine vops_q tyOk rfl ?_ | refine vops_nil ?_ | refine vw_seq ?_ | refine vw_region (by kernel_rfl) ?_ | refine vops_guardT rfl rfl ?_ | refine vops_guardF rfl rfl ?_ | refine vops_guardU rfl rfl ?_ | with_reducible refine bs_nbeq rfl ?_ | with_reducible refine bs_true ?_ | with_reducible refine bs_false ?_ | with_reducible refine bs_ntrue ?_ | with_reducible refine bs_nfalse ?_ | refine vops_p tyOk rfl (by (try simp only [inR]); omega) ?_ | refine vw_cond rfl ?_ | refine vw_skip ?_ | refine vw_block ?_ | refine vw_ret ?_ | refine vw_exit ?_ | refine vops_build0 tyOk rfl rfl (fun be hbe => ?_) | refine vops_appendL (k := 1) (q := []) (q2 := l) tyOk rfl rfl (List.cons_ne_nil _ _) rfl rfl (by decide) rfl NewF.empty (by repeat (first | exact pm_here | exact pm_last | apply pm_next | apply pm_past)) rfl (fun w' hg => rdI_F1 (hv.same hg.fr)) (by omega) (fun p' cap' new' hN' => ?_) | ((show VOps _ _ _ _ (⟨some _, Go.Op.load _ _, _, _, _, none⟩ :: _) _ _); first | refine vops_loadM tyOk rfl rfl rfl (by repeat (first | exact mem_here | apply mem_next | apply mem_past)) (by rfl) ?_ | refine vops_loadM tyOk rfl rfl rfl (by repeat (first | exact mem_here | apply mem_next | apply mem_past)) (by exact ints_get0 (by omega)) ?_ | refine vops_loadNM tyOk rfl rfl rfl (by repeat (first | exact mem_here | apply mem_next | apply mem_past)) (by first | rfl | (rw [ints_length]; first | assumption | omega | (rw [ints_length]; first | assumption | omega | simp [*])) | simp [*]) ?_) | ((show VOps _ _ _ _ (⟨none, Go.Op.store _ _ _, _, _, _, none⟩ :: _) _ _); first | refine vops_storeIM tyOk rfl rfl rfl rfl (by repeat (first | exact upd_here | apply upd_next | apply upd_past)) (by omega) ?_ | refine vops_storeM tyOk rfl rfl rfl rfl rfl (by repeat (first | exact upd_here | apply upd_next | apply upd_past)) (by simp) ?_ | refine vops_storeAM tyOk rfl rfl rfl (by first | rfl | (rw [ints_length]; first | assumption | omega | (rw [ints_length]; first | assumption | omega | simp [*])) | simp [*]) (by first | exact ints_one | simp [Value.oneCell']) (by repeat (first | exact upd_here | apply upd_next | apply upd_past)) (by first | rfl | (rw [ints_length]; first | assumption | omega | (rw [ints_length]; first | assumption | omega | simp [*])) | simp [*]) ?_) | refine vops_build2 rfl rfl (by kernel_rfl) ?_ | refine vops_buildZ tyOk rfl (by kernel_rfl) ?_ | refine vops_slice tyOk rfl rfl rfl rfl rfl (by omega) ?_)
  have hN2 : NewI 2 l (.slice p' (0 + l.length) cap') new' := by
    have h2 : NewF 2 1 (0 + l.length) l (.slice p' (0 + l.length) cap') new' := by simpa using hN'
    rw [Nat.zero_add] at h2 ⊢
    exact h2
  exact out1 rfl rfl (SlAt.nodup hN2) (by repeat (first | exact sub_hereL | exact sub_refl | apply sub_cons | apply sub_app)) hN2

end Go.Proofs.Ytlnohlomanapeaa
