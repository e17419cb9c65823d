import Derived.Test.YtlnohlomanapeaaSA
import Derived.Test.YtlnohlomanapeaaVLA
import Derived.Test.YtlnohlomanapeaaVLAlloc
import Derived.Test.YtlnohlomanapeaaVLLol
import Derived.Test.YtlnohlomanapeaaVLRanF
/- Parts of the proof, one after another. No conditions of their own. -/
/- A part of the proof: P3. No conditions of its own. -/
namespace Go.Proofs.Ytlnohlomanapeaa
open Go.VL
attribute [local irreducible] VWr VOps VD Calls

open Classical in
/-- The code of a schedule and the number of a round. -/
noncomputable def codeOf (n : Int) (rs : List (List Int)) (i : Int) : Int := if IsSch n rs then (if 0 ≤ i ∧ i < rs.length then 0 else 2) else 1
/-- The free teams of a round, as far as k. -/
def freeOf (r : List Int) (k : Nat) : List Int := collect (fun a => decide (r.getD a 0 = (a : Int))) (fun a => (a : Int)) k
open Classical in
noncomputable def freeTeams (n : Int) (rs : List (List Int)) (i : Int) : List Int × Int :=
  if IsSch n rs then (if 0 ≤ i ∧ i < rs.length then (freeOf (rs.getD i.toNat []) n.toNat, 0) else ([], 2)) else ([], 1)

end Go.Proofs.Ytlnohlomanapeaa

/- A part of the proof: P7. No conditions of its own. -/
namespace Go.Proofs.Ytlnohlomanapeaa
open Go.VL
attribute [local irreducible] VWr VOps VD Calls

/-- A new list of rounds, as a value. -/
def RsR (rs : List (List Int)) (u : Value) (new : Own) : Prop := ∃ p cap, u = .slice p rs.length cap ∧ NewR 90 14 rs (.slice p rs.length cap) new
set_option maxRecDepth 100000 in
theorem c_joinRounds (v u : Value) (rs qs : List (List Int)) (w : World) (hv : RdS w v rs) (hu : RdS w u qs) (hr : ∀ r ∈ rs, r.length = 14) (hq : ∀ r ∈ qs, r.length = 14) (hl : rs.length ≤ 1048576) (hl2 : qs.length ≤ 1048576) :
    Calls Try.prog 155 [v, u].toArray w (Res w (RsR (rs ++ qs))) := by
  obtain ⟨a, cap, rfl⟩ := hv.len
  obtain ⟨a2, cap2, rfl⟩ := hu.len
  refine calls_of_vw Try.func155 rfl Try.ntmps155 (by simp) ?_
  repeat (first | refine vops_q tyOk rfl ?_ | refine vops_nil ?_ | refine vw_seq ?_ | refine vw_region (by kernel_rfl) ?_ | refine vops_guardT rfl rfl ?_ | refine vops_guardF rfl rfl ?_ | refine vops_guardU rfl rfl ?_ | with_reducible refine bs_nbeq rfl ?_ | with_reducible refine bs_true ?_ | with_reducible refine bs_false ?_ | with_reducible refine bs_ntrue ?_ | with_reducible refine bs_nfalse ?_ | refine vops_p tyOk rfl (by (try simp only [inR]); omega) ?_ | refine vw_cond rfl ?_ | refine vw_skip ?_ | refine vw_block ?_ | refine vw_ret ?_ | refine vw_exit ?_ | ((show VOps _ _ _ _ (⟨some _, Go.Op.load _ _, _, _, _, none⟩ :: _) _ _); first | refine vops_loadM tyOk rfl rfl rfl (by repeat (first | exact mem_here | apply mem_next | apply mem_past)) (by rfl) ?_ | refine vops_loadM tyOk rfl rfl rfl (by repeat (first | exact mem_here | apply mem_next | apply mem_past)) (by exact ints_get0 (by omega)) ?_ | refine vops_loadNM tyOk rfl rfl rfl (by repeat (first | exact mem_here | apply mem_next | apply mem_past)) (by first | rfl | (rw [ints_length]; first | assumption | omega | (rw [ints_length]; first | assumption | omega | simp [*])) | simp [*]) ?_) | ((show VOps _ _ _ _ (⟨none, Go.Op.store _ _ _, _, _, _, none⟩ :: _) _ _); first | refine vops_storeIM tyOk rfl rfl rfl rfl (by repeat (first | exact upd_here | apply upd_next | apply upd_past)) (by omega) ?_ | refine vops_storeM tyOk rfl rfl rfl rfl rfl (by repeat (first | exact upd_here | apply upd_next | apply upd_past)) (by simp) ?_ | refine vops_storeAM tyOk rfl rfl rfl (by first | rfl | (rw [ints_length]; first | assumption | omega | (rw [ints_length]; first | assumption | omega | simp [*])) | simp [*]) (by first | exact ints_one | simp [Value.oneCell']) (by repeat (first | exact upd_here | apply upd_next | apply upd_past)) (by first | rfl | (rw [ints_length]; first | assumption | omega | (rw [ints_length]; first | assumption | omega | simp [*])) | simp [*]) ?_) | refine vops_build2 rfl rfl (by kernel_rfl) ?_ | refine vops_buildZ tyOk rfl (by kernel_rfl) ?_ | refine vops_slice tyOk rfl rfl rfl rfl rfl (by omega) ?_)
  refine vops_makeCap (k := 14) (n := rs.length + qs.length) tyOk rfl rfl (List.cons_ne_nil _ _) rfl rfl rfl (by omega) (by decide) (by omega) (fun b hb => ?_)
  have hN : NewF 90 14 0 [] (.slice (some ⟨b, 0, none⟩) 0 (rs.length + qs.length)) [(b, ⟨ints [], 90, (rs.length + qs.length) * 14, none⟩)] := NewF.mk rfl (by omega) (by simp only [maxLen]; omega)
  repeat (first | refine vops_q tyOk rfl ?_ | refine vops_nil ?_ | refine vw_seq ?_ | refine vw_region (by kernel_rfl) ?_ | refine vops_guardT rfl rfl ?_ | refine vops_guardF rfl rfl ?_ | refine vops_guardU rfl rfl ?_ | with_reducible refine bs_nbeq rfl ?_ | with_reducible refine bs_true ?_ | with_reducible refine bs_false ?_ | with_reducible refine bs_ntrue ?_ | with_reducible refine bs_nfalse ?_ | refine vops_p tyOk rfl (by (try simp only [inR]); omega) ?_ | refine vw_cond rfl ?_ | refine vw_skip ?_ | refine vw_block ?_ | refine vw_ret ?_ | refine vw_exit ?_ | ((show VOps _ _ _ _ (⟨some _, Go.Op.load _ _, _, _, _, none⟩ :: _) _ _); first | refine vops_loadM tyOk rfl rfl rfl (by repeat (first | exact mem_here | apply mem_next | apply mem_past)) (by rfl) ?_ | refine vops_loadM tyOk rfl rfl rfl (by repeat (first | exact mem_here | apply mem_next | apply mem_past)) (by exact ints_get0 (by omega)) ?_ | refine vops_loadNM tyOk rfl rfl rfl (by repeat (first | exact mem_here | apply mem_next | apply mem_past)) (by first | rfl | (rw [ints_length]; first | assumption | omega | (rw [ints_length]; first | assumption | omega | simp [*])) | simp [*]) ?_) | ((show VOps _ _ _ _ (⟨none, Go.Op.store _ _ _, _, _, _, none⟩ :: _) _ _); first | refine vops_storeIM tyOk rfl rfl rfl rfl (by repeat (first | exact upd_here | apply upd_next | apply upd_past)) (by omega) ?_ | refine vops_storeM tyOk rfl rfl rfl rfl rfl (by repeat (first | exact upd_here | apply upd_next | apply upd_past)) (by simp) ?_ | refine vops_storeAM tyOk rfl rfl rfl (by first | rfl | (rw [ints_length]; first | assumption | omega | (rw [ints_length]; first | assumption | omega | simp [*])) | simp [*]) (by first | exact ints_one | simp [Value.oneCell']) (by repeat (first | exact upd_here | apply upd_next | apply upd_past)) (by first | rfl | (rw [ints_length]; first | assumption | omega | (rw [ints_length]; first | assumption | omega | simp [*])) | simp [*]) ?_) | refine vops_build2 rfl rfl (by kernel_rfl) ?_ | refine vops_buildZ tyOk rfl (by kernel_rfl) ?_ | refine vops_slice tyOk rfl rfl rfl rfl rfl (by omega) ?_)
  refine vops_appendL (k := 14) tyOk rfl rfl (List.cons_ne_nil _ _) rfl rfl (by decide) rfl hN (R := []) (by simp) rfl (fun w' hg => rdS_f (hv.same hg.fr) hr) (by omega) (fun p' cp' new' hN' => ?_)
  repeat (first | refine vops_q tyOk rfl ?_ | refine vops_nil ?_ | refine vw_seq ?_ | refine vw_region (by kernel_rfl) ?_ | refine vops_guardT rfl rfl ?_ | refine vops_guardF rfl rfl ?_ | refine vops_guardU rfl rfl ?_ | with_reducible refine bs_nbeq rfl ?_ | with_reducible refine bs_true ?_ | with_reducible refine bs_false ?_ | with_reducible refine bs_ntrue ?_ | with_reducible refine bs_nfalse ?_ | refine vops_p tyOk rfl (by (try simp only [inR]); omega) ?_ | refine vw_cond rfl ?_ | refine vw_skip ?_ | refine vw_block ?_ | refine vw_ret ?_ | refine vw_exit ?_ | ((show VOps _ _ _ _ (⟨some _, Go.Op.load _ _, _, _, _, none⟩ :: _) _ _); first | refine vops_loadM tyOk rfl rfl rfl (by repeat (first | exact mem_here | apply mem_next | apply mem_past)) (by rfl) ?_ | refine vops_loadM tyOk rfl rfl rfl (by repeat (first | exact mem_here | apply mem_next | apply mem_past)) (by exact ints_get0 (by omega)) ?_ | refine vops_loadNM tyOk rfl rfl rfl (by repeat (first | exact mem_here | apply mem_next | apply mem_past)) (by first | rfl | (rw [ints_length]; first | assumption | omega | (rw [ints_length]; first | assumption | omega | simp [*])) | simp [*]) ?_) | ((show VOps _ _ _ _ (⟨none, Go.Op.store _ _ _, _, _, _, none⟩ :: _) _ _); first | refine vops_storeIM tyOk rfl rfl rfl rfl (by repeat (first | exact upd_here | apply upd_next | apply upd_past)) (by omega) ?_ | refine vops_storeM tyOk rfl rfl rfl rfl rfl (by repeat (first | exact upd_here | apply upd_next | apply upd_past)) (by simp) ?_ | refine vops_storeAM tyOk rfl rfl rfl (by first | rfl | (rw [ints_length]; first | assumption | omega | (rw [ints_length]; first | assumption | omega | simp [*])) | simp [*]) (by first | exact ints_one | simp [Value.oneCell']) (by repeat (first | exact upd_here | apply upd_next | apply upd_past)) (by first | rfl | (rw [ints_length]; first | assumption | omega | (rw [ints_length]; first | assumption | omega | simp [*])) | simp [*]) ?_) | refine vops_build2 rfl rfl (by kernel_rfl) ?_ | refine vops_buildZ tyOk rfl (by kernel_rfl) ?_ | refine vops_slice tyOk rfl rfl rfl rfl rfl (by omega) ?_)
  refine vops_appendL (k := 14) tyOk rfl rfl (List.cons_ne_nil _ _) rfl rfl (by decide) rfl hN' (R := []) (by simp) rfl (fun w' hg => rdS_f (hu.same hg.fr) hq) (by omega) (fun p2 cp2 new2 hN2 => ?_)
  repeat (first | refine vops_q tyOk rfl ?_ | refine vops_nil ?_ | refine vw_seq ?_ | refine vw_region (by kernel_rfl) ?_ | refine vops_guardT rfl rfl ?_ | refine vops_guardF rfl rfl ?_ | refine vops_guardU rfl rfl ?_ | with_reducible refine bs_nbeq rfl ?_ | with_reducible refine bs_true ?_ | with_reducible refine bs_false ?_ | with_reducible refine bs_ntrue ?_ | with_reducible refine bs_nfalse ?_ | refine vops_p tyOk rfl (by (try simp only [inR]); omega) ?_ | refine vw_cond rfl ?_ | refine vw_skip ?_ | refine vw_block ?_ | refine vw_ret ?_ | refine vw_exit ?_ | ((show VOps _ _ _ _ (⟨some _, Go.Op.load _ _, _, _, _, none⟩ :: _) _ _); first | refine vops_loadM tyOk rfl rfl rfl (by repeat (first | exact mem_here | apply mem_next | apply mem_past)) (by rfl) ?_ | refine vops_loadM tyOk rfl rfl rfl (by repeat (first | exact mem_here | apply mem_next | apply mem_past)) (by exact ints_get0 (by omega)) ?_ | refine vops_loadNM tyOk rfl rfl rfl (by repeat (first | exact mem_here | apply mem_next | apply mem_past)) (by first | rfl | (rw [ints_length]; first | assumption | omega | (rw [ints_length]; first | assumption | omega | simp [*])) | simp [*]) ?_) | ((show VOps _ _ _ _ (⟨none, Go.Op.store _ _ _, _, _, _, none⟩ :: _) _ _); first | refine vops_storeIM tyOk rfl rfl rfl rfl (by repeat (first | exact upd_here | apply upd_next | apply upd_past)) (by omega) ?_ | refine vops_storeM tyOk rfl rfl rfl rfl rfl (by repeat (first | exact upd_here | apply upd_next | apply upd_past)) (by simp) ?_ | refine vops_storeAM tyOk rfl rfl rfl (by first | rfl | (rw [ints_length]; first | assumption | omega | (rw [ints_length]; first | assumption | omega | simp [*])) | simp [*]) (by first | exact ints_one | simp [Value.oneCell']) (by repeat (first | exact upd_here | apply upd_next | apply upd_past)) (by first | rfl | (rw [ints_length]; first | assumption | omega | (rw [ints_length]; first | assumption | omega | simp [*])) | simp [*]) ?_) | refine vops_build2 rfl rfl (by kernel_rfl) ?_ | refine vops_buildZ tyOk rfl (by kernel_rfl) ?_ | refine vops_slice tyOk rfl rfl rfl rfl rfl (by omega) ?_)
  have hfin : NewR 90 14 (rs ++ qs) (.slice p2 (0 + rs.length + qs.length) cp2) new2 := NewF.r (m := 0) hN2 (by simp) (by simp)
  refine out1 rfl rfl (SlAt.nodup hfin) (by repeat (first | exact sub_hereL | exact sub_refl | apply sub_cons | apply sub_app)) ?_
  have he : 0 + rs.length + qs.length = (rs ++ qs).length := by simp
  rw [he] at hfin ⊢
  exact ⟨p2, cp2, rfl, hfin⟩

end Go.Proofs.Ytlnohlomanapeaa

/- A part of the proof: P8. No conditions of its own. -/
namespace Go.Proofs.Ytlnohlomanapeaa
open Go.VL
attribute [local irreducible] VWr VOps VD Calls

open Classical in
noncomputable def addRound (n : Int) (rs : List (List Int)) (r : List Int) : (Int × List (List Int)) × Int :=
  if IsSch n rs then (if IsRd n r then (if rs.length = 40 then ((0, []), 3) else ((n, rs ++ [r]), 0)) else ((0, []), 2)) else ((0, []), 1)
end Go.Proofs.Ytlnohlomanapeaa

/- A part of the proof: P9. No conditions of its own. -/
namespace Go.Proofs.Ytlnohlomanapeaa
open Go.VL
attribute [local irreducible] VWr VOps VD Calls

theorem take14 {rs : List (List Int)} (h : ∀ r ∈ rs, r.length = 14) (k l : Nat) : ∀ r ∈ (rs.take k).drop l, r.length = 14 := fun r hr => h r (List.mem_of_mem_take (List.mem_of_mem_drop hr))
open Classical in
noncomputable def dropRound (n : Int) (rs : List (List Int)) (i : Int) : (Int × List (List Int)) × Int :=
  if IsSch n rs then (if 0 ≤ i ∧ i < rs.length then ((n, (rs.take i.toNat).drop 0 ++ (rs.take rs.length).drop (i.toNat + 1)), 0) else ((0, []), 2)) else ((0, []), 1)
end Go.Proofs.Ytlnohlomanapeaa

/- A part of the proof: P11. No conditions of its own. -/
namespace Go.Proofs.Ytlnohlomanapeaa
open Go.VL
attribute [local irreducible] VWr VOps VD Calls

end Go.Proofs.Ytlnohlomanapeaa

/- A part of the proof: P21. No conditions of its own. -/
namespace Go.Proofs.Ytlnohlomanapeaa
open Go.VL
attribute [local irreducible] VWr VOps VD Calls

/-- How many numbers. -/
def sumLen : List (List Int) → Nat
  | [] => 0
  | l :: ls => l.length + sumLen ls
/-- All numbered from k on. -/
def markLL (k : Int) : List (List Int) → List (List Int)
  | [] => []
  | l :: ls => iota k l.length :: markLL (k + l.length) ls
/-- i rows numbered, the others as they were. -/
def mkTo (k : Int) (ls : List (List Int)) (i : Nat) : List (List Int) := markLL k (ls.take i) ++ ls.drop i
/-- One of the rows, and the others. -/
theorem RowsAt.split {ei : Nat} : ∀ {ls : List (List Int)} {vs : List Value} {ns : List Own}, Go.VL.RowsAt ei ls vs ns → ∀ {i : Nat} {l : List Int}, ls[i]? = some l →
    ∃ u n ns1 ns2, vs[i]? = some u ∧ ns = ns1 ++ n :: ns2 ∧ NewI ei l u n ∧ ∀ l' n', NewI ei l' u n' → Go.VL.RowsAt ei (ls.set i l') vs (ns1 ++ n' :: ns2)
  | [], [], [], _, i, l, hl => by simp at hl
  | l0 :: ls, u0 :: vs, n0 :: ns, h, 0, l, hl => by
    have e : l0 = l := by simpa using hl
    subst e
    exact ⟨u0, n0, [], ns, rfl, rfl, h.1, fun l' n' hn => ⟨hn, h.2⟩⟩
  | l0 :: ls, u0 :: vs, n0 :: ns, h, i + 1, l, hl => by
    obtain ⟨u, n, ns1, ns2, h1, h2, h3, h4⟩ := RowsAt.split h.2 (i := i) (l := l) (by simpa using hl)
    exact ⟨u, n, n0 :: ns1, ns2, by simpa using h1, by rw [h2]; rfl, h3, fun l' n' hn => ⟨h.1, h4 l' n' hn⟩⟩
  | [], _ :: _, _, h, _, _, _ => h.elim
  | [], [], _ :: _, h, _, _, _ => h.elim
  | _ :: _, [], _, h, _, _, _ => h.elim
  | _ :: _, _ :: _, [], h, _, _, _ => h.elim
def MarkedLL (eo ei : Nat) (ls : List (List Int)) (k0 : Int) (v : Value) (u : Value) (new : Own) : Prop := u = .int .i64 (k0 + sumLen ls) ∧ NewLL eo ei (markLL k0 ls) v new
end Go.Proofs.Ytlnohlomanapeaa

/- A part of the proof: P22. No conditions of its own. -/
namespace Go.Proofs.Ytlnohlomanapeaa
open Go.VL
attribute [local irreducible] VWr VOps VD Calls

/-- The pairs of a round, as far as the team k. -/
def pairsTo (r : List Int) (k : Nat) : List (List Int) := ((List.range k).filter fun (a : Nat) => decide ((a : Int) < r.getD a 0)).map fun (a : Nat) => [(a : Int), r.getD a 0]
/-- What pairsIn hands on. -/
def pairVals (n : Int) (r : List Int) : List (List Value) := (pairsTo r n.toNat).map ints
def PairsCap (n : Int) (r : List Int) (b2 b3 : Nat) : Own := [(b3, ⟨ints r, 90, (ints r).length, none⟩), (b2, ⟨[.int .i64 n], 2, 1, none⟩)]
def PairsF (n : Int) (r : List Int) (v : Value) (new : Own) : Prop := ∃ b2 b3, v = .func (.func 195) #[] [.pointer (some ⟨b2, 0, none⟩), .pointer (some ⟨b3, 0, none⟩)].toArray ∧ new = PairsCap n r b2 b3 ∧ b3 ≠ b2

end Go.Proofs.Ytlnohlomanapeaa

/- A part of the proof: P23. No conditions of its own. -/
namespace Go.Proofs.Ytlnohlomanapeaa
open Go.VL
attribute [local irreducible] VWr VOps VD Calls

noncomputable def pairsOf (n : Int) (r : List Int) : List (List Int) × Int := if IsRd n r then (pairsTo r n.toNat, 0) else ([], 2)
end Go.Proofs.Ytlnohlomanapeaa

/- A part of the proof: P13. No conditions of its own. -/
namespace Go.Proofs.Ytlnohlomanapeaa
open Go.VL
attribute [local irreducible] VWr VOps VD Calls

def robinR (n : Int) : Int := n - 1 + n % 2
/-- The rule of the circle, over what was there, as far as k. -/
def circTo (base : List Int) (i m k : Int) : List Int := (List.range 14).map fun (j : Nat) => if (j : Int) < k then (2 * i + m - j) % m else base.getD j 0
/-- A round of the circle. -/
def circRow (n i : Int) : List Int := (List.range 14).map fun (j : Nat) => if n % 2 = 0 ∧ (j : Int) = n - 1 then i else if n % 2 = 0 ∧ (j : Int) = i then n - 1 else if (j : Int) < robinR n then (2 * i + robinR n - j) % robinR n else 0
/-- The rounds of the circle. -/
def circRows (n : Int) : List (List Int) := (List.range (robinR n).toNat).map fun (i : Nat) => circRow n i
open Classical in
noncomputable def circle (n : Int) : (Int × List (List Int)) × Int := if 2 ≤ n ∧ n ≤ 14 then ((n, circRows n), 0) else ((0, []), 2)
end Go.Proofs.Ytlnohlomanapeaa

