import Derived.Test.YtgaaiplodbnnjaaDoorSA
import Derived.Test.YtgaaiplodbnnjaaDoorVLArr
import Derived.Test.YtgaaiplodbnnjaaDoorVLAlloc
import Derived.Test.YtgaaiplodbnnjaaDoorVLLol
/- Parts of the proof, one after another. No conditions of their own. -/
/- A part of the proof: P3. No conditions of its own. -/
namespace Go.Proofs.YtgaaiplodbnnjaaDoor
open Go.VL
attribute [local irreducible] VWr VOps VD Calls

open Classical in
/-- The code of a schedule and the number of a round. -/
noncomputable def codeOf (n : Int) (rs : List (List Int)) (i : Int) : Int := if IsSch n rs then (if 0 ≤ i ∧ i < rs.length then 0 else 2) else 1
/-- The free teams of a round, as far as k. -/
def freeOf (r : List Int) (k : Nat) : List Int := collect (fun a => decide (r.getD a 0 = (a : Int))) (fun a => (a : Int)) k
open Classical in
noncomputable def freeTeams (n : Int) (rs : List (List Int)) (i : Int) : List Int × Int :=
  if IsSch n rs then (if 0 ≤ i ∧ i < rs.length then (freeOf (rs.getD i.toNat []) n.toNat, 0) else ([], 2)) else ([], 1)

end Go.Proofs.YtgaaiplodbnnjaaDoor

/- A part of the proof: P7. No conditions of its own. -/
namespace Go.Proofs.YtgaaiplodbnnjaaDoor
open Go.VL
attribute [local irreducible] VWr VOps VD Calls

/-- A new list of rounds, as a value. -/
def RsR (rs : List (List Int)) (u : Value) (new : Own) : Prop := ∃ p cap, u = .slice p rs.length cap ∧ NewR 67 14 rs (.slice p rs.length cap) new
end Go.Proofs.YtgaaiplodbnnjaaDoor

/- A part of the proof: P8. No conditions of its own. -/
namespace Go.Proofs.YtgaaiplodbnnjaaDoor
open Go.VL
attribute [local irreducible] VWr VOps VD Calls

open Classical in
noncomputable def addRound (n : Int) (rs : List (List Int)) (r : List Int) : (Int × List (List Int)) × Int :=
  if IsSch n rs then (if IsRd n r then (if rs.length = 40 then ((0, []), 3) else ((n, rs ++ [r]), 0)) else ((0, []), 2)) else ((0, []), 1)
end Go.Proofs.YtgaaiplodbnnjaaDoor

/- A part of the proof: P9. No conditions of its own. -/
namespace Go.Proofs.YtgaaiplodbnnjaaDoor
open Go.VL
attribute [local irreducible] VWr VOps VD Calls

open Classical in
noncomputable def dropRound (n : Int) (rs : List (List Int)) (i : Int) : (Int × List (List Int)) × Int :=
  if IsSch n rs then (if 0 ≤ i ∧ i < rs.length then ((n, (rs.take i.toNat).drop 0 ++ (rs.take rs.length).drop (i.toNat + 1)), 0) else ((0, []), 2)) else ((0, []), 1)
end Go.Proofs.YtgaaiplodbnnjaaDoor

/- A part of the proof: P13. No conditions of its own. -/
namespace Go.Proofs.YtgaaiplodbnnjaaDoor
open Go.VL
attribute [local irreducible] VWr VOps VD Calls

def robinR (n : Int) : Int := n - 1 + n % 2
set_option maxRecDepth 100000 in
theorem c_l01Free (n : Int) (h2 : 0 ≤ n) (h14 : n ≤ 14) (w : World) : Calls Tryd.prog 89 [Value.int .i64 n].toArray w (Res w (Is (.agg (ints (freeTo n)).toArray))) := by
  refine calls_of_vw Tryd.func89 rfl Tryd.ntmps89 (by simp) ?_
  refine vw_seq (vw_region (by kernel_rfl) (vops_allocZ (ints (freeTo 0)) tyOk rfl rfl (by simp [ints, freeTo]) (fun b1 hb1 => ?_)))
  repeat (first | refine vops_q tyOk rfl ?_ | refine vops_nil ?_ | refine vw_seq ?_ | refine vw_region (by kernel_rfl) ?_ | refine vops_guardT rfl rfl ?_ | refine vops_guardF rfl rfl ?_ | refine vops_guardU rfl rfl ?_ | with_reducible refine bs_nbeq rfl ?_ | with_reducible refine bs_true ?_ | with_reducible refine bs_false ?_ | with_reducible refine bs_ntrue ?_ | with_reducible refine bs_nfalse ?_ | refine vops_p tyOk rfl (by (try simp only [inR]); omega) ?_ | refine vw_cond rfl ?_ | refine vw_skip ?_ | refine vw_block ?_ | refine vw_ret ?_ | refine vw_exit ?_ | refine vops_buildC (ints (freeTo 0)) tyOk rfl rfl (by kernel_rfl) ?_)
  refine vops_allocZ (ints (freeTo 0)) tyOk rfl rfl (by simp [ints, freeTo]) (fun b2 hb2 => ?_)
  have hl0 := freeTo_length 0
  repeat (first | refine vops_q tyOk rfl ?_ | refine vops_nil ?_ | refine vw_seq ?_ | refine vw_region (by kernel_rfl) ?_ | refine vops_guardT rfl rfl ?_ | refine vops_guardF rfl rfl ?_ | refine vops_guardU rfl rfl ?_ | with_reducible refine bs_nbeq rfl ?_ | with_reducible refine bs_true ?_ | with_reducible refine bs_false ?_ | with_reducible refine bs_ntrue ?_ | with_reducible refine bs_nfalse ?_ | refine vops_p tyOk rfl (by (try simp only [inR]); omega) ?_ | refine vw_cond rfl ?_ | refine vw_skip ?_ | refine vw_block ?_ | refine vw_ret ?_ | refine vw_exit ?_ | ((show VOps _ _ _ _ (⟨some _, Go.Op.load _ _, _, _, _, none⟩ :: _) _ _); first | refine vops_loadM tyOk rfl rfl rfl (by repeat (first | exact mem_here | apply mem_next | apply mem_past)) (by rfl) ?_ | refine vops_loadM tyOk rfl rfl rfl (by repeat (first | exact mem_here | apply mem_next | apply mem_past)) (by exact ints_get0 (by omega)) ?_ | refine vops_loadNM tyOk rfl rfl rfl (by repeat (first | exact mem_here | apply mem_next | apply mem_past)) (by first | rfl | (rw [ints_length]; first | assumption | omega | (rw [ints_length]; first | assumption | omega | simp [*])) | simp [*]) ?_) | ((show VOps _ _ _ _ (⟨none, Go.Op.store _ _ _, _, _, _, none⟩ :: _) _ _); first | refine vops_storeIM tyOk rfl rfl rfl rfl (by repeat (first | exact upd_here | apply upd_next | apply upd_past)) (by omega) ?_ | refine vops_storeM tyOk rfl rfl rfl rfl rfl (by repeat (first | exact upd_here | apply upd_next | apply upd_past)) (by simp) ?_ | refine vops_storeAM tyOk rfl rfl rfl (by first | rfl | (rw [ints_length]; first | assumption | omega | (rw [ints_length]; first | assumption | omega | simp [*])) | simp [*]) (by first | exact ints_one | simp [Value.oneCell']) (by repeat (first | exact upd_here | apply upd_next | apply upd_past)) (by first | rfl | (rw [ints_length]; first | assumption | omega | (rw [ints_length]; first | assumption | omega | simp [*])) | simp [*]) ?_) | refine vops_build2 rfl rfl (by kernel_rfl) ?_ | refine vops_buildZ tyOk rfl (by kernel_rfl) ?_ | refine vops_slice tyOk rfl rfl rfl rfl rfl (by omega) ?_)
  refine vw_loop (fun m f own => ∃ a : Int, 0 ≤ a ∧ a ≤ n ∧ m = (n - a).toNat ∧ f 4 = .int .i64 a ∧ f 0 = .int .i64 n ∧ f 2 = .pointer (some ⟨b1, 0, none⟩) ∧ f 3 = .pointer (some ⟨b2, 0, none⟩) ∧ own = [(b2, ⟨ints (freeTo a), 67, 14, none⟩), (b1, ⟨ints (freeTo 0), 67, 14, none⟩)]) n.toNat
    ⟨0, by omega, by omega, by omega, rfl, rfl, rfl, rfl, rfl⟩ ?_
  rintro m f own ⟨a, ha0, ha1, rfl, h5, h6, h2', h3, rfl⟩
  rw [upd_of h5, upd_of h6, upd_of h2', upd_of h3]
  repeat (first | refine vops_q tyOk rfl ?_ | refine vops_nil ?_ | refine vw_seq ?_ | refine vw_region (by kernel_rfl) ?_ | refine vops_guardT rfl rfl ?_ | refine vops_guardF rfl rfl ?_ | refine vops_guardU rfl rfl ?_ | with_reducible refine bs_nbeq rfl ?_ | with_reducible refine bs_true ?_ | with_reducible refine bs_false ?_ | with_reducible refine bs_ntrue ?_ | with_reducible refine bs_nfalse ?_ | refine vops_p tyOk rfl (by (try simp only [inR]); omega) ?_ | refine vw_cond rfl ?_ | refine vw_skip ?_ | refine vw_block ?_ | refine vw_ret ?_ | refine vw_exit ?_ | ((show VOps _ _ _ _ (⟨some _, Go.Op.load _ _, _, _, _, none⟩ :: _) _ _); first | refine vops_loadM tyOk rfl rfl rfl (by repeat (first | exact mem_here | apply mem_next | apply mem_past)) (by rfl) ?_ | refine vops_loadM tyOk rfl rfl rfl (by repeat (first | exact mem_here | apply mem_next | apply mem_past)) (by exact ints_get0 (by omega)) ?_ | refine vops_loadNM tyOk rfl rfl rfl (by repeat (first | exact mem_here | apply mem_next | apply mem_past)) (by first | rfl | (rw [ints_length]; first | assumption | omega | (rw [ints_length]; first | assumption | omega | simp [*])) | simp [*]) ?_) | ((show VOps _ _ _ _ (⟨none, Go.Op.store _ _ _, _, _, _, none⟩ :: _) _ _); first | refine vops_storeIM tyOk rfl rfl rfl rfl (by repeat (first | exact upd_here | apply upd_next | apply upd_past)) (by omega) ?_ | refine vops_storeM tyOk rfl rfl rfl rfl rfl (by repeat (first | exact upd_here | apply upd_next | apply upd_past)) (by simp) ?_ | refine vops_storeAM tyOk rfl rfl rfl (by first | rfl | (rw [ints_length]; first | assumption | omega | (rw [ints_length]; first | assumption | omega | simp [*])) | simp [*]) (by first | exact ints_one | simp [Value.oneCell']) (by repeat (first | exact upd_here | apply upd_next | apply upd_past)) (by first | rfl | (rw [ints_length]; first | assumption | omega | (rw [ints_length]; first | assumption | omega | simp [*])) | simp [*]) ?_) | refine vops_build2 rfl rfl (by kernel_rfl) ?_ | refine vops_buildZ tyOk rfl (by kernel_rfl) ?_ | refine vops_slice tyOk rfl rfl rfl rfl rfl (by omega) ?_)
  refine bs_dec (fun hlt => ?_) (fun hge => ?_)
  · have hl := freeTo_length a
    repeat (first | refine vops_q tyOk rfl ?_ | refine vops_nil ?_ | refine vw_seq ?_ | refine vw_region (by kernel_rfl) ?_ | refine vops_guardT rfl rfl ?_ | refine vops_guardF rfl rfl ?_ | refine vops_guardU rfl rfl ?_ | with_reducible refine bs_nbeq rfl ?_ | with_reducible refine bs_true ?_ | with_reducible refine bs_false ?_ | with_reducible refine bs_ntrue ?_ | with_reducible refine bs_nfalse ?_ | refine vops_p tyOk rfl (by (try simp only [inR]); omega) ?_ | refine vw_cond rfl ?_ | refine vw_skip ?_ | refine vw_block ?_ | refine vw_ret ?_ | refine vw_exit ?_ | ((show VOps _ _ _ _ (⟨some _, Go.Op.load _ _, _, _, _, none⟩ :: _) _ _); first | refine vops_loadM tyOk rfl rfl rfl (by repeat (first | exact mem_here | apply mem_next | apply mem_past)) (by rfl) ?_ | refine vops_loadM tyOk rfl rfl rfl (by repeat (first | exact mem_here | apply mem_next | apply mem_past)) (by exact ints_get0 (by omega)) ?_ | refine vops_loadNM tyOk rfl rfl rfl (by repeat (first | exact mem_here | apply mem_next | apply mem_past)) (by first | rfl | (rw [ints_length]; first | assumption | omega | (rw [ints_length]; first | assumption | omega | simp [*])) | simp [*]) ?_) | ((show VOps _ _ _ _ (⟨none, Go.Op.store _ _ _, _, _, _, none⟩ :: _) _ _); first | refine vops_storeIM tyOk rfl rfl rfl rfl (by repeat (first | exact upd_here | apply upd_next | apply upd_past)) (by omega) ?_ | refine vops_storeM tyOk rfl rfl rfl rfl rfl (by repeat (first | exact upd_here | apply upd_next | apply upd_past)) (by simp) ?_ | refine vops_storeAM tyOk rfl rfl rfl (by first | rfl | (rw [ints_length]; first | assumption | omega | (rw [ints_length]; first | assumption | omega | simp [*])) | simp [*]) (by first | exact ints_one | simp [Value.oneCell']) (by repeat (first | exact upd_here | apply upd_next | apply upd_past)) (by first | rfl | (rw [ints_length]; first | assumption | omega | (rw [ints_length]; first | assumption | omega | simp [*])) | simp [*]) ?_) | refine vops_build2 rfl rfl (by kernel_rfl) ?_ | refine vops_buildZ tyOk rfl (by kernel_rfl) ?_ | refine vops_slice tyOk rfl rfl rfl rfl rfl (by omega) ?_)
    exact ⟨(n - (a + 1)).toNat, by omega, a + 1, by omega, by omega, rfl, rfl, rfl, rfl, rfl, by rw [← freeTo_set ha0 (by omega)]⟩
  · obtain rfl : a = n := by omega
    have hl := freeTo_length a
    repeat (first | refine vops_q tyOk rfl ?_ | refine vops_nil ?_ | refine vw_seq ?_ | refine vw_region (by kernel_rfl) ?_ | refine vops_guardT rfl rfl ?_ | refine vops_guardF rfl rfl ?_ | refine vops_guardU rfl rfl ?_ | with_reducible refine bs_nbeq rfl ?_ | with_reducible refine bs_true ?_ | with_reducible refine bs_false ?_ | with_reducible refine bs_ntrue ?_ | with_reducible refine bs_nfalse ?_ | refine vops_p tyOk rfl (by (try simp only [inR]); omega) ?_ | refine vw_cond rfl ?_ | refine vw_skip ?_ | refine vw_block ?_ | refine vw_ret ?_ | refine vw_exit ?_ | ((show VOps _ _ _ _ (⟨some _, Go.Op.load _ _, _, _, _, none⟩ :: _) _ _); first | refine vops_loadM tyOk rfl rfl rfl (by repeat (first | exact mem_here | apply mem_next | apply mem_past)) (by rfl) ?_ | refine vops_loadM tyOk rfl rfl rfl (by repeat (first | exact mem_here | apply mem_next | apply mem_past)) (by exact ints_get0 (by omega)) ?_ | refine vops_loadNM tyOk rfl rfl rfl (by repeat (first | exact mem_here | apply mem_next | apply mem_past)) (by first | rfl | (rw [ints_length]; first | assumption | omega | (rw [ints_length]; first | assumption | omega | simp [*])) | simp [*]) ?_) | ((show VOps _ _ _ _ (⟨none, Go.Op.store _ _ _, _, _, _, none⟩ :: _) _ _); first | refine vops_storeIM tyOk rfl rfl rfl rfl (by repeat (first | exact upd_here | apply upd_next | apply upd_past)) (by omega) ?_ | refine vops_storeM tyOk rfl rfl rfl rfl rfl (by repeat (first | exact upd_here | apply upd_next | apply upd_past)) (by simp) ?_ | refine vops_storeAM tyOk rfl rfl rfl (by first | rfl | (rw [ints_length]; first | assumption | omega | (rw [ints_length]; first | assumption | omega | simp [*])) | simp [*]) (by first | exact ints_one | simp [Value.oneCell']) (by repeat (first | exact upd_here | apply upd_next | apply upd_past)) (by first | rfl | (rw [ints_length]; first | assumption | omega | (rw [ints_length]; first | assumption | omega | simp [*])) | simp [*]) ?_) | refine vops_build2 rfl rfl (by kernel_rfl) ?_ | refine vops_buildZ tyOk rfl (by kernel_rfl) ?_ | refine vops_slice tyOk rfl rfl rfl rfl rfl (by omega) ?_)
    exact rvc_ints 1 tyOk rfl rfl rfl rfl rfl rfl rfl

/-- The rule of the circle, over what was there, as far as k. -/
def circTo (base : List Int) (i m k : Int) : List Int := (List.range 14).map fun (j : Nat) => if (j : Int) < k then (2 * i + m - j) % m else base.getD j 0
/-- A round of the circle. -/
def circRow (n i : Int) : List Int := (List.range 14).map fun (j : Nat) => if n % 2 = 0 ∧ (j : Int) = n - 1 then i else if n % 2 = 0 ∧ (j : Int) = i then n - 1 else if (j : Int) < robinR n then (2 * i + robinR n - j) % robinR n else 0
/-- The rounds of the circle. -/
def circRows (n : Int) : List (List Int) := (List.range (robinR n).toNat).map fun (i : Nat) => circRow n i
open Classical in
noncomputable def circle (n : Int) : (Int × List (List Int)) × Int := if 2 ≤ n ∧ n ≤ 14 then ((n, circRows n), 0) else ((0, []), 2)
end Go.Proofs.YtgaaiplodbnnjaaDoor

/- A part of the proof: P11. No conditions of its own. -/
namespace Go.Proofs.YtgaaiplodbnnjaaDoor
open Go.VL
attribute [local irreducible] VWr VOps VD Calls

end Go.Proofs.YtgaaiplodbnnjaaDoor

/- A part of the proof: P18. No conditions of its own. -/
namespace Go.Proofs.YtgaaiplodbnnjaaDoor
open Go.VL
attribute [local irreducible] VWr VOps VD Calls

/-- A pair, laid into a round. -/
def lay (r p : List Int) : List Int := (r.set (p.getD 0 0).toNat (p.getD 1 0)).set (p.getD 1 0).toNat (p.getD 0 0)
theorem lay_length (r p : List Int) : (lay r p).length = r.length := by simp [lay]
def layAll (r : List Int) : List (List Int) → List Int
  | [] => r
  | p :: ps => layAll (lay r p) ps
def canLay (r p : List Int) : Prop := r.getD (p.getD 0 0).toNat 0 = p.getD 0 0 ∧ r.getD (p.getD 1 0).toNat 0 = p.getD 1 0
instance (r p : List Int) : Decidable (canLay r p) := by unfold canLay; infer_instance
/-- The pairs, laid one by one, as long as both are free. -/
def place (r : List Int) : List (List Int) → Option (List Int)
  | [] => some r
  | p :: ps => if canLay r p then place (lay r p) ps else none
def PairOk (n : Int) (p : List Int) : Prop := p.length = 2 ∧ (0 ≤ p.getD 0 0 ∧ p.getD 0 0 < n) ∧ (0 ≤ p.getD 1 0 ∧ p.getD 1 0 < n) ∧ p.getD 0 0 ≠ p.getD 1 0
def PairsOk (n : Int) (ls : List (List Int)) : Prop := ∀ p ∈ ls, PairOk n p
open Classical in
noncomputable def roundOf (n : Int) (ls : List (List Int)) : List Int × Int :=
  if 2 ≤ n ∧ n ≤ 14 ∧ ls.length ≤ 14 ∧ PairsOk n ls then (match place (freeTo n) ls with | some r => (r, 0) | none => (List.replicate 14 0, 5)) else (List.replicate 14 0, 2)
theorem drop_cons {α : Type} {l : List α} {i : Nat} {x : α} (h : l[i]? = some x) : l.drop i = x :: l.drop (i + 1) := by
  have hlt := (List.getElem?_eq_some_iff.1 h).1
  rw [List.drop_eq_getElem_cons hlt]
  have := List.getElem?_eq_getElem hlt
  rw [h] at this
  rw [Option.some.inj this]
/-- A round and a code. -/
def rdV (r : List Int × Int) : Value := .tuple #[.agg (ints r.1).toArray, .int .i64 r.2]
end Go.Proofs.YtgaaiplodbnnjaaDoor

/- A part of the proof: P19. No conditions of its own. -/
namespace Go.Proofs.YtgaaiplodbnnjaaDoor
open Go.VL
attribute [local irreducible] VWr VOps VD Calls

theorem dropNil {α : Type} {l : List α} {i : Nat} (h : l.length ≤ i) : l.drop i = [] := List.drop_eq_nil_of_le h
theorem layAll_step {ls : List (List Int)} {r p : List Int} {i : Nat} (h : ls[i]? = some p) : layAll r (ls.drop i) = layAll (lay r p) (ls.drop (i + 1)) := by
  rw [drop_cons h]; rfl

end Go.Proofs.YtgaaiplodbnnjaaDoor

/- A part of the proof: P20. No conditions of its own. -/
namespace Go.Proofs.YtgaaiplodbnnjaaDoor
open Go.VL
attribute [local irreducible] VWr VOps VD Calls

theorem rvc_intsM {P : Program} {T : Nat → Option TI} {Γ : Ctx} {f : Nat → Value} {own : Own} (hT : Go.VL.TyOk P T) {n p t b e m : Nat} {ti : TI} {fn : Func} {cs cs' : List Int} (h : fn.results = #[.cell p t]) (ht : T t = some ti) (ha : ti.isAgg = true) (hsz : ti.size = 14)
    (hp : f p = .pointer (some ⟨b, 0, none⟩)) (hm : (b, (⟨ints cs, e, m, none⟩ : Blk)) ∈ own) (hl : cs.length = 14) (hr : cs' = cs) : Out P Γ n fn (Is (.agg (ints cs').toArray)) .ret f own := by
  subst hr
  exact ⟨_, [], rv_cell hT h hp ht ha (by rw [ints_length, hl, hsz]) (fun j v hj => by rw [Nat.zero_add]; exact sees_mem hm hj), List.nodup_nil, sub_nil, rfl, rfl⟩

set_option maxHeartbeats 1000000 in
set_option maxRecDepth 100000 in
theorem c_l01Made (n : Int) (v : Value) (ls : List (List Int)) (h2 : 2 ≤ n) (h14 : n ≤ 14) (hp : PairsOk n ls) (w : World) (hv : RdII w v ls) (hl : ls.length ≤ 1048576) :
    Calls Tryd.prog 71 [.int .i64 n, v].toArray w (Res w (Is (.agg (ints (layAll (freeTo n) ls)).toArray))) := by
  obtain ⟨a, cap, rfl⟩ := hv.len
  refine calls_of_vw Tryd.func71 rfl Tryd.ntmps71 (by simp) ?_
  refine vw_seq (vw_region (by kernel_rfl) (vops_allocZ (ints (List.replicate 14 0)) tyOk rfl rfl (by simp [ints]) (fun b4 hb4 => ?_)))
  repeat (first | refine vops_q tyOk rfl ?_ | refine vops_nil ?_ | refine vw_seq ?_ | refine vw_region (by kernel_rfl) ?_ | refine vops_guardT rfl rfl ?_ | refine vops_guardF rfl rfl ?_ | refine vops_guardU rfl rfl ?_ | with_reducible refine bs_nbeq rfl ?_ | with_reducible refine bs_true ?_ | with_reducible refine bs_false ?_ | with_reducible refine bs_ntrue ?_ | with_reducible refine bs_nfalse ?_ | refine vops_p tyOk rfl (by (try simp only [inR]); omega) ?_ | refine vw_cond rfl ?_ | refine vw_skip ?_ | refine vw_block ?_ | refine vw_ret ?_ | refine vw_exit ?_ | (apply vops_callp ent89 rfl; (intro w _; exact c_l01Free n (by omega) (by omega) w)) | refine vops_allocZ (ints (List.replicate 14 0)) tyOk rfl rfl (by simp [ints]) (fun b5 hb5 => ?_) | ((show VOps _ _ _ _ (⟨some _, Go.Op.load _ _, _, _, _, none⟩ :: _) _ _); first | refine vops_loadM tyOk rfl rfl rfl (by repeat (first | exact mem_here | apply mem_next | apply mem_past)) (by rfl) ?_ | refine vops_loadM tyOk rfl rfl rfl (by repeat (first | exact mem_here | apply mem_next | apply mem_past)) (by exact ints_get0 (by omega)) ?_ | refine vops_loadNM tyOk rfl rfl rfl (by repeat (first | exact mem_here | apply mem_next | apply mem_past)) (by first | rfl | (rw [ints_length]; first | assumption | omega | (rw [ints_length]; first | assumption | omega | simp [*])) | simp [*]) ?_) | ((show VOps _ _ _ _ (⟨none, Go.Op.store _ _ _, _, _, _, none⟩ :: _) _ _); first | refine vops_storeIM tyOk rfl rfl rfl rfl (by repeat (first | exact upd_here | apply upd_next | apply upd_past)) (by omega) ?_ | refine vops_storeM tyOk rfl rfl rfl rfl rfl (by repeat (first | exact upd_here | apply upd_next | apply upd_past)) (by simp) ?_ | refine vops_storeAM tyOk rfl rfl rfl (by first | rfl | (rw [ints_length]; first | assumption | omega | (rw [ints_length]; first | assumption | omega | simp [*])) | simp [*]) (by first | exact ints_one | simp [Value.oneCell']) (by repeat (first | exact upd_here | apply upd_next | apply upd_past)) (by first | rfl | (rw [ints_length]; first | assumption | omega | (rw [ints_length]; first | assumption | omega | simp [*])) | simp [*]) ?_) | refine vops_build2 rfl rfl (by kernel_rfl) ?_ | refine vops_buildZ tyOk rfl (by kernel_rfl) ?_ | refine vops_slice tyOk rfl rfl rfl rfl rfl (by omega) ?_)
  refine vw_loop (fun m f own => ∃ (i : Nat) (r : List Int), i ≤ ls.length ∧ m = ls.length - i ∧ r.length = 14 ∧ f 6 = .int .i64 i ∧ f 1 = .slice a ls.length cap ∧ f 4 = .pointer (some ⟨b4, 0, none⟩) ∧ f 5 = .pointer (some ⟨b5, 0, none⟩) ∧
      own = [(b5, ⟨ints r, 67, 14, none⟩), (b4, ⟨ints (List.replicate 14 0), 67, 14, none⟩)] ∧ layAll (freeTo n) ls = layAll r (ls.drop i)) ls.length
    ⟨0, freeTo n, by omega, by omega, freeTo_length n, rfl, rfl, rfl, rfl, by simp [ints], by rw [List.drop_zero]⟩ ?_
  rintro m f own ⟨i, r, hi, rfl, hrl, h6, h1, h4, h5, rfl, hpl⟩
  rw [upd_of h6, upd_of h1, upd_of h4, upd_of h5]
  repeat (first | refine vops_q tyOk rfl ?_ | refine vops_nil ?_ | refine vw_seq ?_ | refine vw_region (by kernel_rfl) ?_ | refine vops_guardT rfl rfl ?_ | refine vops_guardF rfl rfl ?_ | refine vops_guardU rfl rfl ?_ | with_reducible refine bs_nbeq rfl ?_ | with_reducible refine bs_true ?_ | with_reducible refine bs_false ?_ | with_reducible refine bs_ntrue ?_ | with_reducible refine bs_nfalse ?_ | refine vops_p tyOk rfl (by (try simp only [inR]); omega) ?_ | refine vw_cond rfl ?_ | refine vw_skip ?_ | refine vw_block ?_ | refine vw_ret ?_ | refine vw_exit ?_ | ((show VOps _ _ _ _ (⟨some _, Go.Op.load _ _, _, _, _, none⟩ :: _) _ _); first | refine vops_loadM tyOk rfl rfl rfl (by repeat (first | exact mem_here | apply mem_next | apply mem_past)) (by rfl) ?_ | refine vops_loadM tyOk rfl rfl rfl (by repeat (first | exact mem_here | apply mem_next | apply mem_past)) (by exact ints_get0 (by omega)) ?_ | refine vops_loadNM tyOk rfl rfl rfl (by repeat (first | exact mem_here | apply mem_next | apply mem_past)) (by first | rfl | (rw [ints_length]; first | assumption | omega | (rw [ints_length]; first | assumption | omega | simp [*])) | simp [*]) ?_) | ((show VOps _ _ _ _ (⟨none, Go.Op.store _ _ _, _, _, _, none⟩ :: _) _ _); first | refine vops_storeIM tyOk rfl rfl rfl rfl (by repeat (first | exact upd_here | apply upd_next | apply upd_past)) (by omega) ?_ | refine vops_storeM tyOk rfl rfl rfl rfl rfl (by repeat (first | exact upd_here | apply upd_next | apply upd_past)) (by simp) ?_ | refine vops_storeAM tyOk rfl rfl rfl (by first | rfl | (rw [ints_length]; first | assumption | omega | (rw [ints_length]; first | assumption | omega | simp [*])) | simp [*]) (by first | exact ints_one | simp [Value.oneCell']) (by repeat (first | exact upd_here | apply upd_next | apply upd_past)) (by first | rfl | (rw [ints_length]; first | assumption | omega | (rw [ints_length]; first | assumption | omega | simp [*])) | simp [*]) ?_) | refine vops_build2 rfl rfl (by kernel_rfl) ?_ | refine vops_buildZ tyOk rfl (by kernel_rfl) ?_ | refine vops_slice tyOk rfl rfl rfl rfl rfl (by omega) ?_)
  refine bs_dec (fun h7 => ?_) (fun h7 => ?_)
  · obtain ⟨l, hli⟩ : ∃ l, ls[i]? = some l := ⟨_, List.getElem?_eq_getElem (by omega)⟩
    obtain ⟨hp2, hp0, hp1, hpn⟩ := hp l (List.mem_of_getElem? hli)
    obtain ⟨b', o, cap', x, he, hcx, hx⟩ := hv.at hli
    cases he
    obtain ⟨a3, c3, rfl⟩ := hx.len
    obtain ⟨b2, o2, cap2, he2, hcell⟩ := hx.at (i := 0) (by omega)
    cases he2
    have hc0 := hcell 0 (by omega)
    have hc1 := hcell 1 (by omega)
    have hsl : ∀ (k : Nat) (z : Int), (r.set k z).length = 14 := fun k z => by rw [List.length_set]; exact hrl
    repeat (first | refine vops_q tyOk rfl ?_ | refine vops_nil ?_ | refine vw_seq ?_ | refine vw_region (by kernel_rfl) ?_ | refine vops_guardT rfl rfl ?_ | refine vops_guardF rfl rfl ?_ | refine vops_guardU rfl rfl ?_ | with_reducible refine bs_nbeq rfl ?_ | with_reducible refine bs_true ?_ | with_reducible refine bs_false ?_ | with_reducible refine bs_ntrue ?_ | with_reducible refine bs_nfalse ?_ | refine vops_p tyOk rfl (by (try simp only [inR]); omega) ?_ | refine vw_cond rfl ?_ | refine vw_skip ?_ | refine vw_block ?_ | refine vw_ret ?_ | refine vw_exit ?_ | ((show VOps _ _ _ _ (⟨some _, Go.Op.load _ _, _, _, _, none⟩ :: _) _ _); first | refine vops_loadM tyOk rfl rfl rfl (by repeat (first | exact mem_here | apply mem_next | apply mem_past)) (by rfl) ?_ | refine vops_loadM tyOk rfl rfl rfl (by repeat (first | exact mem_here | apply mem_next | apply mem_past)) (by exact ints_get0 (by omega)) ?_ | refine vops_loadNM tyOk rfl rfl rfl (by repeat (first | exact mem_here | apply mem_next | apply mem_past)) (by first | rfl | (rw [ints_length]; first | assumption | omega | (rw [ints_length]; first | assumption | omega | simp [*])) | simp [*]) ?_) | ((show VOps _ _ _ _ (⟨none, Go.Op.store _ _ _, _, _, _, none⟩ :: _) _ _); first | refine vops_storeIM tyOk rfl rfl rfl rfl (by repeat (first | exact upd_here | apply upd_next | apply upd_past)) (by omega) ?_ | refine vops_storeM tyOk rfl rfl rfl rfl rfl (by repeat (first | exact upd_here | apply upd_next | apply upd_past)) (by simp) ?_ | refine vops_storeAM tyOk rfl rfl rfl (by first | rfl | (rw [ints_length]; first | assumption | omega | (rw [ints_length]; first | assumption | omega | simp [*])) | simp [*]) (by first | exact ints_one | simp [Value.oneCell']) (by repeat (first | exact upd_here | apply upd_next | apply upd_past)) (by first | rfl | (rw [ints_length]; first | assumption | omega | (rw [ints_length]; first | assumption | omega | simp [*])) | simp [*]) ?_) | refine vops_build2 rfl rfl (by kernel_rfl) ?_ | refine vops_buildZ tyOk rfl (by kernel_rfl) ?_ | refine vops_slice tyOk rfl rfl rfl rfl rfl (by omega) ?_)
    refine vw_draw [0, 1, 2, 3, 4, 5, 6, 7, 8, 9, 10, 11, 12, 13] (by kernel_rfl) (by kernel_rfl) (by kernel_rfl) rfl ?_
    repeat' (first | refine vd_q tyOk rfl (by first | trivial | rfl) rfl (by kernel_rfl) (by kernel_rfl) ?_ | refine vd_p tyOk rfl (by first | trivial | rfl) rfl (by kernel_rfl) (by kernel_rfl) (by (try simp only [inR]); omega) ?_ | refine vd_skipT rfl rfl (by kernel_rfl) (by kernel_rfl) ?_ | refine vd_skipF rfl rfl (by kernel_rfl) (by kernel_rfl) ?_ | refine vd_skipU rfl rfl (by kernel_rfl) (by kernel_rfl) ?_ | refine vops_nil ?_ | refine vd_nil (by kernel_rfl) ?_ | refine ⟨fun _ _ _ h => h, ?_⟩ | refine ⟨fun _ _ _ h => List.mem_cons_of_mem _ h, ?_⟩ | refine ⟨fun _ _ _ h => List.mem_append_right _ h, ?_⟩ | refine vops_q tyOk rfl ?_ | refine vd_load tyOk rfl (by first | trivial | rfl) rfl rfl rfl (by kernel_rfl) (by kernel_rfl) (by kernel_rfl) (sees_mem (by repeat (first | exact mem_here | apply mem_next | apply mem_past)) (by rfl)) (by repeat (first | exact sub_hereL | exact sub_refl | apply sub_cons | apply sub_app)) ?_ | refine vd_load tyOk rfl (by first | trivial | rfl) rfl rfl rfl (by kernel_rfl) (by kernel_rfl) (by kernel_rfl) (sees_mem (k := ⟨ints _, _, _, none⟩) (by repeat (first | exact mem_here | apply mem_next | apply mem_past)) (by exact ints_get0 (by omega))) (by repeat (first | exact sub_hereL | exact sub_refl | apply sub_cons | apply sub_app)) ?_ | refine vd_loadNM tyOk rfl (by first | trivial | rfl) rfl rfl rfl (by repeat (first | exact mem_here | apply mem_next | apply mem_past)) (by first | rfl | (rw [ints_length]; first | assumption | omega | (rw [ints_length]; first | assumption | omega | simp [*])) | simp [*]) (by kernel_rfl) (by kernel_rfl) (by kernel_rfl) (by repeat (first | exact sub_hereL | exact sub_refl | apply sub_cons | apply sub_app)) ?_ | refine vd_build2 rfl (by first | trivial | rfl) rfl rfl (by kernel_rfl) (by kernel_rfl) (by kernel_rfl) ?_ | refine vd_slice tyOk rfl (by first | trivial | rfl) rfl rfl rfl rfl rfl (by kernel_rfl) (by kernel_rfl) (by omega) ?_ | refine ⟨fun h => Bool.noConfusion (show false = true from h), ?_⟩ | refine ⟨fun _ p hp _ => (show Go.VL.Sub _ _ from (by repeat (first | exact sub_hereL | exact sub_refl | apply sub_cons | apply sub_app))) p hp, ?_⟩ | refine vd_load tyOk rfl (by first | trivial | rfl) rfl rfl rfl (by kernel_rfl) (by kernel_rfl) (by kernel_rfl) (sees_old hcx (by simp)) (by repeat (first | exact sub_hereL | exact sub_refl | apply sub_cons | apply sub_app)) ?_ | refine vd_load tyOk rfl (by first | trivial | rfl) rfl rfl rfl (by kernel_rfl) (by kernel_rfl) (by kernel_rfl) (sees_old hc0 (by simp)) (by repeat (first | exact sub_hereL | exact sub_refl | apply sub_cons | apply sub_app)) ?_ | refine vd_load tyOk rfl (by first | trivial | rfl) rfl rfl rfl (by kernel_rfl) (by kernel_rfl) (by kernel_rfl) (sees_old hc1 (by simp)) (by repeat (first | exact sub_hereL | exact sub_refl | apply sub_cons | apply sub_app)) ?_ | ((show VOps _ _ _ _ (⟨some _, Go.Op.load _ _, _, _, _, none⟩ :: _) _ _); first | refine vops_loadM tyOk rfl rfl rfl (by repeat (first | exact mem_here | apply mem_next | apply mem_past)) (by rfl) ?_ | refine vops_loadM tyOk rfl rfl rfl (by repeat (first | exact mem_here | apply mem_next | apply mem_past)) (by exact ints_get0 (by omega)) ?_ | refine vops_loadNM tyOk rfl rfl rfl (by repeat (first | exact mem_here | apply mem_next | apply mem_past)) (by first | rfl | (rw [ints_length]; first | assumption | omega | (rw [ints_length]; first | assumption | omega | simp [*])) | simp [*]) ?_) | ((show VOps _ _ _ _ (⟨none, Go.Op.store _ _ _, _, _, _, none⟩ :: _) _ _); first | refine vops_storeIM tyOk rfl rfl rfl rfl (by repeat (first | exact upd_here | apply upd_next | apply upd_past)) (by omega) ?_ | refine vops_storeM tyOk rfl rfl rfl rfl rfl (by repeat (first | exact upd_here | apply upd_next | apply upd_past)) (by simp) ?_ | refine vops_storeAM tyOk rfl rfl rfl (by first | rfl | (rw [ints_length]; first | assumption | omega | (rw [ints_length]; first | assumption | omega | simp [*])) | simp [*]) (by first | exact ints_one | simp [Value.oneCell']) (by repeat (first | exact upd_here | apply upd_next | apply upd_past)) (by first | rfl | (rw [ints_length]; first | assumption | omega | (rw [ints_length]; first | assumption | omega | simp [*])) | simp [*]) ?_) | refine vops_build2 rfl rfl (by kernel_rfl) ?_ | refine vops_buildZ tyOk rfl (by kernel_rfl) ?_ | refine vops_slice tyOk rfl rfl rfl rfl rfl (by omega) ?_ | refine vd_one rfl (by kernel_rfl) (by kernel_rfl) rfl ?_ | refine vd_oneG rfl (by kernel_rfl) (by kernel_rfl) rfl ?_ | (refine vd_gsplit rfl rfl rfl ?_; (fail_if_success (with_reducible (first | refine bs_true ?_ | refine bs_false ?_))); with_reducible refine bs_dec (fun _ => ?_) (fun _ => ?_)) <;> try (exfalso; omega) | (refine vd_gsplit rfl rfl rfl ?_; (fail_if_success (with_reducible (first | refine bs_true ?_ | refine bs_false ?_))); with_reducible refine bs_ndec (fun _ => ?_) (fun _ => ?_)) <;> try (exfalso; omega) | (refine vd_gsplit rfl rfl rfl ?_; (fail_if_success (with_reducible (first | refine bs_true ?_ | refine bs_false ?_))); with_reducible refine bs_nany (fun _ => ?_) (fun _ => ?_)) <;> try (exfalso; omega) | (refine vd_gsplit rfl rfl rfl ?_; (fail_if_success (with_reducible (first | refine bs_true ?_ | refine bs_false ?_))); with_reducible refine bs_any (fun _ => ?_) (fun _ => ?_)) <;> try (exfalso; omega))
    repeat (first | refine vops_q tyOk rfl ?_ | refine vops_nil ?_ | refine vw_seq ?_ | refine vw_region (by kernel_rfl) ?_ | refine vops_guardT rfl rfl ?_ | refine vops_guardF rfl rfl ?_ | refine vops_guardU rfl rfl ?_ | with_reducible refine bs_nbeq rfl ?_ | with_reducible refine bs_true ?_ | with_reducible refine bs_false ?_ | with_reducible refine bs_ntrue ?_ | with_reducible refine bs_nfalse ?_ | refine vops_p tyOk rfl (by (try simp only [inR]); omega) ?_ | refine vw_cond rfl ?_ | refine vw_skip ?_ | refine vw_block ?_ | refine vw_ret ?_ | refine vw_exit ?_ | ((show VOps _ _ _ _ (⟨some _, Go.Op.load _ _, _, _, _, none⟩ :: _) _ _); first | refine vops_loadM tyOk rfl rfl rfl (by repeat (first | exact mem_here | apply mem_next | apply mem_past)) (by rfl) ?_ | refine vops_loadM tyOk rfl rfl rfl (by repeat (first | exact mem_here | apply mem_next | apply mem_past)) (by exact ints_get0 (by omega)) ?_ | refine vops_loadNM tyOk rfl rfl rfl (by repeat (first | exact mem_here | apply mem_next | apply mem_past)) (by first | rfl | (rw [ints_length]; first | assumption | omega | (rw [ints_length]; first | assumption | omega | simp [*])) | simp [*]) ?_) | ((show VOps _ _ _ _ (⟨none, Go.Op.store _ _ _, _, _, _, none⟩ :: _) _ _); first | refine vops_storeIM tyOk rfl rfl rfl rfl (by repeat (first | exact upd_here | apply upd_next | apply upd_past)) (by omega) ?_ | refine vops_storeM tyOk rfl rfl rfl rfl rfl (by repeat (first | exact upd_here | apply upd_next | apply upd_past)) (by simp) ?_ | refine vops_storeAM tyOk rfl rfl rfl (by first | rfl | (rw [ints_length]; first | assumption | omega | (rw [ints_length]; first | assumption | omega | simp [*])) | simp [*]) (by first | exact ints_one | simp [Value.oneCell']) (by repeat (first | exact upd_here | apply upd_next | apply upd_past)) (by first | rfl | (rw [ints_length]; first | assumption | omega | (rw [ints_length]; first | assumption | omega | simp [*])) | simp [*]) ?_) | refine vops_build2 rfl rfl (by kernel_rfl) ?_ | refine vops_buildZ tyOk rfl (by kernel_rfl) ?_ | refine vops_slice tyOk rfl rfl rfl rfl rfl (by omega) ?_)
    refine vw_draw [0, 1, 2, 3, 4, 5, 6, 7, 8, 9, 10, 11, 12, 13] (by kernel_rfl) (by kernel_rfl) (by kernel_rfl) rfl ?_
    repeat' (first | refine vd_q tyOk rfl (by first | trivial | rfl) rfl (by kernel_rfl) (by kernel_rfl) ?_ | refine vd_p tyOk rfl (by first | trivial | rfl) rfl (by kernel_rfl) (by kernel_rfl) (by (try simp only [inR]); omega) ?_ | refine vd_skipT rfl rfl (by kernel_rfl) (by kernel_rfl) ?_ | refine vd_skipF rfl rfl (by kernel_rfl) (by kernel_rfl) ?_ | refine vd_skipU rfl rfl (by kernel_rfl) (by kernel_rfl) ?_ | refine vops_nil ?_ | refine vd_nil (by kernel_rfl) ?_ | refine ⟨fun _ _ _ h => h, ?_⟩ | refine ⟨fun _ _ _ h => List.mem_cons_of_mem _ h, ?_⟩ | refine ⟨fun _ _ _ h => List.mem_append_right _ h, ?_⟩ | refine vops_q tyOk rfl ?_ | refine vd_load tyOk rfl (by first | trivial | rfl) rfl rfl rfl (by kernel_rfl) (by kernel_rfl) (by kernel_rfl) (sees_mem (by repeat (first | exact mem_here | apply mem_next | apply mem_past)) (by rfl)) (by repeat (first | exact sub_hereL | exact sub_refl | apply sub_cons | apply sub_app)) ?_ | refine vd_load tyOk rfl (by first | trivial | rfl) rfl rfl rfl (by kernel_rfl) (by kernel_rfl) (by kernel_rfl) (sees_mem (k := ⟨ints _, _, _, none⟩) (by repeat (first | exact mem_here | apply mem_next | apply mem_past)) (by exact ints_get0 (by omega))) (by repeat (first | exact sub_hereL | exact sub_refl | apply sub_cons | apply sub_app)) ?_ | refine vd_loadNM tyOk rfl (by first | trivial | rfl) rfl rfl rfl (by repeat (first | exact mem_here | apply mem_next | apply mem_past)) (by first | rfl | (rw [ints_length]; first | assumption | omega | (rw [ints_length]; first | assumption | omega | simp [*])) | simp [*]) (by kernel_rfl) (by kernel_rfl) (by kernel_rfl) (by repeat (first | exact sub_hereL | exact sub_refl | apply sub_cons | apply sub_app)) ?_ | refine vd_build2 rfl (by first | trivial | rfl) rfl rfl (by kernel_rfl) (by kernel_rfl) (by kernel_rfl) ?_ | refine vd_slice tyOk rfl (by first | trivial | rfl) rfl rfl rfl rfl rfl (by kernel_rfl) (by kernel_rfl) (by omega) ?_ | refine ⟨fun h => Bool.noConfusion (show false = true from h), ?_⟩ | refine ⟨fun _ p hp _ => (show Go.VL.Sub _ _ from (by repeat (first | exact sub_hereL | exact sub_refl | apply sub_cons | apply sub_app))) p hp, ?_⟩ | refine vd_load tyOk rfl (by first | trivial | rfl) rfl rfl rfl (by kernel_rfl) (by kernel_rfl) (by kernel_rfl) (sees_old hcx (by simp)) (by repeat (first | exact sub_hereL | exact sub_refl | apply sub_cons | apply sub_app)) ?_ | refine vd_load tyOk rfl (by first | trivial | rfl) rfl rfl rfl (by kernel_rfl) (by kernel_rfl) (by kernel_rfl) (sees_old hc0 (by simp)) (by repeat (first | exact sub_hereL | exact sub_refl | apply sub_cons | apply sub_app)) ?_ | refine vd_load tyOk rfl (by first | trivial | rfl) rfl rfl rfl (by kernel_rfl) (by kernel_rfl) (by kernel_rfl) (sees_old hc1 (by simp)) (by repeat (first | exact sub_hereL | exact sub_refl | apply sub_cons | apply sub_app)) ?_ | refine vops_storeIM tyOk rfl rfl rfl rfl (by repeat (first | exact upd_here | apply upd_next | apply upd_past)) (by rw [hsl]; omega) ?_ | ((show VOps _ _ _ _ (⟨some _, Go.Op.load _ _, _, _, _, none⟩ :: _) _ _); first | refine vops_loadM tyOk rfl rfl rfl (by repeat (first | exact mem_here | apply mem_next | apply mem_past)) (by rfl) ?_ | refine vops_loadM tyOk rfl rfl rfl (by repeat (first | exact mem_here | apply mem_next | apply mem_past)) (by exact ints_get0 (by omega)) ?_ | refine vops_loadNM tyOk rfl rfl rfl (by repeat (first | exact mem_here | apply mem_next | apply mem_past)) (by first | rfl | (rw [ints_length]; first | assumption | omega | (rw [ints_length]; first | assumption | omega | simp [*])) | simp [*]) ?_) | ((show VOps _ _ _ _ (⟨none, Go.Op.store _ _ _, _, _, _, none⟩ :: _) _ _); first | refine vops_storeIM tyOk rfl rfl rfl rfl (by repeat (first | exact upd_here | apply upd_next | apply upd_past)) (by omega) ?_ | refine vops_storeM tyOk rfl rfl rfl rfl rfl (by repeat (first | exact upd_here | apply upd_next | apply upd_past)) (by simp) ?_ | refine vops_storeAM tyOk rfl rfl rfl (by first | rfl | (rw [ints_length]; first | assumption | omega | (rw [ints_length]; first | assumption | omega | simp [*])) | simp [*]) (by first | exact ints_one | simp [Value.oneCell']) (by repeat (first | exact upd_here | apply upd_next | apply upd_past)) (by first | rfl | (rw [ints_length]; first | assumption | omega | (rw [ints_length]; first | assumption | omega | simp [*])) | simp [*]) ?_) | refine vops_build2 rfl rfl (by kernel_rfl) ?_ | refine vops_buildZ tyOk rfl (by kernel_rfl) ?_ | refine vops_slice tyOk rfl rfl rfl rfl rfl (by omega) ?_ | refine vd_one rfl (by kernel_rfl) (by kernel_rfl) rfl ?_ | refine vd_oneG rfl (by kernel_rfl) (by kernel_rfl) rfl ?_ | (refine vd_gsplit rfl rfl rfl ?_; (fail_if_success (with_reducible (first | refine bs_true ?_ | refine bs_false ?_))); with_reducible refine bs_dec (fun _ => ?_) (fun _ => ?_)) <;> try (exfalso; omega) | (refine vd_gsplit rfl rfl rfl ?_; (fail_if_success (with_reducible (first | refine bs_true ?_ | refine bs_false ?_))); with_reducible refine bs_ndec (fun _ => ?_) (fun _ => ?_)) <;> try (exfalso; omega) | (refine vd_gsplit rfl rfl rfl ?_; (fail_if_success (with_reducible (first | refine bs_true ?_ | refine bs_false ?_))); with_reducible refine bs_nany (fun _ => ?_) (fun _ => ?_)) <;> try (exfalso; omega) | (refine vd_gsplit rfl rfl rfl ?_; (fail_if_success (with_reducible (first | refine bs_true ?_ | refine bs_false ?_))); with_reducible refine bs_any (fun _ => ?_) (fun _ => ?_)) <;> try (exfalso; omega))
    repeat (first | refine vops_q tyOk rfl ?_ | refine vops_nil ?_ | refine vw_seq ?_ | refine vw_region (by kernel_rfl) ?_ | refine vops_guardT rfl rfl ?_ | refine vops_guardF rfl rfl ?_ | refine vops_guardU rfl rfl ?_ | with_reducible refine bs_nbeq rfl ?_ | with_reducible refine bs_true ?_ | with_reducible refine bs_false ?_ | with_reducible refine bs_ntrue ?_ | with_reducible refine bs_nfalse ?_ | refine vops_p tyOk rfl (by (try simp only [inR]); omega) ?_ | refine vw_cond rfl ?_ | refine vw_skip ?_ | refine vw_block ?_ | refine vw_ret ?_ | refine vw_exit ?_ | ((show VOps _ _ _ _ (⟨some _, Go.Op.load _ _, _, _, _, none⟩ :: _) _ _); first | refine vops_loadM tyOk rfl rfl rfl (by repeat (first | exact mem_here | apply mem_next | apply mem_past)) (by rfl) ?_ | refine vops_loadM tyOk rfl rfl rfl (by repeat (first | exact mem_here | apply mem_next | apply mem_past)) (by exact ints_get0 (by omega)) ?_ | refine vops_loadNM tyOk rfl rfl rfl (by repeat (first | exact mem_here | apply mem_next | apply mem_past)) (by first | rfl | (rw [ints_length]; first | assumption | omega | (rw [ints_length]; first | assumption | omega | simp [*])) | simp [*]) ?_) | ((show VOps _ _ _ _ (⟨none, Go.Op.store _ _ _, _, _, _, none⟩ :: _) _ _); first | refine vops_storeIM tyOk rfl rfl rfl rfl (by repeat (first | exact upd_here | apply upd_next | apply upd_past)) (by omega) ?_ | refine vops_storeM tyOk rfl rfl rfl rfl rfl (by repeat (first | exact upd_here | apply upd_next | apply upd_past)) (by simp) ?_ | refine vops_storeAM tyOk rfl rfl rfl (by first | rfl | (rw [ints_length]; first | assumption | omega | (rw [ints_length]; first | assumption | omega | simp [*])) | simp [*]) (by first | exact ints_one | simp [Value.oneCell']) (by repeat (first | exact upd_here | apply upd_next | apply upd_past)) (by first | rfl | (rw [ints_length]; first | assumption | omega | (rw [ints_length]; first | assumption | omega | simp [*])) | simp [*]) ?_) | refine vops_build2 rfl rfl (by kernel_rfl) ?_ | refine vops_buildZ tyOk rfl (by kernel_rfl) ?_ | refine vops_slice tyOk rfl rfl rfl rfl rfl (by omega) ?_)
    refine ⟨ls.length - (i + 1), by omega, i + 1, lay r l, by omega, rfl, by rw [lay_length]; exact hrl, rfl, rfl, rfl, rfl, rfl, ?_⟩
    rw [hpl, layAll_step hli]
  · obtain rfl : i = ls.length := by omega
    repeat (first | refine vops_q tyOk rfl ?_ | refine vops_nil ?_ | refine vw_seq ?_ | refine vw_region (by kernel_rfl) ?_ | refine vops_guardT rfl rfl ?_ | refine vops_guardF rfl rfl ?_ | refine vops_guardU rfl rfl ?_ | with_reducible refine bs_nbeq rfl ?_ | with_reducible refine bs_true ?_ | with_reducible refine bs_false ?_ | with_reducible refine bs_ntrue ?_ | with_reducible refine bs_nfalse ?_ | refine vops_p tyOk rfl (by (try simp only [inR]); omega) ?_ | refine vw_cond rfl ?_ | refine vw_skip ?_ | refine vw_block ?_ | refine vw_ret ?_ | refine vw_exit ?_ | ((show VOps _ _ _ _ (⟨some _, Go.Op.load _ _, _, _, _, none⟩ :: _) _ _); first | refine vops_loadM tyOk rfl rfl rfl (by repeat (first | exact mem_here | apply mem_next | apply mem_past)) (by rfl) ?_ | refine vops_loadM tyOk rfl rfl rfl (by repeat (first | exact mem_here | apply mem_next | apply mem_past)) (by exact ints_get0 (by omega)) ?_ | refine vops_loadNM tyOk rfl rfl rfl (by repeat (first | exact mem_here | apply mem_next | apply mem_past)) (by first | rfl | (rw [ints_length]; first | assumption | omega | (rw [ints_length]; first | assumption | omega | simp [*])) | simp [*]) ?_) | ((show VOps _ _ _ _ (⟨none, Go.Op.store _ _ _, _, _, _, none⟩ :: _) _ _); first | refine vops_storeIM tyOk rfl rfl rfl rfl (by repeat (first | exact upd_here | apply upd_next | apply upd_past)) (by omega) ?_ | refine vops_storeM tyOk rfl rfl rfl rfl rfl (by repeat (first | exact upd_here | apply upd_next | apply upd_past)) (by simp) ?_ | refine vops_storeAM tyOk rfl rfl rfl (by first | rfl | (rw [ints_length]; first | assumption | omega | (rw [ints_length]; first | assumption | omega | simp [*])) | simp [*]) (by first | exact ints_one | simp [Value.oneCell']) (by repeat (first | exact upd_here | apply upd_next | apply upd_past)) (by first | rfl | (rw [ints_length]; first | assumption | omega | (rw [ints_length]; first | assumption | omega | simp [*])) | simp [*]) ?_) | refine vops_build2 rfl rfl (by kernel_rfl) ?_ | refine vops_buildZ tyOk rfl (by kernel_rfl) ?_ | refine vops_slice tyOk rfl rfl rfl rfl rfl (by omega) ?_)
    refine rvc_intsM tyOk (cs := r) rfl rfl rfl rfl rfl (by repeat (first | exact mem_here | apply mem_next | apply mem_past)) hrl ?_
    rw [hpl, dropNil (Nat.le_refl _)]; rfl

/-- Who is in a pair. -/
def MetOf (n : Nat) (r : List Int) (met : List Bool) : Prop := met.length = n ∧ ∀ j : Nat, j < n → (met.getD j false = true ↔ r.getD j 0 ≠ j)

end Go.Proofs.YtgaaiplodbnnjaaDoor

/- A part of the proof: P21. No conditions of its own. -/
namespace Go.Proofs.YtgaaiplodbnnjaaDoor
open Go.VL
attribute [local irreducible] VWr VOps VD Calls

/-- How many numbers. -/
def sumLen : List (List Int) → Nat
  | [] => 0
  | l :: ls => l.length + sumLen ls
theorem sumLen_snoc : ∀ (ls : List (List Int)) (l : List Int), sumLen (ls ++ [l]) = sumLen ls + l.length
  | [], l => by simp [sumLen]
  | q :: ls, l => by simp only [List.cons_append, sumLen, sumLen_snoc ls l]; omega
/-- All numbered from k on. -/
def markLL (k : Int) : List (List Int) → List (List Int)
  | [] => []
  | l :: ls => iota k l.length :: markLL (k + l.length) ls
theorem markLL_length : ∀ (k : Int) (ls : List (List Int)), (markLL k ls).length = ls.length
  | _, [] => rfl
  | k, l :: ls => by simp only [markLL, List.length_cons, markLL_length _ ls]
theorem markLL_snoc : ∀ (k : Int) (ls : List (List Int)) (l : List Int), markLL k (ls ++ [l]) = markLL k ls ++ [iota (k + sumLen ls) l.length]
  | k, [], l => by simp [markLL, sumLen]
  | k, q :: ls, l => by
    simp only [List.cons_append, markLL, sumLen, markLL_snoc _ ls l]
    rw [show k + (q.length : Int) + (sumLen ls : Int) = k + ((q.length + sumLen ls : Nat) : Int) by omega]
theorem sumLen_take_le : ∀ (ls : List (List Int)) (i : Nat), sumLen (ls.take i) ≤ sumLen ls
  | [], i => by simp [sumLen]
  | l :: ls, 0 => by simp [sumLen]
  | l :: ls, i + 1 => by simp only [List.take_succ_cons, sumLen]; have := sumLen_take_le ls i; omega
theorem sumLen_mem : ∀ {ls : List (List Int)} {l : List Int}, l ∈ ls → l.length ≤ sumLen ls
  | q :: ls, l, h => by
    rcases List.mem_cons.1 h with rfl | h
    · simp only [sumLen]; omega
    · have := sumLen_mem h; simp only [sumLen]; omega
/-- i rows numbered, the others as they were. -/
def mkTo (k : Int) (ls : List (List Int)) (i : Nat) : List (List Int) := markLL k (ls.take i) ++ ls.drop i
theorem mkTo_get {k : Int} {ls : List (List Int)} {i : Nat} {l : List Int} (h : ls[i]? = some l) : (mkTo k ls i)[i]? = some l := by
  have hlt := (List.getElem?_eq_some_iff.1 h).1
  unfold mkTo
  rw [List.getElem?_append_right (by rw [markLL_length, List.length_take]; omega), markLL_length, List.length_take, Nat.min_eq_left (by omega), Nat.sub_self, List.getElem?_drop]
  simpa using h
theorem mkTo_set {k : Int} {ls : List (List Int)} {i : Nat} {l : List Int} (h : ls[i]? = some l) : (mkTo k ls i).set i (iota (k + sumLen (ls.take i)) l.length) = mkTo k ls (i + 1) := by
  have hlt := (List.getElem?_eq_some_iff.1 h).1
  have hl : (markLL k (ls.take i)).length = i := by rw [markLL_length, List.length_take]; omega
  have ht : ls.take (i + 1) = ls.take i ++ [l] := by rw [List.take_add_one, h]; rfl
  unfold mkTo
  rw [List.set_append_right _ _ (by omega), hl, Nat.sub_self, ht, markLL_snoc, List.append_assoc]
  congr 1
  have : ls.drop i = l :: ls.drop (i + 1) := by
    rw [List.drop_eq_getElem_cons hlt]
    have := List.getElem?_eq_getElem hlt
    rw [h] at this
    rw [Option.some.inj this]
  rw [this]; rfl
theorem mkTo_zero (k : Int) (ls : List (List Int)) : mkTo k ls 0 = ls := by simp [mkTo, markLL]
theorem mkTo_all (k : Int) (ls : List (List Int)) : mkTo k ls ls.length = markLL k ls := by simp [mkTo]
theorem sum_step {ls : List (List Int)} {i : Nat} {l : List Int} (h : ls[i]? = some l) : sumLen (ls.take (i + 1)) = sumLen (ls.take i) + l.length := by
  rw [List.take_add_one, h]; exact sumLen_snoc _ _
/-- One of the rows, and the others. -/
theorem RowsAt.split {ei : Nat} : ∀ {ls : List (List Int)} {vs : List Value} {ns : List Own}, Go.VL.RowsAt ei ls vs ns → ∀ {i : Nat} {l : List Int}, ls[i]? = some l →
    ∃ u n ns1 ns2, vs[i]? = some u ∧ ns = ns1 ++ n :: ns2 ∧ NewI ei l u n ∧ ∀ l' n', NewI ei l' u n' → Go.VL.RowsAt ei (ls.set i l') vs (ns1 ++ n' :: ns2)
  | [], [], [], _, i, l, hl => by simp at hl
  | l0 :: ls, u0 :: vs, n0 :: ns, h, 0, l, hl => by
    have e : l0 = l := by simpa using hl
    subst e
    exact ⟨u0, n0, [], ns, rfl, rfl, h.1, fun l' n' hn => ⟨hn, h.2⟩⟩
  | l0 :: ls, u0 :: vs, n0 :: ns, h, i + 1, l, hl => by
    obtain ⟨u, n, ns1, ns2, h1, h2, h3, h4⟩ := RowsAt.split h.2 (i := i) (l := l) (by simpa using hl)
    exact ⟨u, n, n0 :: ns1, ns2, by simpa using h1, by rw [h2]; rfl, h3, fun l' n' hn => ⟨h.1, h4 l' n' hn⟩⟩
  | [], _ :: _, _, h, _, _, _ => h.elim
  | [], [], _ :: _, h, _, _, _ => h.elim
  | _ :: _, [], _, h, _, _, _ => h.elim
  | _ :: _, _ :: _, [], h, _, _, _ => h.elim
def MarkedLL (eo ei : Nat) (ls : List (List Int)) (k0 : Int) (v : Value) (u : Value) (new : Own) : Prop := u = .int .i64 (k0 + sumLen ls) ∧ NewLL eo ei (markLL k0 ls) v new
set_option maxRecDepth 100000 in
theorem c_markInt64SS (v : Value) (ls : List (List Int)) (k0 : Int) (new : Own) (w : World) (hN : NewLL 40 2 ls v new) (ho : OwnOk new w) (hl : ls.length ≤ 1048576) (hs : sumLen ls ≤ 1048576) (h0 : 0 ≤ k0) (h1 : k0 ≤ 1073741824) :
    Calls Tryd.prog 14 [v, .int .i64 k0].toArray w (ResM w new (MarkedLL 40 2 ls k0 v)) := by
  obtain ⟨vs, ns, outer, hR, hO, rfl⟩ := hN
  obtain ⟨p, cap, rfl⟩ := hO.form
  have hvl := hR.len.1
  refine calls_of_vwM Tryd.func14 rfl Tryd.ntmps14 (by simp) ho ?_
  repeat (first | refine vops_q tyOk rfl ?_ | refine vops_nil ?_ | refine vw_seq ?_ | refine vw_region (by kernel_rfl) ?_ | refine vops_guardT rfl rfl ?_ | refine vops_guardF rfl rfl ?_ | refine vops_guardU rfl rfl ?_ | with_reducible refine bs_nbeq rfl ?_ | with_reducible refine bs_true ?_ | with_reducible refine bs_false ?_ | with_reducible refine bs_ntrue ?_ | with_reducible refine bs_nfalse ?_ | refine vops_p tyOk rfl (by (try simp only [inR]); omega) ?_ | refine vw_cond rfl ?_ | refine vw_skip ?_ | refine vw_block ?_ | refine vw_ret ?_ | refine vw_exit ?_)
  refine vw_loopW (fun m f own => ∃ (i : Nat) (c : Int) (ns : List Own), i ≤ ls.length ∧ m = ls.length - i ∧ c = k0 + sumLen (ls.take i) ∧ f 5 = .int .i64 i ∧ f 1 = .int .i64 c ∧ f 0 = .slice p ls.length cap ∧ Go.VL.RowsAt 2 (mkTo k0 ls i) vs ns ∧ own = outer ++ ns.flatten) ls.length
    ⟨_, ole_refl, 0, k0, ns, by omega, by omega, by simp [sumLen], rfl, rfl, rfl, by rw [mkTo_zero]; exact hR, rfl⟩ ?_
  rintro m f own ⟨i, c, ns, hi, rfl, hcc, h5, h1', h0', hR, rfl⟩
  rw [upd_of h0', upd_of h1', upd_of h5]
  repeat (first | refine vops_q tyOk rfl ?_ | refine vops_nil ?_ | refine vw_seq ?_ | refine vw_region (by kernel_rfl) ?_ | refine vops_guardT rfl rfl ?_ | refine vops_guardF rfl rfl ?_ | refine vops_guardU rfl rfl ?_ | with_reducible refine bs_nbeq rfl ?_ | with_reducible refine bs_true ?_ | with_reducible refine bs_false ?_ | with_reducible refine bs_ntrue ?_ | with_reducible refine bs_nfalse ?_ | refine vops_p tyOk rfl (by (try simp only [inR]); omega) ?_ | refine vw_cond rfl ?_ | refine vw_skip ?_ | refine vw_block ?_ | refine vw_ret ?_ | refine vw_exit ?_)
  refine bs_dec (fun h4 => ?_) (fun h4 => ?_)
  · obtain ⟨l, hli⟩ : ∃ l, ls[i]? = some l := ⟨_, List.getElem?_eq_getElem (by omega)⟩
    have hlm := sumLen_mem (List.mem_of_getElem? hli)
    have hst := sum_step hli
    have hle := sumLen_take_le ls i
    obtain ⟨u, n, ns1, ns2, hu, rfl, hn, hnext⟩ := RowsAt.split hR (mkTo_get hli)
    obtain ⟨bo, e1, e2, hc1, hc2⟩ : ∃ bo, p = some ⟨bo, 0, none⟩ ∧ outer = [(bo, ⟨vs, 40, cap * 1, none⟩)] ∧ ls.length ≤ cap ∧ cap ≤ maxLen := by
      rcases hO.2 with ⟨_, h, _⟩ | ⟨bo, cap', h, h2, h3, h4⟩
      · omega
      · cases h; exact ⟨bo, rfl, h4, h2, h3⟩
    subst e1; subst e2
    obtain ⟨pu, cu, rfl⟩ := SlAt.form hn
    have hpm : ([(bo, (⟨vs, 40, cap * 1, none⟩ : Blk))] ++ (ns1 ++ n :: ns2).flatten).Perm (n ++ ((bo, ⟨vs, 40, cap * 1, none⟩) :: (ns1.flatten ++ ns2.flatten))) := by
      rw [List.flatten_append, List.flatten_cons]
      show ((bo, _) :: (ns1.flatten ++ (n ++ ns2.flatten))).Perm _
      refine (List.Perm.cons _ ?_).trans List.perm_middle.symm
      rw [← List.append_assoc, ← List.append_assoc]
      exact List.perm_append_comm.append_right _
    have hcell : vs[0 + (i : Int).toNat]? = some (.slice pu l.length cu) := by rw [show 0 + (i : Int).toNat = i by omega]; exact hu
    repeat (first | refine vops_q tyOk rfl ?_ | refine vops_nil ?_ | refine vw_seq ?_ | refine vw_region (by kernel_rfl) ?_ | refine vops_guardT rfl rfl ?_ | refine vops_guardF rfl rfl ?_ | refine vops_guardU rfl rfl ?_ | with_reducible refine bs_nbeq rfl ?_ | with_reducible refine bs_true ?_ | with_reducible refine bs_false ?_ | with_reducible refine bs_ntrue ?_ | with_reducible refine bs_nfalse ?_ | refine vops_p tyOk rfl (by (try simp only [inR]); omega) ?_ | refine vw_cond rfl ?_ | refine vw_skip ?_ | refine vw_block ?_ | refine vw_ret ?_ | refine vw_exit ?_ | refine vops_loadM tyOk rfl rfl rfl (List.mem_cons_self) (by exact hcell) ?_ | (refine vops_callM ent26 rfl hpm (fun w' hg => c_markInt64S _ l.length l c n w' (NewI.f hn) (okS hg) (by omega) (by omega) (by omega)) ?_; rintro _ newM ⟨rfl, hF⟩))
    refine ⟨ls.length - (i + 1), by omega, [(bo, ⟨vs, 40, cap * 1, none⟩)] ++ (ns1 ++ newM :: ns2).flatten, ?_, i + 1, c + (l.length * 1 : Nat), ns1 ++ newM :: ns2, by omega, rfl, by omega, rfl, rfl, rfl, ?_, rfl⟩
    · rw [List.flatten_append, List.flatten_cons]
      refine ole_perm (List.Perm.symm ?_)
      show ((bo, _) :: (ns1.flatten ++ (newM ++ ns2.flatten))).Perm (newM ++ ((bo, _) :: (ns1.flatten ++ ns2.flatten)))
      refine (List.Perm.cons _ ?_).trans List.perm_middle.symm
      rw [← List.append_assoc, ← List.append_assoc]
      exact List.perm_append_comm.append_right _
    · rw [← mkTo_set hli, ← hcc]
      refine hnext _ _ ?_
      rw [Nat.mul_one] at hF
      unfold NewI; rw [iota_length]; exact hF
  · obtain rfl : i = ls.length := by omega
    refine vw_nodup (fun hnd => ?_)
    repeat (first | refine vops_q tyOk rfl ?_ | refine vops_nil ?_ | refine vw_seq ?_ | refine vw_region (by kernel_rfl) ?_ | refine vops_guardT rfl rfl ?_ | refine vops_guardF rfl rfl ?_ | refine vops_guardU rfl rfl ?_ | with_reducible refine bs_nbeq rfl ?_ | with_reducible refine bs_true ?_ | with_reducible refine bs_false ?_ | with_reducible refine bs_ntrue ?_ | with_reducible refine bs_nfalse ?_ | refine vops_p tyOk rfl (by (try simp only [inR]); omega) ?_ | refine vw_cond rfl ?_ | refine vw_skip ?_ | refine vw_block ?_ | refine vw_ret ?_ | refine vw_exit ?_)
    rw [mkTo_all] at hR
    refine out1 rfl rfl (new := outer ++ ns.flatten) hnd (fun _ h => h) ⟨by show Value.int .i64 c = _; rw [hcc, List.take_length], vs, ns, outer, hR, by rw [markLL_length]; exact hO, rfl⟩
end Go.Proofs.YtgaaiplodbnnjaaDoor

/- A part of the proof: P41. No conditions of its own. -/
namespace Go.Proofs.YtgaaiplodbnnjaaDoor
open Go.VL
attribute [local irreducible] VWr VOps VD Calls

theorem sumLen_take {ls : List (List Int)} {i : Nat} {l : List Int} (h : ls[i]? = some l) : sumLen (ls.take (i + 1)) = sumLen (ls.take i) + l.length := by
  induction ls generalizing i with
  | nil => simp at h
  | cons a r ih =>
    cases i with
    | zero => simp at h; subst h; simp [sumLen]
    | succ i =>
      have := ih (i := i) (by simpa using h)
      simp only [List.take_succ_cons, sumLen, this]; omega
/-- What is left of a bound when the sizes have been taken off it. -/
def LeftT (ls : List (List Int)) (left : Int) (v : Value) (new : Own) : Prop := new = [] ∧ ∃ r : Int, v = .int .i64 r ∧ (r = -1 ∨ (0 ≤ r ∧ r ≤ left ∧ (ls.length : Int) ≤ left ∧ (sumLen ls : Int) ≤ left ∧ ∀ l ∈ ls, (l.length : Int) ≤ left))
set_option maxRecDepth 100000 in
theorem c_szII (v : Value) (ls : List (List Int)) (left : Int) (w : World) (hv : RdII w v ls) (hl : ls.length ≤ maxLen) (hll : ∀ l ∈ ls, l.length ≤ maxLen) (h0 : 0 ≤ left) (h1 : left ≤ 1048576) :
    Calls Tryd.prog 7 [v, .int .i64 left].toArray w (Res w (LeftT ls left)) := by
  obtain ⟨a, cap, rfl⟩ := hv.len
  have hl' : (ls.length : Int) ≤ 9223372036854775807 := by simp only [maxLen] at hl; omega
  refine calls_of_vw Tryd.func7 rfl Tryd.ntmps7 (by simp) ?_
  repeat (first | refine vops_q tyOk rfl ?_ | refine vops_nil ?_ | refine vw_seq ?_ | refine vw_region (by kernel_rfl) ?_ | refine vops_guardT rfl rfl ?_ | refine vops_guardF rfl rfl ?_ | refine vops_guardU rfl rfl ?_ | with_reducible refine bs_nbeq rfl ?_ | with_reducible refine bs_true ?_ | with_reducible refine bs_false ?_ | with_reducible refine bs_ntrue ?_ | with_reducible refine bs_nfalse ?_ | refine vops_p tyOk rfl (by (try simp only [inR]); omega) ?_ | refine vw_cond rfl ?_ | refine vw_skip ?_ | refine vw_block ?_ | refine vw_ret ?_ | refine vw_exit ?_ | ((show VOps _ _ _ _ (⟨some _, Go.Op.load _ _, _, _, _, none⟩ :: _) _ _); first | refine vops_loadM tyOk rfl rfl rfl (by repeat (first | exact mem_here | apply mem_next | apply mem_past)) (by rfl) ?_ | refine vops_loadM tyOk rfl rfl rfl (by repeat (first | exact mem_here | apply mem_next | apply mem_past)) (by exact ints_get0 (by omega)) ?_ | refine vops_loadNM tyOk rfl rfl rfl (by repeat (first | exact mem_here | apply mem_next | apply mem_past)) (by first | rfl | (rw [ints_length]; first | assumption | omega | (rw [ints_length]; first | assumption | omega | simp [*])) | simp [*]) ?_) | ((show VOps _ _ _ _ (⟨none, Go.Op.store _ _ _, _, _, _, none⟩ :: _) _ _); first | refine vops_storeIM tyOk rfl rfl rfl rfl (by repeat (first | exact upd_here | apply upd_next | apply upd_past)) (by omega) ?_ | refine vops_storeM tyOk rfl rfl rfl rfl rfl (by repeat (first | exact upd_here | apply upd_next | apply upd_past)) (by simp) ?_ | refine vops_storeAM tyOk rfl rfl rfl (by first | rfl | (rw [ints_length]; first | assumption | omega | (rw [ints_length]; first | assumption | omega | simp [*])) | simp [*]) (by first | exact ints_one | simp [Value.oneCell']) (by repeat (first | exact upd_here | apply upd_next | apply upd_past)) (by first | rfl | (rw [ints_length]; first | assumption | omega | (rw [ints_length]; first | assumption | omega | simp [*])) | simp [*]) ?_) | refine vops_build2 rfl rfl (by kernel_rfl) ?_ | refine vops_buildZ tyOk rfl (by kernel_rfl) ?_ | refine vops_slice tyOk rfl rfl rfl rfl rfl (by omega) ?_)
  refine bs_dec (fun h => ?_) (fun h => ?_)
  · repeat (first | refine vops_q tyOk rfl ?_ | refine vops_nil ?_ | refine vw_seq ?_ | refine vw_region (by kernel_rfl) ?_ | refine vops_guardT rfl rfl ?_ | refine vops_guardF rfl rfl ?_ | refine vops_guardU rfl rfl ?_ | with_reducible refine bs_nbeq rfl ?_ | with_reducible refine bs_true ?_ | with_reducible refine bs_false ?_ | with_reducible refine bs_ntrue ?_ | with_reducible refine bs_nfalse ?_ | refine vops_p tyOk rfl (by (try simp only [inR]); omega) ?_ | refine vw_cond rfl ?_ | refine vw_skip ?_ | refine vw_block ?_ | refine vw_ret ?_ | refine vw_exit ?_ | ((show VOps _ _ _ _ (⟨some _, Go.Op.load _ _, _, _, _, none⟩ :: _) _ _); first | refine vops_loadM tyOk rfl rfl rfl (by repeat (first | exact mem_here | apply mem_next | apply mem_past)) (by rfl) ?_ | refine vops_loadM tyOk rfl rfl rfl (by repeat (first | exact mem_here | apply mem_next | apply mem_past)) (by exact ints_get0 (by omega)) ?_ | refine vops_loadNM tyOk rfl rfl rfl (by repeat (first | exact mem_here | apply mem_next | apply mem_past)) (by first | rfl | (rw [ints_length]; first | assumption | omega | (rw [ints_length]; first | assumption | omega | simp [*])) | simp [*]) ?_) | ((show VOps _ _ _ _ (⟨none, Go.Op.store _ _ _, _, _, _, none⟩ :: _) _ _); first | refine vops_storeIM tyOk rfl rfl rfl rfl (by repeat (first | exact upd_here | apply upd_next | apply upd_past)) (by omega) ?_ | refine vops_storeM tyOk rfl rfl rfl rfl rfl (by repeat (first | exact upd_here | apply upd_next | apply upd_past)) (by simp) ?_ | refine vops_storeAM tyOk rfl rfl rfl (by first | rfl | (rw [ints_length]; first | assumption | omega | (rw [ints_length]; first | assumption | omega | simp [*])) | simp [*]) (by first | exact ints_one | simp [Value.oneCell']) (by repeat (first | exact upd_here | apply upd_next | apply upd_past)) (by first | rfl | (rw [ints_length]; first | assumption | omega | (rw [ints_length]; first | assumption | omega | simp [*])) | simp [*]) ?_) | refine vops_build2 rfl rfl (by kernel_rfl) ?_ | refine vops_buildZ tyOk rfl (by kernel_rfl) ?_ | refine vops_slice tyOk rfl rfl rfl rfl rfl (by omega) ?_)
    exact out1 rfl rfl (new := []) List.nodup_nil sub_nil ⟨rfl, -1, rfl, .inl rfl⟩
  repeat (first | refine vops_q tyOk rfl ?_ | refine vops_nil ?_ | refine vw_seq ?_ | refine vw_region (by kernel_rfl) ?_ | refine vops_guardT rfl rfl ?_ | refine vops_guardF rfl rfl ?_ | refine vops_guardU rfl rfl ?_ | with_reducible refine bs_nbeq rfl ?_ | with_reducible refine bs_true ?_ | with_reducible refine bs_false ?_ | with_reducible refine bs_ntrue ?_ | with_reducible refine bs_nfalse ?_ | refine vops_p tyOk rfl (by (try simp only [inR]); omega) ?_ | refine vw_cond rfl ?_ | refine vw_skip ?_ | refine vw_block ?_ | refine vw_ret ?_ | refine vw_exit ?_ | ((show VOps _ _ _ _ (⟨some _, Go.Op.load _ _, _, _, _, none⟩ :: _) _ _); first | refine vops_loadM tyOk rfl rfl rfl (by repeat (first | exact mem_here | apply mem_next | apply mem_past)) (by rfl) ?_ | refine vops_loadM tyOk rfl rfl rfl (by repeat (first | exact mem_here | apply mem_next | apply mem_past)) (by exact ints_get0 (by omega)) ?_ | refine vops_loadNM tyOk rfl rfl rfl (by repeat (first | exact mem_here | apply mem_next | apply mem_past)) (by first | rfl | (rw [ints_length]; first | assumption | omega | (rw [ints_length]; first | assumption | omega | simp [*])) | simp [*]) ?_) | ((show VOps _ _ _ _ (⟨none, Go.Op.store _ _ _, _, _, _, none⟩ :: _) _ _); first | refine vops_storeIM tyOk rfl rfl rfl rfl (by repeat (first | exact upd_here | apply upd_next | apply upd_past)) (by omega) ?_ | refine vops_storeM tyOk rfl rfl rfl rfl rfl (by repeat (first | exact upd_here | apply upd_next | apply upd_past)) (by simp) ?_ | refine vops_storeAM tyOk rfl rfl rfl (by first | rfl | (rw [ints_length]; first | assumption | omega | (rw [ints_length]; first | assumption | omega | simp [*])) | simp [*]) (by first | exact ints_one | simp [Value.oneCell']) (by repeat (first | exact upd_here | apply upd_next | apply upd_past)) (by first | rfl | (rw [ints_length]; first | assumption | omega | (rw [ints_length]; first | assumption | omega | simp [*])) | simp [*]) ?_) | refine vops_build2 rfl rfl (by kernel_rfl) ?_ | refine vops_buildZ tyOk rfl (by kernel_rfl) ?_ | refine vops_slice tyOk rfl rfl rfl rfl rfl (by omega) ?_)
  refine vw_loop (fun m f own => ∃ (i : Nat) (r : Int), i ≤ ls.length ∧ m = ls.length - i ∧ f 5 = .int .i64 i ∧ f 1 = .int .i64 r ∧ f 0 = .slice a ls.length cap ∧ own = [] ∧ 0 ≤ r ∧ r + sumLen (ls.take i) ≤ left ∧ ∀ (j : Nat) (l : List Int), j < i → ls[j]? = some l → (l.length : Int) ≤ left) ls.length
    ⟨0, _, by omega, by omega, rfl, rfl, rfl, rfl, by omega, by rw [List.take_zero]; simp only [sumLen]; omega, fun j l hj => by omega⟩ ?_
  rintro m f own ⟨i, r, hi, rfl, h5, h1', h0', rfl, hr0, hr1, hall⟩
  rw [upd_of h5, upd_of h1', upd_of h0']
  repeat (first | refine vops_q tyOk rfl ?_ | refine vops_nil ?_ | refine vw_seq ?_ | refine vw_region (by kernel_rfl) ?_ | refine vops_guardT rfl rfl ?_ | refine vops_guardF rfl rfl ?_ | refine vops_guardU rfl rfl ?_ | with_reducible refine bs_nbeq rfl ?_ | with_reducible refine bs_true ?_ | with_reducible refine bs_false ?_ | with_reducible refine bs_ntrue ?_ | with_reducible refine bs_nfalse ?_ | refine vops_p tyOk rfl (by (try simp only [inR]); omega) ?_ | refine vw_cond rfl ?_ | refine vw_skip ?_ | refine vw_block ?_ | refine vw_ret ?_ | refine vw_exit ?_ | ((show VOps _ _ _ _ (⟨some _, Go.Op.load _ _, _, _, _, none⟩ :: _) _ _); first | refine vops_loadM tyOk rfl rfl rfl (by repeat (first | exact mem_here | apply mem_next | apply mem_past)) (by rfl) ?_ | refine vops_loadM tyOk rfl rfl rfl (by repeat (first | exact mem_here | apply mem_next | apply mem_past)) (by exact ints_get0 (by omega)) ?_ | refine vops_loadNM tyOk rfl rfl rfl (by repeat (first | exact mem_here | apply mem_next | apply mem_past)) (by first | rfl | (rw [ints_length]; first | assumption | omega | (rw [ints_length]; first | assumption | omega | simp [*])) | simp [*]) ?_) | ((show VOps _ _ _ _ (⟨none, Go.Op.store _ _ _, _, _, _, none⟩ :: _) _ _); first | refine vops_storeIM tyOk rfl rfl rfl rfl (by repeat (first | exact upd_here | apply upd_next | apply upd_past)) (by omega) ?_ | refine vops_storeM tyOk rfl rfl rfl rfl rfl (by repeat (first | exact upd_here | apply upd_next | apply upd_past)) (by simp) ?_ | refine vops_storeAM tyOk rfl rfl rfl (by first | rfl | (rw [ints_length]; first | assumption | omega | (rw [ints_length]; first | assumption | omega | simp [*])) | simp [*]) (by first | exact ints_one | simp [Value.oneCell']) (by repeat (first | exact upd_here | apply upd_next | apply upd_past)) (by first | rfl | (rw [ints_length]; first | assumption | omega | (rw [ints_length]; first | assumption | omega | simp [*])) | simp [*]) ?_) | refine vops_build2 rfl rfl (by kernel_rfl) ?_ | refine vops_buildZ tyOk rfl (by kernel_rfl) ?_ | refine vops_slice tyOk rfl rfl rfl rfl rfl (by omega) ?_)
  refine bs_dec (fun h4 => ?_) (fun h4 => ?_)
  · obtain ⟨l, hli⟩ : ∃ l, ls[i]? = some l := ⟨_, List.getElem?_eq_getElem (by omega)⟩
    have hl2 := hll l (List.mem_of_getElem? hli)
    obtain ⟨b', o, cap', u, he, hcu, hu⟩ := hv.at hli
    cases he
    obtain ⟨a2, cap2, rfl⟩ := hu.len
    have hst := sumLen_take hli
    obtain ⟨q, hq⟩ : ∃ q : Int, q = (if r - (l.length : Int) < 0 then -1 else r - l.length) := ⟨_, rfl⟩
    have hq2 : q = -1 ∧ r - (l.length : Int) < 0 ∨ 0 ≤ q ∧ q = r - l.length := by
      by_cases hc : r - (l.length : Int) < 0
      · rw [if_pos hc] at hq; exact .inl ⟨hq, hc⟩
      · rw [if_neg hc] at hq; exact .inr ⟨by omega, hq⟩
    have hcs : ∀ w', Calls Tryd.prog 29 [.slice a2 l.length cap2, .int .i64 r].toArray w' (Res w' (Is (.int .i64 q))) := fun w' => by
      have := c_szInt64S a2 l.length cap2 r hl2 hr0 (by omega) w'
      rw [← hq] at this; exact this
    repeat (first | refine vops_q tyOk rfl ?_ | refine vops_nil ?_ | refine vw_seq ?_ | refine vw_region (by kernel_rfl) ?_ | refine vops_guardT rfl rfl ?_ | refine vops_guardF rfl rfl ?_ | refine vops_guardU rfl rfl ?_ | with_reducible refine bs_nbeq rfl ?_ | with_reducible refine bs_true ?_ | with_reducible refine bs_false ?_ | with_reducible refine bs_ntrue ?_ | with_reducible refine bs_nfalse ?_ | refine vops_p tyOk rfl (by (try simp only [inR]); omega) ?_ | refine vw_cond rfl ?_ | refine vw_skip ?_ | refine vw_block ?_ | refine vw_ret ?_ | refine vw_exit ?_ | refine vops_load tyOk rfl rfl rfl (sees_old hcu (by simp)) ?_ | (apply vops_callp ent29 rfl; (intro w' hg; exact hcs w')) | ((show VOps _ _ _ _ (⟨some _, Go.Op.load _ _, _, _, _, none⟩ :: _) _ _); first | refine vops_loadM tyOk rfl rfl rfl (by repeat (first | exact mem_here | apply mem_next | apply mem_past)) (by rfl) ?_ | refine vops_loadM tyOk rfl rfl rfl (by repeat (first | exact mem_here | apply mem_next | apply mem_past)) (by exact ints_get0 (by omega)) ?_ | refine vops_loadNM tyOk rfl rfl rfl (by repeat (first | exact mem_here | apply mem_next | apply mem_past)) (by first | rfl | (rw [ints_length]; first | assumption | omega | (rw [ints_length]; first | assumption | omega | simp [*])) | simp [*]) ?_) | ((show VOps _ _ _ _ (⟨none, Go.Op.store _ _ _, _, _, _, none⟩ :: _) _ _); first | refine vops_storeIM tyOk rfl rfl rfl rfl (by repeat (first | exact upd_here | apply upd_next | apply upd_past)) (by omega) ?_ | refine vops_storeM tyOk rfl rfl rfl rfl rfl (by repeat (first | exact upd_here | apply upd_next | apply upd_past)) (by simp) ?_ | refine vops_storeAM tyOk rfl rfl rfl (by first | rfl | (rw [ints_length]; first | assumption | omega | (rw [ints_length]; first | assumption | omega | simp [*])) | simp [*]) (by first | exact ints_one | simp [Value.oneCell']) (by repeat (first | exact upd_here | apply upd_next | apply upd_past)) (by first | rfl | (rw [ints_length]; first | assumption | omega | (rw [ints_length]; first | assumption | omega | simp [*])) | simp [*]) ?_) | refine vops_build2 rfl rfl (by kernel_rfl) ?_ | refine vops_buildZ tyOk rfl (by kernel_rfl) ?_ | refine vops_slice tyOk rfl rfl rfl rfl rfl (by omega) ?_)
    refine bs_dec (fun h6 => ?_) (fun h6 => ?_)
    · repeat (first | refine vops_q tyOk rfl ?_ | refine vops_nil ?_ | refine vw_seq ?_ | refine vw_region (by kernel_rfl) ?_ | refine vops_guardT rfl rfl ?_ | refine vops_guardF rfl rfl ?_ | refine vops_guardU rfl rfl ?_ | with_reducible refine bs_nbeq rfl ?_ | with_reducible refine bs_true ?_ | with_reducible refine bs_false ?_ | with_reducible refine bs_ntrue ?_ | with_reducible refine bs_nfalse ?_ | refine vops_p tyOk rfl (by (try simp only [inR]); omega) ?_ | refine vw_cond rfl ?_ | refine vw_skip ?_ | refine vw_block ?_ | refine vw_ret ?_ | refine vw_exit ?_ | ((show VOps _ _ _ _ (⟨some _, Go.Op.load _ _, _, _, _, none⟩ :: _) _ _); first | refine vops_loadM tyOk rfl rfl rfl (by repeat (first | exact mem_here | apply mem_next | apply mem_past)) (by rfl) ?_ | refine vops_loadM tyOk rfl rfl rfl (by repeat (first | exact mem_here | apply mem_next | apply mem_past)) (by exact ints_get0 (by omega)) ?_ | refine vops_loadNM tyOk rfl rfl rfl (by repeat (first | exact mem_here | apply mem_next | apply mem_past)) (by first | rfl | (rw [ints_length]; first | assumption | omega | (rw [ints_length]; first | assumption | omega | simp [*])) | simp [*]) ?_) | ((show VOps _ _ _ _ (⟨none, Go.Op.store _ _ _, _, _, _, none⟩ :: _) _ _); first | refine vops_storeIM tyOk rfl rfl rfl rfl (by repeat (first | exact upd_here | apply upd_next | apply upd_past)) (by omega) ?_ | refine vops_storeM tyOk rfl rfl rfl rfl rfl (by repeat (first | exact upd_here | apply upd_next | apply upd_past)) (by simp) ?_ | refine vops_storeAM tyOk rfl rfl rfl (by first | rfl | (rw [ints_length]; first | assumption | omega | (rw [ints_length]; first | assumption | omega | simp [*])) | simp [*]) (by first | exact ints_one | simp [Value.oneCell']) (by repeat (first | exact upd_here | apply upd_next | apply upd_past)) (by first | rfl | (rw [ints_length]; first | assumption | omega | (rw [ints_length]; first | assumption | omega | simp [*])) | simp [*]) ?_) | refine vops_build2 rfl rfl (by kernel_rfl) ?_ | refine vops_buildZ tyOk rfl (by kernel_rfl) ?_ | refine vops_slice tyOk rfl rfl rfl rfl rfl (by omega) ?_)
      exact out1 rfl rfl (new := []) List.nodup_nil sub_nil ⟨rfl, -1, rfl, .inl rfl⟩
    repeat (first | refine vops_q tyOk rfl ?_ | refine vops_nil ?_ | refine vw_seq ?_ | refine vw_region (by kernel_rfl) ?_ | refine vops_guardT rfl rfl ?_ | refine vops_guardF rfl rfl ?_ | refine vops_guardU rfl rfl ?_ | with_reducible refine bs_nbeq rfl ?_ | with_reducible refine bs_true ?_ | with_reducible refine bs_false ?_ | with_reducible refine bs_ntrue ?_ | with_reducible refine bs_nfalse ?_ | refine vops_p tyOk rfl (by (try simp only [inR]); omega) ?_ | refine vw_cond rfl ?_ | refine vw_skip ?_ | refine vw_block ?_ | refine vw_ret ?_ | refine vw_exit ?_ | ((show VOps _ _ _ _ (⟨some _, Go.Op.load _ _, _, _, _, none⟩ :: _) _ _); first | refine vops_loadM tyOk rfl rfl rfl (by repeat (first | exact mem_here | apply mem_next | apply mem_past)) (by rfl) ?_ | refine vops_loadM tyOk rfl rfl rfl (by repeat (first | exact mem_here | apply mem_next | apply mem_past)) (by exact ints_get0 (by omega)) ?_ | refine vops_loadNM tyOk rfl rfl rfl (by repeat (first | exact mem_here | apply mem_next | apply mem_past)) (by first | rfl | (rw [ints_length]; first | assumption | omega | (rw [ints_length]; first | assumption | omega | simp [*])) | simp [*]) ?_) | ((show VOps _ _ _ _ (⟨none, Go.Op.store _ _ _, _, _, _, none⟩ :: _) _ _); first | refine vops_storeIM tyOk rfl rfl rfl rfl (by repeat (first | exact upd_here | apply upd_next | apply upd_past)) (by omega) ?_ | refine vops_storeM tyOk rfl rfl rfl rfl rfl (by repeat (first | exact upd_here | apply upd_next | apply upd_past)) (by simp) ?_ | refine vops_storeAM tyOk rfl rfl rfl (by first | rfl | (rw [ints_length]; first | assumption | omega | (rw [ints_length]; first | assumption | omega | simp [*])) | simp [*]) (by first | exact ints_one | simp [Value.oneCell']) (by repeat (first | exact upd_here | apply upd_next | apply upd_past)) (by first | rfl | (rw [ints_length]; first | assumption | omega | (rw [ints_length]; first | assumption | omega | simp [*])) | simp [*]) ?_) | refine vops_build2 rfl rfl (by kernel_rfl) ?_ | refine vops_buildZ tyOk rfl (by kernel_rfl) ?_ | refine vops_slice tyOk rfl rfl rfl rfl rfl (by omega) ?_)
    refine ⟨ls.length - (i + 1), by omega, i + 1, q, by omega, rfl, rfl, rfl, rfl, rfl, by omega, by rw [sumLen_take hli]; omega, fun j l' hj hj2 => ?_⟩
    by_cases hji : j = i
    · subst hji
      have : l = l' := Option.some.inj (hli.symm.trans hj2)
      subst this; omega
    · exact hall j l' (by omega) hj2
  · repeat (first | refine vops_q tyOk rfl ?_ | refine vops_nil ?_ | refine vw_seq ?_ | refine vw_region (by kernel_rfl) ?_ | refine vops_guardT rfl rfl ?_ | refine vops_guardF rfl rfl ?_ | refine vops_guardU rfl rfl ?_ | with_reducible refine bs_nbeq rfl ?_ | with_reducible refine bs_true ?_ | with_reducible refine bs_false ?_ | with_reducible refine bs_ntrue ?_ | with_reducible refine bs_nfalse ?_ | refine vops_p tyOk rfl (by (try simp only [inR]); omega) ?_ | refine vw_cond rfl ?_ | refine vw_skip ?_ | refine vw_block ?_ | refine vw_ret ?_ | refine vw_exit ?_ | ((show VOps _ _ _ _ (⟨some _, Go.Op.load _ _, _, _, _, none⟩ :: _) _ _); first | refine vops_loadM tyOk rfl rfl rfl (by repeat (first | exact mem_here | apply mem_next | apply mem_past)) (by rfl) ?_ | refine vops_loadM tyOk rfl rfl rfl (by repeat (first | exact mem_here | apply mem_next | apply mem_past)) (by exact ints_get0 (by omega)) ?_ | refine vops_loadNM tyOk rfl rfl rfl (by repeat (first | exact mem_here | apply mem_next | apply mem_past)) (by first | rfl | (rw [ints_length]; first | assumption | omega | (rw [ints_length]; first | assumption | omega | simp [*])) | simp [*]) ?_) | ((show VOps _ _ _ _ (⟨none, Go.Op.store _ _ _, _, _, _, none⟩ :: _) _ _); first | refine vops_storeIM tyOk rfl rfl rfl rfl (by repeat (first | exact upd_here | apply upd_next | apply upd_past)) (by omega) ?_ | refine vops_storeM tyOk rfl rfl rfl rfl rfl (by repeat (first | exact upd_here | apply upd_next | apply upd_past)) (by simp) ?_ | refine vops_storeAM tyOk rfl rfl rfl (by first | rfl | (rw [ints_length]; first | assumption | omega | (rw [ints_length]; first | assumption | omega | simp [*])) | simp [*]) (by first | exact ints_one | simp [Value.oneCell']) (by repeat (first | exact upd_here | apply upd_next | apply upd_past)) (by first | rfl | (rw [ints_length]; first | assumption | omega | (rw [ints_length]; first | assumption | omega | simp [*])) | simp [*]) ?_) | refine vops_build2 rfl rfl (by kernel_rfl) ?_ | refine vops_buildZ tyOk rfl (by kernel_rfl) ?_ | refine vops_slice tyOk rfl rfl rfl rfl rfl (by omega) ?_)
    refine out1 rfl rfl (new := []) List.nodup_nil sub_nil ⟨rfl, r, rfl, .inr ⟨hr0, by omega, by omega, by rw [List.take_of_length_le (by omega)] at hr1; omega, fun l hl => ?_⟩⟩
    obtain ⟨j, hj⟩ := List.mem_iff_getElem?.1 hl
    exact hall j l (by have := (List.getElem?_eq_some_iff.1 hj).1; omega) hj

end Go.Proofs.YtgaaiplodbnnjaaDoor

