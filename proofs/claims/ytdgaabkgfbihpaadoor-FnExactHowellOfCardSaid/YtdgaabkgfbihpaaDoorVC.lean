import Derived.Test.YtdgaabkgfbihpaaDoorVB
import Derived.Test.YtdgaabkgfbihpaaDoorSQ
import Derived.Test.YtdgaabkgfbihpaaDoorVLArr
import Derived.Test.YtdgaabkgfbihpaaDoorSX
import Derived.Test.YtdgaabkgfbihpaaDoorDR
/- Parts of the proof, one after another. No conditions of their own. -/
/- A part of the proof: V9. No conditions of its own. -/
namespace Go.Proofs.YtdgaabkgfbihpaaDoor
open Go.VL
attribute [local irreducible] VWr VOps VD Calls

def seatH (M r : Nat) (ls : List (List Int)) (ad : List Int) (i : Nat) : List Int := [((ls.getD i []).getD 0 0 + r) % M, ((ls.getD i []).getD 1 0 + r) % M, ((r : Int) - ad.getD i 0 + M) % M]
def rowH (M r : Nat) (ls : List (List Int)) (ad : List Int) : Nat → List Int
  | 0 => [(M : Int), (r : Int), (r : Int)]
  | k + 1 => rowH M r ls ad k ++ seatH M r ls ad k
theorem rowH_length (M r : Nat) (ls : List (List Int)) (ad : List Int) : ∀ k, (rowH M r ls ad k).length = 3 * (k + 1)
  | 0 => rfl
  | k + 1 => by rw [rowH, List.length_append, rowH_length M r ls ad k]; show 3 * (k + 1) + 3 = _; omega
/-- What is known of a starter's pairs and its adder. -/
structure HowOk (M : Nat) (ls : List (List Int)) (ad : List Int) : Prop where
  m3 : 3 ≤ M
  m13 : M ≤ 13
  len : ad.length = ls.length
  few : ls.length ≤ 6
  pair : ∀ i, i < ls.length → (ls.getD i []).length = 2 ∧ 0 ≤ (ls.getD i []).getD 0 0 ∧ (ls.getD i []).getD 0 0 < M ∧ 0 ≤ (ls.getD i []).getD 1 0 ∧ (ls.getD i []).getD 1 0 < M
  add : ∀ i, i < ls.length → 1 ≤ ad.getD i 0 ∧ ad.getD i 0 < M
set_option maxRecDepth 100000 in
theorem c_hsizes (M : Nat) (v u : Value) (h13 : M ≤ 13) (_h1 : v.oneCell' = true) (_h2 : u.oneCell' = true) (w : World) : Calls Tryd.prog 66 [.agg #[.int .i64 M, v, u]].toArray w (Res w (Is (.tuple #[.int .i64 ((M + 1 : Nat) : Int), .int .i64 M, .int .i64 M]))) := by
  refine calls_of_vw Tryd.func66 rfl Tryd.ntmps66 (by simp) ?_
  refine vw_seq (vw_region (by kernel_rfl) (vops_box [.int .i64 (M : Int), v, u] rfl (fun b1 hb1 => ?_)))
  repeat (first | refine vops_q tyOk rfl ?_ | refine vops_nil ?_ | refine vw_seq ?_)
  refine vw_draw [0, 1, 2, 3, 4, 5, 6, 7, 8, 9] (by kernel_rfl) (by kernel_rfl) (by kernel_rfl) rfl ?_
  repeat' (first | refine vd_q tyOk rfl (by first | trivial | rfl) rfl (by kernel_rfl) (by kernel_rfl) ?_ | refine vd_p tyOk rfl (by first | trivial | rfl) rfl (by kernel_rfl) (by kernel_rfl) (by (try simp only [inR]); omega) ?_ | refine vd_nil (by kernel_rfl) ?_ | refine vd_load tyOk rfl (by first | trivial | rfl) rfl rfl rfl (by kernel_rfl) (by kernel_rfl) (by kernel_rfl) (sees_mem (by repeat (first | exact mem_here | apply mem_next | apply mem_past)) (by rfl)) (by repeat (first | exact sub_hereL | exact sub_refl | apply sub_cons | apply sub_app)) ?_)
  repeat (first | refine vw_ret ?_)
  exact out_i3 rfl rfl rfl rfl (r := (((M + 1 : Nat) : Int), (M : Int), (M : Int))) (by push_cast; rfl)
set_option maxHeartbeats 2000000 in
set_option maxRecDepth 100000 in
theorem c_hnumbersIn (M r : Nat) (ls : List (List Int)) (ad : List Int) (v u : Value) (hO : HowOk M ls ad) (hr : r < M) (w : World) (hv : RdII w v ls) (hu : RdI w u ad) :
    Calls Tryd.prog 65 [.agg #[.int .i64 M, v, u], .int .i64 r].toArray w (Res w (NewI 2 (rowH M r ls ad ls.length))) := by
  have h3 := hO.m3
  have h13 := hO.m13
  have hlen := hO.len
  have hfew := hO.few
  obtain ⟨a, cap, rfl⟩ := hv.len
  obtain ⟨ap, capp, rfl⟩ := hu.len
  refine calls_of_vw Tryd.func65 rfl Tryd.ntmps65 (by simp) ?_
  refine vw_seq (vw_region (by kernel_rfl) (vops_box [.int .i64 (M : Int), .slice a ls.length cap, .slice ap ad.length capp] rfl (fun b2 hb2 => ?_)))
  repeat (first | refine vops_q tyOk rfl ?_ | refine vops_nil ?_ | refine vw_seq ?_ | refine vw_region (by kernel_rfl) ?_ | refine vw_block ?_ | refine vops_litI [(M : Int), (r : Int), (r : Int)] tyOk rfl rfl (List.cons_ne_nil _ _) (by rfl) rfl (by omega) (by omega) (fun be hbe => ?_) | ((show VOps _ _ _ _ (⟨some _, Go.Op.load _ _, _, _, _, none⟩ :: _) _ _); refine vops_loadM tyOk rfl rfl rfl (by repeat (first | exact mem_here | apply mem_next | apply mem_past)) (by rfl) ?_))
  refine vw_loopW (fun y f own => ∃ (i : Nat) (p : Option Addr) (c : Nat) (newN : Own), i ≤ ls.length ∧ y = ls.length - i ∧ f 16 = .int .i64 i ∧ f 15 = .int .i64 ls.length ∧ f 14 = .slice a ls.length cap ∧ f 5 = .slice p (3 * (i + 1)) c ∧ f 2 = .pointer (some ⟨b2, 0, none⟩) ∧ f 1 = .int .i64 r ∧ NewF 2 1 (3 * (i + 1)) (rowH M r ls ad i) (.slice p (3 * (i + 1)) c) newN ∧
      own = newN ++ [(b2, ⟨[.int .i64 M, .slice a ls.length cap, .slice ap ad.length capp], 43, 3, none⟩)]) ls.length
    ⟨[(be, ⟨ints [(M : Int), (r : Int), (r : Int)], 2, 3, none⟩)] ++ [(b2, ⟨[.int .i64 M, .slice a ls.length cap, .slice ap ad.length capp], 43, 3, none⟩)], (by repeat (first | exact ole_nil | exact ole_refl | (apply ole_cons; (repeat (first | exact pm1_here | apply pm1_next | apply pm1_past))) | (apply ole_app; (repeat (first | exact pm_here | exact pm_last | apply pm_next | apply pm_past))))), 0, some ⟨be, 0, none⟩, 3, [(be, ⟨ints [(M : Int), (r : Int), (r : Int)], 2, 3, none⟩)], by omega, by omega, rfl, rfl, rfl, rfl, rfl, rfl, NewF.mk rfl (by omega) (by decide), rfl⟩ ?_
  rintro y f own ⟨i, p, c, newN, hi, rfl, h16, h15, h14, h5, h2, h1, hN, rfl⟩
  rw [upd_of h16, upd_of h15, upd_of h14, upd_of h5, upd_of h2, upd_of h1]
  repeat (first | refine vops_q tyOk rfl ?_ | refine vops_nil ?_ | refine vw_seq ?_ | refine vw_region (by kernel_rfl) ?_ | refine vw_cond rfl ?_)
  refine bs_dec (fun hlt => ?_) (fun hlt => ?_)
  · have hil : i < ls.length := by omega
    obtain ⟨hp2, hp00, hp01, hp10, hp11⟩ := hO.pair i hil
    obtain ⟨ha0, ha1⟩ := hO.add i hil
    have hgl : ls[i]? = some (ls.getD i []) := by rw [List.getD_eq_getElem?_getD, List.getElem?_eq_getElem hil]; rfl
    obtain ⟨b', o, cap', x, he, hcx, hx⟩ := hv.at hgl
    cases he
    obtain ⟨bp, op, cp, hxe, hpc⟩ := hx.at (i := 0) (by omega)
    subst hxe
    have hc0 := hpc 0 (by omega)
    have hc1 := hpc 1 (by omega)
    obtain ⟨bz, oz, cz, hzz, hcellz⟩ := hu.at (i := i) (by omega)
    cases hzz
    have hcz := hcellz i (by omega)
    have hrow : rowH M r ls ad i ++ [((ls.getD i []).getD 0 0 + r) % M, ((ls.getD i []).getD 1 0 + r) % M, ((r : Int) - ad.getD i 0 + M) % M] = rowH M r ls ad (i + 1) := rfl
    rw [hp2] at *
    obtain ⟨X, hX⟩ : ∃ X, X = (ls.getD i []).getD 0 0 := ⟨_, rfl⟩
    obtain ⟨Y, hY⟩ : ∃ Y, Y = (ls.getD i []).getD 1 0 := ⟨_, rfl⟩
    obtain ⟨A, hA⟩ : ∃ A, A = ad.getD i 0 := ⟨_, rfl⟩
    rw [← hX] at hp00 hp01 hc0 hrow
    rw [← hY] at hp10 hp11 hc1 hrow
    rw [← hA] at ha0 ha1 hcz hrow
    repeat (first | refine vops_q tyOk rfl ?_ | refine vops_nil ?_ | refine vw_seq ?_ | refine vw_region (by kernel_rfl) ?_ | refine vops_p tyOk rfl (by (try simp only [inR]); omega) ?_ | refine vw_skip ?_ | refine vw_block ?_ | refine vops_load tyOk rfl rfl rfl (sees_old hcx (by simp)) ?_)
    refine vw_drawB _ [0, 1, 2, 3, 4, 5, 6, 7, 8, 9, 10, 11, 12, 13, 14, 15, 16, 17, 18, 19, 20, 21, 22, 23, 24, 25, 26, 27, 28, 29, 30, 31, 32] (by kernel_rfl) (by kernel_rfl) (by kernel_rfl) rfl (by exact ole_sfx) ?_
    repeat' (first | refine vd_q tyOk rfl (by first | trivial | rfl) rfl (by kernel_rfl) (by kernel_rfl) ?_ | refine vd_p tyOk rfl (by first | trivial | rfl) rfl (by kernel_rfl) (by kernel_rfl) (by (try simp only [inR]); omega) ?_ | refine vops_nil ?_ | refine vd_nil (by kernel_rfl) ?_ | refine ⟨fun _ _ _ h => List.mem_cons_of_mem _ h, ?_⟩ | refine vd_load tyOk rfl (by first | trivial | rfl) rfl rfl rfl (by kernel_rfl) (by kernel_rfl) (by kernel_rfl) (sees_mem (by repeat (first | exact mem_here | apply mem_next | apply mem_past)) (by rfl)) (by repeat (first | exact sub_hereL | exact sub_refl | apply sub_cons | apply sub_app)) ?_ | refine ⟨fun _ p hp _ => (show Go.VL.Sub _ _ from (by repeat (first | exact sub_hereL | exact sub_refl | apply sub_cons | apply sub_app))) p hp, ?_⟩ | refine vd_load tyOk rfl (by first | trivial | rfl) rfl rfl rfl (by kernel_rfl) (by kernel_rfl) (by kernel_rfl) (sees_old hc0 (by simp)) (by repeat (first | exact sub_hereL | exact sub_refl | apply sub_cons | apply sub_app)) ?_ | refine vd_load tyOk rfl (by first | trivial | rfl) rfl rfl rfl (by kernel_rfl) (by kernel_rfl) (by kernel_rfl) (sees_old hc1 (by simp)) (by repeat (first | exact sub_hereL | exact sub_refl | apply sub_cons | apply sub_app)) ?_ | refine vd_load tyOk rfl (by first | trivial | rfl) rfl rfl rfl (by kernel_rfl) (by kernel_rfl) (by kernel_rfl) (sees_old hcz (by simp)) (by repeat (first | exact sub_hereL | exact sub_refl | apply sub_cons | apply sub_app)) ?_ | refine vops_litI [(X + r) % M, (Y + r) % M, ((r : Int) - A + M) % M] tyOk rfl rfl (List.cons_ne_nil _ _) (by rfl) rfl (by omega) (by omega) (fun bl hbl => ?_) | refine vops_appendL (k := 1) tyOk rfl rfl (List.cons_ne_nil _ _) rfl rfl (by decide) rfl hN (by repeat (first | exact pm_here | exact pm_last | apply pm_next | apply pm_past)) rfl (fun w' hg => rdI_F (rdI_lit (l := [(X + r) % M, (Y + r) % M, ((r : Int) - A + M) % M]) (by repeat (first | exact mem_here | apply mem_next | apply mem_past)) hg rfl)) (by omega) (fun p' cap' new' hN' => ?_) | refine vd_one rfl (by kernel_rfl) (by kernel_rfl) rfl ?_)
    rw [hrow] at hN'
    repeat (first | refine vops_q tyOk rfl ?_ | refine vops_nil ?_ | refine vw_region (by kernel_rfl) ?_ | refine vops_p tyOk rfl (by (try simp only [inR]); omega) ?_)
    exact ⟨ls.length - (i + 1), by omega, new' ++ [(b2, ⟨[.int .i64 M, .slice (some ⟨b', o, none⟩) ls.length cap, .slice (some ⟨bz, oz, none⟩) ad.length capp], 43, 3, none⟩)], (by repeat (first | exact ole_nil | exact ole_refl | (apply ole_cons; (repeat (first | exact pm1_here | apply pm1_next | apply pm1_past))) | (apply ole_app; (repeat (first | exact pm_here | exact pm_last | apply pm_next | apply pm_past))))), i + 1, p', cap', new', by omega, rfl, rfl, rfl, rfl, rfl, rfl, rfl, hN', rfl⟩
  · obtain rfl : ls.length = i := by omega
    refine vw_nodup (fun hnd => ?_)
    repeat (first | refine vops_q tyOk rfl ?_ | refine vops_nil ?_ | refine vw_seq ?_ | refine vw_region (by kernel_rfl) ?_ | refine vw_ret ?_ | refine vw_exit ?_)
    refine out1 rfl rfl (new := newN) (nodup_sub hnd (List.sublist_append_left _ _)) (by repeat (first | exact sub_hereL | exact sub_refl | apply sub_cons | apply sub_app)) ?_
    show SlAt _ _ _ _ _ _ _
    rw [rowH_length]
    exact hN
end Go.Proofs.YtdgaabkgfbihpaaDoor

/- A part of the proof: V10. No conditions of its own. -/
namespace Go.Proofs.YtdgaabkgfbihpaaDoor
open Go.VL
attribute [local irreducible] VWr VOps VD Calls

def mvH (M : Nat) (ls : List (List Int)) (ad : List Int) (k : Nat) : List (Nat × List Int) := (List.range k).map fun r => (ls.length + 1, rowH M r ls ad ls.length)
theorem mvH_length (M : Nat) (ls : List (List Int)) (ad : List Int) (k : Nat) : (mvH M ls ad k).length = k := by simp [mvH]
set_option maxHeartbeats 4000000 in
set_option maxRecDepth 100000 in
theorem c_l07Howell (M : Nat) (ls : List (List Int)) (ad : List Int) (v u : Value) (hO : HowOk M ls ad) (w : World) (hv : RdII w v ls) (hu : RdI w u ad) :
    Calls Tryd.prog 18 [.int .i64 M, v, u].toArray w (Res w (NewMv ((M + 1 : Nat) : Int) M (mvH M ls ad M))) := by
  have h3 := hO.m3
  have h13 := hO.m13
  have hlen := hO.len
  have hfew := hO.few
  obtain ⟨a, cap, rfl⟩ := hv.len
  obtain ⟨ap, capp, rfl⟩ := hu.len
  refine calls_of_vw Tryd.func18 rfl Tryd.ntmps18 (by simp) ?_
  refine vw_seq (vw_region (by kernel_rfl) (vops_allocZ [.int .i64 0, .int .i64 0, .slice none 0 0] tyOk rfl rfl (by simp) (fun b6 hb6 => ?_)))
  have h2i : (M : Int) + 1 = ((M + 1 : Nat) : Int) := by push_cast; rfl
  repeat (first | refine vops_q tyOk rfl ?_ | refine vops_nil ?_ | refine vw_seq ?_ | refine vw_region (by kernel_rfl) ?_ | refine vops_p tyOk rfl (by (try simp only [inR]); omega) ?_ | refine vw_block ?_ | refine vops_build0 tyOk rfl rfl (fun be hbe => ?_) | (show VOps _ _ _ _ (⟨some _, Go.Op.build 27 _, _, _, _, none⟩ :: _) _ _; refine vops_run (x_build #[.int .i64 ((M + 1 : Nat) : Int), .int .i64 M, .slice (some ⟨be, 0, none⟩) 0 0] rfl (by kernel_rfl)) ?_) | refine vops_allocZ [.int .i64 0, .int .i64 0, .slice none 0 0] tyOk rfl rfl (by simp) (fun b7 hb7 => ?_) | ((show VOps _ _ _ _ (⟨none, Go.Op.store _ _ _, _, _, _, none⟩ :: _) _ _); refine vops_storeAM tyOk rfl rfl rfl (by first | rfl | (rw [ints_length]; first | assumption | omega | (rw [ints_length]; first | assumption | omega | simp [*])) | simp [*]) (by first | exact ints_one | simp [Value.oneCell']) (by repeat (first | exact upd_here | apply upd_next | apply upd_past)) (by first | rfl | (rw [ints_length]; first | assumption | omega | (rw [ints_length]; first | assumption | omega | simp [*])) | simp [*]) ?_))
  refine vw_loopW (fun y f own => ∃ (i : Nat) (p : Option Addr) (cp : Nat) (vs : List Value) (ns : List Own) (outer : Own), i ≤ M ∧ y = M - i ∧ f 8 = .int .i64 i ∧ f 7 = .pointer (some ⟨b7, 0, none⟩) ∧ f 6 = .pointer (some ⟨b6, 0, none⟩) ∧ f 0 = .int .i64 M ∧ f 1 = .slice a ls.length cap ∧ f 2 = .slice ap ad.length capp ∧
      RowsG (NF 49 3) (mvH M ls ad i) vs ns ∧ SlAt 50 1 (.slice p i cp) i vs outer [] ∧
      own = outer ++ (ns.flatten ++ [(b7, ⟨[.int .i64 ((M + 1 : Nat) : Int), .int .i64 M, .slice p i cp], 27, 3, none⟩), (b6, ⟨[.int .i64 0, .int .i64 0, .slice none 0 0], 27, 3, none⟩)])) M
    ⟨[(be, ⟨[], 50, 0, none⟩)] ++ ([] ++ [(b7, ⟨[.int .i64 ((M + 1 : Nat) : Int), .int .i64 M, .slice (some ⟨be, 0, none⟩) 0 0], 27, 3, none⟩), (b6, ⟨[.int .i64 0, .int .i64 0, .slice none 0 0], 27, 3, none⟩)]), (by repeat (first | exact ole_nil | exact ole_refl | (apply ole_cons; (repeat (first | exact pm1_here | apply pm1_next | apply pm1_past))) | (apply ole_app; (repeat (first | exact pm_here | exact pm_last | apply pm_next | apply pm_past))))), 0, some ⟨be, 0, none⟩, 0, [], [], [(be, ⟨[], 50, 0, none⟩)], by omega, by omega, rfl, rfl, rfl, rfl, rfl, rfl, trivial, SlAt.empty, rfl⟩ ?_
  rintro y f own ⟨i, p, cp, vs, ns, outer, hi, rfl, h8, h7, h6, h0, h1, h2, hRw, hO2, rfl⟩
  rw [upd_of h8, upd_of h7, upd_of h6, upd_of h0, upd_of h1, upd_of h2]
  repeat (first | refine vops_q tyOk rfl ?_ | refine vops_nil ?_ | refine vw_seq ?_ | refine vw_region (by kernel_rfl) ?_ | refine vw_cond rfl ?_)
  refine bs_dec (fun hlt => ?_) (fun hlt => ?_)
  · have hir : i < M := by omega
    repeat (first | refine vops_q tyOk rfl ?_ | refine vops_nil ?_ | refine vw_seq ?_ | refine vw_region (by kernel_rfl) ?_ | refine vw_skip ?_ | refine vw_block ?_ | (show VOps _ _ _ _ (⟨some _, Go.Op.build 49 _, _, _, _, none⟩ :: _) _ _; refine vops_run (x_build #[.int .i64 M, .int .i64 i, .int .i64 i] rfl (by kernel_rfl)) ?_) | refine vops_litR (k := 3) (r := [(M : Int), (i : Int), (i : Int)]) tyOk rfl rfl (List.cons_ne_nil _ _) rfl rfl rfl (by omega) (by omega) (fun be2 hbe2 => ?_))
    refine vw_loopW (fun y f own => ∃ (k : Nat) (pr : Option Addr) (cr : Nat) (new : Own), k ≤ ls.length ∧ y = ls.length - k ∧ f 10 = .int .i64 k ∧ f 9 = .slice pr (k + 1) cr ∧ f 8 = .int .i64 i ∧ f 7 = .pointer (some ⟨b7, 0, none⟩) ∧ f 6 = .pointer (some ⟨b6, 0, none⟩) ∧ f 0 = .int .i64 M ∧ f 1 = .slice a ls.length cap ∧ f 2 = .slice ap ad.length capp ∧ NewF 49 3 (k + 1) (rowH M i ls ad k) (.slice pr (k + 1) cr) new ∧
        own = new ++ (outer ++ (ns.flatten ++ [(b7, ⟨[.int .i64 ((M + 1 : Nat) : Int), .int .i64 M, .slice p i cp], 27, 3, none⟩), (b6, ⟨[.int .i64 0, .int .i64 0, .slice none 0 0], 27, 3, none⟩)]))) ls.length
      ⟨[(be2, ⟨ints [(M : Int), (i : Int), (i : Int)], 49, 1 * 3, none⟩)] ++ (outer ++ (ns.flatten ++ [(b7, ⟨[.int .i64 ((M + 1 : Nat) : Int), .int .i64 M, .slice p i cp], 27, 3, none⟩), (b6, ⟨[.int .i64 0, .int .i64 0, .slice none 0 0], 27, 3, none⟩)])), (by repeat (first | exact ole_nil | exact ole_refl | (apply ole_cons; (repeat (first | exact pm1_here | apply pm1_next | apply pm1_past))) | (apply ole_app; (repeat (first | exact pm_here | exact pm_last | apply pm_next | apply pm_past))))), 0, some ⟨be2, 0, none⟩, 1, [(be2, ⟨ints [(M : Int), (i : Int), (i : Int)], 49, 1 * 3, none⟩)], by omega, by omega, rfl, rfl, rfl, rfl, rfl, rfl, rfl, rfl, NewF.mk rfl (by omega) (by decide), rfl⟩ ?_
    rintro y f own ⟨k, pr, cr, new, hk, rfl, h10, h9, h8, h7, h6, h0, h1, h2, hN, rfl⟩
    rw [upd_of h10, upd_of h9, upd_of h8, upd_of h7, upd_of h6, upd_of h0, upd_of h1, upd_of h2]
    repeat (first | refine vops_q tyOk rfl ?_ | refine vops_nil ?_ | refine vw_seq ?_ | refine vw_region (by kernel_rfl) ?_ | refine vw_cond rfl ?_)
    refine bs_dec (fun hlt2 => ?_) (fun hlt2 => ?_)
    · have hkl : k < ls.length := by omega
      obtain ⟨hp2, hp00, hp01, hp10, hp11⟩ := hO.pair k hkl
      obtain ⟨ha0, ha1⟩ := hO.add k hkl
      have hgl : ls[k]? = some (ls.getD k []) := by rw [List.getD_eq_getElem?_getD, List.getElem?_eq_getElem hkl]; rfl
      obtain ⟨b', o, cap', x, he, hcx, hx⟩ := hv.at hgl
      cases he
      obtain ⟨bp, op, cq, hxe, hpc⟩ := hx.at (i := 0) (by omega)
      subst hxe
      have hc0 := hpc 0 (by omega)
      have hc1 := hpc 1 (by omega)
      obtain ⟨bz, oz, cz, hzz, hcellz⟩ := hu.at (i := k) (by omega)
      cases hzz
      have hcz := hcellz k (by omega)
      have hrow : rowH M i ls ad k ++ [((ls.getD k []).getD 0 0 + i) % M, ((ls.getD k []).getD 1 0 + i) % M, ((i : Int) - ad.getD k 0 + M) % M] = rowH M i ls ad (k + 1) := rfl
      rw [hp2] at *
      obtain ⟨X, hX⟩ : ∃ X, X = (ls.getD k []).getD 0 0 := ⟨_, rfl⟩
      obtain ⟨Y, hY⟩ : ∃ Y, Y = (ls.getD k []).getD 1 0 := ⟨_, rfl⟩
      obtain ⟨A, hA⟩ : ∃ A, A = ad.getD k 0 := ⟨_, rfl⟩
      rw [← hX] at hp00 hp01 hc0 hrow
      rw [← hY] at hp10 hp11 hc1 hrow
      rw [← hA] at ha0 ha1 hcz hrow
      clear hX hY hA hgl hpc hcellz h2i
      repeat (first | refine vw_seq ?_ | refine vw_skip ?_ | refine vw_block ?_)
      refine vw_drawB _ [0, 1, 2, 3, 4, 5, 6, 7, 8, 9, 10, 11, 12, 13, 14, 15, 16, 17, 18, 19, 20, 21, 22, 23, 24, 25, 26, 27, 28, 29, 30, 31, 32] (by kernel_rfl) (by kernel_rfl) (by kernel_rfl) rfl (by exact ole_sfx) ?_
      repeat' (first | refine vd_q tyOk rfl (by first | trivial | rfl) rfl (by kernel_rfl) (by kernel_rfl) ?_ | refine vd_p tyOk rfl (by first | trivial | rfl) rfl (by kernel_rfl) (by kernel_rfl) (by (try simp only [inR]); omega) ?_ | refine vops_nil ?_ | refine vd_nil (by kernel_rfl) ?_ | refine ⟨fun _ _ _ h => h, ?_⟩ | refine ⟨fun _ _ _ h => List.mem_cons_of_mem _ h, ?_⟩ | refine ⟨fun _ p hp _ => (show Go.VL.Sub _ _ from (by repeat (first | exact sub_hereL | exact sub_refl | apply sub_cons | apply sub_app))) p hp, ?_⟩ | (apply vops_callp ent27 rfl; (intro w _; exact c_l03ModM _ _ (by omega) (by omega) (by omega) (by omega) w)) | refine vd_load tyOk rfl (by first | trivial | rfl) rfl rfl rfl (by kernel_rfl) (by kernel_rfl) (by kernel_rfl) (sees_old hcx (by simp)) (by repeat (first | exact sub_hereL | exact sub_refl | apply sub_cons | apply sub_app)) ?_ | refine vd_load tyOk rfl (by first | trivial | rfl) rfl rfl rfl (by kernel_rfl) (by kernel_rfl) (by kernel_rfl) (sees_old hc0 (by simp)) (by repeat (first | exact sub_hereL | exact sub_refl | apply sub_cons | apply sub_app)) ?_ | refine vd_load tyOk rfl (by first | trivial | rfl) rfl rfl rfl (by kernel_rfl) (by kernel_rfl) (by kernel_rfl) (sees_old hc1 (by simp)) (by repeat (first | exact sub_hereL | exact sub_refl | apply sub_cons | apply sub_app)) ?_ | refine vd_load tyOk rfl (by first | trivial | rfl) rfl rfl rfl (by kernel_rfl) (by kernel_rfl) (by kernel_rfl) (sees_old hcz (by simp)) (by repeat (first | exact sub_hereL | exact sub_refl | apply sub_cons | apply sub_app)) ?_ | (show VOps _ _ _ _ (⟨some _, Go.Op.build 49 _, _, _, _, none⟩ :: _) _ _; refine vops_run (x_build #[.int .i64 ((X + i) % M), .int .i64 ((Y + i) % M), .int .i64 (((i : Int) - A + M) % M)] rfl (by kernel_rfl)) ?_) | refine vops_litR (k := 3) (r := [(X + i) % M, (Y + i) % M, ((i : Int) - A + M) % M]) tyOk rfl rfl (List.cons_ne_nil _ _) rfl rfl rfl (by omega) (by omega) (fun bl hbl => ?_) | refine vops_append1 (k := 3) tyOk rfl rfl (List.cons_ne_nil _ _) rfl rfl (by decide) rfl hN (by repeat (first | exact pm_here | exact pm_last | apply pm_next | apply pm_past)) rfl (by repeat (first | exact mem_here | apply mem_next | apply mem_past)) rfl (by omega) (fun p' cap' new' hN' => ?_) | refine vd_one rfl (by kernel_rfl) (by kernel_rfl) rfl ?_)
      rw [hrow] at hN'
      repeat (first | refine vops_q tyOk rfl ?_ | refine vops_nil ?_ | refine vw_region (by kernel_rfl) ?_ | refine vops_p tyOk rfl (by (try simp only [inR]); omega) ?_)
      exact ⟨ls.length - (k + 1), by omega, new' ++ (outer ++ (ns.flatten ++ [(b7, ⟨[.int .i64 ((M + 1 : Nat) : Int), .int .i64 M, .slice p i cp], 27, 3, none⟩), (b6, ⟨[.int .i64 0, .int .i64 0, .slice none 0 0], 27, 3, none⟩)])), (by repeat (first | exact ole_nil | exact ole_refl | (apply ole_cons; (repeat (first | exact pm1_here | apply pm1_next | apply pm1_past))) | (apply ole_app; (repeat (first | exact pm_here | exact pm_last | apply pm_next | apply pm_past))))), k + 1, p', cap', new', by omega, rfl, rfl, rfl, rfl, rfl, rfl, rfl, rfl, rfl, hN', rfl⟩
    · obtain rfl : ls.length = k := by omega
      repeat (first | refine vops_q tyOk rfl ?_ | refine vops_nil ?_ | refine vw_region (by kernel_rfl) ?_ | refine vops_p tyOk rfl (by (try simp only [inR]); omega) ?_ | refine vw_exit ?_ | refine vops_litV tyOk rfl rfl (List.cons_ne_nil _ _) rfl rfl rfl (fun bl hbl => ?_) | refine vops_appendV tyOk rfl rfl (List.cons_ne_nil _ _) rfl rfl (by decide) rfl hO2 (by repeat (first | exact pm_here | exact pm_last | apply pm_next | apply pm_past)) rfl (by repeat (first | exact mem_here | apply mem_next | apply mem_past)) rfl (by omega) (fun p' cap' new' hN' => ?_) | ((show VOps _ _ _ _ (⟨some _, Go.Op.load _ _, _, _, _, none⟩ :: _) _ _); refine vops_loadM tyOk rfl rfl rfl (by repeat (first | exact mem_here | apply mem_next | apply mem_past)) (by rfl) ?_) | ((show VOps _ _ _ _ (⟨none, Go.Op.store _ _ _, _, _, _, none⟩ :: _) _ _); refine vops_storeM tyOk rfl rfl rfl rfl rfl (by repeat (first | exact upd_here | apply upd_next | apply upd_past)) (by simp) ?_))
      refine ⟨M - (i + 1), by omega, new' ++ ((ns ++ [new]).flatten ++ [(b7, ⟨[.int .i64 ((M + 1 : Nat) : Int), .int .i64 M, .slice p' (i + 1) cap'], 27, 3, none⟩), (b6, ⟨[.int .i64 0, .int .i64 0, .slice none 0 0], 27, 3, none⟩)]), by rw [flat_snoc, List.append_assoc ns.flatten]; exact (by repeat (first | exact ole_nil | exact ole_refl | (apply ole_cons; (repeat (first | exact pm1_here | apply pm1_next | apply pm1_past))) | (apply ole_app; (repeat (first | exact pm_here | exact pm_last | apply pm_next | apply pm_past))))), i + 1, p', cap', _, ns ++ [new], new', by omega, rfl, rfl, rfl, rfl, rfl, rfl, rfl, ?_, hN', rfl⟩
      rw [show mvH M ls ad (i + 1) = mvH M ls ad i ++ [(ls.length + 1, rowH M i ls ad ls.length)] by simp [mvH, List.range_succ]]
      exact RowsG.snoc (l := (ls.length + 1, rowH M i ls ad ls.length)) hN hRw
  · obtain rfl : M = i := by omega
    refine vw_nodup (fun hnd => ?_)
    repeat (first | refine vops_nil ?_ | refine vw_seq ?_ | refine vw_region (by kernel_rfl) ?_ | refine vw_ret ?_ | refine vw_exit ?_ | ((show VOps _ _ _ _ (⟨some _, Go.Op.load _ _, _, _, _, none⟩ :: _) _ _); refine vops_loadNM tyOk rfl rfl rfl (by repeat (first | exact mem_here | apply mem_next | apply mem_past)) (by first | rfl | (rw [ints_length]; first | assumption | omega | (rw [ints_length]; first | assumption | omega | simp [*])) | simp [*]) ?_) | ((show VOps _ _ _ _ (⟨none, Go.Op.store _ _ _, _, _, _, none⟩ :: _) _ _); refine vops_storeAM tyOk rfl rfl rfl (by first | rfl | (rw [ints_length]; first | assumption | omega | (rw [ints_length]; first | assumption | omega | simp [*])) | simp [*]) (by first | exact ints_one | simp [Value.oneCell']) (by repeat (first | exact upd_here | apply upd_next | apply upd_past)) (by first | rfl | (rw [ints_length]; first | assumption | omega | (rw [ints_length]; first | assumption | omega | simp [*])) | simp [*]) ?_))
    exact ⟨_, outer ++ ns.flatten, rv_cell (cs := [.int .i64 ((M + 1 : Nat) : Int), .int .i64 M, .slice p M cp]) tyOk rfl rfl rfl rfl rfl (fun j v hj => by rw [Nat.zero_add]; exact sees_mem (by repeat (first | exact mem_here | apply mem_next | apply mem_past)) hj), nodup_sub hnd ((List.sublist_append_left _ _).append_left _), fun q hq => by rw [← List.append_assoc]; exact List.mem_append_left _ hq, .slice p M cp, rfl, vs, ns, outer, hRw, by rw [mvH_length]; exact hO2, rfl⟩
end Go.Proofs.YtdgaabkgfbihpaaDoor

/- A part of the proof: V11. No conditions of its own. -/
namespace Go.Proofs.YtdgaabkgfbihpaaDoor
open Go.VL
attribute [local irreducible] VWr VOps VD Calls

theorem bcV {P : Program} {fn : Nat} {args : Array Value} {w : World} {r : Bool × Int} {b : Bool} {c : Int} (h : Calls P fn args w (Res w (Is (.tuple #[.bool r.1, .int .i64 r.2])))) (hr : r = (b, c)) : Calls P fn args w (Res w (Is (.tuple #[.bool b, .int .i64 c]))) := by
  subst hr; exact h
noncomputable def howR (m : Int) (ls : List (List Int)) (ad : List Int) : (Int × Int × List (Nat × List Int)) × Int :=
  if (adderR m ls ad).2 = 2 then ((0, 0, []), 2) else if (adderR m ls ad).1 = true then ((m + 1, m, mvH m.toNat ls ad m.toNat), 0) else ((0, 0, []), 5)
theorem adder_yes {m : Int} {ls : List (List Int)} {ad : List Int} (h : (adderR m ls ad).1 = true) : ∃ M : Nat, m = M ∧ HowOk M ls ad ∧ (adderR m ls ad).2 = 0 := by
  by_cases hc : adCode m ls ad = 0
  · obtain ⟨⟨hm, hp⟩, hn, hst⟩ := adCode_zero hc
    obtain ⟨M, rfl⟩ : ∃ M : Nat, m = M := ⟨m.toNat, by have := hm.1; omega⟩
    have hm3 := hm.1
    have hm13 := hm.2.1
    have hl := hst.1
    refine ⟨M, rfl, ⟨by omega, by omega, hn.1, by omega, fun i hi => ?_, fun i hi => ?_⟩, by unfold adderR; rw [if_pos hc]⟩
    · have hgl : ls[i]? = some (ls.getD i []) := by rw [List.getD_eq_getElem?_getD, List.getElem?_eq_getElem hi]; rfl
      obtain ⟨⟨h1, h2⟩, _⟩ := hp i _ hgl
      have h3 := h2 0 (by omega)
      have h4 := h2 1 (by omega)
      exact ⟨h1, by omega, by omega, by omega, by omega⟩
    · have := hn.2 i (by have := hn.1; omega)
      omega
  · unfold adderR at h
    rw [if_neg hc] at h
    cases h
theorem howR_ok (m : Int) (ls : List (List Int)) (ad : List Int) : (howR m ls ad).1.2.2.length ≤ 1048576 ∧ (∀ x ∈ (howR m ls ad).1.2.2, x.1 ≤ 1048576) ∧ sumF (howR m ls ad).1.2.2 ≤ 1048576 := by
  unfold howR
  split
  · simp [sumF]
  split
  · rename_i h
    obtain ⟨M, rfl, hO, _⟩ := adder_yes h
    have h13 := hO.m13
    have h6 := hO.few
    have key : ∀ l : List Nat, sumF (l.map fun r => (ls.length + 1, rowH M r ls ad ls.length)) = l.length * ((ls.length + 1) * 3) := by
      intro l
      induction l with
      | nil => simp [sumF]
      | cons a l ih => simp only [List.map_cons, sumF, ih, List.length_cons, Nat.add_mul, Nat.one_mul]; omega
    rw [Int.toNat_natCast]
    refine ⟨by show (mvH M ls ad M).length ≤ _; rw [mvH_length]; omega, fun x hx => ?_, ?_⟩
    · obtain ⟨r, _, rfl⟩ := List.mem_map.1 (show x ∈ mvH M ls ad M from hx)
      show ls.length + 1 ≤ _; omega
    · show sumF (mvH M ls ad M) ≤ _
      rw [mvH, key, List.length_range]
      calc M * ((ls.length + 1) * 3) ≤ 13 * (7 * 3) := Nat.mul_le_mul h13 (by omega)
        _ ≤ _ := by omega
  · simp [sumF]
theorem mh_sizes (v : Value) (w : World) : (Go.method (Tryd.prog.types.size + Made.depth) 43 v "loop.example/g01379/impl.sizes").run Tryd.prog w = .ok (66, v) w := by kernel_rfl
theorem mh_numbersIn (v : Value) (w : World) : (Go.method (Tryd.prog.types.size + Made.depth) 43 v "loop.example/g01379/impl.numbersIn").run Tryd.prog w = .ok (65, v) w := by kernel_rfl
theorem mh_iface (v : Value) (w : World) : (Instr.makeInterface 43 v).run Tryd.prog w = .ok (.iface 43 v) w := by kernel_rfl

set_option maxHeartbeats 2000000 in
set_option maxRecDepth 100000 in
theorem c_spec_HowellOf (m : Int) (v u : Value) (ls : List (List Int)) (ad : List Int) (w : World) (hv : RdII w v ls) (hu : RdI w u ad) (hl : ls.length ≤ 1048576) (hll : ∀ l ∈ ls, l.length ≤ 1048576) (hal : ad.length ≤ 1048576) :
    Calls Tryd.prog 5 [.int .i64 m, v, u].toArray w (Res w (PairMv (howR m ls ad))) := by
  obtain ⟨yb, yc, hY⟩ : ∃ yb yc, adderR m ls ad = (yb, yc) := ⟨_, _, rfl⟩
  obtain ⟨pa, ca, rfl⟩ := hv.len
  obtain ⟨pb, cb, rfl⟩ := hu.len
  refine calls_of_vw Tryd.func5 rfl Tryd.ntmps5 (by simp) ?_
  refine vw_seq (vw_region (by kernel_rfl) (vops_allocZ [.int .i64 0, .int .i64 0, .slice none 0 0] tyOk rfl rfl (by simp) (fun b6 hb6 => ?_)))
  repeat (first | refine vops_q tyOk rfl ?_ | refine vops_nil ?_ | refine vw_seq ?_ | refine vw_region (by kernel_rfl) ?_)
  apply vops_callp ent17 rfl
  · intro w' hg; exact bcV (c_spec_IsAdder m _ _ ls ad w' (hv.same hg.fr) (hu.same hg.fr) hl hll hal) hY
  repeat (first | refine vops_q tyOk rfl ?_ | refine vops_nil ?_ | refine vw_seq ?_ | refine vw_region (by kernel_rfl) ?_ | refine vw_cond rfl ?_ | refine vw_block ?_)
  by_cases h2 : yc = 2
  · have hr : howR m ls ad = ((0, 0, []), 2) := by rw [howR, hY, if_pos h2]
    refine bs_dec (fun _ => ?_) (fun h => absurd h2 h)
    repeat (first | refine vops_q tyOk rfl ?_ | refine vops_nil ?_ | refine vw_seq ?_ | refine vw_region (by kernel_rfl) ?_ | refine vw_ret ?_ | ((show VOps _ _ _ _ (⟨none, Go.Op.store _ _ _, _, _, _, none⟩ :: _) _ _); refine vops_storeAM tyOk rfl rfl rfl (by first | rfl | (rw [ints_length]; first | assumption | omega | (rw [ints_length]; first | assumption | omega | simp [*])) | simp [*]) (by first | exact ints_one | simp [Value.oneCell']) (by repeat (first | exact upd_here | apply upd_next | apply upd_past)) (by first | rfl | (rw [ints_length]; first | assumption | omega | (rw [ints_length]; first | assumption | omega | simp [*])) | simp [*]) ?_) | refine vops_buildZ tyOk rfl (by kernel_rfl) ?_)
    exact ⟨_, [], rv_cell2 (cs := [.int .i64 0, .int .i64 0, .slice none 0 0]) tyOk rfl rfl rfl rfl rfl (fun j v hj => by rw [Nat.zero_add]; exact sees_mem (by repeat (first | exact mem_here | apply mem_next | apply mem_past)) hj) rfl, List.nodup_nil, sub_nil, .slice none 0 0, by rw [hr]; try rfl, by rw [hr]; exact NewG.nil⟩
  refine bs_dec (fun h => absurd h h2) (fun _ => ?_)
  by_cases hy : yb = true
  · obtain ⟨M, rfl, hO, h0⟩ := adder_yes (show (adderR m ls ad).1 = true by rw [hY]; exact hy)
    rw [hY] at h0
    have h0' : yc = 0 := h0
    subst h0'
    subst hy
    have hr : howR M ls ad = (((M : Int) + 1, (M : Int), mvH M ls ad M), 0) := by rw [howR, hY, if_neg h2, if_pos rfl, Int.toNat_natCast]
    repeat (first | refine vops_q tyOk rfl ?_ | refine vw_seq ?_ | refine vw_region (by kernel_rfl) ?_ | refine vops_guardF rfl rfl ?_)
    refine bs_ndec2 (fun h => absurd rfl h) (fun _ => ?_)
    repeat (first | refine vops_q tyOk rfl ?_ | refine vops_nil ?_ | refine vw_seq ?_ | refine vw_region (by kernel_rfl) ?_ | refine vops_guardF rfl rfl ?_ | with_reducible refine bs_false ?_ | with_reducible refine bs_ntrue ?_ | refine vw_cond rfl ?_ | refine vw_skip ?_)
    refine vops_call ent18 rfl (fun w' hg => c_l07Howell M ls ad _ _ hO w' (hv.same hg.fr) (hu.same hg.fr)) ?_
    rintro _ newM ⟨x, rfl, hM⟩
    obtain ⟨pu, cu, rfl⟩ := NewG.form hM
    refine vops_nodup (fun hnd => ?_)
    repeat (first | refine vops_q tyOk rfl ?_ | refine vops_nil ?_ | refine vw_ret ?_ | ((show VOps _ _ _ _ (⟨none, Go.Op.store _ _ _, _, _, _, none⟩ :: _) _ _); refine vops_storeAM tyOk rfl rfl rfl (by first | rfl | (rw [ints_length]; first | assumption | omega | (rw [ints_length]; first | assumption | omega | simp [*])) | simp [*]) (by first | exact ints_one | simp [Value.oneCell']) (by repeat (first | exact upd_here | apply upd_next | apply upd_past)) (by first | rfl | (rw [ints_length]; first | assumption | omega | (rw [ints_length]; first | assumption | omega | simp [*])) | simp [*]) ?_))
    exact ⟨_, newM, rv_cell2 (cs := [.int .i64 ((M + 1 : Nat) : Int), .int .i64 M, .slice pu _ cu]) tyOk rfl rfl rfl rfl rfl (fun j v hj => by rw [Nat.zero_add]; exact sees_mem (by repeat (first | exact mem_here | apply mem_next | apply mem_past)) hj) rfl, nodup_sub hnd (List.sublist_append_left _ _), (by repeat (first | exact sub_hereL | exact sub_refl | apply sub_cons | apply sub_app)), .slice pu _ cu, by rw [hr]; push_cast; rfl, by rw [hr]; exact hM⟩
  · have hf : yb = false := by cases yb <;> simp_all
    have hr : howR m ls ad = ((0, 0, []), 5) := by rw [howR, hY, if_neg h2, if_neg hy]
    subst hf
    repeat' (first | refine vops_q tyOk rfl ?_ | refine vops_nil ?_ | refine vw_seq ?_ | refine vw_region (by kernel_rfl) ?_ | refine vops_guardF rfl rfl ?_ | with_reducible refine bs_true ?_ | with_reducible refine bs_false ?_ | with_reducible refine bs_nfalse ?_ | refine vw_cond rfl ?_ | refine vw_ret ?_ | (with_reducible refine bs_ndec (fun _ => ?_) (fun _ => ?_)) <;> try (exfalso; omega) | ((show VOps _ _ _ _ (⟨none, Go.Op.store _ _ _, _, _, _, none⟩ :: _) _ _); refine vops_storeAM tyOk rfl rfl rfl (by first | rfl | (rw [ints_length]; first | assumption | omega | (rw [ints_length]; first | assumption | omega | simp [*])) | simp [*]) (by first | exact ints_one | simp [Value.oneCell']) (by repeat (first | exact upd_here | apply upd_next | apply upd_past)) (by first | rfl | (rw [ints_length]; first | assumption | omega | (rw [ints_length]; first | assumption | omega | simp [*])) | simp [*]) ?_) | refine vops_buildZ tyOk rfl (by kernel_rfl) ?_)
    all_goals exact ⟨_, [], rv_cell2 (cs := [.int .i64 0, .int .i64 0, .slice none 0 0]) tyOk rfl rfl rfl rfl rfl (fun j v hj => by rw [Nat.zero_add]; exact sees_mem (by repeat (first | exact mem_here | apply mem_next | apply mem_past)) hj) rfl, List.nodup_nil, sub_nil, .slice none 0 0, by rw [hr]; try rfl, by rw [hr]; exact NewG.nil⟩

set_option maxHeartbeats 2000000 in
set_option maxRecDepth 100000 in
theorem c_impl_HowellOf (m : Int) (v u : Value) (ls : List (List Int)) (ad : List Int) (a0 a1 : Addr) (w : World) (hv : RdII w v ls) (hu : RdI w u ad) (he : Errs w a0 a1) (hl : ls.length ≤ 1048576) (hll : ∀ l ∈ ls, l.length ≤ 1048576) (hal : ad.length ≤ 1048576) (hcap : ∀ p n c, u = .slice p n c → n ≤ c) :
    Calls Tryd.prog 8 [.int .i64 m, v, u].toArray w (Res w (PairMv (howR m ls ad))) := by
  obtain ⟨yb, yc, hY⟩ : ∃ yb yc, adderR m ls ad = (yb, yc) := ⟨_, _, rfl⟩
  obtain ⟨pa, ca, rfl⟩ := hv.len
  obtain ⟨pb, cb, rfl⟩ := hu.len
  refine calls_of_vw Tryd.func8 rfl Tryd.ntmps8 (by simp) ?_
  refine vw_seq (vw_region (by kernel_rfl) (vops_allocZ [.int .i64 0, .int .i64 0, .slice none 0 0] tyOk rfl rfl (by simp) (fun b6 hb6 => ?_)))
  repeat (first | refine vops_q tyOk rfl ?_ | refine vops_nil ?_ | refine vw_seq ?_ | refine vw_region (by kernel_rfl) ?_)
  apply vops_callp ent19 rfl
  · intro w' hg; exact bcV (c_impl_IsAdder m _ _ ls ad a0 a1 w' (hv.same hg.fr) (hu.same hg.fr) (he.same hg.fr) hl hll hal hcap) hY
  repeat (first | refine vops_q tyOk rfl ?_ | refine vops_nil ?_ | refine vw_seq ?_ | refine vw_region (by kernel_rfl) ?_ | refine vw_cond rfl ?_)
  by_cases h2 : yc = 2
  · have hr : howR m ls ad = ((0, 0, []), 2) := by rw [howR, hY, if_pos h2]
    refine bs_dec (fun _ => ?_) (fun h => absurd h2 h)
    repeat (first | refine vops_q tyOk rfl ?_ | refine vops_nil ?_ | refine vw_seq ?_ | refine vw_region (by kernel_rfl) ?_ | refine vw_ret ?_ | ((show VOps _ _ _ _ (⟨none, Go.Op.store _ _ _, _, _, _, none⟩ :: _) _ _); refine vops_storeAM tyOk rfl rfl rfl (by first | rfl | (rw [ints_length]; first | assumption | omega | (rw [ints_length]; first | assumption | omega | simp [*])) | simp [*]) (by first | exact ints_one | simp [Value.oneCell']) (by repeat (first | exact upd_here | apply upd_next | apply upd_past)) (by first | rfl | (rw [ints_length]; first | assumption | omega | (rw [ints_length]; first | assumption | omega | simp [*])) | simp [*]) ?_) | refine vops_buildZ tyOk rfl (by kernel_rfl) ?_)
    exact ⟨_, [], rv_cell2 (cs := [.int .i64 0, .int .i64 0, .slice none 0 0]) tyOk rfl rfl rfl rfl rfl (fun j v hj => by rw [Nat.zero_add]; exact sees_mem (by repeat (first | exact mem_here | apply mem_next | apply mem_past)) hj) rfl, List.nodup_nil, sub_nil, .slice none 0 0, by rw [hr]; try rfl, by rw [hr]; exact NewG.nil⟩
  refine bs_dec (fun h => absurd h h2) (fun _ => ?_)
  by_cases hy : yb = true
  · obtain ⟨M, rfl, hO, h0⟩ := adder_yes (show (adderR m ls ad).1 = true by rw [hY]; exact hy)
    subst hy
    have hr : howR M ls ad = (((M : Int) + 1, (M : Int), mvH M ls ad M), 0) := by rw [howR, hY, if_neg h2, if_pos rfl, Int.toNat_natCast]
    have h13 := hO.m13
    have h6 := hO.few
    repeat (first | refine vops_q tyOk rfl ?_ | refine vops_nil ?_ | refine vw_seq ?_ | refine vw_region (by kernel_rfl) ?_ | with_reducible refine bs_ntrue ?_ | refine vw_cond rfl ?_ | refine vw_skip ?_ | (show VOps _ _ _ _ (⟨some _, Go.Op.build 43 _, _, _, _, none⟩ :: _) _ _; refine vops_run (x_build #[.int .i64 M, .slice pa ls.length ca, .slice pb ad.length cb] rfl (by kernel_rfl)) ?_) | refine vops_iface (mh_iface _) rfl ?_)
    refine vops_call ent20 rfl (fun w' hg => c_movementOf 43 66 65 (.agg #[.int .i64 M, .slice pa ls.length ca, .slice pb ad.length cb]) ((M + 1 : Nat) : Int) M M (fun _ => ls.length + 1) (fun r => rowH M r ls ad ls.length) w' (by omega) (fun _ => by omega) (fun r _ => rowH_length M r ls ad _) ent66 ent65 (mh_sizes _) (mh_numbersIn _) (fun w2 _ => c_hsizes M _ _ h13 rfl rfl w2) (fun r hr2 w2 hf => c_hnumbersIn M r ls ad _ _ hO hr2 w2 ((hv.same hg.fr).same hf) ((hu.same hg.fr).same hf))) ?_
    rintro _ newM ⟨x, rfl, hM⟩
    obtain ⟨pu, cu, rfl⟩ := NewG.form hM
    refine vops_nodup (fun hnd => ?_)
    repeat (first | refine vops_q tyOk rfl ?_ | refine vops_nil ?_ | refine vw_ret ?_ | ((show VOps _ _ _ _ (⟨none, Go.Op.store _ _ _, _, _, _, none⟩ :: _) _ _); refine vops_storeAM tyOk rfl rfl rfl (by first | rfl | (rw [ints_length]; first | assumption | omega | (rw [ints_length]; first | assumption | omega | simp [*])) | simp [*]) (by first | exact ints_one | simp [Value.oneCell']) (by repeat (first | exact upd_here | apply upd_next | apply upd_past)) (by first | rfl | (rw [ints_length]; first | assumption | omega | (rw [ints_length]; first | assumption | omega | simp [*])) | simp [*]) ?_))
    exact ⟨_, newM, rv_cell2 (cs := [.int .i64 ((M + 1 : Nat) : Int), .int .i64 M, .slice pu _ cu]) tyOk rfl rfl rfl rfl rfl (fun j v hj => by rw [Nat.zero_add]; exact sees_mem (by repeat (first | exact mem_here | apply mem_next | apply mem_past)) hj) rfl, nodup_sub hnd (List.sublist_append_left _ _), (by repeat (first | exact sub_hereL | exact sub_refl | apply sub_cons | apply sub_app)), .slice pu _ cu, by rw [hr]; push_cast; rfl, by rw [hr]; exact hM⟩
  · have hf : yb = false := by cases yb <;> simp_all
    have hr : howR m ls ad = ((0, 0, []), 5) := by rw [howR, hY, if_neg h2, if_neg hy]
    subst hf
    repeat (first | refine vops_q tyOk rfl ?_ | refine vops_nil ?_ | refine vw_seq ?_ | refine vw_region (by kernel_rfl) ?_ | with_reducible refine bs_nfalse ?_ | refine vw_cond rfl ?_ | refine vw_skip ?_ | refine vw_ret ?_ | ((show VOps _ _ _ _ (⟨none, Go.Op.store _ _ _, _, _, _, none⟩ :: _) _ _); refine vops_storeAM tyOk rfl rfl rfl (by first | rfl | (rw [ints_length]; first | assumption | omega | (rw [ints_length]; first | assumption | omega | simp [*])) | simp [*]) (by first | exact ints_one | simp [Value.oneCell']) (by repeat (first | exact upd_here | apply upd_next | apply upd_past)) (by first | rfl | (rw [ints_length]; first | assumption | omega | (rw [ints_length]; first | assumption | omega | simp [*])) | simp [*]) ?_) | refine vops_buildZ tyOk rfl (by kernel_rfl) ?_)
    exact ⟨_, [], rv_cell2 (cs := [.int .i64 0, .int .i64 0, .slice none 0 0]) tyOk rfl rfl rfl rfl rfl (fun j v hj => by rw [Nat.zero_add]; exact sees_mem (by repeat (first | exact mem_here | apply mem_next | apply mem_past)) hj) rfl, List.nodup_nil, sub_nil, .slice none 0 0, by rw [hr]; try rfl, by rw [hr]; exact NewG.nil⟩
end Go.Proofs.YtdgaabkgfbihpaaDoor

/- A part of the proof: V12. No conditions of its own. -/
namespace Go.Proofs.YtdgaabkgfbihpaaDoor
open Go.VL
attribute [local irreducible] VWr VOps VD Calls

set_option maxHeartbeats 4000000 in
set_option maxRecDepth 100000 in
theorem c_FnExactHowellOf (m : Int) (pv : Value) (p : List (List Int)) (lp : p.length ≤ maxLen) (llp : ∀ l ∈ p, l.length ≤ maxLen) (qv : Value) (q : List Int) (_lq : q.length ≤ maxLen) (e0 e1 : Addr) (w : World) (he : Errs w e0 e1) (rp : RdII w pv p) (rq : RdI w qv q) :
    Calls Tryd.prog 3 [.int .i64 m, pv, qv].toArray w (Res w (Is (.bool true))) := by
  obtain ⟨pa, pcap, rfl⟩ := rp.len
  obtain ⟨qa, qcap, rfl⟩ := rq.len
  refine calls_of_vw Tryd.func3 rfl Tryd.ntmps3 (by simp) ?_
  repeat (first | refine vops_q tyOk rfl ?_ | refine vops_nil ?_ | refine vw_seq ?_ | refine vw_region (by kernel_rfl) ?_ | refine vw_cond rfl ?_)
  refine bs_dec (fun hzq => ?_) (fun hzq => ?_)
  · repeat (first | refine vops_q tyOk rfl ?_ | refine vops_nil ?_ | refine vw_seq ?_ | refine vw_region (by kernel_rfl) ?_ | refine vw_ret ?_)
    exact rv_bool rfl rfl rfl
  have lq' : q.length ≤ 1048576 := by omega
  repeat (first | refine vops_q tyOk rfl ?_ | refine vops_nil ?_ | refine vw_seq ?_ | refine vw_region (by kernel_rfl) ?_ | refine vw_skip ?_)
  apply vops_call ent4 rfl
  · intro w' hg; exact c_szII _ p 1048576 w' (rp.same hg.fr) lp llp (by omega) (by omega)
  rintro _ newN ⟨rfl, leftp, rfl, hleftp⟩
  repeat (first | refine vops_q tyOk rfl ?_ | refine vops_nil ?_ | refine vw_seq ?_ | refine vw_region (by kernel_rfl) ?_ | refine vw_cond rfl ?_)
  refine bs_dec (fun hzp => ?_) (fun hzp => ?_)
  · repeat (first | refine vops_q tyOk rfl ?_ | refine vops_nil ?_ | refine vw_seq ?_ | refine vw_region (by kernel_rfl) ?_ | refine vw_ret ?_)
    exact rv_bool rfl rfl rfl
  have lp' : p.length ≤ 1048576 := by omega
  have hsp : sumLen p ≤ 1048576 := by
    rcases hleftp with h | ⟨_, _, _, h, _⟩ <;> omega
  have llp' : ∀ l ∈ p, l.length ≤ 1048576 := fun l hl => by
    rcases hleftp with h | ⟨_, _, _, _, h⟩
    · omega
    · have := h l hl; omega
  obtain ⟨P, S, xs, c, hr⟩ : ∃ P S xs c, howR m p q = ((P, S, xs), c) := ⟨_, _, _, _, rfl⟩
  obtain ⟨hlen, hll, hsum⟩ := howR_ok m p q
  rw [hr] at hlen hll hsum
  repeat (first | refine vops_q tyOk rfl ?_ | refine vw_seq ?_ | refine vw_region (by kernel_rfl) ?_ | refine vw_skip ?_)
  apply vops_call ent6 rfl
  · intro w' hg; exact c_toInt64SS _ p w' (rp.same hg.fr) lp' llp'
  rintro _ newA hA
  obtain ⟨pA, cA, rfl⟩ := NewLL.form hA
  repeat (first | refine vops_q tyOk rfl ?_)
  apply vops_call ent7 rfl
  · intro w' hg; exact c_toInt64S _ q w' (rq.same hg.fr) lq'
  rintro _ newB hB
  obtain ⟨pB, cB, rfl⟩ := SlAt.form hB
  skip
  apply vops_call ent5 rfl
  · intro w' hg; exact mvW (c_spec_HowellOf m _ _ p q w' (NewLL.rdG hA (by repeat (first | exact sub_hereL | exact sub_refl | apply sub_cons | apply sub_app)) hg) (NewI.see hB (by repeat (first | exact sub_hereL | exact sub_refl | apply sub_cons | apply sub_app)) _ hg) lp' llp' lq') hr
  rintro _ newC ⟨pC, cC, rfl, hC⟩
  repeat (first | refine vops_q tyOk rfl ?_ | refine vops_nil ?_ | refine vw_seq ?_ | refine vw_region (by kernel_rfl) ?_ | refine vops_allocZ [.int .i64 0, .int .i64 0, .slice none 0 0] tyOk rfl rfl (by simp) (fun b8 hb8 => ?_) | ((show VOps _ _ _ _ (⟨none, Go.Op.store _ _ _, _, _, _, none⟩ :: _) _ _); refine vops_storeAM tyOk rfl rfl rfl (by first | rfl | (rw [ints_length]; first | assumption | omega | (rw [ints_length]; first | assumption | omega | simp [*])) | simp [*]) (by first | exact ints_one | simp [Value.oneCell']) (by repeat (first | exact upd_here | apply upd_next | apply upd_past)) (by first | rfl | (rw [ints_length]; first | assumption | omega | (rw [ints_length]; first | assumption | omega | simp [*])) | simp [*]) ?_))
  apply vops_call ent6 rfl
  · intro w' hg; exact c_toInt64SS _ p w' (rp.same hg.fr) lp' llp'
  rintro _ newD hD
  obtain ⟨pD, cD, rfl⟩ := NewLL.form hD
  repeat (first | refine vops_q tyOk rfl ?_ | refine vops_nil ?_ | refine vw_seq ?_ | refine vw_region (by kernel_rfl) ?_)
  apply vops_call ent7 rfl
  · intro w' hg; exact c_toInt64S _ q w' (rq.same hg.fr) lq'
  rintro _ newE hE
  obtain ⟨pE, cE, rfl⟩ := SlAt.form hE
  repeat (first | refine vops_q tyOk rfl ?_ | refine vops_nil ?_ | refine vw_seq ?_ | refine vw_region (by kernel_rfl) ?_)
  apply vops_call ent8 rfl
  · intro w' hg; exact mvW (c_impl_HowellOf m _ _ p q e0 e1 w' (NewLL.rdG hD (by repeat (first | exact sub_hereL | exact sub_refl | apply sub_cons | apply sub_app)) hg) (NewI.see hE (by repeat (first | exact sub_hereL | exact sub_refl | apply sub_cons | apply sub_app)) _ hg) (he.same hg.fr) lp' llp' lq' (capI hE)) hr
  rintro _ newF ⟨pF, cF, rfl, hF⟩
  repeat (first | refine vops_q tyOk rfl ?_ | refine vops_nil ?_ | refine vw_seq ?_ | refine vw_region (by kernel_rfl) ?_ | refine vops_allocZ [.int .i64 0, .int .i64 0, .slice none 0 0] tyOk rfl rfl (by simp) (fun b12 hb12 => ?_) | ((show VOps _ _ _ _ (⟨some _, Go.Op.load _ _, _, _, _, none⟩ :: _) _ _); refine vops_loadNM tyOk rfl rfl rfl (by repeat (first | exact mem_here | apply mem_next | apply mem_past)) (by first | rfl | (rw [ints_length]; first | assumption | omega | (rw [ints_length]; first | assumption | omega | simp [*])) | simp [*]) ?_) | ((show VOps _ _ _ _ (⟨none, Go.Op.store _ _ _, _, _, _, none⟩ :: _) _ _); refine vops_storeAM tyOk rfl rfl rfl (by first | rfl | (rw [ints_length]; first | assumption | omega | (rw [ints_length]; first | assumption | omega | simp [*])) | simp [*]) (by first | exact ints_one | simp [Value.oneCell']) (by repeat (first | exact upd_here | apply upd_next | apply upd_past)) (by first | rfl | (rw [ints_length]; first | assumption | omega | (rw [ints_length]; first | assumption | omega | simp [*])) | simp [*]) ?_))
  apply vops_callp ent9 rfl
  · intro w' hg; exact c_eqMovement P S _ _ xs w' (NewFF.rdG hF (by repeat (first | exact sub_hereL | exact sub_refl | apply sub_cons | apply sub_app)) hg) (NewFF.rdG hC (by repeat (first | exact sub_hereL | exact sub_refl | apply sub_cons | apply sub_app)) hg) hlen hll
  repeat (first | refine vops_q tyOk rfl ?_ | refine vops_nil ?_ | refine vops_guardF rfl rfl ?_ | with_reducible refine bs_false ?_ | with_reducible refine bs_ntrue ?_ | refine vw_cond rfl ?_)
  refine bs_ndec2 (fun h => absurd rfl h) (fun _ => ?_)
  repeat (first | refine vops_q tyOk rfl ?_ | refine vw_seq ?_ | refine vw_region (by kernel_rfl) ?_ | refine vw_skip ?_)
  apply vops_call ent6 rfl
  · intro w' hg; exact c_toInt64SS _ p w' (rp.same hg.fr) lp' llp'
  rintro _ newG hG
  obtain ⟨pG, cG, rfl⟩ := NewLL.form hG
  skip
  apply vops_callp ent10 rfl
  · intro w' hg; exact c_eqII _ _ p w' (NewLL.rdG hD (by repeat (first | exact sub_hereL | exact sub_refl | apply sub_cons | apply sub_app)) hg) (NewLL.rdG hG (by repeat (first | exact sub_hereL | exact sub_refl | apply sub_cons | apply sub_app)) hg) lp' llp'
  repeat (first | refine vops_q tyOk rfl ?_ | refine vops_nil ?_ | refine vw_seq ?_ | refine vw_region (by kernel_rfl) ?_ | with_reducible refine bs_ntrue ?_ | refine vw_cond rfl ?_ | refine vw_skip ?_)
  apply vops_call ent7 rfl
  · intro w' hg; exact c_toInt64S _ q w' (rq.same hg.fr) lq'
  rintro _ newH hH
  obtain ⟨pH, cH, rfl⟩ := SlAt.form hH
  skip
  apply vops_callp ent11 rfl
  · intro w' hg; exact c_eqI _ _ q w' (NewI.see hE (by repeat (first | exact sub_hereL | exact sub_refl | apply sub_cons | apply sub_app)) _ hg) (NewI.see hH (by repeat (first | exact sub_hereL | exact sub_refl | apply sub_cons | apply sub_app)) _ hg) lq'
  repeat (first | refine vops_q tyOk rfl ?_ | refine vops_nil ?_ | refine vw_seq ?_ | refine vw_region (by kernel_rfl) ?_ | with_reducible refine bs_ntrue ?_ | refine vw_cond rfl ?_ | refine vw_skip ?_)
  refine vops_callM ent12 rfl (own0 := newD) (by repeat (first | exact pm_here | exact pm_last | apply pm_next | apply pm_past)) (fun w' hg => c_markInt64SS _ p 1 newD w' hD (okS hg) lp' hsp (by omega) (by omega)) ?_
  rintro _ newD2 ⟨rfl, hD2⟩
  repeat (first | refine vops_q tyOk rfl ?_ | refine vops_nil ?_ | refine vw_seq ?_ | refine vw_region (by kernel_rfl) ?_)
  refine vops_callM ent13 rfl (own0 := newE) (by repeat (first | exact pm_here | exact pm_last | apply pm_next | apply pm_past)) (fun w' hg => c_markInt64S _ q.length q _ newE w' (NewI.f hE) (okS hg) lq' (by omega) (by omega)) ?_
  rintro _ newE2 ⟨rfl, hE2⟩
  repeat (first | refine vops_q tyOk rfl ?_ | refine vops_nil ?_ | refine vw_seq ?_ | refine vw_region (by kernel_rfl) ?_ | refine vops_guardF rfl rfl ?_)
  refine bs_dec (fun h => by omega) (fun _ => ?_)
  repeat (first | refine vops_guardF rfl rfl ?_ | with_reducible refine bs_false ?_ | ((show VOps _ _ _ _ (⟨some _, Go.Op.load _ _, _, _, _, none⟩ :: _) _ _); refine vops_loadNM tyOk rfl rfl rfl (by repeat (first | exact mem_here | apply mem_next | apply mem_past)) (by first | rfl | (rw [ints_length]; first | assumption | omega | (rw [ints_length]; first | assumption | omega | simp [*])) | simp [*]) ?_))
  apply vops_callp ent9 rfl
  · intro w' hg; exact c_eqMovement P S _ _ xs w' (NewFF.rdG hF (by repeat (first | exact sub_hereL | exact sub_refl | apply sub_cons | apply sub_app)) hg) (NewFF.rdG hC (by repeat (first | exact sub_hereL | exact sub_refl | apply sub_cons | apply sub_app)) hg) hlen hll
  repeat (first | refine vops_q tyOk rfl ?_ | refine vops_nil ?_ | refine vops_guardF rfl rfl ?_ | with_reducible refine bs_false ?_ | with_reducible refine bs_ntrue ?_ | refine vw_cond rfl ?_)
  refine bs_ndec2 (fun h => absurd rfl h) (fun _ => ?_)
  repeat (first | refine vops_q tyOk rfl ?_ | refine vops_nil ?_ | refine vw_seq ?_ | refine vw_region (by kernel_rfl) ?_ | refine vw_skip ?_ | ((show VOps _ _ _ _ (⟨some _, Go.Op.load _ _, _, _, _, none⟩ :: _) _ _); refine vops_loadNM tyOk rfl rfl rfl (by repeat (first | exact mem_here | apply mem_next | apply mem_past)) (by first | rfl | (rw [ints_length]; first | assumption | omega | (rw [ints_length]; first | assumption | omega | simp [*])) | simp [*]) ?_))
  refine vops_callM ent14 rfl (own0 := newF) (by repeat (first | exact pm_here | exact pm_last | apply pm_next | apply pm_past)) (fun w' hg => c_markMovement P S _ xs 1 newF w' hF (okS hg) hlen hsum (by omega) (by omega)) ?_
  rintro _ newJ ⟨rfl, hJ⟩
  repeat (first | refine vops_q tyOk rfl ?_ | refine vops_nil ?_ | refine vw_seq ?_ | refine vw_region (by kernel_rfl) ?_ | ((show VOps _ _ _ _ (⟨some _, Go.Op.load _ _, _, _, _, none⟩ :: _) _ _); refine vops_loadNM tyOk rfl rfl rfl (by repeat (first | exact mem_here | apply mem_next | apply mem_past)) (by first | rfl | (rw [ints_length]; first | assumption | omega | (rw [ints_length]; first | assumption | omega | simp [*])) | simp [*]) ?_))
  apply vops_callp ent15 rfl
  · intro w' hg; exact c_heldMovement P S _ xs 1 w' (NewFF.rdG hJ (by repeat (first | exact sub_hereL | exact sub_refl | apply sub_cons | apply sub_app)) hg) hlen hsum (by omega) (by omega)
  repeat (first | refine vops_q tyOk rfl ?_ | refine vops_nil ?_ | refine vw_seq ?_ | refine vw_region (by kernel_rfl) ?_ | refine vw_cond rfl ?_)
  refine bs_dec (fun h => by omega) (fun _ => ?_)
  repeat (first | refine vops_q tyOk rfl ?_ | refine vops_nil ?_ | refine vw_seq ?_ | refine vw_region (by kernel_rfl) ?_ | refine vw_cond rfl ?_ | refine vw_skip ?_)
  refine bs_ndec2 (fun h => absurd rfl h) (fun _ => ?_)
  repeat (first | refine vops_q tyOk rfl ?_ | refine vw_seq ?_ | refine vw_region (by kernel_rfl) ?_ | refine vw_skip ?_)
  apply vops_call ent6 rfl
  · intro w' hg; exact c_toInt64SS _ p w' (rp.same hg.fr) lp' llp'
  rintro _ newK hK
  obtain ⟨pK, cK, rfl⟩ := NewLL.form hK
  repeat (first | refine vops_q tyOk rfl ?_)
  apply vops_call ent7 rfl
  · intro w' hg; exact c_toInt64S _ q w' (rq.same hg.fr) lq'
  rintro _ newL hL
  obtain ⟨pL, cL, rfl⟩ := SlAt.form hL
  skip
  apply vops_call ent8 rfl
  · intro w' hg; exact mvW (c_impl_HowellOf m _ _ p q e0 e1 w' (NewLL.rdG hK (by repeat (first | exact sub_hereL | exact sub_refl | apply sub_cons | apply sub_app)) hg) (NewI.see hL (by repeat (first | exact sub_hereL | exact sub_refl | apply sub_cons | apply sub_app)) _ hg) (he.same hg.fr) lp' llp' lq' (capI hL)) hr
  rintro _ newM ⟨pM, cM, rfl, hM⟩
  repeat (first | refine vops_q tyOk rfl ?_ | refine vops_nil ?_ | refine vw_seq ?_ | refine vw_region (by kernel_rfl) ?_ | refine vops_allocZ [.int .i64 0, .int .i64 0, .slice none 0 0] tyOk rfl rfl (by simp) (fun b17 hb17 => ?_) | ((show VOps _ _ _ _ (⟨some _, Go.Op.load _ _, _, _, _, none⟩ :: _) _ _); refine vops_loadNM tyOk rfl rfl rfl (by repeat (first | exact mem_here | apply mem_next | apply mem_past)) (by first | rfl | (rw [ints_length]; first | assumption | omega | (rw [ints_length]; first | assumption | omega | simp [*])) | simp [*]) ?_) | ((show VOps _ _ _ _ (⟨none, Go.Op.store _ _ _, _, _, _, none⟩ :: _) _ _); refine vops_storeAM tyOk rfl rfl rfl (by first | rfl | (rw [ints_length]; first | assumption | omega | (rw [ints_length]; first | assumption | omega | simp [*])) | simp [*]) (by first | exact ints_one | simp [Value.oneCell']) (by repeat (first | exact upd_here | apply upd_next | apply upd_past)) (by first | rfl | (rw [ints_length]; first | assumption | omega | (rw [ints_length]; first | assumption | omega | simp [*])) | simp [*]) ?_))
  apply vops_callp ent9 rfl
  · intro w' hg; exact c_eqMovement P S _ _ xs w' (NewFF.rdG hM (by repeat (first | exact sub_hereL | exact sub_refl | apply sub_cons | apply sub_app)) hg) (NewFF.rdG hC (by repeat (first | exact sub_hereL | exact sub_refl | apply sub_cons | apply sub_app)) hg) hlen hll
  repeat (first | refine vops_q tyOk rfl ?_ | refine vops_nil ?_ | refine vops_guardF rfl rfl ?_ | with_reducible refine bs_false ?_ | with_reducible refine bs_ntrue ?_ | refine vw_cond rfl ?_)
  refine bs_ndec2 (fun h => absurd rfl h) (fun _ => ?_)
  repeat (first | refine vops_q tyOk rfl ?_ | refine vops_nil ?_ | refine vw_seq ?_ | refine vw_region (by kernel_rfl) ?_ | refine vw_skip ?_ | ((show VOps _ _ _ _ (⟨some _, Go.Op.load _ _, _, _, _, none⟩ :: _) _ _); refine vops_loadNM tyOk rfl rfl rfl (by repeat (first | exact mem_here | apply mem_next | apply mem_past)) (by first | rfl | (rw [ints_length]; first | assumption | omega | (rw [ints_length]; first | assumption | omega | simp [*])) | simp [*]) ?_))
  apply vops_callp ent15 rfl
  · intro w' hg; exact c_heldMovement P S _ xs 1 w' (NewFF.rdG hJ (by repeat (first | exact sub_hereL | exact sub_refl | apply sub_cons | apply sub_app)) hg) hlen hsum (by omega) (by omega)
  repeat (first | refine vops_q tyOk rfl ?_ | refine vops_nil ?_ | refine vw_seq ?_ | refine vw_region (by kernel_rfl) ?_ | refine vw_cond rfl ?_)
  refine bs_dec (fun h => by omega) (fun _ => ?_)
  repeat (first | refine vops_q tyOk rfl ?_ | refine vops_nil ?_ | refine vw_seq ?_ | refine vw_region (by kernel_rfl) ?_ | refine vw_cond rfl ?_ | refine vw_skip ?_)
  refine bs_ndec2 (fun h => absurd rfl h) (fun _ => ?_)
  repeat (first | refine vops_q tyOk rfl ?_ | refine vops_nil ?_ | refine vw_seq ?_ | refine vw_region (by kernel_rfl) ?_ | refine vw_skip ?_ | refine vw_ret ?_)
  exact rv_bool rfl rfl rfl
end Go.Proofs.YtdgaabkgfbihpaaDoor

