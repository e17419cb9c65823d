import Derived.Test.YtngpongdpphncaaR9
import Derived.Test.YtngpongdpphncaaVLArr
import Derived.Test.YtngpongdpphncaaVLTabD
/- Parts of the proof, one after another. No conditions of their own. -/
/- A part of the proof: R10. No conditions of its own. -/
namespace Go.Proofs.Ytngpongdpphncaa
open Go.VL
attribute [local irreducible] VWr VOps VD Calls

/-- Two results: a schedule, and a truth value. -/
def PairSB (e : Nat) (r : (Int × List (List Int)) × Bool) (v : Value) (new : Own) : Prop := ∃ p cap, v = .tuple #[.agg #[.int .i64 r.1.1, .slice p r.1.2.length cap], .bool r.2] ∧ NewR e 14 r.1.2 (.slice p r.1.2.length cap) new
theorem pairSB_ok {P : Program} {T : Nat → Option TI} {Γ : Ctx} {f : Nat → Value} {own : Own} (hT : Go.VL.TyOk P T) {e e' m n p t u b : Nat} {ti : TI} {fn : Func} {len cap : Nat} {nn : Int} {cd : Bool} {q : Option Addr} {rs : List (List Int)} {r : (Int × List (List Int)) × Bool} {new : Own} (h : fn.results = #[.cell p t, .tmp u]) (ht : T t = some ti) (ha : ti.isAgg = true) (hsz : ti.size = 2)
    (hp : f p = .pointer (some ⟨b, 0, none⟩)) (hm : (b, (⟨[.int .i64 nn, .slice q len cap], e', m, none⟩ : Blk)) ∈ own) (hx : f u = .bool cd) (hl : len = rs.length) (hN : NewR e 14 rs (.slice q len cap) new) (hs : Sub new own) (hr : r = ((nn, rs), cd)) : Out P Γ n fn (PairSB e r) .ret f own := by
  subst hl; subst hr
  exact ⟨_, new, rv_cell2 (cs := [.int .i64 nn, .slice q rs.length cap]) hT h hp ht ha hsz.symm (fun j v hj => by rw [Nat.zero_add]; exact sees_mem hm hj) hx, SlAt.nodup hN, hs, q, cap, rfl, hN⟩
open Classical in
noncomputable def rowsB (n : Int) (ls : List (List Int)) : (Int × List (List Int)) × Bool := if Rows n ls then ((n, rowsTab n ls), true) else ((0, []), false)
theorem canLay_two (q : List Int) (a b : Int) : canLay q [a, b] ↔ q.getD a.toNat 0 = a ∧ q.getD b.toNat 0 = b := Iff.rfl

open Classical in
set_option maxHeartbeats 2000000 in
set_option maxRecDepth 100000 in
theorem c_l04Rows (k : Nat) (v : Value) (ls : List (List Int)) (w : World) (hv : RdII w v ls) (h : IsSq k ls) :
    Calls Try.prog 94 [.agg #[.int .i64 k, v]].toArray w (Res w (PairSB 25 (rowsB ((k : Int) + 1) ls))) := by
  obtain ⟨a, cap, rfl⟩ := hv.len
  have hk1 := h.1
  have hk13 := h.2.1
  have hln : ls.length = k := by have := h.2.2.2.1; omega
  rw [hln]
  refine calls_of_vw Try.func94 rfl Try.ntmps94 (by simp) ?_
  refine vw_seq (vw_region (by kernel_rfl) (vops_box [.int .i64 k, .slice a k cap] rfl (fun b1 hb1 => ?_)))
  refine vops_allocZ [.int .i64 0, .slice none 0 0] tyOk rfl rfl (by simp) (fun b2 hb2 => ?_)
  repeat (first | refine vops_q tyOk rfl ?_ | refine vops_nil ?_ | refine vw_seq ?_ | refine vw_region (by kernel_rfl) ?_ | refine vops_guardT rfl rfl ?_ | refine vops_guardF rfl rfl ?_ | refine vops_guardU rfl rfl ?_ | with_reducible refine bs_nbeq rfl ?_ | with_reducible refine bs_true ?_ | with_reducible refine bs_false ?_ | with_reducible refine bs_ntrue ?_ | with_reducible refine bs_nfalse ?_ | refine vops_p tyOk rfl (by (try simp only [inR]); omega) ?_ | refine vw_cond rfl ?_ | refine vw_skip ?_ | refine vw_block ?_ | refine vw_ret ?_ | refine vw_exit ?_ | refine vops_build0 tyOk rfl rfl (fun be hbe => ?_) | ((show VOps _ _ _ _ (⟨some _, Go.Op.load _ _, _, _, _, none⟩ :: _) _ _); first | refine vops_loadM tyOk rfl rfl rfl (by repeat (first | exact mem_here | apply mem_next | apply mem_past)) (by rfl) ?_ | refine vops_loadM tyOk rfl rfl rfl (by repeat (first | exact mem_here | apply mem_next | apply mem_past)) (by exact ints_get0 (by omega)) ?_ | refine vops_loadNM tyOk rfl rfl rfl (by repeat (first | exact mem_here | apply mem_next | apply mem_past)) (by first | rfl | (rw [ints_length]; first | assumption | omega | (rw [ints_length]; first | assumption | omega | simp [*])) | simp [*]) ?_) | ((show VOps _ _ _ _ (⟨none, Go.Op.store _ _ _, _, _, _, none⟩ :: _) _ _); first | refine vops_storeIM tyOk rfl rfl rfl rfl (by repeat (first | exact upd_here | apply upd_next | apply upd_past)) (by omega) ?_ | refine vops_storeM tyOk rfl rfl rfl rfl rfl (by repeat (first | exact upd_here | apply upd_next | apply upd_past)) (by simp) ?_ | refine vops_storeAM tyOk rfl rfl rfl (by first | rfl | (rw [ints_length]; first | assumption | omega | (rw [ints_length]; first | assumption | omega | simp [*])) | simp [*]) (by first | exact ints_one | simp [Value.oneCell']) (by repeat (first | exact upd_here | apply upd_next | apply upd_past)) (by first | rfl | (rw [ints_length]; first | assumption | omega | (rw [ints_length]; first | assumption | omega | simp [*])) | simp [*]) ?_) | refine vops_build2 rfl rfl (by kernel_rfl) ?_ | refine vops_buildZ tyOk rfl (by kernel_rfl) ?_ | refine vops_slice tyOk rfl rfl rfl rfl rfl (by omega) ?_)
  refine vops_allocZ [.int .i64 0, .slice none 0 0] tyOk rfl rfl (by simp) (fun b4 hb4 => ?_)
  repeat (first | refine vops_q tyOk rfl ?_ | refine vops_nil ?_ | refine vw_seq ?_ | refine vw_region (by kernel_rfl) ?_ | refine vops_guardT rfl rfl ?_ | refine vops_guardF rfl rfl ?_ | refine vops_guardU rfl rfl ?_ | with_reducible refine bs_nbeq rfl ?_ | with_reducible refine bs_true ?_ | with_reducible refine bs_false ?_ | with_reducible refine bs_ntrue ?_ | with_reducible refine bs_nfalse ?_ | refine vops_p tyOk rfl (by (try simp only [inR]); omega) ?_ | refine vw_cond rfl ?_ | refine vw_skip ?_ | refine vw_block ?_ | refine vw_ret ?_ | refine vw_exit ?_ | ((show VOps _ _ _ _ (⟨some _, Go.Op.load _ _, _, _, _, none⟩ :: _) _ _); first | refine vops_loadM tyOk rfl rfl rfl (by repeat (first | exact mem_here | apply mem_next | apply mem_past)) (by rfl) ?_ | refine vops_loadM tyOk rfl rfl rfl (by repeat (first | exact mem_here | apply mem_next | apply mem_past)) (by exact ints_get0 (by omega)) ?_ | refine vops_loadNM tyOk rfl rfl rfl (by repeat (first | exact mem_here | apply mem_next | apply mem_past)) (by first | rfl | (rw [ints_length]; first | assumption | omega | (rw [ints_length]; first | assumption | omega | simp [*])) | simp [*]) ?_) | ((show VOps _ _ _ _ (⟨none, Go.Op.store _ _ _, _, _, _, none⟩ :: _) _ _); first | refine vops_storeIM tyOk rfl rfl rfl rfl (by repeat (first | exact upd_here | apply upd_next | apply upd_past)) (by omega) ?_ | refine vops_storeM tyOk rfl rfl rfl rfl rfl (by repeat (first | exact upd_here | apply upd_next | apply upd_past)) (by simp) ?_ | refine vops_storeAM tyOk rfl rfl rfl (by first | rfl | (rw [ints_length]; first | assumption | omega | (rw [ints_length]; first | assumption | omega | simp [*])) | simp [*]) (by first | exact ints_one | simp [Value.oneCell']) (by repeat (first | exact upd_here | apply upd_next | apply upd_past)) (by first | rfl | (rw [ints_length]; first | assumption | omega | (rw [ints_length]; first | assumption | omega | simp [*])) | simp [*]) ?_) | refine vops_build2 rfl rfl (by kernel_rfl) ?_ | refine vops_buildZ tyOk rfl (by kernel_rfl) ?_ | refine vops_slice tyOk rfl rfl rfl rfl rfl (by omega) ?_)
  have hrl : (rowsTab ((k : Int) + 1) ls).length = k := by unfold rowsTab; rw [List.length_map, hln]
  refine vw_loopW (fun x f own => ∃ (i : Nat) (p : Option Addr) (cp : Nat) (new : Own), i ≤ k ∧ x = k - i ∧ f 5 = .int .i64 i ∧ f 4 = .pointer (some ⟨b4, 0, none⟩) ∧ f 2 = .pointer (some ⟨b2, 0, none⟩) ∧ f 1 = .pointer (some ⟨b1, 0, none⟩) ∧
      NewF 25 14 i ((rowsTab ((k : Int) + 1) ls).take i).flatten (.slice p i cp) new ∧
      own = new ++ [(b4, ⟨[.int .i64 ((k : Int) + 1), .slice p i cp], 39, 2, none⟩), (b2, ⟨[.int .i64 0, .slice none 0 0], 39, 2, none⟩), (b1, ⟨[.int .i64 k, .slice a k cap], 50, 2, none⟩)] ∧
      ∀ (j : Nat) (l : List Int), j < i → ls[j]? = some l → rowRd ((k : Int) + 1) l ≠ none) k
    ⟨[(be, _)] ++ [(b4, _), (b2, _), (b1, _)], (by repeat (first | exact ole_nil | exact ole_refl | (apply ole_cons; (repeat (first | exact pm1_here | apply pm1_next | apply pm1_past))) | (apply ole_app; (repeat (first | exact pm_here | exact pm_last | apply pm_next | apply pm_past))))), 0, _, _, [_], by omega, by omega, rfl, rfl, rfl, rfl, NewF.empty, rfl, fun j l hj => by omega⟩ ?_
  rintro x f own ⟨i, p, cp, new, hi, rfl, h5, h4, h2, h1, hN, rfl, hall⟩
  rw [upd_of h5, upd_of h4, upd_of h2, upd_of h1]
  repeat (first | refine vops_q tyOk rfl ?_ | refine vops_nil ?_ | refine vw_seq ?_ | refine vw_region (by kernel_rfl) ?_ | refine vops_guardT rfl rfl ?_ | refine vops_guardF rfl rfl ?_ | refine vops_guardU rfl rfl ?_ | with_reducible refine bs_nbeq rfl ?_ | with_reducible refine bs_true ?_ | with_reducible refine bs_false ?_ | with_reducible refine bs_ntrue ?_ | with_reducible refine bs_nfalse ?_ | refine vops_p tyOk rfl (by (try simp only [inR]); omega) ?_ | refine vw_cond rfl ?_ | refine vw_skip ?_ | refine vw_block ?_ | refine vw_ret ?_ | refine vw_exit ?_ | ((show VOps _ _ _ _ (⟨some _, Go.Op.load _ _, _, _, _, none⟩ :: _) _ _); first | refine vops_loadM tyOk rfl rfl rfl (by repeat (first | exact mem_here | apply mem_next | apply mem_past)) (by rfl) ?_ | refine vops_loadM tyOk rfl rfl rfl (by repeat (first | exact mem_here | apply mem_next | apply mem_past)) (by exact ints_get0 (by omega)) ?_ | refine vops_loadNM tyOk rfl rfl rfl (by repeat (first | exact mem_here | apply mem_next | apply mem_past)) (by first | rfl | (rw [ints_length]; first | assumption | omega | (rw [ints_length]; first | assumption | omega | simp [*])) | simp [*]) ?_) | ((show VOps _ _ _ _ (⟨none, Go.Op.store _ _ _, _, _, _, none⟩ :: _) _ _); first | refine vops_storeIM tyOk rfl rfl rfl rfl (by repeat (first | exact upd_here | apply upd_next | apply upd_past)) (by omega) ?_ | refine vops_storeM tyOk rfl rfl rfl rfl rfl (by repeat (first | exact upd_here | apply upd_next | apply upd_past)) (by simp) ?_ | refine vops_storeAM tyOk rfl rfl rfl (by first | rfl | (rw [ints_length]; first | assumption | omega | (rw [ints_length]; first | assumption | omega | simp [*])) | simp [*]) (by first | exact ints_one | simp [Value.oneCell']) (by repeat (first | exact upd_here | apply upd_next | apply upd_past)) (by first | rfl | (rw [ints_length]; first | assumption | omega | (rw [ints_length]; first | assumption | omega | simp [*])) | simp [*]) ?_) | refine vops_build2 rfl rfl (by kernel_rfl) ?_ | refine vops_buildZ tyOk rfl (by kernel_rfl) ?_ | refine vops_slice tyOk rfl rfl rfl rfl rfl (by omega) ?_)
  refine bs_dec (fun hlt => ?_) (fun hlt => ?_)
  · have hik : i < k := by omega
    obtain ⟨b, o, cap1, b2', o2, cap2, he, hc, hc2⟩ := rdSq hv h (i := i) (by omega)
    cases he
    rw [Int.toNat_natCast] at hc hc2
    have hrow := h.row (i := i) (by omega)
    rw [Int.toNat_natCast] at hrow
    have hmem := List.mem_of_getElem? hrow
    repeat (first | refine vops_q tyOk rfl ?_ | refine vops_nil ?_ | refine vw_seq ?_ | refine vw_region (by kernel_rfl) ?_ | refine vops_guardT rfl rfl ?_ | refine vops_guardF rfl rfl ?_ | refine vops_guardU rfl rfl ?_ | with_reducible refine bs_nbeq rfl ?_ | with_reducible refine bs_true ?_ | with_reducible refine bs_false ?_ | with_reducible refine bs_ntrue ?_ | with_reducible refine bs_nfalse ?_ | refine vops_p tyOk rfl (by (try simp only [inR]); omega) ?_ | refine vw_cond rfl ?_ | refine vw_skip ?_ | refine vw_block ?_ | refine vw_ret ?_ | refine vw_exit ?_ | (apply vops_callp ent128 rfl; (intro w _; exact c_l01Free _ (by omega) (by omega) w)) | ((show VOps _ _ _ _ (⟨some _, Go.Op.load _ _, _, _, _, none⟩ :: _) _ _); first | refine vops_loadM tyOk rfl rfl rfl (by repeat (first | exact mem_here | apply mem_next | apply mem_past)) (by rfl) ?_ | refine vops_loadM tyOk rfl rfl rfl (by repeat (first | exact mem_here | apply mem_next | apply mem_past)) (by exact ints_get0 (by omega)) ?_ | refine vops_loadNM tyOk rfl rfl rfl (by repeat (first | exact mem_here | apply mem_next | apply mem_past)) (by first | rfl | (rw [ints_length]; first | assumption | omega | (rw [ints_length]; first | assumption | omega | simp [*])) | simp [*]) ?_) | ((show VOps _ _ _ _ (⟨none, Go.Op.store _ _ _, _, _, _, none⟩ :: _) _ _); first | refine vops_storeIM tyOk rfl rfl rfl rfl (by repeat (first | exact upd_here | apply upd_next | apply upd_past)) (by omega) ?_ | refine vops_storeM tyOk rfl rfl rfl rfl rfl (by repeat (first | exact upd_here | apply upd_next | apply upd_past)) (by simp) ?_ | refine vops_storeAM tyOk rfl rfl rfl (by first | rfl | (rw [ints_length]; first | assumption | omega | (rw [ints_length]; first | assumption | omega | simp [*])) | simp [*]) (by first | exact ints_one | simp [Value.oneCell']) (by repeat (first | exact upd_here | apply upd_next | apply upd_past)) (by first | rfl | (rw [ints_length]; first | assumption | omega | (rw [ints_length]; first | assumption | omega | simp [*])) | simp [*]) ?_) | refine vops_build2 rfl rfl (by kernel_rfl) ?_ | refine vops_buildZ tyOk rfl (by kernel_rfl) ?_ | refine vops_slice tyOk rfl rfl rfl rfl rfl (by omega) ?_)
    refine vops_allocZ (ints (List.replicate 14 0)) tyOk rfl rfl (by simp [ints]) (fun b6 hb6 => ?_)
    have hfl := freeTo_length ((k : Int) + 1)
    repeat (first | refine vops_q tyOk rfl ?_ | refine vops_nil ?_ | refine vw_seq ?_ | refine vw_region (by kernel_rfl) ?_ | refine vops_guardT rfl rfl ?_ | refine vops_guardF rfl rfl ?_ | refine vops_guardU rfl rfl ?_ | with_reducible refine bs_nbeq rfl ?_ | with_reducible refine bs_true ?_ | with_reducible refine bs_false ?_ | with_reducible refine bs_ntrue ?_ | with_reducible refine bs_nfalse ?_ | refine vops_p tyOk rfl (by (try simp only [inR]); omega) ?_ | refine vw_cond rfl ?_ | refine vw_skip ?_ | refine vw_block ?_ | refine vw_ret ?_ | refine vw_exit ?_ | ((show VOps _ _ _ _ (⟨some _, Go.Op.load _ _, _, _, _, none⟩ :: _) _ _); first | refine vops_loadM tyOk rfl rfl rfl (by repeat (first | exact mem_here | apply mem_next | apply mem_past)) (by rfl) ?_ | refine vops_loadM tyOk rfl rfl rfl (by repeat (first | exact mem_here | apply mem_next | apply mem_past)) (by exact ints_get0 (by omega)) ?_ | refine vops_loadNM tyOk rfl rfl rfl (by repeat (first | exact mem_here | apply mem_next | apply mem_past)) (by first | rfl | (rw [ints_length]; first | assumption | omega | (rw [ints_length]; first | assumption | omega | simp [*])) | simp [*]) ?_) | ((show VOps _ _ _ _ (⟨none, Go.Op.store _ _ _, _, _, _, none⟩ :: _) _ _); first | refine vops_storeIM tyOk rfl rfl rfl rfl (by repeat (first | exact upd_here | apply upd_next | apply upd_past)) (by omega) ?_ | refine vops_storeM tyOk rfl rfl rfl rfl rfl (by repeat (first | exact upd_here | apply upd_next | apply upd_past)) (by simp) ?_ | refine vops_storeAM tyOk rfl rfl rfl (by first | rfl | (rw [ints_length]; first | assumption | omega | (rw [ints_length]; first | assumption | omega | simp [*])) | simp [*]) (by first | exact ints_one | simp [Value.oneCell']) (by repeat (first | exact upd_here | apply upd_next | apply upd_past)) (by first | rfl | (rw [ints_length]; first | assumption | omega | (rw [ints_length]; first | assumption | omega | simp [*])) | simp [*]) ?_) | refine vops_build2 rfl rfl (by kernel_rfl) ?_ | refine vops_buildZ tyOk rfl (by kernel_rfl) ?_ | refine vops_slice tyOk rfl rfl rfl rfl rfl (by omega) ?_)
    refine vw_loopW (fun x f own => ∃ (j : Nat) (q : List Int), j ≤ k ∧ x = k - j ∧ f 7 = .int .i64 j ∧ f 6 = .pointer (some ⟨b6, 0, none⟩) ∧ f 5 = .int .i64 i ∧ f 4 = .pointer (some ⟨b4, 0, none⟩) ∧ f 2 = .pointer (some ⟨b2, 0, none⟩) ∧ f 1 = .pointer (some ⟨b1, 0, none⟩) ∧ q.length = 14 ∧
        rowRd ((k : Int) + 1) ((lst k (at2 ls i)).take j) = some q ∧
        own = (b6, ⟨ints q, 25, 14, none⟩) :: (new ++ [(b4, ⟨[.int .i64 ((k : Int) + 1), .slice p i cp], 39, 2, none⟩), (b2, ⟨[.int .i64 0, .slice none 0 0], 39, 2, none⟩), (b1, ⟨[.int .i64 k, .slice (some ⟨b, o, none⟩) k cap], 50, 2, none⟩)])) k
      ⟨_, ole_refl, 0, freeTo ((k : Int) + 1), by omega, by omega, rfl, rfl, rfl, rfl, rfl, rfl, hfl, rfl, rfl⟩ ?_
    rintro x f own ⟨j, q, hj, rfl, h7, h6, h5, h4, h2, h1, hql, hrq, rfl⟩
    rw [upd_of h7, upd_of h6, upd_of h5, upd_of h4, upd_of h2, upd_of h1]
    repeat (first | refine vops_q tyOk rfl ?_ | refine vops_nil ?_ | refine vw_seq ?_ | refine vw_region (by kernel_rfl) ?_ | refine vops_guardT rfl rfl ?_ | refine vops_guardF rfl rfl ?_ | refine vops_guardU rfl rfl ?_ | with_reducible refine bs_nbeq rfl ?_ | with_reducible refine bs_true ?_ | with_reducible refine bs_false ?_ | with_reducible refine bs_ntrue ?_ | with_reducible refine bs_nfalse ?_ | refine vops_p tyOk rfl (by (try simp only [inR]); omega) ?_ | refine vw_cond rfl ?_ | refine vw_skip ?_ | refine vw_block ?_ | refine vw_ret ?_ | refine vw_exit ?_ | refine vops_load tyOk rfl rfl rfl (sees_old hc (by simp)) ?_ | ((show VOps _ _ _ _ (⟨some _, Go.Op.load _ _, _, _, _, none⟩ :: _) _ _); first | refine vops_loadM tyOk rfl rfl rfl (by repeat (first | exact mem_here | apply mem_next | apply mem_past)) (by rfl) ?_ | refine vops_loadM tyOk rfl rfl rfl (by repeat (first | exact mem_here | apply mem_next | apply mem_past)) (by exact ints_get0 (by omega)) ?_ | refine vops_loadNM tyOk rfl rfl rfl (by repeat (first | exact mem_here | apply mem_next | apply mem_past)) (by first | rfl | (rw [ints_length]; first | assumption | omega | (rw [ints_length]; first | assumption | omega | simp [*])) | simp [*]) ?_) | ((show VOps _ _ _ _ (⟨none, Go.Op.store _ _ _, _, _, _, none⟩ :: _) _ _); first | refine vops_storeIM tyOk rfl rfl rfl rfl (by repeat (first | exact upd_here | apply upd_next | apply upd_past)) (by omega) ?_ | refine vops_storeM tyOk rfl rfl rfl rfl rfl (by repeat (first | exact upd_here | apply upd_next | apply upd_past)) (by simp) ?_ | refine vops_storeAM tyOk rfl rfl rfl (by first | rfl | (rw [ints_length]; first | assumption | omega | (rw [ints_length]; first | assumption | omega | simp [*])) | simp [*]) (by first | exact ints_one | simp [Value.oneCell']) (by repeat (first | exact upd_here | apply upd_next | apply upd_past)) (by first | rfl | (rw [ints_length]; first | assumption | omega | (rw [ints_length]; first | assumption | omega | simp [*])) | simp [*]) ?_) | refine vops_build2 rfl rfl (by kernel_rfl) ?_ | refine vops_buildZ tyOk rfl (by kernel_rfl) ?_ | refine vops_slice tyOk rfl rfl rfl rfl rfl (by omega) ?_)
    refine bs_dec (fun hlt2 => ?_) (fun hlt2 => ?_)
    · have hjk : j < k := by omega
      have hcj := hc2 j hjk
      have hstep := rowRd_step (x := at2 ls i j) (by rw [lst_get hjk]) hrq
      have hok := h.cell (i := i) (j := j) (by omega) (by omega)
      generalize at2 ls i j = x at *
      repeat (first | refine vops_q tyOk rfl ?_ | refine vops_nil ?_ | refine vw_seq ?_ | refine vw_region (by kernel_rfl) ?_ | refine vops_guardT rfl rfl ?_ | refine vops_guardF rfl rfl ?_ | refine vops_guardU rfl rfl ?_ | with_reducible refine bs_nbeq rfl ?_ | with_reducible refine bs_true ?_ | with_reducible refine bs_false ?_ | with_reducible refine bs_ntrue ?_ | with_reducible refine bs_nfalse ?_ | refine vops_p tyOk rfl (by (try simp only [inR]); omega) ?_ | refine vw_cond rfl ?_ | refine vw_skip ?_ | refine vw_block ?_ | refine vw_ret ?_ | refine vw_exit ?_ | refine vops_load tyOk rfl rfl rfl (sees_old hc (by simp)) ?_ | refine vops_load tyOk rfl rfl rfl (sees_old hcj (by simp)) ?_ | ((show VOps _ _ _ _ (⟨some _, Go.Op.load _ _, _, _, _, none⟩ :: _) _ _); first | refine vops_loadM tyOk rfl rfl rfl (by repeat (first | exact mem_here | apply mem_next | apply mem_past)) (by rfl) ?_ | refine vops_loadM tyOk rfl rfl rfl (by repeat (first | exact mem_here | apply mem_next | apply mem_past)) (by exact ints_get0 (by omega)) ?_ | refine vops_loadNM tyOk rfl rfl rfl (by repeat (first | exact mem_here | apply mem_next | apply mem_past)) (by first | rfl | (rw [ints_length]; first | assumption | omega | (rw [ints_length]; first | assumption | omega | simp [*])) | simp [*]) ?_) | ((show VOps _ _ _ _ (⟨none, Go.Op.store _ _ _, _, _, _, none⟩ :: _) _ _); first | refine vops_storeIM tyOk rfl rfl rfl rfl (by repeat (first | exact upd_here | apply upd_next | apply upd_past)) (by omega) ?_ | refine vops_storeM tyOk rfl rfl rfl rfl rfl (by repeat (first | exact upd_here | apply upd_next | apply upd_past)) (by simp) ?_ | refine vops_storeAM tyOk rfl rfl rfl (by first | rfl | (rw [ints_length]; first | assumption | omega | (rw [ints_length]; first | assumption | omega | simp [*])) | simp [*]) (by first | exact ints_one | simp [Value.oneCell']) (by repeat (first | exact upd_here | apply upd_next | apply upd_past)) (by first | rfl | (rw [ints_length]; first | assumption | omega | (rw [ints_length]; first | assumption | omega | simp [*])) | simp [*]) ?_) | refine vops_build2 rfl rfl (by kernel_rfl) ?_ | refine vops_buildZ tyOk rfl (by kernel_rfl) ?_ | refine vops_slice tyOk rfl rfl rfl rfl rfl (by omega) ?_)
      by_cases hx : x = -1
      · rw [if_pos hx] at hstep
        repeat' (first | refine vops_q tyOk rfl ?_ | refine vops_nil ?_ | refine vw_seq ?_ | refine vw_region (by kernel_rfl) ?_ | refine vops_guardT rfl rfl ?_ | refine vops_guardF rfl rfl ?_ | refine vops_guardU rfl rfl ?_ | with_reducible refine bs_nbeq rfl ?_ | with_reducible refine bs_true ?_ | with_reducible refine bs_false ?_ | with_reducible refine bs_ntrue ?_ | with_reducible refine bs_nfalse ?_ | refine vops_p tyOk rfl (by (try simp only [inR]); omega) ?_ | refine vw_cond rfl ?_ | refine vw_skip ?_ | refine vw_block ?_ | refine vw_ret ?_ | refine vw_exit ?_ | (with_reducible refine bs_dec (fun _ => ?_) (fun _ => ?_)) <;> try (exfalso; omega) | (with_reducible refine bs_ndec (fun _ => ?_) (fun _ => ?_)) <;> try (exfalso; omega) | with_reducible refine bs_nany (fun _ => ?_) (fun _ => ?_) | with_reducible refine bs_any (fun _ => ?_) (fun _ => ?_) | ((show VOps _ _ _ _ (⟨some _, Go.Op.load _ _, _, _, _, none⟩ :: _) _ _); first | refine vops_loadM tyOk rfl rfl rfl (by repeat (first | exact mem_here | apply mem_next | apply mem_past)) (by rfl) ?_ | refine vops_loadM tyOk rfl rfl rfl (by repeat (first | exact mem_here | apply mem_next | apply mem_past)) (by exact ints_get0 (by omega)) ?_ | refine vops_loadNM tyOk rfl rfl rfl (by repeat (first | exact mem_here | apply mem_next | apply mem_past)) (by first | rfl | (rw [ints_length]; first | assumption | omega | (rw [ints_length]; first | assumption | omega | simp [*])) | simp [*]) ?_) | ((show VOps _ _ _ _ (⟨none, Go.Op.store _ _ _, _, _, _, none⟩ :: _) _ _); first | refine vops_storeIM tyOk rfl rfl rfl rfl (by repeat (first | exact upd_here | apply upd_next | apply upd_past)) (by omega) ?_ | refine vops_storeM tyOk rfl rfl rfl rfl rfl (by repeat (first | exact upd_here | apply upd_next | apply upd_past)) (by simp) ?_ | refine vops_storeAM tyOk rfl rfl rfl (by first | rfl | (rw [ints_length]; first | assumption | omega | (rw [ints_length]; first | assumption | omega | simp [*])) | simp [*]) (by first | exact ints_one | simp [Value.oneCell']) (by repeat (first | exact upd_here | apply upd_next | apply upd_past)) (by first | rfl | (rw [ints_length]; first | assumption | omega | (rw [ints_length]; first | assumption | omega | simp [*])) | simp [*]) ?_) | refine vops_build2 rfl rfl (by kernel_rfl) ?_ | refine vops_buildZ tyOk rfl (by kernel_rfl) ?_ | refine vops_slice tyOk rfl rfl rfl rfl rfl (by omega) ?_)
        exact ⟨k - (j + 1), by omega, _, ole_refl, j + 1, q, by omega, rfl, rfl, rfl, rfl, rfl, rfl, rfl, hql, hstep, rfl⟩
      · rw [if_neg hx] at hstep
        obtain ⟨hx0, hx1, e1, e2, hlo, hlt3, hhi, _⟩ := hok.dm hk13 hx
        rw [e1, e2] at hstep hlt3
        rw [e1] at hlo
        rw [e2] at hhi
        by_cases hcl : canLay q [x / 14, x % 14]
        · rw [if_pos hcl] at hstep
          rw [canLay_two] at hcl
          have hs1 : (q.set (x / 14).toNat (x % 14)).length = 14 := by rw [List.length_set]; exact hql
          repeat' (first | refine vops_q tyOk rfl ?_ | refine vops_nil ?_ | refine vw_seq ?_ | refine vw_region (by kernel_rfl) ?_ | refine vops_guardT rfl rfl ?_ | refine vops_guardF rfl rfl ?_ | refine vops_guardU rfl rfl ?_ | with_reducible refine bs_nbeq rfl ?_ | with_reducible refine bs_true ?_ | with_reducible refine bs_false ?_ | with_reducible refine bs_ntrue ?_ | with_reducible refine bs_nfalse ?_ | refine vops_p tyOk rfl (by (try simp only [inR]); omega) ?_ | refine vw_cond rfl ?_ | refine vw_skip ?_ | refine vw_block ?_ | refine vw_ret ?_ | refine vw_exit ?_ | (with_reducible refine bs_dec (fun _ => ?_) (fun _ => ?_)) <;> try (exfalso; omega) | (with_reducible refine bs_ndec (fun _ => ?_) (fun _ => ?_)) <;> try (exfalso; omega) | with_reducible refine bs_nany (fun _ => ?_) (fun _ => ?_) | with_reducible refine bs_any (fun _ => ?_) (fun _ => ?_) | ((show VOps _ _ _ _ (⟨some _, Go.Op.load _ _, _, _, _, none⟩ :: _) _ _); first | refine vops_loadM tyOk rfl rfl rfl (by repeat (first | exact mem_here | apply mem_next | apply mem_past)) (by rfl) ?_ | refine vops_loadM tyOk rfl rfl rfl (by repeat (first | exact mem_here | apply mem_next | apply mem_past)) (by exact ints_get0 (by omega)) ?_ | refine vops_loadNM tyOk rfl rfl rfl (by repeat (first | exact mem_here | apply mem_next | apply mem_past)) (by first | rfl | (rw [ints_length]; first | assumption | omega | (rw [ints_length]; first | assumption | omega | simp [*])) | simp [*]) ?_) | ((show VOps _ _ _ _ (⟨none, Go.Op.store _ _ _, _, _, _, none⟩ :: _) _ _); first | refine vops_storeIM tyOk rfl rfl rfl rfl (by repeat (first | exact upd_here | apply upd_next | apply upd_past)) (by omega) ?_ | refine vops_storeM tyOk rfl rfl rfl rfl rfl (by repeat (first | exact upd_here | apply upd_next | apply upd_past)) (by simp) ?_ | refine vops_storeAM tyOk rfl rfl rfl (by first | rfl | (rw [ints_length]; first | assumption | omega | (rw [ints_length]; first | assumption | omega | simp [*])) | simp [*]) (by first | exact ints_one | simp [Value.oneCell']) (by repeat (first | exact upd_here | apply upd_next | apply upd_past)) (by first | rfl | (rw [ints_length]; first | assumption | omega | (rw [ints_length]; first | assumption | omega | simp [*])) | simp [*]) ?_) | refine vops_build2 rfl rfl (by kernel_rfl) ?_ | refine vops_buildZ tyOk rfl (by kernel_rfl) ?_ | refine vops_slice tyOk rfl rfl rfl rfl rfl (by omega) ?_)
          exact ⟨k - (j + 1), by omega, _, ole_refl, j + 1, lay q [x / 14, x % 14], by omega, rfl, rfl, rfl, rfl, rfl, rfl, rfl, by rw [lay_length]; exact hql, hstep, rfl⟩
        · rw [if_neg hcl] at hstep
          rw [canLay_two] at hcl
          have hbad : rowsB ((k : Int) + 1) ls = ((0, []), false) := by
            rw [rowsB, if_neg fun hr => hr _ hmem (rowRd_cut hstep)]
          repeat' (first | refine vops_q tyOk rfl ?_ | refine vops_nil ?_ | refine vw_seq ?_ | refine vw_region (by kernel_rfl) ?_ | refine vops_guardT rfl rfl ?_ | refine vops_guardF rfl rfl ?_ | refine vops_guardU rfl rfl ?_ | with_reducible refine bs_nbeq rfl ?_ | with_reducible refine bs_true ?_ | with_reducible refine bs_false ?_ | with_reducible refine bs_ntrue ?_ | with_reducible refine bs_nfalse ?_ | refine vops_p tyOk rfl (by (try simp only [inR]); omega) ?_ | refine vw_cond rfl ?_ | refine vw_skip ?_ | refine vw_block ?_ | refine vw_ret ?_ | refine vw_exit ?_ | (with_reducible refine bs_dec (fun _ => ?_) (fun _ => ?_)) <;> try (exfalso; omega) | (with_reducible refine bs_ndec (fun _ => ?_) (fun _ => ?_)) <;> try (exfalso; omega) | with_reducible refine bs_nany (fun _ => ?_) (fun _ => ?_) | with_reducible refine bs_any (fun _ => ?_) (fun _ => ?_) | ((show VOps _ _ _ _ (⟨some _, Go.Op.load _ _, _, _, _, none⟩ :: _) _ _); first | refine vops_loadM tyOk rfl rfl rfl (by repeat (first | exact mem_here | apply mem_next | apply mem_past)) (by rfl) ?_ | refine vops_loadM tyOk rfl rfl rfl (by repeat (first | exact mem_here | apply mem_next | apply mem_past)) (by exact ints_get0 (by omega)) ?_ | refine vops_loadNM tyOk rfl rfl rfl (by repeat (first | exact mem_here | apply mem_next | apply mem_past)) (by first | rfl | (rw [ints_length]; first | assumption | omega | (rw [ints_length]; first | assumption | omega | simp [*])) | simp [*]) ?_) | ((show VOps _ _ _ _ (⟨none, Go.Op.store _ _ _, _, _, _, none⟩ :: _) _ _); first | refine vops_storeIM tyOk rfl rfl rfl rfl (by repeat (first | exact upd_here | apply upd_next | apply upd_past)) (by omega) ?_ | refine vops_storeM tyOk rfl rfl rfl rfl rfl (by repeat (first | exact upd_here | apply upd_next | apply upd_past)) (by simp) ?_ | refine vops_storeAM tyOk rfl rfl rfl (by first | rfl | (rw [ints_length]; first | assumption | omega | (rw [ints_length]; first | assumption | omega | simp [*])) | simp [*]) (by first | exact ints_one | simp [Value.oneCell']) (by repeat (first | exact upd_here | apply upd_next | apply upd_past)) (by first | rfl | (rw [ints_length]; first | assumption | omega | (rw [ints_length]; first | assumption | omega | simp [*])) | simp [*]) ?_) | refine vops_build2 rfl rfl (by kernel_rfl) ?_ | refine vops_buildZ tyOk rfl (by kernel_rfl) ?_ | refine vops_slice tyOk rfl rfl rfl rfl rfl (by omega) ?_)
          all_goals exact pairSB_ok (rs := []) tyOk rfl rfl rfl rfl rfl (by repeat (first | exact mem_here | apply mem_next | apply mem_past)) rfl rfl SlAt.nil sub_nil hbad
    · obtain rfl : j = k := by omega
      have htk : (lst j (at2 ls i)).take j = lst j (at2 ls i) := List.take_of_length_le (by rw [lst_length]; omega)
      rw [htk] at hrq
      have hst : ((rowsTab ((j : Int) + 1) ls).take (i + 1)).flatten = ((rowsTab ((j : Int) + 1) ls).take i).flatten ++ q := by
        rw [List.take_add_one]
        unfold rowsTab
        rw [List.getElem?_map, hrow]
        simp [rowR, hrq]
      repeat (first | refine vops_q tyOk rfl ?_ | refine vops_nil ?_ | refine vw_seq ?_ | refine vw_region (by kernel_rfl) ?_ | refine vops_guardT rfl rfl ?_ | refine vops_guardF rfl rfl ?_ | refine vops_guardU rfl rfl ?_ | with_reducible refine bs_nbeq rfl ?_ | with_reducible refine bs_true ?_ | with_reducible refine bs_false ?_ | with_reducible refine bs_ntrue ?_ | with_reducible refine bs_nfalse ?_ | refine vops_p tyOk rfl (by (try simp only [inR]); omega) ?_ | refine vw_cond rfl ?_ | refine vw_skip ?_ | refine vw_block ?_ | refine vw_ret ?_ | refine vw_exit ?_ | refine vops_loadNM tyOk rfl rfl rfl (by repeat (first | exact mem_here | apply mem_next | apply mem_past)) (by rw [ints_length]; exact hql) ?_ | refine vops_litR (k := 14) tyOk rfl rfl (List.cons_ne_nil _ _) rfl hql rfl (by omega) (by omega) (fun be hbe => ?_) | refine vops_append1 (k := 14) tyOk rfl rfl (List.cons_ne_nil _ _) rfl rfl (by decide) rfl hN (by repeat (first | exact pm_here | exact pm_last | apply pm_next | apply pm_past)) rfl (by repeat (first | exact mem_here | apply mem_next | apply mem_past)) (by first | assumption | omega) (by omega) (fun p' cap' new' hN' => ?_) | ((show VOps _ _ _ _ (⟨some _, Go.Op.load _ _, _, _, _, none⟩ :: _) _ _); first | refine vops_loadM tyOk rfl rfl rfl (by repeat (first | exact mem_here | apply mem_next | apply mem_past)) (by rfl) ?_ | refine vops_loadM tyOk rfl rfl rfl (by repeat (first | exact mem_here | apply mem_next | apply mem_past)) (by exact ints_get0 (by omega)) ?_ | refine vops_loadNM tyOk rfl rfl rfl (by repeat (first | exact mem_here | apply mem_next | apply mem_past)) (by first | rfl | (rw [ints_length]; first | assumption | omega | (rw [ints_length]; first | assumption | omega | simp [*])) | simp [*]) ?_) | ((show VOps _ _ _ _ (⟨none, Go.Op.store _ _ _, _, _, _, none⟩ :: _) _ _); first | refine vops_storeIM tyOk rfl rfl rfl rfl (by repeat (first | exact upd_here | apply upd_next | apply upd_past)) (by omega) ?_ | refine vops_storeM tyOk rfl rfl rfl rfl rfl (by repeat (first | exact upd_here | apply upd_next | apply upd_past)) (by simp) ?_ | refine vops_storeAM tyOk rfl rfl rfl (by first | rfl | (rw [ints_length]; first | assumption | omega | (rw [ints_length]; first | assumption | omega | simp [*])) | simp [*]) (by first | exact ints_one | simp [Value.oneCell']) (by repeat (first | exact upd_here | apply upd_next | apply upd_past)) (by first | rfl | (rw [ints_length]; first | assumption | omega | (rw [ints_length]; first | assumption | omega | simp [*])) | simp [*]) ?_) | refine vops_build2 rfl rfl (by kernel_rfl) ?_ | refine vops_buildZ tyOk rfl (by kernel_rfl) ?_ | refine vops_slice tyOk rfl rfl rfl rfl rfl (by omega) ?_)
      refine ⟨j - (i + 1), by omega, new' ++ [(b4, _), (b2, _), (b1, _)], (by repeat (first | exact ole_nil | exact ole_refl | (apply ole_cons; (repeat (first | exact pm1_here | apply pm1_next | apply pm1_past))) | (apply ole_app; (repeat (first | exact pm_here | exact pm_last | apply pm_next | apply pm_past))))), i + 1, p', cap', new', by omega, rfl, rfl, rfl, rfl, rfl, hN'.cast hst.symm, rfl, fun j2 l' hj2 hl' => ?_⟩
      by_cases hji : j2 = i
      · subst hji
        obtain rfl := Option.some.inj (hrow.symm.trans hl')
        rw [hrq]; exact Option.some_ne_none q
      · exact hall j2 l' (by omega) hl'
  · obtain rfl : i = k := by omega
    have hgood : Rows ((i : Int) + 1) ls := fun l hl => by
      obtain ⟨j, hj⟩ := List.mem_iff_getElem?.1 hl
      exact hall j l (by have := (List.getElem?_eq_some_iff.1 hj).1; omega) hj
    repeat (first | refine vops_q tyOk rfl ?_ | refine vops_nil ?_ | refine vw_seq ?_ | refine vw_region (by kernel_rfl) ?_ | refine vops_guardT rfl rfl ?_ | refine vops_guardF rfl rfl ?_ | refine vops_guardU rfl rfl ?_ | with_reducible refine bs_nbeq rfl ?_ | with_reducible refine bs_true ?_ | with_reducible refine bs_false ?_ | with_reducible refine bs_ntrue ?_ | with_reducible refine bs_nfalse ?_ | refine vops_p tyOk rfl (by (try simp only [inR]); omega) ?_ | refine vw_cond rfl ?_ | refine vw_skip ?_ | refine vw_block ?_ | refine vw_ret ?_ | refine vw_exit ?_ | ((show VOps _ _ _ _ (⟨some _, Go.Op.load _ _, _, _, _, none⟩ :: _) _ _); first | refine vops_loadM tyOk rfl rfl rfl (by repeat (first | exact mem_here | apply mem_next | apply mem_past)) (by rfl) ?_ | refine vops_loadM tyOk rfl rfl rfl (by repeat (first | exact mem_here | apply mem_next | apply mem_past)) (by exact ints_get0 (by omega)) ?_ | refine vops_loadNM tyOk rfl rfl rfl (by repeat (first | exact mem_here | apply mem_next | apply mem_past)) (by first | rfl | (rw [ints_length]; first | assumption | omega | (rw [ints_length]; first | assumption | omega | simp [*])) | simp [*]) ?_) | ((show VOps _ _ _ _ (⟨none, Go.Op.store _ _ _, _, _, _, none⟩ :: _) _ _); first | refine vops_storeIM tyOk rfl rfl rfl rfl (by repeat (first | exact upd_here | apply upd_next | apply upd_past)) (by omega) ?_ | refine vops_storeM tyOk rfl rfl rfl rfl rfl (by repeat (first | exact upd_here | apply upd_next | apply upd_past)) (by simp) ?_ | refine vops_storeAM tyOk rfl rfl rfl (by first | rfl | (rw [ints_length]; first | assumption | omega | (rw [ints_length]; first | assumption | omega | simp [*])) | simp [*]) (by first | exact ints_one | simp [Value.oneCell']) (by repeat (first | exact upd_here | apply upd_next | apply upd_past)) (by first | rfl | (rw [ints_length]; first | assumption | omega | (rw [ints_length]; first | assumption | omega | simp [*])) | simp [*]) ?_) | refine vops_build2 rfl rfl (by kernel_rfl) ?_ | refine vops_buildZ tyOk rfl (by kernel_rfl) ?_ | refine vops_slice tyOk rfl rfl rfl rfl rfl (by omega) ?_)
    have hfin : NewR 25 14 (rowsTab ((i : Int) + 1) ls) (.slice p i cp) new := NewF.r (m := 0) hN hrl.symm (by rw [List.take_of_length_le (by omega)])
    exact pairSB_ok tyOk rfl rfl rfl rfl rfl (by repeat (first | exact mem_here | apply mem_next | apply mem_past)) rfl hrl.symm hfin (by repeat (first | exact sub_hereL | exact sub_refl | apply sub_cons | apply sub_app)) (by rw [rowsB, if_pos hgood])
end Go.Proofs.Ytngpongdpphncaa

/- A part of the proof: R11. No conditions of its own. -/
namespace Go.Proofs.Ytngpongdpphncaa
open Go.VL
attribute [local irreducible] VWr VOps VD Calls

theorem transp_le {m : Int} {ls : List (List Int)} (h : IsSq m ls) : (transp m ls).length ≤ 1048576 ∧ (∀ l ∈ transp m ls, l.length ≤ 1048576) ∧ ∀ l ∈ transp m ls, ∀ x ∈ l, In64 x := by
  have h13 := h.2.1
  refine ⟨by unfold transp; rw [tabN_length]; omega, fun l hl => ?_, fun l hl x hx => ?_⟩
  · obtain ⟨i, _, rfl⟩ := tabN_mem hl; rw [lst_length]; omega
  · have := (h.transp.2.2.2.2 l hl).2 x hx
    unfold CellOk at this; unfold In64; omega
open Classical in
set_option maxHeartbeats 1000000 in
set_option maxRecDepth 100000 in
theorem c_impl_ColumnsOf (m : Int) (v : Value) (ls : List (List Int)) (w : World) (hv : RdII w v ls) (hl : ls.length ≤ 1048576) (hll : ∀ l ∈ ls, l.length ≤ 1048576) (h64 : ∀ l ∈ ls, ∀ x ∈ l, In64 x) :
    Calls Try.prog 48 [.agg #[.int .i64 m, v]].toArray w (Res w (PairS 25 (colsOf m ls))) := by
  obtain ⟨a, cap, rfl⟩ := hv.len
  refine calls_of_vw Try.func48 rfl Try.ntmps48 (by simp) ?_
  refine vw_seq (vw_region (by kernel_rfl) (vops_box [.int .i64 m, .slice a ls.length cap] rfl (fun b1 hb1 => ?_)))
  refine vops_allocZ [.int .i64 0, .slice none 0 0] tyOk rfl rfl (by simp) (fun b2 hb2 => ?_)
  by_cases h : IsSq m ls
  · have e : transposeR m ls = ((m, transp m ls), 0) := by rw [transposeR, if_pos h]
    have hc : ∀ w', Fr [] w w' → Calls Try.prog 61 [.agg #[.int .i64 m, .slice a ls.length cap]].toArray w' (Res w' (PairSq 32 2 ((m, transp m ls), 0))) := fun w' hf => by
      have := c_impl_TransposeSquare m _ ls w' (hv.same hf) hl hll h64; rwa [e] at this
    obtain ⟨t1, t2, t3⟩ := transp_le h
    have e2 : colsOf m ls = rowsOf m (transp m ls) := by rw [colsOf, if_pos h]
    repeat' (first | refine vops_q tyOk rfl ?_ | refine vops_nil ?_ | refine vw_seq ?_ | refine vw_region (by kernel_rfl) ?_ | refine vops_guardT rfl rfl ?_ | refine vops_guardF rfl rfl ?_ | refine vops_guardU rfl rfl ?_ | with_reducible refine bs_nbeq rfl ?_ | with_reducible refine bs_true ?_ | with_reducible refine bs_false ?_ | with_reducible refine bs_ntrue ?_ | with_reducible refine bs_nfalse ?_ | refine vops_p tyOk rfl (by (try simp only [inR]); omega) ?_ | refine vw_cond rfl ?_ | refine vw_skip ?_ | refine vw_block ?_ | refine vw_ret ?_ | refine vw_exit ?_ | (with_reducible refine bs_dec (fun _ => ?_) (fun _ => ?_)) <;> try (exfalso; omega) | (with_reducible refine bs_ndec (fun _ => ?_) (fun _ => ?_)) <;> try (exfalso; omega) | with_reducible refine bs_nany (fun _ => ?_) (fun _ => ?_) | with_reducible refine bs_any (fun _ => ?_) (fun _ => ?_) | (apply vops_call ent61 rfl; (intro w' hg; exact hc w' hg.fr); (rintro _ newN ⟨p, cp, rfl, hN⟩)) | refine vops_allocZ [.int .i64 0, .slice none 0 0] tyOk rfl rfl (by simp) (fun b4 hb4 => ?_) | (apply vops_call ent42 rfl; (intro w' hg; exact c_impl_RowsOf m _ _ w' (NewT.rdG (by assumption) (by repeat (first | exact sub_hereL | exact sub_refl | apply sub_cons | apply sub_app)) hg) t1 t2 t3); (rintro _ newN ⟨p2, cp2, rfl, hN2⟩)) | ((show VOps _ _ _ _ (⟨some _, Go.Op.load _ _, _, _, _, none⟩ :: _) _ _); first | refine vops_loadM tyOk rfl rfl rfl (by repeat (first | exact mem_here | apply mem_next | apply mem_past)) (by rfl) ?_ | refine vops_loadM tyOk rfl rfl rfl (by repeat (first | exact mem_here | apply mem_next | apply mem_past)) (by exact ints_get0 (by omega)) ?_ | refine vops_loadNM tyOk rfl rfl rfl (by repeat (first | exact mem_here | apply mem_next | apply mem_past)) (by first | rfl | (rw [ints_length]; first | assumption | omega | (rw [ints_length]; first | assumption | omega | simp [*])) | simp [*]) ?_) | ((show VOps _ _ _ _ (⟨none, Go.Op.store _ _ _, _, _, _, none⟩ :: _) _ _); first | refine vops_storeIM tyOk rfl rfl rfl rfl (by repeat (first | exact upd_here | apply upd_next | apply upd_past)) (by omega) ?_ | refine vops_storeM tyOk rfl rfl rfl rfl rfl (by repeat (first | exact upd_here | apply upd_next | apply upd_past)) (by simp) ?_ | refine vops_storeAM tyOk rfl rfl rfl (by first | rfl | (rw [ints_length]; first | assumption | omega | (rw [ints_length]; first | assumption | omega | simp [*])) | simp [*]) (by first | exact ints_one | simp [Value.oneCell']) (by repeat (first | exact upd_here | apply upd_next | apply upd_past)) (by first | rfl | (rw [ints_length]; first | assumption | omega | (rw [ints_length]; first | assumption | omega | simp [*])) | simp [*]) ?_) | refine vops_build2 rfl rfl (by kernel_rfl) ?_ | refine vops_buildZ tyOk rfl (by kernel_rfl) ?_ | refine vops_slice tyOk rfl rfl rfl rfl rfl (by omega) ?_)
    exact pairS_ok (c := 0) tyOk rfl rfl rfl rfl rfl (by repeat (first | exact mem_here | apply mem_next | apply mem_past)) rfl rfl (by assumption) (by repeat (first | exact sub_hereL | exact sub_refl | apply sub_cons | apply sub_app)) e2
  · have e : transposeR m ls = ((0, []), 1) := by rw [transposeR, if_neg h]
    have hc : ∀ w', Fr [] w w' → Calls Try.prog 61 [.agg #[.int .i64 m, .slice a ls.length cap]].toArray w' (Res w' (PairSq 32 2 ((0, []), 1))) := fun w' hf => by
      have := c_impl_TransposeSquare m _ ls w' (hv.same hf) hl hll h64; rwa [e] at this
    repeat' (first | refine vops_q tyOk rfl ?_ | refine vops_nil ?_ | refine vw_seq ?_ | refine vw_region (by kernel_rfl) ?_ | refine vops_guardT rfl rfl ?_ | refine vops_guardF rfl rfl ?_ | refine vops_guardU rfl rfl ?_ | with_reducible refine bs_nbeq rfl ?_ | with_reducible refine bs_true ?_ | with_reducible refine bs_false ?_ | with_reducible refine bs_ntrue ?_ | with_reducible refine bs_nfalse ?_ | refine vops_p tyOk rfl (by (try simp only [inR]); omega) ?_ | refine vw_cond rfl ?_ | refine vw_skip ?_ | refine vw_block ?_ | refine vw_ret ?_ | refine vw_exit ?_ | (with_reducible refine bs_dec (fun _ => ?_) (fun _ => ?_)) <;> try (exfalso; omega) | (with_reducible refine bs_ndec (fun _ => ?_) (fun _ => ?_)) <;> try (exfalso; omega) | with_reducible refine bs_nany (fun _ => ?_) (fun _ => ?_) | with_reducible refine bs_any (fun _ => ?_) (fun _ => ?_) | (apply vops_call ent61 rfl; (intro w' hg; exact hc w' hg.fr); (rintro _ newN ⟨p, cp, rfl, hN⟩)) | refine vops_allocZ [.int .i64 0, .slice none 0 0] tyOk rfl rfl (by simp) (fun b4 hb4 => ?_) | ((show VOps _ _ _ _ (⟨some _, Go.Op.load _ _, _, _, _, none⟩ :: _) _ _); first | refine vops_loadM tyOk rfl rfl rfl (by repeat (first | exact mem_here | apply mem_next | apply mem_past)) (by rfl) ?_ | refine vops_loadM tyOk rfl rfl rfl (by repeat (first | exact mem_here | apply mem_next | apply mem_past)) (by exact ints_get0 (by omega)) ?_ | refine vops_loadNM tyOk rfl rfl rfl (by repeat (first | exact mem_here | apply mem_next | apply mem_past)) (by first | rfl | (rw [ints_length]; first | assumption | omega | (rw [ints_length]; first | assumption | omega | simp [*])) | simp [*]) ?_) | ((show VOps _ _ _ _ (⟨none, Go.Op.store _ _ _, _, _, _, none⟩ :: _) _ _); first | refine vops_storeIM tyOk rfl rfl rfl rfl (by repeat (first | exact upd_here | apply upd_next | apply upd_past)) (by omega) ?_ | refine vops_storeM tyOk rfl rfl rfl rfl rfl (by repeat (first | exact upd_here | apply upd_next | apply upd_past)) (by simp) ?_ | refine vops_storeAM tyOk rfl rfl rfl (by first | rfl | (rw [ints_length]; first | assumption | omega | (rw [ints_length]; first | assumption | omega | simp [*])) | simp [*]) (by first | exact ints_one | simp [Value.oneCell']) (by repeat (first | exact upd_here | apply upd_next | apply upd_past)) (by first | rfl | (rw [ints_length]; first | assumption | omega | (rw [ints_length]; first | assumption | omega | simp [*])) | simp [*]) ?_) | refine vops_build2 rfl rfl (by kernel_rfl) ?_ | refine vops_buildZ tyOk rfl (by kernel_rfl) ?_ | refine vops_slice tyOk rfl rfl rfl rfl rfl (by omega) ?_)
    exact pairS_err tyOk rfl rfl rfl rfl rfl (by repeat (first | exact mem_here | apply mem_next | apply mem_past)) rfl (by rw [colsOf, if_neg h])
end Go.Proofs.Ytngpongdpphncaa

/- A part of the proof: R12. No conditions of its own. -/
namespace Go.Proofs.Ytngpongdpphncaa
open Go.VL
attribute [local irreducible] VWr VOps VD Calls

theorem getD_set (l : List Int) (i j : Nat) (x : Int) : (l.set i x).getD j 0 = if i = j ∧ i < l.length then x else l.getD j 0 := by
  rw [List.getD_eq_getElem?_getD, List.getElem?_set, List.getD_eq_getElem?_getD]
  by_cases h : i = j
  · subst h
    rw [if_pos rfl]
    by_cases h2 : i < l.length
    · rw [if_pos h2, if_pos ⟨rfl, h2⟩]; rfl
    · rw [if_neg h2, if_neg (fun e => h2 e.2), List.getElem?_eq_none (by omega)]
  · rw [if_neg h, if_neg (fun e => h e.1)]
theorem lay_get {r : List Int} (hr : r.length = 14) {a b : Int} (ha : 0 ≤ a ∧ a < 14) (hb : 0 ≤ b ∧ b < 14) (x : Nat) : (lay r [a, b]).getD x 0 = if (x : Int) = b then a else if (x : Int) = a then b else r.getD x 0 := by
  show ((r.set a.toNat b).set b.toNat a).getD x 0 = _
  rw [getD_set, getD_set, List.length_set]
  by_cases h1 : (x : Int) = b
  · rw [if_pos (by omega), if_pos h1]
  · rw [if_neg (by omega), if_neg h1]
    by_cases h2 : (x : Int) = a
    · rw [if_pos (by omega), if_pos h2]
    · rw [if_neg (by omega), if_neg h2]
theorem lay_rd {n : Int} {r : List Int} {a b : Int} (h : IsRd n r) (hr : r.length = 14) (ha : 0 ≤ a ∧ a < n) (hb : 0 ≤ b ∧ b < n) (hab : a ≠ b) (hc : canLay r [a, b]) : IsRd n (lay r [a, b]) := by
  obtain ⟨h2, h14, hall⟩ := h
  have hca : r.getD a.toNat 0 = a := hc.1
  have hcb : r.getD b.toNat 0 = b := hc.2
  refine ⟨h2, h14, fun x hx => ?_⟩
  have hg := lay_get hr (a := a) (b := b) (by omega) (by omega)
  obtain ⟨h0, h1⟩ := hall x hx
  refine ⟨fun hn => ?_, fun hn => ?_⟩
  · rw [hg, if_neg (by omega), if_neg (by omega)]; exact h0 hn
  · by_cases e1 : (x : Int) = b
    · rw [hg x, if_pos e1]
      refine ⟨by omega, by omega, ?_⟩
      rw [hg, if_neg (by omega), if_pos (by omega)]; exact e1.symm
    · by_cases e2 : (x : Int) = a
      · rw [hg x, if_neg e1, if_pos e2]
        refine ⟨by omega, by omega, ?_⟩
        rw [hg, if_pos (by omega)]; exact e2.symm
      · obtain ⟨y0, y1, y2⟩ := h1 hn
        rw [hg x, if_neg e1, if_neg e2]
        refine ⟨y0, y1, ?_⟩
        rw [hg, if_neg, if_neg, y2]
        · intro e
          have : (r.getD x 0).toNat = a.toNat := by omega
          rw [this, hca] at y2; omega
        · intro e
          have : (r.getD x 0).toNat = b.toNat := by omega
          rw [this, hcb] at y2; omega
theorem free_rd {n : Int} (h2 : 2 ≤ n) (h14 : n ≤ 14) : IsRd n (freeTo n) := by
  refine ⟨h2, h14, fun x hx => ⟨fun hn => ?_, fun hn => ?_⟩⟩
  · rw [freeTo_get n x hx, if_neg (by omega)]
  · rw [freeTo_get n x hx, if_pos hn]
    refine ⟨by omega, by omega, ?_⟩
    rw [Int.toNat_natCast, freeTo_get n x hx, if_pos hn]
theorem pair_form {p : List Int} (h : p.length = 2) : p = [p.getD 0 0, p.getD 1 0] := by
  match p, h with
  | [a, b], _ => rfl
theorem place_rd {n : Int} : ∀ (ps : List (List Int)) {r q : List Int}, IsRd n r → r.length = 14 → PairsOk n ps → place r ps = some q → IsRd n q
  | [], r, q, h, _, _, he => by
    have : r = q := by simpa [place] using he
    rw [← this]; exact h
  | p :: ps, r, q, h, hr, hp, he => by
    unfold place at he
    by_cases hc : canLay r p
    · rw [if_pos hc] at he
      obtain ⟨h2, ha, hb, hab⟩ := hp p (by simp)
      rw [pair_form h2] at he hc
      exact place_rd ps (lay_rd h hr ha hb hab hc) (by rw [lay_length]; exact hr) (fun x hx => hp x (by simp [hx])) he
    · rw [if_neg hc] at he; cases he
theorem rows_sch {k : Nat} {ls : List (List Int)} (h : IsSq k ls) (hr : Rows ((k : Int) + 1) ls) : IsSch ((k + 1 : Nat) : Int) (rowsTab ((k : Int) + 1) ls) := by
  have hk1 := h.1
  have hk13 := h.2.1
  have hln := h.2.2.2.1
  refine ⟨by omega, by omega, by unfold rowsTab; rw [List.length_map]; omega, fun i r hi => ?_⟩
  unfold rowsTab at hi
  rw [List.getElem?_map] at hi
  obtain ⟨l, hl, rfl⟩ := Option.map_eq_some_iff.1 hi
  have hm := List.mem_of_getElem? hl
  obtain ⟨ho, _⟩ := rowPairs_ok hk13 (h.2.2.2.2 l hm)
  cases hq : rowRd ((k : Int) + 1) l with
  | none => exact absurd hq (hr l hm)
  | some q =>
    unfold rowR; rw [hq]
    exact place_rd (n := ((k + 1 : Nat) : Int)) _ (free_rd (by omega) (by omega)) (freeTo_length _) ho hq
/-- A Room square. -/
def RoomP (k : Nat) (ls : List (List Int)) : Prop := (Rows ((k : Int) + 1) ls ∧ Rows ((k : Int) + 1) (transp k ls)) ∧ AllMeet (k + 1) (rowsTab ((k : Int) + 1) ls) ∧ AllMeet (k + 1) (rowsTab ((k : Int) + 1) (transp k ls))
open Classical in
theorem robin_rows {k : Nat} {ls : List (List Int)} (h : IsSq k ls) : (robin (rowsOf k ls).1.1 (rowsOf k ls).1.2).1 = decide (Rows ((k : Int) + 1) ls ∧ AllMeet (k + 1) (rowsTab ((k : Int) + 1) ls)) := by
  by_cases hr : Rows ((k : Int) + 1) ls
  · have e : rowsOf k ls = (((k : Int) + 1, rowsTab ((k : Int) + 1) ls), 0) := by rw [rowsOf, if_pos h, if_pos hr]
    rw [e]
    have hs := rows_sch h hr
    show (robin ((k + 1 : Nat) : Int) (rowsTab ((k : Int) + 1) ls)).1 = _
    rw [robin, if_pos hs, Int.toNat_natCast]
    exact decide_eq_decide.2 ⟨fun h => ⟨hr, h⟩, fun h => h.2⟩
  · have e : rowsOf k ls = ((0, []), 5) := by rw [rowsOf, if_pos h, if_neg hr]
    rw [e]
    have : ¬ IsSch 0 [] := fun h => by have := h.1; omega
    rw [robin, if_neg this]
    exact (decide_eq_false fun h => hr h.1).symm
open Classical in
theorem room_robin {k : Nat} {ls : List (List Int)} (h : IsSq k ls) : ((robin (rowsOf k ls).1.1 (rowsOf k ls).1.2).1 && (robin (colsOf k ls).1.1 (colsOf k ls).1.2).1) = decide (RoomP k ls) := by
  have e2 : colsOf k ls = rowsOf k (transp k ls) := by rw [colsOf, if_pos h]
  rw [e2, robin_rows h, robin_rows h.transp, ← Bool.decide_and]
  exact decide_eq_decide.2 ⟨fun h => ⟨⟨h.1.1, h.2.1⟩, h.1.2, h.2.2⟩, fun h => ⟨⟨h.1.1, h.2.1⟩, h.1.2, h.2.2⟩⟩

open Classical in
set_option maxHeartbeats 1000000 in
set_option maxRecDepth 100000 in
theorem c_isRoom (k : Nat) (v : Value) (ls : List (List Int)) (w : World) (hv : RdII w v ls) (hl : ls.length ≤ 1048576) (hll : ∀ l ∈ ls, l.length ≤ 1048576) (h64 : ∀ l ∈ ls, ∀ x ∈ l, In64 x) (h : IsSq k ls) :
    Calls Try.prog 92 [.agg #[.int .i64 k, v]].toArray w (Res w (Is (.bool (decide (RoomP k ls))))) := by
  obtain ⟨a, cap, rfl⟩ := hv.len
  refine calls_of_vw Try.func92 rfl Try.ntmps92 (by simp) ?_
  refine vw_seq (vw_region (by kernel_rfl) (vops_box [.int .i64 k, .slice a ls.length cap] rfl (fun b1 hb1 => ?_)))
  have hroom := room_robin h
  obtain ⟨r14, rlen⟩ := rowsOf_ok k ls
  obtain ⟨c14, clen⟩ := colsOf_ok k ls
  have cr := fun w' hf => c_impl_RowsOf k _ ls w' (hv.same hf) hl hll h64
  have cc := fun w' hf => c_impl_ColumnsOf k _ ls w' (hv.same hf) hl hll h64
  have hb1 : ∀ w' v', RdS w' v' (rowsOf k ls).1.2 → Calls Try.prog 136 [.agg #[.int .i64 (rowsOf k ls).1.1, v']].toArray w' (Res w' (Is (.tuple #[.bool (robin (rowsOf k ls).1.1 (rowsOf k ls).1.2).1, .int .i64 (robin (rowsOf k ls).1.1 (rowsOf k ls).1.2).2]))) := fun w' v' hv' => c_impl_IsRoundRobin _ v' _ w' hv' r14 rlen
  have hb2 : ∀ w' v', RdS w' v' (colsOf k ls).1.2 → Calls Try.prog 136 [.agg #[.int .i64 (colsOf k ls).1.1, v']].toArray w' (Res w' (Is (.tuple #[.bool (robin (colsOf k ls).1.1 (colsOf k ls).1.2).1, .int .i64 (robin (colsOf k ls).1.1 (colsOf k ls).1.2).2]))) := fun w' v' hv' => c_impl_IsRoundRobin _ v' _ w' hv' c14 clen
  obtain ⟨X, hX⟩ : ∃ X, X = robin (rowsOf k ls).1.1 (rowsOf k ls).1.2 := ⟨_, rfl⟩
  obtain ⟨Z, hZ⟩ : ∃ Z, Z = robin (colsOf k ls).1.1 (colsOf k ls).1.2 := ⟨_, rfl⟩
  rw [← hX] at hroom hb1
  rw [← hZ] at hroom hb2
  generalize rowsOf k ls = R at *
  generalize colsOf k ls = C at *
  obtain ⟨X1, X2⟩ := X
  obtain ⟨Z1, Z2⟩ := Z
  cases X1 <;> cases Z1
  all_goals repeat (first | refine vops_q tyOk rfl ?_ | refine vops_nil ?_ | refine vw_seq ?_ | refine vw_region (by kernel_rfl) ?_ | refine vops_guardT rfl rfl ?_ | refine vops_guardF rfl rfl ?_ | refine vops_guardU rfl rfl ?_ | with_reducible refine bs_nbeq rfl ?_ | with_reducible refine bs_true ?_ | with_reducible refine bs_false ?_ | with_reducible refine bs_ntrue ?_ | with_reducible refine bs_nfalse ?_ | refine vops_p tyOk rfl (by (try simp only [inR]); omega) ?_ | refine vw_cond rfl ?_ | refine vw_skip ?_ | refine vw_block ?_ | refine vw_ret ?_ | refine vw_exit ?_ | (apply vops_call ent42 rfl; (intro w' hg; exact cr w' hg.fr); (rintro _ newN ⟨p, cp, rfl, hN⟩)) | (apply vops_call ent48 rfl; (intro w' hg; exact cc w' hg.fr); (rintro _ newN ⟨p2, cp2, rfl, hN2⟩)) | refine vops_allocZ [.int .i64 0, .slice none 0 0] tyOk rfl rfl (by simp) (fun b4 hb4 => ?_) | (apply vops_callp ent136 rfl; (intro w' hg; exact hb1 w' _ (by exact NewR.see (by assumption) (by repeat (first | exact sub_hereL | exact sub_refl | apply sub_cons | apply sub_app)) _ hg))) | (apply vops_callp ent136 rfl; (intro w' hg; exact hb2 w' _ (by exact NewR.see (by assumption) (by repeat (first | exact sub_hereL | exact sub_refl | apply sub_cons | apply sub_app)) _ hg))) | ((show VOps _ _ _ _ (⟨some _, Go.Op.load _ _, _, _, _, none⟩ :: _) _ _); first | refine vops_loadM tyOk rfl rfl rfl (by repeat (first | exact mem_here | apply mem_next | apply mem_past)) (by rfl) ?_ | refine vops_loadM tyOk rfl rfl rfl (by repeat (first | exact mem_here | apply mem_next | apply mem_past)) (by exact ints_get0 (by omega)) ?_ | refine vops_loadNM tyOk rfl rfl rfl (by repeat (first | exact mem_here | apply mem_next | apply mem_past)) (by first | rfl | (rw [ints_length]; first | assumption | omega | (rw [ints_length]; first | assumption | omega | simp [*])) | simp [*]) ?_) | ((show VOps _ _ _ _ (⟨none, Go.Op.store _ _ _, _, _, _, none⟩ :: _) _ _); first | refine vops_storeIM tyOk rfl rfl rfl rfl (by repeat (first | exact upd_here | apply upd_next | apply upd_past)) (by omega) ?_ | refine vops_storeM tyOk rfl rfl rfl rfl rfl (by repeat (first | exact upd_here | apply upd_next | apply upd_past)) (by simp) ?_ | refine vops_storeAM tyOk rfl rfl rfl (by first | rfl | (rw [ints_length]; first | assumption | omega | (rw [ints_length]; first | assumption | omega | simp [*])) | simp [*]) (by first | exact ints_one | simp [Value.oneCell']) (by repeat (first | exact upd_here | apply upd_next | apply upd_past)) (by first | rfl | (rw [ints_length]; first | assumption | omega | (rw [ints_length]; first | assumption | omega | simp [*])) | simp [*]) ?_) | refine vops_build2 rfl rfl (by kernel_rfl) ?_ | refine vops_buildZ tyOk rfl (by kernel_rfl) ?_ | refine vops_slice tyOk rfl rfl rfl rfl rfl (by omega) ?_)
  all_goals exact rv_bool rfl rfl hroom

open Classical in
set_option maxHeartbeats 1000000 in
set_option maxRecDepth 100000 in
theorem c_l04Room (k : Nat) (v : Value) (ls : List (List Int)) (w : World) (hv : RdII w v ls) (h : IsSq k ls) :
    Calls Try.prog 91 [.agg #[.int .i64 k, v]].toArray w (Res w (Is (.bool (decide (RoomP k ls))))) := by
  obtain ⟨a, cap, rfl⟩ := hv.len
  refine calls_of_vw Try.func91 rfl Try.ntmps91 (by simp) ?_
  refine vw_seq (vw_region (by kernel_rfl) (vops_box [.int .i64 k, .slice a ls.length cap] rfl (fun b1 hb1 => ?_)))
  have ht := h.transp
  by_cases h1 : Rows ((k : Int) + 1) ls
  case neg =>
    have e : rowsB ((k : Int) + 1) ls = ((0, []), false) := by rw [rowsB, if_neg h1]
    have hc : ∀ w', Fr [] w w' → Calls Try.prog 94 [.agg #[.int .i64 k, .slice a ls.length cap]].toArray w' (Res w' (PairSB 25 ((0, []), false))) := fun w' hf => by
      have := c_l04Rows k _ ls w' (hv.same hf) h; rwa [e] at this
    repeat (first | refine vops_q tyOk rfl ?_ | refine vops_nil ?_ | refine vw_seq ?_ | refine vw_region (by kernel_rfl) ?_ | refine vops_guardT rfl rfl ?_ | refine vops_guardF rfl rfl ?_ | refine vops_guardU rfl rfl ?_ | with_reducible refine bs_nbeq rfl ?_ | with_reducible refine bs_true ?_ | with_reducible refine bs_false ?_ | with_reducible refine bs_ntrue ?_ | with_reducible refine bs_nfalse ?_ | refine vops_p tyOk rfl (by (try simp only [inR]); omega) ?_ | refine vw_cond rfl ?_ | refine vw_skip ?_ | refine vw_block ?_ | refine vw_ret ?_ | refine vw_exit ?_ | (apply vops_call ent94 rfl; (intro w' hg; exact hc w' hg.fr); (rintro _ newN ⟨p, cp, rfl, hN⟩)) | (apply vops_call ent101 rfl; (intro w' hg; exact c_l04Transposed k _ ls w' (hv.same hg.fr) h); (rintro _ newN ⟨p1, cp1, rfl, hN1⟩)) | (apply vops_call ent94 rfl; (intro w' hg; exact c_l04Rows k _ _ w' (NewT.rdG (by assumption) (by repeat (first | exact sub_hereL | exact sub_refl | apply sub_cons | apply sub_app)) hg) ht); (rintro _ newN ⟨p2, cp2, rfl, hN2⟩)) | refine vops_allocZ [.int .i64 0, .slice none 0 0] tyOk rfl rfl (by simp) (fun b4 hb4 => ?_) | ((show VOps _ _ _ _ (⟨some _, Go.Op.load _ _, _, _, _, none⟩ :: _) _ _); first | refine vops_loadM tyOk rfl rfl rfl (by repeat (first | exact mem_here | apply mem_next | apply mem_past)) (by rfl) ?_ | refine vops_loadM tyOk rfl rfl rfl (by repeat (first | exact mem_here | apply mem_next | apply mem_past)) (by exact ints_get0 (by omega)) ?_ | refine vops_loadNM tyOk rfl rfl rfl (by repeat (first | exact mem_here | apply mem_next | apply mem_past)) (by first | rfl | (rw [ints_length]; first | assumption | omega | (rw [ints_length]; first | assumption | omega | simp [*])) | simp [*]) ?_) | ((show VOps _ _ _ _ (⟨none, Go.Op.store _ _ _, _, _, _, none⟩ :: _) _ _); first | refine vops_storeIM tyOk rfl rfl rfl rfl (by repeat (first | exact upd_here | apply upd_next | apply upd_past)) (by omega) ?_ | refine vops_storeM tyOk rfl rfl rfl rfl rfl (by repeat (first | exact upd_here | apply upd_next | apply upd_past)) (by simp) ?_ | refine vops_storeAM tyOk rfl rfl rfl (by first | rfl | (rw [ints_length]; first | assumption | omega | (rw [ints_length]; first | assumption | omega | simp [*])) | simp [*]) (by first | exact ints_one | simp [Value.oneCell']) (by repeat (first | exact upd_here | apply upd_next | apply upd_past)) (by first | rfl | (rw [ints_length]; first | assumption | omega | (rw [ints_length]; first | assumption | omega | simp [*])) | simp [*]) ?_) | refine vops_build2 rfl rfl (by kernel_rfl) ?_ | refine vops_buildZ tyOk rfl (by kernel_rfl) ?_ | refine vops_slice tyOk rfl rfl rfl rfl rfl (by omega) ?_)
    exact rv_bool rfl rfl (decide_eq_false fun hh => h1 hh.1.1).symm
  have e : rowsB ((k : Int) + 1) ls = (((k : Int) + 1, rowsTab ((k : Int) + 1) ls), true) := by rw [rowsB, if_pos h1]
  have hc : ∀ w', Fr [] w w' → Calls Try.prog 94 [.agg #[.int .i64 k, .slice a ls.length cap]].toArray w' (Res w' (PairSB 25 (((k : Int) + 1, rowsTab ((k : Int) + 1) ls), true))) := fun w' hf => by
    have := c_l04Rows k _ ls w' (hv.same hf) h; rwa [e] at this
  by_cases h2 : Rows ((k : Int) + 1) (transp k ls)
  case neg =>
    have e2 : rowsB ((k : Int) + 1) (transp k ls) = ((0, []), false) := by rw [rowsB, if_neg h2]
    have hc2 : ∀ w' v', RdII w' v' (transp k ls) → Calls Try.prog 94 [.agg #[.int .i64 k, v']].toArray w' (Res w' (PairSB 25 ((0, []), false))) := fun w' v' hf => by
      have := c_l04Rows k v' _ w' hf ht; rwa [e2] at this
    repeat (first | refine vops_q tyOk rfl ?_ | refine vops_nil ?_ | refine vw_seq ?_ | refine vw_region (by kernel_rfl) ?_ | refine vops_guardT rfl rfl ?_ | refine vops_guardF rfl rfl ?_ | refine vops_guardU rfl rfl ?_ | with_reducible refine bs_nbeq rfl ?_ | with_reducible refine bs_true ?_ | with_reducible refine bs_false ?_ | with_reducible refine bs_ntrue ?_ | with_reducible refine bs_nfalse ?_ | refine vops_p tyOk rfl (by (try simp only [inR]); omega) ?_ | refine vw_cond rfl ?_ | refine vw_skip ?_ | refine vw_block ?_ | refine vw_ret ?_ | refine vw_exit ?_ | (apply vops_call ent94 rfl; (intro w' hg; exact hc w' hg.fr); (rintro _ newN ⟨p, cp, rfl, hN⟩)) | (apply vops_call ent101 rfl; (intro w' hg; exact c_l04Transposed k _ ls w' (hv.same hg.fr) h); (rintro _ newN ⟨p1, cp1, rfl, hN1⟩)) | (apply vops_call ent94 rfl; (intro w' hg; exact hc2 w' _ (NewT.rdG (by assumption) (by repeat (first | exact sub_hereL | exact sub_refl | apply sub_cons | apply sub_app)) hg)); (rintro _ newN ⟨p2, cp2, rfl, hN2⟩)) | refine vops_allocZ [.int .i64 0, .slice none 0 0] tyOk rfl rfl (by simp) (fun b4 hb4 => ?_) | ((show VOps _ _ _ _ (⟨some _, Go.Op.load _ _, _, _, _, none⟩ :: _) _ _); first | refine vops_loadM tyOk rfl rfl rfl (by repeat (first | exact mem_here | apply mem_next | apply mem_past)) (by rfl) ?_ | refine vops_loadM tyOk rfl rfl rfl (by repeat (first | exact mem_here | apply mem_next | apply mem_past)) (by exact ints_get0 (by omega)) ?_ | refine vops_loadNM tyOk rfl rfl rfl (by repeat (first | exact mem_here | apply mem_next | apply mem_past)) (by first | rfl | (rw [ints_length]; first | assumption | omega | (rw [ints_length]; first | assumption | omega | simp [*])) | simp [*]) ?_) | ((show VOps _ _ _ _ (⟨none, Go.Op.store _ _ _, _, _, _, none⟩ :: _) _ _); first | refine vops_storeIM tyOk rfl rfl rfl rfl (by repeat (first | exact upd_here | apply upd_next | apply upd_past)) (by omega) ?_ | refine vops_storeM tyOk rfl rfl rfl rfl rfl (by repeat (first | exact upd_here | apply upd_next | apply upd_past)) (by simp) ?_ | refine vops_storeAM tyOk rfl rfl rfl (by first | rfl | (rw [ints_length]; first | assumption | omega | (rw [ints_length]; first | assumption | omega | simp [*])) | simp [*]) (by first | exact ints_one | simp [Value.oneCell']) (by repeat (first | exact upd_here | apply upd_next | apply upd_past)) (by first | rfl | (rw [ints_length]; first | assumption | omega | (rw [ints_length]; first | assumption | omega | simp [*])) | simp [*]) ?_) | refine vops_build2 rfl rfl (by kernel_rfl) ?_ | refine vops_buildZ tyOk rfl (by kernel_rfl) ?_ | refine vops_slice tyOk rfl rfl rfl rfl rfl (by omega) ?_)
    exact rv_bool rfl rfl (decide_eq_false fun hh => h2 hh.1.2).symm
  have e2 : rowsB ((k : Int) + 1) (transp k ls) = (((k : Int) + 1, rowsTab ((k : Int) + 1) (transp k ls)), true) := by rw [rowsB, if_pos h2]
  have hc2 : ∀ w' v', RdII w' v' (transp k ls) → Calls Try.prog 94 [.agg #[.int .i64 k, v']].toArray w' (Res w' (PairSB 25 (((k : Int) + 1, rowsTab ((k : Int) + 1) (transp k ls)), true))) := fun w' v' hf => by
    have := c_l04Rows k v' _ w' hf ht; rwa [e2] at this
  have s1 := rows_sch h h1
  have s2 := rows_sch ht h2
  have hd : decide (RoomP k ls) = (decide (AllMeet (k + 1) (rowsTab ((k : Int) + 1) ls)) && decide (AllMeet (k + 1) (rowsTab ((k : Int) + 1) (transp k ls)))) := by
    rw [← Bool.decide_and]
    exact decide_eq_decide.2 ⟨fun h => h.2, fun h => ⟨⟨h1, h2⟩, h⟩⟩
  have hr1 : ∀ w' v', RdS w' v' (rowsTab ((k : Int) + 1) ls) → Calls Try.prog 135 [.agg #[.int .i64 ((k : Int) + 1), v']].toArray w' (Res w' (Is (.bool (decide (AllMeet (k + 1) (rowsTab ((k : Int) + 1) ls)))))) := fun w' v' hv' => c_l01Robin (k + 1) v' _ s1 w' hv' (rowsTab_len h1)
  have hr2 : ∀ w' v', RdS w' v' (rowsTab ((k : Int) + 1) (transp k ls)) → Calls Try.prog 135 [.agg #[.int .i64 ((k : Int) + 1), v']].toArray w' (Res w' (Is (.bool (decide (AllMeet (k + 1) (rowsTab ((k : Int) + 1) (transp k ls))))))) := fun w' v' hv' => c_l01Robin (k + 1) v' _ s2 w' hv' (rowsTab_len h2)
  generalize decide (AllMeet (k + 1) (rowsTab ((k : Int) + 1) ls)) = B1 at *
  generalize decide (AllMeet (k + 1) (rowsTab ((k : Int) + 1) (transp k ls))) = B2 at *
  cases B1 <;> cases B2
  all_goals repeat (first | refine vops_q tyOk rfl ?_ | refine vops_nil ?_ | refine vw_seq ?_ | refine vw_region (by kernel_rfl) ?_ | refine vops_guardT rfl rfl ?_ | refine vops_guardF rfl rfl ?_ | refine vops_guardU rfl rfl ?_ | with_reducible refine bs_nbeq rfl ?_ | with_reducible refine bs_true ?_ | with_reducible refine bs_false ?_ | with_reducible refine bs_ntrue ?_ | with_reducible refine bs_nfalse ?_ | refine vops_p tyOk rfl (by (try simp only [inR]); omega) ?_ | refine vw_cond rfl ?_ | refine vw_skip ?_ | refine vw_block ?_ | refine vw_ret ?_ | refine vw_exit ?_ | (apply vops_call ent94 rfl; (intro w' hg; exact hc w' hg.fr); (rintro _ newN ⟨p, cp, rfl, hN⟩)) | (apply vops_call ent101 rfl; (intro w' hg; exact c_l04Transposed k _ ls w' (hv.same hg.fr) h); (rintro _ newN ⟨p1, cp1, rfl, hN1⟩)) | (apply vops_call ent94 rfl; (intro w' hg; exact hc2 w' _ (NewT.rdG (by assumption) (by repeat (first | exact sub_hereL | exact sub_refl | apply sub_cons | apply sub_app)) hg)); (rintro _ newN ⟨p2, cp2, rfl, hN2⟩)) | refine vops_allocZ [.int .i64 0, .slice none 0 0] tyOk rfl rfl (by simp) (fun b4 hb4 => ?_) | (apply vops_callp ent135 rfl; (intro w' hg; exact hr1 w' _ (by exact NewR.see (by assumption) (by repeat (first | exact sub_hereL | exact sub_refl | apply sub_cons | apply sub_app)) _ hg))) | (apply vops_callp ent135 rfl; (intro w' hg; exact hr2 w' _ (by exact NewR.see (by assumption) (by repeat (first | exact sub_hereL | exact sub_refl | apply sub_cons | apply sub_app)) _ hg))) | ((show VOps _ _ _ _ (⟨some _, Go.Op.load _ _, _, _, _, none⟩ :: _) _ _); first | refine vops_loadM tyOk rfl rfl rfl (by repeat (first | exact mem_here | apply mem_next | apply mem_past)) (by rfl) ?_ | refine vops_loadM tyOk rfl rfl rfl (by repeat (first | exact mem_here | apply mem_next | apply mem_past)) (by exact ints_get0 (by omega)) ?_ | refine vops_loadNM tyOk rfl rfl rfl (by repeat (first | exact mem_here | apply mem_next | apply mem_past)) (by first | rfl | (rw [ints_length]; first | assumption | omega | (rw [ints_length]; first | assumption | omega | simp [*])) | simp [*]) ?_) | ((show VOps _ _ _ _ (⟨none, Go.Op.store _ _ _, _, _, _, none⟩ :: _) _ _); first | refine vops_storeIM tyOk rfl rfl rfl rfl (by repeat (first | exact upd_here | apply upd_next | apply upd_past)) (by omega) ?_ | refine vops_storeM tyOk rfl rfl rfl rfl rfl (by repeat (first | exact upd_here | apply upd_next | apply upd_past)) (by simp) ?_ | refine vops_storeAM tyOk rfl rfl rfl (by first | rfl | (rw [ints_length]; first | assumption | omega | (rw [ints_length]; first | assumption | omega | simp [*])) | simp [*]) (by first | exact ints_one | simp [Value.oneCell']) (by repeat (first | exact upd_here | apply upd_next | apply upd_past)) (by first | rfl | (rw [ints_length]; first | assumption | omega | (rw [ints_length]; first | assumption | omega | simp [*])) | simp [*]) ?_) | refine vops_build2 rfl rfl (by kernel_rfl) ?_ | refine vops_buildZ tyOk rfl (by kernel_rfl) ?_ | refine vops_slice tyOk rfl rfl rfl rfl rfl (by omega) ?_)
  all_goals exact rv_bool rfl rfl hd.symm
open Classical in
noncomputable def roomR (m : Int) (ls : List (List Int)) : Bool × Int := if IsSq m ls then (decide (RoomP m.toNat ls), 0) else (false, 1)
end Go.Proofs.Ytngpongdpphncaa

/- A part of the proof: R13. No conditions of its own. -/
namespace Go.Proofs.Ytngpongdpphncaa
open Go.VL
attribute [local irreducible] VWr VOps VD Calls

/-- The greatest team is in the cell i, i with i. -/
def StdP (k : Nat) (ls : List (List Int)) : Prop := ∀ i : Nat, i < k → at2 ls i i = 14 * (i : Int) + k
theorem CellOk.is {m x : Int} (h : CellOk m x) (hm : m ≤ 13) (hm1 : 1 ≤ m) {i : Int} (hi : 0 ≤ i ∧ i < m) : (cLow x = i ∧ cHigh x = m) ↔ x = 14 * i + m := by
  by_cases hx : x = -1
  · subst hx
    constructor
    · rintro ⟨_, h2⟩; have : cHigh (-1) = 0 := rfl; omega
    · intro h; omega
  · have := h.dm hm hx; constructor <;> intro h2 <;> omega
/-- Of the cells i, j and j, i just one is empty. -/
def HalfP (k : Nat) (ls : List (List Int)) : Prop := ∀ i j : Nat, i < k → j < i → (at2 ls i j = -1 ↔ ¬ at2 ls j i = -1)

open Classical in
noncomputable def stdR (m : Int) (ls : List (List Int)) : Bool × Int := if IsSq m ls then (decide (StdP m.toNat ls ∧ RoomP m.toNat ls), 0) else (false, 1)
open Classical in
noncomputable def skewR (m : Int) (ls : List (List Int)) : Bool × Int := if IsSq m ls then (decide ((StdP m.toNat ls ∧ RoomP m.toNat ls) ∧ HalfP m.toNat ls), 0) else (false, 1)

end Go.Proofs.Ytngpongdpphncaa

