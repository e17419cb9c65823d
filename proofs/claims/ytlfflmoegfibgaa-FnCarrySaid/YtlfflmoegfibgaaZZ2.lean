import Derived.Test.YtlfflmoegfibgaaZZ1
import Derived.Test.YtlfflmoegfibgaaVLTake
import Derived.Test.YtlfflmoegfibgaaVLA
import Derived.Test.YtlfflmoegfibgaaSY
import Derived.Test.YtlfflmoegfibgaaSX
import Derived.Test.YtlfflmoegfibgaaVLStoP
import Derived.Test.YtlfflmoegfibgaaSA
import Derived.Test.YtlfflmoegfibgaaVLPlay
import Derived.Test.YtlfflmoegfibgaaVLSquare
/- Parts of the proof, one after another. No conditions of their own. -/
/- A part of the proof: PS10. No conditions of its own. -/
namespace Go.Proofs.Ytlfflmoegfibgaa
open Go.VL
attribute [local irreducible] VWr VOps VD Calls
attribute [local irreducible] Src
/-- Any rounds that have been drawn, behind their source. -/
def DrawnL (b : Nat) (a : Option Addr) (n cap : Nat) (v : Value) (new : Own) : Prop := ∃ (k : Nat) (rs : List (List Int)) (p : Option Addr) (c : Nat) (newS : Own) (i h : Int), 2 ≤ k ∧ k ≤ 14 ∧ (∀ r ∈ rs, r.length = 14) ∧ rs.length ≤ 100 ∧ v = .agg #[.int .i64 k, .slice p rs.length c] ∧ NewR 50 14 rs (.slice p rs.length c) newS ∧ 0 ≤ i ∧ i ≤ n ∧ 0 ≤ h ∧ h < 18446744073709551616 ∧ new = Src b a n cap i h ++ newS
theorem pm3 {x y : Nat × Blk} {S N : Own} : (x :: ((S ++ N) ++ [y])).Perm (S ++ (N ++ [x, y])) := by
  rw [List.append_assoc]
  exact (List.perm_middle (l₁ := S)).symm.trans (List.Perm.append_left S (List.perm_middle (l₁ := N)).symm)
theorem draw_out {Γ : Ctx} {f : Nat → Value} {own : Own} {N : Nat} {fn : Func} {b b2 m cap k c e' sz : Nat} {a p : Option Addr} {rs : List (List Int)} {newS : Own} {i h : Int} (hres : fn.results = #[.cell 2 32]) (hf : f 2 = .pointer (some ⟨b2, 0, none⟩)) (hm : (b2, (⟨[.int .i64 k, .slice p rs.length c], e', sz, none⟩ : Blk)) ∈ own)
    (hs1 : Sub (Src b a m cap i h) own) (hs2 : Sub newS own) (hd : (ids (Src b a m cap i h ++ (newS ++ []))).Nodup) (hk2 : 2 ≤ k) (hk : k ≤ 14) (hr : ∀ r ∈ rs, r.length = 14) (hl : rs.length ≤ 100) (hN : NewR 50 14 rs (.slice p rs.length c) newS) (hi1 : 0 ≤ i) (hi2 : i ≤ m) (hh1 : 0 ≤ h) (hh2 : h < 18446744073709551616) :
    Out Try.prog Γ N fn (DrawnL b a m cap) .ret f own := by
  rw [List.append_nil] at hd
  exact ⟨_, Src b a m cap i h ++ newS, rv_cell (cs := [.int .i64 k, .slice p rs.length c]) tyOk hres hf rfl rfl rfl (fun j v hj => by rw [Nat.zero_add]; exact sees_mem hm hj), hd, fun q hq => (List.mem_append.1 hq).elim (hs1 q) (hs2 q), k, rs, p, c, newS, i, h, hk2, hk, hr, hl, rfl, hN, hi1, hi2, hh1, hh2, rfl⟩
set_option maxHeartbeats 4000000 in
set_option maxRecDepth 100000 in
theorem c_l01Draw (b : Nat) (a : Option Addr) (cs : List Nat) (cap : Nat) (i0 h00 : Int) (w : World) (hS : SrcIn w b a cs cap i0 h00) :
    Calls Try.prog 156 [.pointer (some ⟨b, 0, none⟩)].toArray w (ResM w (Src b a cs.length cap i0 h00) (DrawnL b a cs.length cap)) := by
  have hC := hS.ctx
  have hi1 := hS.i0
  have hi2 := hS.i1
  have hh1 := hS.h0
  have hh2 := hS.h1
  obtain ⟨i', hi'⟩ : ∃ i', i' = i0 := ⟨_, rfl⟩
  obtain ⟨h', hh'⟩ : ∃ h', h' = h00 := ⟨_, rfl⟩
  refine calls_of_vwM Try.func156 rfl Try.ntmps156 (by simp) hS.ok ?_
  rw [← hi', ← hh'] at hC ⊢
  rw [← hi'] at hi1 hi2
  rw [← hh'] at hh1 hh2
  refine vw_seq (vw_region (by kernel_rfl) (vops_allocZ [.int .i64 0, .slice none 0 0] tyOk rfl rfl (by simp) (fun b2 hb2 => ?_)))
  repeat (first | refine vops_q tyOk rfl ?_ | refine vops_nil ?_ | refine vw_seq ?_ | refine vw_region (by kernel_rfl) ?_ | (apply vops_callM ent155 rfl; (case h => (intro w' hg; exact c_l01DrawRobin b a cs cap i' h' w' (hC.at (cap := cap) hg hi1 hi2 hh1 hh2))); (case hp => (repeat (first | exact pm_here | exact pm_last | apply pm_next | apply pm_past))); (rintro _ newM ⟨k, rs, pS, cS, newS, i', h', hsch, h14, rfl, hN, hi1, hi2, hh1, hh2, rfl⟩)) | refine vops_allocZ [.int .i64 0, .slice none 0 0] tyOk rfl rfl (by simp) (fun b3 hb3 => ?_) | ((show VOps _ _ _ _ (⟨none, Go.Op.store _ _ _, _, _, _, none⟩ :: _) _ _); refine vops_storeAM tyOk rfl rfl rfl (by first | rfl | (rw [ints_length]; first | assumption | omega | (rw [ints_length]; first | assumption | omega | simp [*])) | simp [*]) (by first | exact ints_one | simp [Value.oneCell']) (by repeat (first | exact upd_here | apply upd_next | apply upd_past)) (by first | rfl | (rw [ints_length]; first | assumption | omega | (rw [ints_length]; first | assumption | omega | simp [*])) | simp [*]) ?_))
  have hrl : rs.length ≤ 40 := hsch.2.2.1
  have hk2 := hsch.1
  have hk14 := hsch.2.1
  refine vops_perm pm3 ?_
  repeat (first | refine vops_q tyOk rfl ?_ | refine vops_nil ?_ | refine vw_seq ?_ | refine vw_region (by kernel_rfl) ?_ | refine vw_cond rfl ?_ | refine vw_block ?_ | (apply vops_callM ent123 rfl; (case h => (intro w' hg; exact c_next (hC.at (cap := cap) hg hi1 hi2 hh1 hh2) (by omega))); (case hp => (repeat (first | exact pm_here | exact pm_last | apply pm_next | apply pm_past))); (rintro _ newM ⟨x, rfl, hx0, hx1, i', h', hi1, hi2, hh1, hh2, rfl⟩)))
  refine bs_dec (fun hx => ?_) (fun hx => ?_)
  · show VWr _ _ _ _ _ _ _ _
    refine vw_nodup (fun hnd => ?_)
    have hd : (ids (Src b a cs.length cap i' h' ++ (newS ++ []))).Nodup := OLe.nodup (by repeat (first | exact ole_nil | exact ole_refl | (apply ole_cons; (repeat (first | exact pm1_here | apply pm1_next | apply pm1_past))) | (apply ole_app; (repeat (first | exact pm_here | exact pm_last | apply pm_next | apply pm_past))))) hnd
    repeat (first | refine vops_nil ?_ | refine vw_seq ?_ | refine vw_region (by kernel_rfl) ?_ | refine vw_ret ?_ | ((show VOps _ _ _ _ (⟨some _, Go.Op.load _ _, _, _, _, none⟩ :: _) _ _); refine vops_loadNM tyOk rfl rfl rfl (by repeat (first | exact mem_here | apply mem_next | apply mem_past)) (by first | rfl | (rw [ints_length]; first | assumption | omega | (rw [ints_length]; first | assumption | omega | simp [*])) | simp [*]) ?_) | ((show VOps _ _ _ _ (⟨none, Go.Op.store _ _ _, _, _, _, none⟩ :: _) _ _); refine vops_storeAM tyOk rfl rfl rfl (by first | rfl | (rw [ints_length]; first | assumption | omega | (rw [ints_length]; first | assumption | omega | simp [*])) | simp [*]) (by first | exact ints_one | simp [Value.oneCell']) (by repeat (first | exact upd_here | apply upd_next | apply upd_past)) (by first | rfl | (rw [ints_length]; first | assumption | omega | (rw [ints_length]; first | assumption | omega | simp [*])) | simp [*]) ?_))
    exact draw_out rfl rfl (by repeat (first | exact mem_here | apply mem_next | apply mem_past)) (by repeat (first | exact sub_hereL | exact sub_refl | apply sub_cons | apply sub_app)) (by repeat (first | exact sub_hereL | exact sub_refl | apply sub_cons | apply sub_app)) hd (by omega) (by omega) h14 (by omega) hN hi1 hi2 hh1 hh2
  repeat (first | refine vops_q tyOk rfl ?_ | refine vops_nil ?_ | refine vw_seq ?_ | refine vw_region (by kernel_rfl) ?_ | refine vw_cond rfl ?_)
  refine bs_dec (fun hx => ?_) (fun hx => ?_)
  · have hcap : rs.length ≤ cS := (NewR.cutL hN h14 (Nat.le_refl _)).1
    repeat (first | refine vw_seq ?_)
    refine vw_drawB [(b3, _)] [0, 1, 2, 3, 4, 5, 6, 7, 8, 9, 10] (by kernel_rfl) (by kernel_rfl) (by kernel_rfl) rfl (by repeat (first | exact ole_nil | exact ole_refl | (apply ole_cons; (repeat (first | exact pm1_here | apply pm1_next | apply pm1_past))) | (apply ole_app; (repeat (first | exact pm_here | exact pm_last | apply pm_next | apply pm_past))))) ?_
    repeat' (first | refine vd_q tyOk rfl (by first | trivial | rfl) rfl (by kernel_rfl) (by kernel_rfl) ?_ | refine vd_p tyOk rfl (by first | trivial | rfl) rfl (by kernel_rfl) (by kernel_rfl) (by (try simp only [inR]); omega) ?_ | refine vops_nil ?_ | (apply vops_callM ent123 rfl; (case h => (intro w' hg; exact c_next (hC.at (cap := cap) hg hi1 hi2 hh1 hh2) (by omega))); (case hp => (repeat (first | exact pm_here | exact pm_last | apply pm_next | apply pm_past))); (rintro _ newM ⟨x, rfl, hx0, hx1, i', h', hi1, hi2, hh1, hh2, rfl⟩)) | refine vd_load tyOk rfl (by first | trivial | rfl) rfl rfl rfl (by kernel_rfl) (by kernel_rfl) (by kernel_rfl) (sees_mem (by repeat (first | exact mem_here | apply mem_next | apply mem_past)) rfl) (by repeat (first | exact sub_hereL | exact sub_refl | apply sub_cons | apply sub_app)) ?_ | refine ⟨fun _ p hp _ => (show Go.VL.Sub _ _ from (by repeat (first | exact sub_hereL | exact sub_refl | apply sub_cons | apply sub_app))) p hp, ?_⟩ | refine vd_one rfl (by kernel_rfl) (by kernel_rfl) rfl ?_)
    have hxl : x.toNat ≤ rs.length := by omega
    refine vops_sliceTo (v := Value.slice pS x.toNat cS) tyOk rfl rfl rfl rfl rfl ?_ ?_ ?_
    · omega
    · exact NewR.cutS hN h14 hxl
    repeat' (first | refine vd_q tyOk rfl (by first | trivial | rfl) rfl (by kernel_rfl) (by kernel_rfl) ?_ | refine vops_nil ?_ | refine vd_nil (by kernel_rfl) ?_ | refine ⟨fun _ _ _ h => h, ?_⟩ | refine ⟨fun h => Bool.noConfusion (show false = true from h), ?_⟩ | ((show VOps _ _ _ _ (⟨none, Go.Op.store _ _ _, _, _, _, none⟩ :: _) _ _); refine vops_storeM tyOk rfl rfl rfl rfl rfl (by repeat (first | exact upd_here | apply upd_next | apply upd_past)) (by simp) ?_) | refine vd_one rfl (by kernel_rfl) (by kernel_rfl) rfl ?_)
    obtain ⟨_, newT, _, hNT, hown⟩ := NewR.cutL hN h14 (i := x.toNat) (by omega)
    have hTl : (rs.take x.toNat).length = x.toNat := by rw [List.length_take]; omega
    have hT14 : ∀ r ∈ rs.take x.toNat, r.length = 14 := fun r hr => h14 r (List.mem_of_mem_take hr)
    have hrt : (rs.take x.toNat).length ≤ 40 := by omega
    generalize rs.take x.toNat = rt at *
    generalize x.toNat = z at *
    subst hTl
    show VWr _ _ _ _ _ _ _ _
    refine vw_le (own' := newS ++ (Src b a cs.length cap i' h' ++ [(b3, ⟨[.int .i64 k, .slice pS rt.length cS], 32, 2, none⟩), (b2, ⟨[.int .i64 0, .slice none 0 0], 32, 2, none⟩)])) (by repeat (first | exact ole_nil | exact ole_refl | (apply ole_cons; (repeat (first | exact pm1_here | apply pm1_next | apply pm1_past))) | (apply ole_app; (repeat (first | exact pm_here | exact pm_last | apply pm_next | apply pm_past))))) ?_
    refine hown _ _ _ _ _ _ _ _ ?_
    refine vw_le (own' := Src b a cs.length cap i' h' ++ (newT ++ [(b3, ⟨[.int .i64 k, .slice pS rt.length cS], 32, 2, none⟩), (b2, ⟨[.int .i64 0, .slice none 0 0], 32, 2, none⟩)])) (by repeat (first | exact ole_nil | exact ole_refl | (apply ole_cons; (repeat (first | exact pm1_here | apply pm1_next | apply pm1_past))) | (apply ole_app; (repeat (first | exact pm_here | exact pm_last | apply pm_next | apply pm_past))))) ?_
    repeat (first | refine vops_q tyOk rfl ?_ | refine vops_nil ?_ | refine vw_seq ?_ | refine vw_region (by kernel_rfl) ?_ | refine vw_block ?_ | (apply vops_callM ent123 rfl; (case h => (intro w' hg; exact c_next (hC.at (cap := cap) hg hi1 hi2 hh1 hh2) (by omega))); (case hp => (repeat (first | exact pm_here | exact pm_last | apply pm_next | apply pm_past))); (rintro _ newM ⟨x, rfl, hx0, hx1, i', h', hi1, hi2, hh1, hh2, rfl⟩)))
    obtain ⟨t, rfl⟩ : ∃ t : Nat, x = (t : Int) := ⟨x.toNat, by omega⟩
    refine vw_loopW (fun m f own => ∃ (t : Nat) (rs : List (List Int)) (p : Option Addr) (c : Nat) (newS : Own) (i' h' : Int), m = t ∧ f 4 = .int .i64 t ∧ f 3 = .pointer (some ⟨b3, 0, none⟩) ∧ f 2 = .pointer (some ⟨b2, 0, none⟩) ∧ f 0 = .pointer (some ⟨b, 0, none⟩) ∧ (∀ r ∈ rs, r.length = 14) ∧ rs.length + t ≤ 50 ∧ NewR 50 14 rs (.slice p rs.length c) newS ∧ 0 ≤ i' ∧ i' ≤ cs.length ∧ 0 ≤ h' ∧ h' < 18446744073709551616 ∧
      own = Src b a cs.length cap i' h' ++ (newS ++ [(b3, ⟨[.int .i64 k, .slice p rs.length c], 32, 2, none⟩), (b2, ⟨[.int .i64 0, .slice none 0 0], 32, 2, none⟩)])) t
      ⟨_, ole_refl, t, rt, pS, cS, newT, i', h', rfl, rfl, rfl, rfl, rfl, hT14, by have := hrt; omega, hNT, hi1, hi2, hh1, hh2, rfl⟩ ?_
    rintro m f own ⟨t', rt, pS, cS, newT, i', h', rfl, h4, h3, h2, h0, hT14, hlen, hNT, hi1, hi2, hh1, hh2, rfl⟩
    rw [upd_of h4, upd_of h3, upd_of h2, upd_of h0]
    repeat (first | refine vops_q tyOk rfl ?_ | refine vops_nil ?_ | refine vw_seq ?_ | refine vw_region (by kernel_rfl) ?_ | refine vw_cond rfl ?_)
    refine bs_dec (fun hp => ?_) (fun hp => ?_)
    · repeat (first | refine vw_seq ?_ | refine vw_skip ?_ | refine vw_block ?_)
      refine vw_drawB [(b3, _)] [0, 1, 2, 3, 4, 5, 6, 7, 8, 9] (by kernel_rfl) (by kernel_rfl) (by kernel_rfl) rfl (by repeat (first | exact ole_nil | exact ole_refl | (apply ole_cons; (repeat (first | exact pm1_here | apply pm1_next | apply pm1_past))) | (apply ole_app; (repeat (first | exact pm_here | exact pm_last | apply pm_next | apply pm_past))))) ?_
      repeat' (first | refine vd_q tyOk rfl (by first | trivial | rfl) rfl (by kernel_rfl) (by kernel_rfl) ?_ | refine vops_nil ?_ | refine vd_nil (by kernel_rfl) ?_ | refine ⟨fun _ _ _ h => List.mem_cons_of_mem _ h, ?_⟩ | refine vd_load tyOk rfl (by first | trivial | rfl) rfl rfl rfl (by kernel_rfl) (by kernel_rfl) (by kernel_rfl) (sees_mem (by repeat (first | exact mem_here | apply mem_next | apply mem_past)) (by rfl)) (by repeat (first | exact sub_hereL | exact sub_refl | apply sub_cons | apply sub_app)) ?_ | refine ⟨fun h => Bool.noConfusion (show false = true from h), ?_⟩ | refine ⟨fun _ p hp _ => (show Go.VL.Sub _ _ from (by repeat (first | exact sub_hereL | exact sub_refl | apply sub_cons | apply sub_app))) p hp, ?_⟩ | (apply vops_callM ent180 rfl; (case h => (intro w' hg; exact c_l01DrawRound b a cs cap i' h' k w' (hC.at (cap := cap) hg hi1 hi2 hh1 hh2) (by omega) (by omega))); (case hp => (repeat (first | exact pm_here | exact pm_last | apply pm_next | apply pm_past))); (rintro _ newM ⟨r, hrl14, rfl, i', h', hi1, hi2, hh1, hh2, rfl⟩)) | refine vops_litR (k := 14) tyOk rfl rfl (List.cons_ne_nil _ _) rfl hrl14 rfl (by omega) (by omega) (fun be hbe => ?_) | refine vops_append1 (k := 14) tyOk rfl rfl (List.cons_ne_nil _ _) rfl rfl (by decide) rfl hNT (by repeat (first | exact pm_here | exact pm_last | apply pm_next | apply pm_past)) rfl (by repeat (first | exact mem_here | apply mem_next | apply mem_past)) (by first | assumption | omega) (by omega) (fun p' cap' new' hN' => ?_) | ((show VOps _ _ _ _ (⟨none, Go.Op.store _ _ _, _, _, _, none⟩ :: _) _ _); refine vops_storeM tyOk rfl rfl rfl rfl rfl (by repeat (first | exact upd_here | apply upd_next | apply upd_past)) (by simp) ?_) | refine vd_one rfl (by kernel_rfl) (by kernel_rfl) rfl ?_)
      have hfin : NewR 50 14 (rt ++ [r]) (.slice p' (rt.length + 1) cap') new' := NewF.r (m := 0) hN' (by simp) (by simp)
      have hl3 : rt.length + 1 = (rt ++ [r]).length := by simp
      rw [hl3] at hfin ⊢
      repeat (first | refine vops_q tyOk rfl ?_ | refine vops_nil ?_ | refine vw_region (by kernel_rfl) ?_ | refine vops_p tyOk rfl (by (try simp only [inR]); omega) ?_)
      exact ⟨m - 1, by omega, Src b a cs.length cap i' h' ++ (new' ++ [(b3, ⟨[.int .i64 k, .slice p' (rt ++ [r]).length cap'], 32, 2, none⟩), (b2, ⟨[.int .i64 0, .slice none 0 0], 32, 2, none⟩)]), (by repeat (first | exact ole_nil | exact ole_refl | (apply ole_cons; (repeat (first | exact pm1_here | apply pm1_next | apply pm1_past))) | (apply ole_app; (repeat (first | exact pm_here | exact pm_last | apply pm_next | apply pm_past))))), m - 1, rt ++ [r], p', cap', new', i', h', rfl, by rw [show ((m - 1 : Nat) : Int) = (m : Int) - 1 by omega]; rfl, rfl, rfl, rfl, fun x hx => (List.mem_append.1 hx).elim (hT14 x) fun e => by rw [List.mem_singleton.1 e]; exact hrl14, by rw [List.length_append]; show rt.length + 1 + _ ≤ _; omega, hfin, hi1, hi2, hh1, hh2, rfl⟩
    · refine vw_nodup (fun hnd => ?_)
      have hd : (ids (Src b a cs.length cap i' h' ++ (newT ++ []))).Nodup := OLe.nodup (by repeat (first | exact ole_nil | exact ole_refl | (apply ole_cons; (repeat (first | exact pm1_here | apply pm1_next | apply pm1_past))) | (apply ole_app; (repeat (first | exact pm_here | exact pm_last | apply pm_next | apply pm_past))))) hnd
      repeat (first | refine vops_nil ?_ | refine vw_seq ?_ | refine vw_region (by kernel_rfl) ?_ | refine vw_ret ?_ | refine vw_exit ?_ | ((show VOps _ _ _ _ (⟨some _, Go.Op.load _ _, _, _, _, none⟩ :: _) _ _); refine vops_loadNM tyOk rfl rfl rfl (by repeat (first | exact mem_here | apply mem_next | apply mem_past)) (by first | rfl | (rw [ints_length]; first | assumption | omega | (rw [ints_length]; first | assumption | omega | simp [*])) | simp [*]) ?_) | ((show VOps _ _ _ _ (⟨none, Go.Op.store _ _ _, _, _, _, none⟩ :: _) _ _); refine vops_storeAM tyOk rfl rfl rfl (by first | rfl | (rw [ints_length]; first | assumption | omega | (rw [ints_length]; first | assumption | omega | simp [*])) | simp [*]) (by first | exact ints_one | simp [Value.oneCell']) (by repeat (first | exact upd_here | apply upd_next | apply upd_past)) (by first | rfl | (rw [ints_length]; first | assumption | omega | (rw [ints_length]; first | assumption | omega | simp [*])) | simp [*]) ?_))
      exact draw_out rfl rfl (by repeat (first | exact mem_here | apply mem_next | apply mem_past)) (by repeat (first | exact sub_hereL | exact sub_refl | apply sub_cons | apply sub_app)) (by repeat (first | exact sub_hereL | exact sub_refl | apply sub_cons | apply sub_app)) hd (by omega) (by omega) hT14 (by omega) hNT hi1 hi2 hh1 hh2
  repeat (first | refine vops_q tyOk rfl ?_ | refine vops_nil ?_ | refine vw_seq ?_ | refine vw_region (by kernel_rfl) ?_ | refine vw_cond rfl ?_)
  refine bs_dec (fun hx => ?_) (fun hx => ?_)
  · show VWr _ _ _ _ _ _ _ _
    repeat (first | refine vops_q tyOk rfl ?_ | refine vw_seq ?_ | refine vw_region (by kernel_rfl) ?_ | refine vops_guardT rfl rfl ?_ | refine vops_p tyOk rfl (by (try simp only [inR]); omega) ?_ | ((show VOps _ _ _ _ (⟨some _, Go.Op.load _ _, _, _, _, none⟩ :: _) _ _); refine vops_loadM tyOk rfl rfl rfl (by repeat (first | exact mem_here | apply mem_next | apply mem_past)) (by rfl) ?_))
    repeat' (first | refine vops_q tyOk rfl ?_ | refine vops_nil ?_ | refine vw_seq ?_ | refine vw_region (by kernel_rfl) ?_ | refine vops_guardT rfl rfl ?_ | with_reducible refine bs_true ?_ | with_reducible refine bs_false ?_ | refine vw_cond rfl ?_ | refine vw_skip ?_ | (with_reducible refine bs_dec (fun _ => ?_) (fun _ => ?_)) <;> try (exfalso; omega) | (apply vops_callM ent123 rfl; (case h => (intro w' hg; exact c_next (hC.at (cap := cap) hg hi1 hi2 hh1 hh2) (by omega))); (case hp => (repeat (first | exact pm_here | exact pm_last | apply pm_next | apply pm_past))); (rintro _ newM ⟨x, rfl, hx0, hx1, i', h', hi1, hi2, hh1, hh2, rfl⟩)))
    · show VWr _ _ _ _ _ _ _ _
      refine vw_drawP (id := 14) [(b3, _)] [0, 1, 2, 3, 4, 5, 6, 7] 6 5 32 [.int .i64 0, .slice none 0 0] tyOk rfl rfl rfl (by simp) (by kernel_rfl) (by kernel_rfl) (by kernel_rfl) (by kernel_rfl) rfl (by decide) (by repeat (first | exact ole_nil | exact ole_refl | (apply ole_cons; (repeat (first | exact pm1_here | apply pm1_next | apply pm1_past))) | (apply ole_app; (repeat (first | exact pm_here | exact pm_last | apply pm_next | apply pm_past))))) ?_
      repeat' (first | refine vops_nil ?_ | refine vd_nil (by kernel_rfl) ?_ | refine ⟨fun _ _ _ h => List.mem_append_right _ h, ?_⟩ | refine ⟨fun h => Bool.noConfusion (show false = true from h), ?_⟩ | refine ⟨fun _ p hp _ => (show Go.VL.Sub _ _ from (by repeat (first | exact sub_hereL | exact sub_refl | apply sub_cons | apply sub_app))) p hp, ?_⟩ | (apply vops_callM ent122 rfl; (case h => (intro w' hg; exact c_order (cap := cap) (n := k) hC hg hi1 hi2 hh1 hh2 (by omega))); (case hp => (repeat (first | exact pm_here | exact pm_last | apply pm_next | apply pm_past))); (rintro _ newM ⟨l, pl, cl, newl, i', h', rfl, hO, hNl, hi1, hi2, hh1, hh2, rfl⟩; rw [List.append_assoc])) | (apply vops_call ent179 rfl; (intro w' hg; exact c_l01Renamed (k : Int) _ _ rs l w' (NewR.see (by assumption) (by repeat (first | exact sub_hereL | exact sub_refl | apply sub_cons | apply sub_app)) _ hg) (NewI.see (by assumption) (by repeat (first | exact sub_hereL | exact sub_refl | apply sub_cons | apply sub_app)) _ hg) h14 (by omega) (ord_le hO (by omega)) hsch (ord_perm hO)); (rintro _ newN ⟨p, cp, rfl, hN2⟩)) | ((show VOps _ _ _ _ (⟨none, Go.Op.store _ _ _, _, _, _, none⟩ :: _) _ _); refine vops_storeAM tyOk rfl rfl rfl (by first | rfl | (rw [ints_length]; first | assumption | omega | (rw [ints_length]; first | assumption | omega | simp [*])) | simp [*]) (by first | exact ints_one | simp [Value.oneCell']) (by repeat (first | exact upd_here | apply upd_next | apply upd_past)) (by first | rfl | (rw [ints_length]; first | assumption | omega | (rw [ints_length]; first | assumption | omega | simp [*])) | simp [*]) ?_) | refine vd_one rfl (by kernel_rfl) (by kernel_rfl) rfl ?_ | refine vp_q tyOk rfl (by first | trivial | rfl) rfl rfl rfl (by kernel_rfl) (by kernel_rfl) ?_ | refine vp_load tyOk rfl (by first | trivial | rfl) rfl rfl rfl rfl rfl (by kernel_rfl) (by kernel_rfl) (by kernel_rfl) (sees_mem (by repeat (first | exact mem_here | apply mem_next | apply mem_past)) (by rfl)) (by repeat (first | exact sub_hereL | exact sub_refl | apply sub_cons | apply sub_app)) ?_ | refine vp_loadNM tyOk rfl (by first | trivial | rfl) rfl rfl rfl rfl rfl (by repeat (first | exact mem_here | apply mem_next | apply mem_past)) (by first | rfl | (rw [ints_length]; first | assumption | omega | (rw [ints_length]; first | assumption | omega | simp [*])) | simp [*]) (by kernel_rfl) (by kernel_rfl) (by kernel_rfl) (by repeat (first | exact sub_hereL | exact sub_refl | apply sub_cons | apply sub_app)) ?_ | refine vp_one rfl rfl rfl (by kernel_rfl) (by kernel_rfl) rfl rfl (by kernel_rfl) ?_ | refine vp_alloc (by kernel_rfl) (fun bz hbz => ?_))
      have hs1 := renamed_sch (ord_perm hO) hsch
      have h141 := renamed14 (k : Int) l rs
      generalize renamed (k : Int) l rs = rs1 at *
      have hrl1 : rs1.length ≤ 40 := hs1.2.2.1
      show VWr _ _ _ _ _ _ _ _
      refine vw_le (own' := Src b a cs.length cap i' h' ++ (newS ++ (newN ++ ((bz, ⟨[.int .i64 k, .slice p rs1.length cp], 32, 2, none⟩) :: [(b3, ⟨[.int .i64 k, .slice pS rs.length cS], 32, 2, none⟩), (b2, ⟨[.int .i64 0, .slice none 0 0], 32, 2, none⟩)])))) (by repeat (first | exact ole_nil | exact ole_refl | (apply ole_cons; (repeat (first | exact pm1_here | apply pm1_next | apply pm1_past))) | (apply ole_app; (repeat (first | exact pm_here | exact pm_last | apply pm_next | apply pm_past))))) ?_
      repeat (first | refine vops_q tyOk rfl ?_ | refine vw_region (by kernel_rfl) ?_ | ((show VOps _ _ _ _ (⟨some _, Go.Op.load _ _, _, _, _, none⟩ :: _) _ _); refine vops_loadM tyOk rfl rfl rfl (by repeat (first | exact mem_here | apply mem_next | apply mem_past)) (by rfl) ?_))
      refine vops_appendL (k := 14) tyOk rfl rfl (List.cons_ne_nil _ _) rfl rfl (by decide) rfl hN (by repeat (first | exact pm_here | exact pm_last | apply pm_next | apply pm_past)) rfl (fun w' hg => rdS_f (NewR.see hN2 (by repeat (first | exact sub_hereL | exact sub_refl | apply sub_cons | apply sub_app)) _ hg) h141) (by omega) (fun p' cap' new' hN' => ?_)
      have hfin : NewR 50 14 (rs ++ rs1) (.slice p' (rs.length + rs1.length) cap') new' := NewF.r (m := 0) hN' (by simp) (by simp)
      have hl3 : rs.length + rs1.length = (rs ++ rs1).length := by simp
      rw [hl3] at hfin ⊢
      refine vops_nodup (fun hnd => ?_)
      have hd : (ids (Src b a cs.length cap i' h' ++ (new' ++ []))).Nodup := OLe.nodup (by repeat (first | exact ole_nil | exact ole_refl | (apply ole_cons; (repeat (first | exact pm1_here | apply pm1_next | apply pm1_past))) | (apply ole_app; (repeat (first | exact pm_here | exact pm_last | apply pm_next | apply pm_past))))) hnd
      repeat (first | refine vops_q tyOk rfl ?_ | refine vops_nil ?_ | refine vw_seq ?_ | refine vw_region (by kernel_rfl) ?_ | refine vw_ret ?_ | ((show VOps _ _ _ _ (⟨some _, Go.Op.load _ _, _, _, _, none⟩ :: _) _ _); refine vops_loadNM tyOk rfl rfl rfl (by repeat (first | exact mem_here | apply mem_next | apply mem_past)) (by first | rfl | (rw [ints_length]; first | assumption | omega | (rw [ints_length]; first | assumption | omega | simp [*])) | simp [*]) ?_) | ((show VOps _ _ _ _ (⟨none, Go.Op.store _ _ _, _, _, _, none⟩ :: _) _ _); first | refine vops_storeM tyOk rfl rfl rfl rfl rfl (by repeat (first | exact upd_here | apply upd_next | apply upd_past)) (by simp) ?_ | refine vops_storeAM tyOk rfl rfl rfl (by first | rfl | (rw [ints_length]; first | assumption | omega | (rw [ints_length]; first | assumption | omega | simp [*])) | simp [*]) (by first | exact ints_one | simp [Value.oneCell']) (by repeat (first | exact upd_here | apply upd_next | apply upd_past)) (by first | rfl | (rw [ints_length]; first | assumption | omega | (rw [ints_length]; first | assumption | omega | simp [*])) | simp [*]) ?_))
      exact draw_out rfl rfl (by repeat (first | exact mem_here | apply mem_next | apply mem_past)) (by repeat (first | exact sub_hereL | exact sub_refl | apply sub_cons | apply sub_app)) (by repeat (first | exact sub_hereL | exact sub_refl | apply sub_cons | apply sub_app)) hd (by omega) (by omega) (fun r hr => (List.mem_append.1 hr).elim (h14 r) (h141 r)) (by omega) hfin hi1 hi2 hh1 hh2
    all_goals
      refine vops_nodup (fun hnd => ?_)
      have hd : (ids (Src b a cs.length cap i' h' ++ (newS ++ []))).Nodup := OLe.nodup (by repeat (first | exact ole_nil | exact ole_refl | (apply ole_cons; (repeat (first | exact pm1_here | apply pm1_next | apply pm1_past))) | (apply ole_app; (repeat (first | exact pm_here | exact pm_last | apply pm_next | apply pm_past))))) hnd
      repeat (first | refine vops_nil ?_ | refine vw_ret ?_ | ((show VOps _ _ _ _ (⟨some _, Go.Op.load _ _, _, _, _, none⟩ :: _) _ _); refine vops_loadNM tyOk rfl rfl rfl (by repeat (first | exact mem_here | apply mem_next | apply mem_past)) (by first | rfl | (rw [ints_length]; first | assumption | omega | (rw [ints_length]; first | assumption | omega | simp [*])) | simp [*]) ?_) | ((show VOps _ _ _ _ (⟨none, Go.Op.store _ _ _, _, _, _, none⟩ :: _) _ _); refine vops_storeAM tyOk rfl rfl rfl (by first | rfl | (rw [ints_length]; first | assumption | omega | (rw [ints_length]; first | assumption | omega | simp [*])) | simp [*]) (by first | exact ints_one | simp [Value.oneCell']) (by repeat (first | exact upd_here | apply upd_next | apply upd_past)) (by first | rfl | (rw [ints_length]; first | assumption | omega | (rw [ints_length]; first | assumption | omega | simp [*])) | simp [*]) ?_))
      exact draw_out rfl rfl (by repeat (first | exact mem_here | apply mem_next | apply mem_past)) (by repeat (first | exact sub_hereL | exact sub_refl | apply sub_cons | apply sub_app)) (by repeat (first | exact sub_hereL | exact sub_refl | apply sub_cons | apply sub_app)) hd (by omega) (by omega) h14 (by omega) hN hi1 hi2 hh1 hh2
  repeat (first | refine vops_q tyOk rfl ?_ | refine vops_nil ?_ | refine vw_seq ?_ | refine vw_region (by kernel_rfl) ?_ | refine vops_p tyOk rfl (by (try simp only [inR]); omega) ?_ | refine vw_skip ?_ | (apply vops_callM ent123 rfl; (case h => (intro w' hg; exact c_next (hC.at (cap := cap) hg hi1 hi2 hh1 hh2) (by omega))); (case hp => (repeat (first | exact pm_here | exact pm_last | apply pm_next | apply pm_past))); (rintro _ newM ⟨x, rfl, hx0, hx1, i', h', hi1, hi2, hh1, hh2, rfl⟩)) | refine vops_build0 tyOk rfl rfl (fun be hbe => ?_) | refine vops_allocZ [.int .i64 0, .slice none 0 0] tyOk rfl rfl (by simp) (fun b6 hb6 => ?_) | refine vops_litI [4, 10, 41] tyOk rfl rfl (List.cons_ne_nil _ _) (by rfl) rfl (by omega) (by omega) (fun bt hbt => ?_) | ((show VOps _ _ _ _ (⟨none, Go.Op.store _ _ _, _, _, _, none⟩ :: _) _ _); refine vops_storeAM tyOk rfl rfl rfl (by first | rfl | (rw [ints_length]; first | assumption | omega | (rw [ints_length]; first | assumption | omega | simp [*])) | simp [*]) (by first | exact ints_one | simp [Value.oneCell']) (by repeat (first | exact upd_here | apply upd_next | apply upd_past)) (by first | rfl | (rw [ints_length]; first | assumption | omega | (rw [ints_length]; first | assumption | omega | simp [*])) | simp [*]) ?_) | refine vops_build2 rfl rfl (by kernel_rfl) ?_)
  obtain ⟨k2, hk2e, hk22, hk215⟩ : ∃ k2 : Nat, 2 + x = (k2 : Int) ∧ 2 ≤ k2 ∧ k2 ≤ 14 := ⟨(2 + x).toNat, by omega, by omega, by omega⟩
  rw [hk2e]
  repeat (first | (apply vops_callM (own0 := Src b a cs.length cap i' h') ent121 rfl; (case hp => (repeat (first | exact pm_here | exact pm_last | apply pm_next | apply pm_past))); (case h => (intro w' hg; exact c_pick (l := [4, 10, 41]) hC hg hi1 hi2 hh1 hh2 (by repeat (first | exact mem_here | apply mem_next | apply mem_past)) rfl (by simp) (by simp))); (rintro _ newM ⟨x, hx, rfl, i', h', hi1, hi2, hh1, hh2, rfl⟩)))
  have hxp : 4 ≤ x ∧ x ≤ 41 := by simp at hx; omega
  repeat (first | refine vops_q tyOk rfl ?_ | refine vops_nil ?_ | refine vw_block ?_ | (apply vops_callM ent123 rfl; (case h => (intro w' hg; exact c_next (hC.at (cap := cap) hg hi1 hi2 hh1 hh2) (by omega))); (case hp => (repeat (first | exact pm_here | exact pm_last | apply pm_next | apply pm_past))); (rintro _ newM ⟨x, rfl, hx0, hx1, i', h', hi1, hi2, hh1, hh2, rfl⟩)))
  obtain ⟨t, rfl⟩ : ∃ t : Nat, x = (t : Int) := ⟨x.toNat, by omega⟩
  refine vw_loopW (fun m f own => ∃ (t : Nat) (rs : List (List Int)) (p : Option Addr) (c : Nat) (newS : Own) (i' h' : Int), m = t ∧ f 7 = .int .i64 t ∧ f 6 = .pointer (some ⟨b6, 0, none⟩) ∧ f 2 = .pointer (some ⟨b2, 0, none⟩) ∧ f 0 = .pointer (some ⟨b, 0, none⟩) ∧ (∀ r ∈ rs, r.length = 14) ∧ rs.length + t ≤ 50 ∧ NewR 50 14 rs (.slice p rs.length c) newS ∧ 0 ≤ i' ∧ i' ≤ cs.length ∧ 0 ≤ h' ∧ h' < 18446744073709551616 ∧
    own = Src b a cs.length cap i' h' ++ (newS ++ [(b6, ⟨[.int .i64 k2, .slice p rs.length c], 32, 2, none⟩), (b2, ⟨[.int .i64 0, .slice none 0 0], 32, 2, none⟩)])) t
    ⟨Src b a cs.length cap i' h' ++ ([(be, _)] ++ [(b6, _), (b2, _)]), (by repeat (first | exact ole_nil | exact ole_refl | (apply ole_cons; (repeat (first | exact pm1_here | apply pm1_next | apply pm1_past))) | (apply ole_app; (repeat (first | exact pm_here | exact pm_last | apply pm_next | apply pm_past))))), t, [], some ⟨be, 0, none⟩, 0, [(be, _)], i', h', rfl, rfl, rfl, rfl, rfl, (fun r hr => by cases hr), (by show 0 + t ≤ 50; omega), NewF.empty, hi1, hi2, hh1, hh2, rfl⟩ ?_
  rintro m f own ⟨t', rt, pS, cS, newT, i', h', rfl, h7, h6, h2, h0, hT14, hlen, hNT, hi1, hi2, hh1, hh2, rfl⟩
  rw [upd_of h7, upd_of h6, upd_of h2, upd_of h0]
  repeat (first | refine vops_q tyOk rfl ?_ | refine vops_nil ?_ | refine vw_seq ?_ | refine vw_region (by kernel_rfl) ?_ | refine vw_cond rfl ?_)
  refine bs_dec (fun hp => ?_) (fun hp => ?_)
  · repeat (first | refine vw_seq ?_ | refine vw_skip ?_ | refine vw_block ?_)
    refine vw_drawB [(b6, _)] [0, 1, 2, 3, 4, 5, 6, 7, 8, 9] (by kernel_rfl) (by kernel_rfl) (by kernel_rfl) rfl (by repeat (first | exact ole_nil | exact ole_refl | (apply ole_cons; (repeat (first | exact pm1_here | apply pm1_next | apply pm1_past))) | (apply ole_app; (repeat (first | exact pm_here | exact pm_last | apply pm_next | apply pm_past))))) ?_
    repeat' (first | refine vd_q tyOk rfl (by first | trivial | rfl) rfl (by kernel_rfl) (by kernel_rfl) ?_ | refine vops_nil ?_ | refine vd_nil (by kernel_rfl) ?_ | refine ⟨fun _ _ _ h => List.mem_cons_of_mem _ h, ?_⟩ | refine vd_load tyOk rfl (by first | trivial | rfl) rfl rfl rfl (by kernel_rfl) (by kernel_rfl) (by kernel_rfl) (sees_mem (by repeat (first | exact mem_here | apply mem_next | apply mem_past)) (by rfl)) (by repeat (first | exact sub_hereL | exact sub_refl | apply sub_cons | apply sub_app)) ?_ | refine ⟨fun h => Bool.noConfusion (show false = true from h), ?_⟩ | refine ⟨fun _ p hp _ => (show Go.VL.Sub _ _ from (by repeat (first | exact sub_hereL | exact sub_refl | apply sub_cons | apply sub_app))) p hp, ?_⟩ | (apply vops_callM ent180 rfl; (case h => (intro w' hg; exact c_l01DrawRound b a cs cap i' h' k2 w' (hC.at (cap := cap) hg hi1 hi2 hh1 hh2) (by omega) (by omega))); (case hp => (repeat (first | exact pm_here | exact pm_last | apply pm_next | apply pm_past))); (rintro _ newM ⟨r, hrl14, rfl, i', h', hi1, hi2, hh1, hh2, rfl⟩)) | refine vops_litR (k := 14) tyOk rfl rfl (List.cons_ne_nil _ _) rfl hrl14 rfl (by omega) (by omega) (fun be hbe => ?_) | refine vops_append1 (k := 14) tyOk rfl rfl (List.cons_ne_nil _ _) rfl rfl (by decide) rfl hNT (by repeat (first | exact pm_here | exact pm_last | apply pm_next | apply pm_past)) rfl (by repeat (first | exact mem_here | apply mem_next | apply mem_past)) (by first | assumption | omega) (by omega) (fun p' cap' new' hN' => ?_) | ((show VOps _ _ _ _ (⟨none, Go.Op.store _ _ _, _, _, _, none⟩ :: _) _ _); refine vops_storeM tyOk rfl rfl rfl rfl rfl (by repeat (first | exact upd_here | apply upd_next | apply upd_past)) (by simp) ?_) | refine vd_one rfl (by kernel_rfl) (by kernel_rfl) rfl ?_)
    have hfin : NewR 50 14 (rt ++ [r]) (.slice p' (rt.length + 1) cap') new' := NewF.r (m := 0) hN' (by simp) (by simp)
    have hl3 : rt.length + 1 = (rt ++ [r]).length := by simp
    rw [hl3] at hfin ⊢
    repeat (first | refine vops_q tyOk rfl ?_ | refine vops_nil ?_ | refine vw_region (by kernel_rfl) ?_ | refine vops_p tyOk rfl (by (try simp only [inR]); omega) ?_)
    exact ⟨m - 1, by omega, Src b a cs.length cap i' h' ++ (new' ++ [(b6, ⟨[.int .i64 k2, .slice p' (rt ++ [r]).length cap'], 32, 2, none⟩), (b2, ⟨[.int .i64 0, .slice none 0 0], 32, 2, none⟩)]), (by repeat (first | exact ole_nil | exact ole_refl | (apply ole_cons; (repeat (first | exact pm1_here | apply pm1_next | apply pm1_past))) | (apply ole_app; (repeat (first | exact pm_here | exact pm_last | apply pm_next | apply pm_past))))), m - 1, rt ++ [r], p', cap', new', i', h', rfl, by rw [show ((m - 1 : Nat) : Int) = (m : Int) - 1 by omega]; rfl, rfl, rfl, rfl, fun x hx => (List.mem_append.1 hx).elim (hT14 x) fun e => by rw [List.mem_singleton.1 e]; exact hrl14, by rw [List.length_append]; show rt.length + 1 + _ ≤ _; omega, hfin, hi1, hi2, hh1, hh2, rfl⟩
  · refine vw_nodup (fun hnd => ?_)
    have hd : (ids (Src b a cs.length cap i' h' ++ (newT ++ []))).Nodup := OLe.nodup (by repeat (first | exact ole_nil | exact ole_refl | (apply ole_cons; (repeat (first | exact pm1_here | apply pm1_next | apply pm1_past))) | (apply ole_app; (repeat (first | exact pm_here | exact pm_last | apply pm_next | apply pm_past))))) hnd
    repeat (first | refine vops_nil ?_ | refine vw_seq ?_ | refine vw_region (by kernel_rfl) ?_ | refine vw_ret ?_ | refine vw_exit ?_ | ((show VOps _ _ _ _ (⟨some _, Go.Op.load _ _, _, _, _, none⟩ :: _) _ _); refine vops_loadNM tyOk rfl rfl rfl (by repeat (first | exact mem_here | apply mem_next | apply mem_past)) (by first | rfl | (rw [ints_length]; first | assumption | omega | (rw [ints_length]; first | assumption | omega | simp [*])) | simp [*]) ?_) | ((show VOps _ _ _ _ (⟨none, Go.Op.store _ _ _, _, _, _, none⟩ :: _) _ _); refine vops_storeAM tyOk rfl rfl rfl (by first | rfl | (rw [ints_length]; first | assumption | omega | (rw [ints_length]; first | assumption | omega | simp [*])) | simp [*]) (by first | exact ints_one | simp [Value.oneCell']) (by repeat (first | exact upd_here | apply upd_next | apply upd_past)) (by first | rfl | (rw [ints_length]; first | assumption | omega | (rw [ints_length]; first | assumption | omega | simp [*])) | simp [*]) ?_))
    exact draw_out rfl rfl (by repeat (first | exact mem_here | apply mem_next | apply mem_past)) (by repeat (first | exact sub_hereL | exact sub_refl | apply sub_cons | apply sub_app)) (by repeat (first | exact sub_hereL | exact sub_refl | apply sub_cons | apply sub_app)) hd (by omega) (by omega) hT14 (by omega) hNT hi1 hi2 hh1 hh2
end Go.Proofs.Ytlfflmoegfibgaa

/- A part of the proof: TR. No conditions of its own. -/
namespace Go.Proofs.Ytlfflmoegfibgaa
open Go.VL
attribute [local irreducible] VWr VOps VD Calls
/-- A row of a list of rows of one's own, wherever it lies. -/
theorem newR_row {e k : Nat} {L : List (List Int)} {v : Value} {new : Own} (h : NewR e k L v new) (hk : ∀ o ∈ L, o.length = k) {i : Nat} {o : List Int} (hi : L[i]? = some o) :
    ∃ b cap, v = .slice (some ⟨b, 0, none⟩) L.length cap ∧ ∀ {Γ : Ctx} {own : Own}, Sub new own → ∀ j x, (ints o)[j]? = some x → Sees Γ own b (0 + i * k + j) x := by
  have hlt := (List.getElem?_eq_some_iff.1 hi).1
  obtain ⟨p, cap, rfl⟩ := SlAt.form h
  obtain ⟨b, rfl, hn, _⟩ := NewF.blk (NewR.f h) (by omega)
  refine ⟨b, cap, rfl, fun hs j x hx w hg => ?_⟩
  obtain ⟨b', o', cap', he, hc⟩ := (h.rd (hg.ok.sub (SlAt.nodup h) hs)).row hk hi
  cases he
  exact hc j x hx
end Go.Proofs.Ytlfflmoegfibgaa

/- A part of the proof: PS11. No conditions of its own. -/
namespace Go.Proofs.Ytlfflmoegfibgaa
open Go.VL
attribute [local irreducible] VWr VOps VD Calls

/-- Rounds that have been drawn, and perhaps spoilt, behind their source. -/
def DrawnX (b : Nat) (a : Option Addr) (n cap : Nat) (v : Value) (new : Own) : Prop := ∃ (m : Int) (rs : List (List Int)) (p : Option Addr) (c : Nat) (newE : Own) (i h : Int), -2 ≤ m ∧ m ≤ 20 ∧ (∀ r ∈ rs, r.length = 14) ∧ rs.length ≤ 200 ∧ v = .agg #[.int .i64 m, .slice p rs.length c] ∧ NewR 50 14 rs (.slice p rs.length c) newE ∧ 0 ≤ i ∧ i ≤ n ∧ 0 ≤ h ∧ h < 18446744073709551616 ∧ new = Src b a n cap i h ++ newE
theorem src_nodupR {b : Nat} {a : Option Addr} {n cap : Nat} {i h i2 h2 : Int} {R R' : Own} (hn : (ids (Src b a n cap i h ++ R)).Nodup) (hR : ids R = ids R') : (ids (Src b a n cap i2 h2 ++ R')).Nodup := by
  rw [ids_app] at hn ⊢
  rw [← hR]; exact hn
theorem flat14 : ∀ {L : List (List Int)}, (∀ r ∈ L, r.length = 14) → L.flatten.length = L.length * 14
  | [], _ => rfl
  | r :: L, h => by rw [List.flatten_cons, List.length_append, h r List.mem_cons_self, flat14 fun q hq => h q (List.mem_cons_of_mem _ hq), List.length_cons]; omega
attribute [local irreducible] Src
theorem bad_out {Γ : Ctx} {f : Nat → Value} {own : Own} {N : Nat} {fn : Func} {t b b2 n cap c e' sz : Nat} {m : Int} {a p : Option Addr} {rs : List (List Int)} {newE : Own} {i h : Int} (hres : fn.results = #[.cell t 32]) (hf : f t = .pointer (some ⟨b2, 0, none⟩)) (hm : (b2, (⟨[.int .i64 m, .slice p rs.length c], e', sz, none⟩ : Blk)) ∈ own)
    (hs1 : Sub (Src b a n cap i h) own) (hs2 : Sub newE own) (hd : (ids (Src b a n cap i h ++ (newE ++ []))).Nodup) (hk2 : -2 ≤ m) (hk : m ≤ 20) (hr : ∀ r ∈ rs, r.length = 14) (hl : rs.length ≤ 200) (hN : NewR 50 14 rs (.slice p rs.length c) newE) (hi1 : 0 ≤ i) (hi2 : i ≤ n) (hh1 : 0 ≤ h) (hh2 : h < 18446744073709551616) :
    Out Try.prog Γ N fn (DrawnX b a n cap) .ret f own := by
  rw [List.append_nil] at hd
  exact ⟨_, Src b a n cap i h ++ newE, rv_cell (cs := [.int .i64 m, .slice p rs.length c]) tyOk hres hf rfl rfl rfl (fun j v hj => by rw [Nat.zero_add]; exact sees_mem hm hj), hd, fun q hq => (List.mem_append.1 hq).elim (hs1 q) (hs2 q), m, rs, p, c, newE, i, h, hk2, hk, hr, hl, rfl, hN, hi1, hi2, hh1, hh2, rfl⟩
set_option maxHeartbeats 4000000 in
set_option maxRecDepth 100000 in
theorem c_l01Bad (b : Nat) (a : Option Addr) (cs : List Nat) (cap : Nat) (i' h' : Int) (k : Nat) (rs : List (List Int)) (p : Option Addr) (c : Nat) (newS : Own) (w : World) (hk2 : 2 ≤ k) (hk14 : k ≤ 14) (h14 : ∀ r ∈ rs, r.length = 14) (hl : rs.length ≤ 100) (hN : NewR 50 14 rs (.slice p rs.length c) newS)
    (hC : SrcCtx ⟨w, ids (Src b a cs.length cap i' h' ++ newS)⟩ b a cs) (hi1 : 0 ≤ i') (hi2 : i' ≤ cs.length) (hh1 : 0 ≤ h') (hh2 : h' < 18446744073709551616) (ho : OwnOk (Src b a cs.length cap i' h' ++ newS) w) :
    Calls Try.prog 157 [.pointer (some ⟨b, 0, none⟩), .agg #[.int .i64 k, .slice p rs.length c]].toArray w (ResM w (Src b a cs.length cap i' h' ++ newS) (DrawnX b a cs.length cap)) := by
  refine calls_of_vwM Try.func157 rfl Try.ntmps157 (by simp) ho ?_
  refine vw_seq (vw_region (by kernel_rfl) (vops_box [.int .i64 k, .slice p rs.length c] rfl (fun b3 hb3 => ?_)))
  refine vops_allocZ [.int .i64 0, .slice none 0 0] tyOk rfl rfl (by simp) (fun b4 hb4 => ?_)
  repeat (first | refine vops_q tyOk rfl ?_ | refine vops_nil ?_ | refine vw_seq ?_ | refine vw_region (by kernel_rfl) ?_ | refine vops_allocZ [.int .i64 0, .slice none 0 0] tyOk rfl rfl (by simp) (fun b5 hb5 => ?_) | (apply vops_call ent181 rfl; (intro w' hg; exact c_l01Copy k _ rs w' (NewR.see hN (by repeat (first | exact sub_hereL | exact sub_refl | apply sub_cons | apply sub_app)) _ hg) h14 (by omega)); (rintro _ newN ⟨p2, c2, rfl, hN2⟩)) | ((show VOps _ _ _ _ (⟨some _, Go.Op.load _ _, _, _, _, none⟩ :: _) _ _); refine vops_loadNM tyOk rfl rfl rfl (by repeat (first | exact mem_here | apply mem_next | apply mem_past)) (by first | rfl | (rw [ints_length]; first | assumption | omega | (rw [ints_length]; first | assumption | omega | simp [*])) | simp [*]) ?_) | ((show VOps _ _ _ _ (⟨none, Go.Op.store _ _ _, _, _, _, none⟩ :: _) _ _); refine vops_storeAM tyOk rfl rfl rfl (by first | rfl | (rw [ints_length]; first | assumption | omega | (rw [ints_length]; first | assumption | omega | simp [*])) | simp [*]) (by first | exact ints_one | simp [Value.oneCell']) (by repeat (first | exact upd_here | apply upd_next | apply upd_past)) (by first | rfl | (rw [ints_length]; first | assumption | omega | (rw [ints_length]; first | assumption | omega | simp [*])) | simp [*]) ?_))
  refine vops_nodup (fun hnd => ?_)
  have hdS : (ids (Src b a cs.length cap i' h' ++ (newS ++ []))).Nodup := OLe.nodup (by repeat (first | exact ole_nil | exact ole_refl | (apply ole_cons; (repeat (first | exact pm1_here | apply pm1_next | apply pm1_past))) | (apply ole_app; (repeat (first | exact pm_here | exact pm_last | apply pm_next | apply pm_past))))) hnd
  have hdN : (ids (Src b a cs.length cap i' h' ++ (newN ++ []))).Nodup := OLe.nodup (by repeat (first | exact ole_nil | exact ole_refl | (apply ole_cons; (repeat (first | exact pm1_here | apply pm1_next | apply pm1_past))) | (apply ole_app; (repeat (first | exact pm_here | exact pm_last | apply pm_next | apply pm_past))))) hnd
  repeat (first | refine vops_q tyOk rfl ?_ | refine vops_nil ?_ | refine vw_seq ?_ | refine vw_region (by kernel_rfl) ?_ | refine vw_cond rfl ?_ | refine vw_block ?_ | (apply vops_callM ent123 rfl; (case h => (intro w' hg; exact c_next (hC.at (cap := cap) hg hi1 hi2 hh1 hh2) (by omega))); (case hp => (repeat (first | exact pm_here | exact pm_last | apply pm_next | apply pm_past))); (rintro _ newM ⟨x, rfl, hx0, hx1, i', h', hi1, hi2, hh1, hh2, rfl⟩)))
  refine bs_dec (fun hx => ?_) (fun hx => ?_)
  · repeat (first | refine vops_q tyOk rfl ?_ | refine vops_nil ?_ | refine vw_seq ?_ | refine vw_region (by kernel_rfl) ?_ | refine vops_p tyOk rfl (by (try simp only [inR]); omega) ?_ | refine vw_ret ?_ | refine vops_litI [1, 15, 0, -1, (k : Int) + 1] tyOk rfl rfl (List.cons_ne_nil _ _) (by rfl) rfl (by omega) (by omega) (fun bt hbt => ?_) | (apply vops_callM (own0 := Src b a cs.length cap i' h') ent121 rfl; (case hp => (repeat (first | exact pm_here | exact pm_last | apply pm_next | apply pm_past))); (case h => (intro w' hg; exact c_pick (l := [1, 15, 0, -1, (k : Int) + 1]) hC hg hi1 hi2 hh1 hh2 (by repeat (first | exact mem_here | apply mem_next | apply mem_past)) rfl (by simp) (by simp))); (rintro _ newM ⟨x, hx, rfl, i', h', hi1, hi2, hh1, hh2, rfl⟩)) | ((show VOps _ _ _ _ (⟨some _, Go.Op.load _ _, _, _, _, none⟩ :: _) _ _); first | refine vops_loadM tyOk rfl rfl rfl (by repeat (first | exact mem_here | apply mem_next | apply mem_past)) (by rfl) ?_ | refine vops_loadNM tyOk rfl rfl rfl (by repeat (first | exact mem_here | apply mem_next | apply mem_past)) (by first | rfl | (rw [ints_length]; first | assumption | omega | (rw [ints_length]; first | assumption | omega | simp [*])) | simp [*]) ?_) | ((show VOps _ _ _ _ (⟨none, Go.Op.store _ _ _, _, _, _, none⟩ :: _) _ _); first | refine vops_storeM tyOk rfl rfl rfl rfl rfl (by repeat (first | exact upd_here | apply upd_next | apply upd_past)) (by simp) ?_ | refine vops_storeAM tyOk rfl rfl rfl (by first | rfl | (rw [ints_length]; first | assumption | omega | (rw [ints_length]; first | assumption | omega | simp [*])) | simp [*]) (by first | exact ints_one | simp [Value.oneCell']) (by repeat (first | exact upd_here | apply upd_next | apply upd_past)) (by first | rfl | (rw [ints_length]; first | assumption | omega | (rw [ints_length]; first | assumption | omega | simp [*])) | simp [*]) ?_))
    simp only [List.mem_cons, List.not_mem_nil, or_false] at hx
    exact bad_out rfl rfl (by repeat (first | exact mem_here | apply mem_next | apply mem_past)) (by repeat (first | exact sub_hereL | exact sub_refl | apply sub_cons | apply sub_app)) (by repeat (first | exact sub_hereL | exact sub_refl | apply sub_cons | apply sub_app)) (src_nodupR hdN rfl) (by omega) (by omega) h14 (by omega) hN2 hi1 hi2 hh1 hh2
  repeat (first | refine vops_q tyOk rfl ?_ | refine vops_nil ?_ | refine vw_seq ?_ | refine vw_region (by kernel_rfl) ?_ | refine vw_cond rfl ?_)
  refine bs_dec (fun hx1 => ?_) (fun hx1 => ?_)
  · repeat (first | refine vops_q tyOk rfl ?_ | refine vops_nil ?_ | refine vw_seq ?_ | refine vw_region (by kernel_rfl) ?_ | refine vw_cond rfl ?_ | ((show VOps _ _ _ _ (⟨some _, Go.Op.load _ _, _, _, _, none⟩ :: _) _ _); refine vops_loadM tyOk rfl rfl rfl (by repeat (first | exact mem_here | apply mem_next | apply mem_past)) (by rfl) ?_))
    refine bs_dec (fun hl0 => ?_) (fun hl0 => ?_)
    · obtain ⟨r0, rt, hrs⟩ : ∃ r0 rt, rs = r0 :: rt := by
        cases rs with
        | nil => simp at hl0
        | cons r0 rt => exact ⟨r0, rt, rfl⟩
      have hr0 : r0.length = 14 := h14 r0 (by rw [hrs]; exact List.mem_cons_self)
      obtain ⟨bC, cC, he, hrow⟩ := newR_row hN2 h14 (i := 0) (o := r0) (by rw [hrs]; rfl)
      have hsl : ∀ r : List Int, r.length = 14 → spl rs.flatten 0 r = (r :: rt).flatten ∧ rs.length = (r :: rt).length ∧ ∀ q ∈ r :: rt, q.length = 14 := fun r hr => ⟨by rw [hrs]; exact spl_first (by omega), by rw [hrs]; rfl, fun q hq => by
        rcases List.mem_cons.1 hq with rfl | hq
        · exact hr
        · exact h14 q (by rw [hrs]; exact List.mem_cons_of_mem _ hq)⟩
      obtain ⟨bD, he2, hnw, hlc, hcm, hfl⟩ := NewF.blk (NewR.f hN2) (by omega)
      subst he2
      cases he
      subst hnw
      repeat (first | refine vops_q tyOk rfl ?_ | refine vops_nil ?_ | refine vw_seq ?_ | refine vw_region (by kernel_rfl) ?_ | refine vops_p tyOk rfl (by (try simp only [inR]); omega) ?_ | refine vw_ret ?_ | refine vops_loadN tyOk (ints r0) rfl rfl rfl (by rw [ints_length, hr0]) (fun j x hx => hrow (by repeat (first | exact sub_hereL | exact sub_refl | apply sub_cons | apply sub_app)) j x hx) ?_ | refine vops_allocZ (ints (List.replicate 14 0)) tyOk rfl rfl (by simp [ints]) (fun b6 hb6 => ?_) | refine vops_storeAM tyOk rfl rfl rfl (by rw [ints_length, hr0]) ints_one (by repeat (first | exact upd_here | apply upd_next | apply upd_past)) (by simp [ints, hr0]) ?_ | (apply vops_callM ent123 rfl; (case h => (intro w' hg; exact c_next (hC.at (cap := cap) hg hi1 hi2 hh1 hh2) (by omega))); (case hp => (repeat (first | exact pm_here | exact pm_last | apply pm_next | apply pm_past))); (rintro _ newM ⟨x, rfl, hx0, hx1, i', h', hi1, hi2, hh1, hh2, rfl⟩)) | refine vops_litI [1, 0, -1, 14] tyOk rfl rfl (List.cons_ne_nil _ _) (by rfl) rfl (by omega) (by omega) (fun bt hbt => ?_) | (apply vops_callM (own0 := Src b a cs.length cap i' h') ent121 rfl; (case hp => (repeat (first | exact pm_here | exact pm_last | apply pm_next | apply pm_past))); (case h => (intro w' hg; exact c_pick (l := [1, 0, -1, 14]) hC hg hi1 hi2 hh1 hh2 (by repeat (first | exact mem_here | apply mem_next | apply mem_past)) rfl (by simp) (by simp))); (rintro _ newM ⟨x, hx, rfl, i', h', hi1, hi2, hh1, hh2, rfl⟩)) | refine vops_loadNM tyOk rfl rfl rfl (by repeat (first | exact mem_here | apply mem_next | apply mem_past)) (by rw [ints_length, List.length_set, hr0]) ?_ | refine vops_storeRowP (o := 0) tyOk rfl (by rw [List.length_set]; exact hr0) rfl rfl (by repeat (first | exact upd_here | apply upd_next | apply upd_past)) (by rw [List.length_set]; omega) ?_ | ((show VOps _ _ _ _ (⟨some _, Go.Op.load _ _, _, _, _, none⟩ :: _) _ _); first | refine vops_loadM tyOk rfl rfl rfl (by repeat (first | exact mem_here | apply mem_next | apply mem_past)) (by rfl) ?_ | refine vops_loadNM tyOk rfl rfl rfl (by repeat (first | exact mem_here | apply mem_next | apply mem_past)) (by first | rfl | (rw [ints_length]; first | assumption | omega | (rw [ints_length]; first | assumption | omega | simp [*])) | simp [*]) ?_) | ((show VOps _ _ _ _ (⟨none, Go.Op.store _ _ _, _, _, _, none⟩ :: _) _ _); first | refine vops_storeIM tyOk rfl rfl rfl rfl (by repeat (first | exact upd_here | apply upd_next | apply upd_past)) (by omega) ?_ | refine vops_storeAM tyOk rfl rfl rfl (by first | rfl | (rw [ints_length]; first | assumption | omega | (rw [ints_length]; first | assumption | omega | simp [*])) | simp [*]) (by first | exact ints_one | simp [Value.oneCell']) (by repeat (first | exact upd_here | apply upd_next | apply upd_past)) (by first | rfl | (rw [ints_length]; first | assumption | omega | (rw [ints_length]; first | assumption | omega | simp [*])) | simp [*]) ?_))
      generalize hq : r0.set _ _ = q
      have hql : q.length = 14 := by rw [← hq, List.length_set]; exact hr0
      obtain ⟨g1, g2, g3⟩ := hsl q hql
      rw [g1]
      have hNq : NewR 50 14 (q :: rt) (.slice (some ⟨bC, 0, none⟩) (q :: rt).length c2) [(bC, ⟨ints (q :: rt).flatten, 50, c2 * 14, none⟩)] := NewF.mk (flat14 g3) (by omega) hcm
      rw [g2]
      exact bad_out (newE := [(bC, ⟨ints (q :: rt).flatten, 50, c2 * 14, none⟩)]) rfl rfl (by repeat (first | exact mem_here | apply mem_next | apply mem_past)) (by repeat (first | exact sub_hereL | exact sub_refl | apply sub_cons | apply sub_app)) (by repeat (first | exact sub_hereL | exact sub_refl | apply sub_cons | apply sub_app)) (src_nodupR hdN rfl) (by omega) (by omega) g3 (by omega) hNq hi1 hi2 hh1 hh2
    · show VWr _ _ _ _ _ _ _ _
      repeat (first | refine vops_nil ?_ | refine vw_seq ?_ | refine vw_region (by kernel_rfl) ?_ | refine vw_skip ?_ | refine vw_ret ?_ | ((show VOps _ _ _ _ (⟨some _, Go.Op.load _ _, _, _, _, none⟩ :: _) _ _); refine vops_loadNM tyOk rfl rfl rfl (by repeat (first | exact mem_here | apply mem_next | apply mem_past)) (by first | rfl | (rw [ints_length]; first | assumption | omega | (rw [ints_length]; first | assumption | omega | simp [*])) | simp [*]) ?_) | ((show VOps _ _ _ _ (⟨none, Go.Op.store _ _ _, _, _, _, none⟩ :: _) _ _); refine vops_storeAM tyOk rfl rfl rfl (by first | rfl | (rw [ints_length]; first | assumption | omega | (rw [ints_length]; first | assumption | omega | simp [*])) | simp [*]) (by first | exact ints_one | simp [Value.oneCell']) (by repeat (first | exact upd_here | apply upd_next | apply upd_past)) (by first | rfl | (rw [ints_length]; first | assumption | omega | (rw [ints_length]; first | assumption | omega | simp [*])) | simp [*]) ?_))
      exact bad_out rfl rfl (by repeat (first | exact mem_here | apply mem_next | apply mem_past)) (by repeat (first | exact sub_hereL | exact sub_refl | apply sub_cons | apply sub_app)) (by repeat (first | exact sub_hereL | exact sub_refl | apply sub_cons | apply sub_app)) (src_nodupR hdS rfl) (by omega) (by omega) h14 (by omega) hN hi1 hi2 hh1 hh2
  repeat (first | refine vops_q tyOk rfl ?_ | refine vops_nil ?_ | refine vw_seq ?_ | refine vw_region (by kernel_rfl) ?_ | refine vw_cond rfl ?_)
  refine bs_dec (fun hx2 => ?_) (fun hx2 => ?_)
  · repeat (first | refine vw_seq ?_ | refine vw_block ?_)
    refine vw_loopW (fun m f own => ∃ (qs : List (List Int)) (p2 : Option Addr) (c2 : Nat) (newN : Own), m = 41 - qs.length ∧ qs.length ≤ 100 ∧ f 5 = .pointer (some ⟨b5, 0, none⟩) ∧ f 4 = .pointer (some ⟨b4, 0, none⟩) ∧ f 3 = .pointer (some ⟨b3, 0, none⟩) ∧ (∀ r ∈ qs, r.length = 14) ∧ NewR 50 14 qs (.slice p2 qs.length c2) newN ∧
      own = Src b a cs.length cap i' h' ++ (newN ++ [(b5, ⟨[.int .i64 k, .slice p2 qs.length c2], 32, 2, none⟩), (b4, ⟨[.int .i64 0, .slice none 0 0], 32, 2, none⟩), (b3, ⟨[.int .i64 k, .slice p rs.length c], 32, 2, none⟩)])) (41 - rs.length)
      ⟨_, (by repeat (first | exact ole_nil | exact ole_refl | (apply ole_cons; (repeat (first | exact pm1_here | apply pm1_next | apply pm1_past))) | (apply ole_app; (repeat (first | exact pm_here | exact pm_last | apply pm_next | apply pm_past))))), rs, p2, c2, newN, rfl, hl, rfl, rfl, rfl, h14, hN2, rfl⟩ ?_
    rintro m f own ⟨qs, p2, c2, newN, rfl, hql, h5, h4, h3, hq14, hNq, rfl⟩
    rw [upd_of h5, upd_of h4, upd_of h3]
    repeat (first | refine vops_q tyOk rfl ?_ | refine vops_nil ?_ | refine vw_seq ?_ | refine vw_region (by kernel_rfl) ?_ | refine vw_cond rfl ?_ | ((show VOps _ _ _ _ (⟨some _, Go.Op.load _ _, _, _, _, none⟩ :: _) _ _); refine vops_loadM tyOk rfl rfl rfl (by repeat (first | exact mem_here | apply mem_next | apply mem_past)) (by rfl) ?_))
    refine bs_dec (fun hle => ?_) (fun hle => ?_)
    · have hf14 := freeTo_length (k : Int)
      repeat (first | refine vw_skip ?_ | refine vw_block ?_)
      refine vw_drawB [(b5, _), (b4, _), (b3, _)] [0, 1, 2, 3, 4, 5, 6, 7, 8] (by kernel_rfl) (by kernel_rfl) (by kernel_rfl) rfl (by repeat (first | exact ole_nil | exact ole_refl | (apply ole_cons; (repeat (first | exact pm1_here | apply pm1_next | apply pm1_past))) | (apply ole_app; (repeat (first | exact pm_here | exact pm_last | apply pm_next | apply pm_past))))) ?_
      repeat' (first | refine vd_q tyOk rfl (by first | trivial | rfl) rfl (by kernel_rfl) (by kernel_rfl) ?_ | refine vops_nil ?_ | refine vd_nil (by kernel_rfl) ?_ | refine ⟨fun _ _ _ h => h, ?_⟩ | refine ⟨fun _ _ _ h => List.mem_cons_of_mem _ h, ?_⟩ | refine vd_load tyOk rfl (by first | trivial | rfl) rfl rfl rfl (by kernel_rfl) (by kernel_rfl) (by kernel_rfl) (sees_mem (by repeat (first | exact mem_here | apply mem_next | apply mem_past)) (by rfl)) (by repeat (first | exact sub_hereL | exact sub_refl | apply sub_cons | apply sub_app)) ?_ | refine ⟨fun h => Bool.noConfusion (show false = true from h), ?_⟩ | refine ⟨fun _ p hp _ => (show Go.VL.Sub _ _ from (by repeat (first | exact sub_hereL | exact sub_refl | apply sub_cons | apply sub_app))) p hp, ?_⟩ | (apply vops_callp ent94 rfl; (intro w' hg; exact c_l01Free (k : Int) (by omega) (by omega) w')) | refine vops_litR (k := 14) tyOk rfl rfl (List.cons_ne_nil _ _) rfl (freeTo_length _) rfl (by omega) (by omega) (fun be hbe => ?_) | refine vops_append1 (k := 14) tyOk rfl rfl (List.cons_ne_nil _ _) rfl rfl (by decide) rfl hNq (by repeat (first | exact pm_here | exact pm_last | apply pm_next | apply pm_past)) rfl (by repeat (first | exact mem_here | apply mem_next | apply mem_past)) (by first | assumption | omega) (by omega) (fun p' cap' new' hN' => ?_) | ((show VOps _ _ _ _ (⟨none, Go.Op.store _ _ _, _, _, _, none⟩ :: _) _ _); refine vops_storeM tyOk rfl rfl rfl rfl rfl (by repeat (first | exact upd_here | apply upd_next | apply upd_past)) (by simp) ?_) | refine vd_one rfl (by kernel_rfl) (by kernel_rfl) rfl ?_)
      have hfin : NewR 50 14 (qs ++ [freeTo k]) (.slice p' (qs.length + 1) cap') new' := NewF.r (m := 0) hN' (by simp) (by simp)
      have hl3 : qs.length + 1 = (qs ++ [freeTo k]).length := by simp
      rw [hl3] at hfin ⊢
      skip
      exact ⟨41 - (qs ++ [freeTo k]).length, by omega, Src b a cs.length cap i' h' ++ (new' ++ [(b5, ⟨[.int .i64 k, .slice p' (qs ++ [freeTo k]).length cap'], 32, 2, none⟩), (b4, ⟨[.int .i64 0, .slice none 0 0], 32, 2, none⟩), (b3, ⟨[.int .i64 k, .slice p rs.length c], 32, 2, none⟩)]), (by repeat (first | exact ole_nil | exact ole_refl | (apply ole_cons; (repeat (first | exact pm1_here | apply pm1_next | apply pm1_past))) | (apply ole_app; (repeat (first | exact pm_here | exact pm_last | apply pm_next | apply pm_past))))), qs ++ [freeTo k], p', cap', new', rfl, by omega, rfl, rfl, rfl, fun x hx => (List.mem_append.1 hx).elim (hq14 x) fun e => by rw [List.mem_singleton.1 e]; exact hf14, hfin, rfl⟩
    · refine vw_nodup (fun hnd2 => ?_)
      have hd2 : (ids (Src b a cs.length cap i' h' ++ (newN ++ []))).Nodup := OLe.nodup (by repeat (first | exact ole_nil | exact ole_refl | (apply ole_cons; (repeat (first | exact pm1_here | apply pm1_next | apply pm1_past))) | (apply ole_app; (repeat (first | exact pm_here | exact pm_last | apply pm_next | apply pm_past))))) hnd2
      repeat (first | refine vops_nil ?_ | refine vw_seq ?_ | refine vw_region (by kernel_rfl) ?_ | refine vw_ret ?_ | refine vw_exit ?_ | ((show VOps _ _ _ _ (⟨some _, Go.Op.load _ _, _, _, _, none⟩ :: _) _ _); refine vops_loadNM tyOk rfl rfl rfl (by repeat (first | exact mem_here | apply mem_next | apply mem_past)) (by first | rfl | (rw [ints_length]; first | assumption | omega | (rw [ints_length]; first | assumption | omega | simp [*])) | simp [*]) ?_) | ((show VOps _ _ _ _ (⟨none, Go.Op.store _ _ _, _, _, _, none⟩ :: _) _ _); refine vops_storeAM tyOk rfl rfl rfl (by first | rfl | (rw [ints_length]; first | assumption | omega | (rw [ints_length]; first | assumption | omega | simp [*])) | simp [*]) (by first | exact ints_one | simp [Value.oneCell']) (by repeat (first | exact upd_here | apply upd_next | apply upd_past)) (by first | rfl | (rw [ints_length]; first | assumption | omega | (rw [ints_length]; first | assumption | omega | simp [*])) | simp [*]) ?_))
      exact bad_out rfl rfl (by repeat (first | exact mem_here | apply mem_next | apply mem_past)) (by repeat (first | exact sub_hereL | exact sub_refl | apply sub_cons | apply sub_app)) (by repeat (first | exact sub_hereL | exact sub_refl | apply sub_cons | apply sub_app)) hd2 (by omega) (by omega) hq14 (by omega) hNq hi1 hi2 hh1 hh2
  · repeat (first | refine vops_nil ?_ | refine vw_seq ?_ | refine vw_region (by kernel_rfl) ?_ | refine vw_skip ?_ | refine vw_ret ?_ | ((show VOps _ _ _ _ (⟨some _, Go.Op.load _ _, _, _, _, none⟩ :: _) _ _); refine vops_loadNM tyOk rfl rfl rfl (by repeat (first | exact mem_here | apply mem_next | apply mem_past)) (by first | rfl | (rw [ints_length]; first | assumption | omega | (rw [ints_length]; first | assumption | omega | simp [*])) | simp [*]) ?_) | ((show VOps _ _ _ _ (⟨none, Go.Op.store _ _ _, _, _, _, none⟩ :: _) _ _); refine vops_storeAM tyOk rfl rfl rfl (by first | rfl | (rw [ints_length]; first | assumption | omega | (rw [ints_length]; first | assumption | omega | simp [*])) | simp [*]) (by first | exact ints_one | simp [Value.oneCell']) (by repeat (first | exact upd_here | apply upd_next | apply upd_past)) (by first | rfl | (rw [ints_length]; first | assumption | omega | (rw [ints_length]; first | assumption | omega | simp [*])) | simp [*]) ?_))
    exact bad_out rfl rfl (by repeat (first | exact mem_here | apply mem_next | apply mem_past)) (by repeat (first | exact sub_hereL | exact sub_refl | apply sub_cons | apply sub_app)) (by repeat (first | exact sub_hereL | exact sub_refl | apply sub_cons | apply sub_app)) (src_nodupR hdS rfl) (by omega) (by omega) h14 (by omega) hN hi1 hi2 hh1 hh2
end Go.Proofs.Ytlfflmoegfibgaa

/- Parts of the proof, one after another. No conditions of their own. -/
/- A part of the proof: W1. No conditions of its own. -/
namespace Go.Proofs.Ytlfflmoegfibgaa
open Go.VL

/-- Different numbers below n. -/
def DiffL (n : Int) (l : List Int) : Prop := (∀ x ∈ l, 0 ≤ x ∧ x < n) ∧ l.Nodup
/-- A round of players. -/
def EvRow (n : Int) (r : List Int) : Prop := r.length % 4 = 0 ∧ DiffL n r
/-- An evening. -/
def IsEv (n : Int) (es : List (List Int)) : Prop := 4 ≤ n ∧ n ≤ 16 ∧ es.length ≤ 20 ∧ ∀ r ∈ es, EvRow n r
theorem DiffL.len {n : Int} {l : List Int} (h : DiffL n l) : l.length ≤ n.toNat := pigeon n.toNat l h.2 fun x hx => by have := h.1 x hx; omega
theorem IsEv.row {n : Int} {es : List (List Int)} (h : IsEv n es) {i : Nat} {r : List Int} (hi : es[i]? = some r) : EvRow n r := h.2.2.2 r (List.mem_of_getElem? hi)
theorem IsEv.len {n : Int} {es : List (List Int)} (h : IsEv n es) {r : List Int} (hr : r ∈ es) : r.length ≤ 16 := by
  have h1 := (h.2.2.2 r hr).2.len
  have h2 := h.2.1
  omega
theorem DiffL.get {n : Int} {l : List Int} (h : DiffL n l) {i : Nat} (hi : i < l.length) : 0 ≤ l.getD i 0 ∧ l.getD i 0 < n := h.1 _ (mem_getD hi)
theorem DiffL.ne {n : Int} {l : List Int} (h : DiffL n l) {i j : Nat} (hi : i < l.length) (hj : j < l.length) (hij : i ≠ j) : l.getD i 0 ≠ l.getD j 0 := fun e => hij (getD_inj h.2 hi hj e)

/-- The pairs of a table that stand in the relation d: partners for 1, opponents of both kinds for 2 and 3. -/
def pairs4 (d : Nat) (a b c e : Int) : List (List Int) := if d = 1 then [[a, b], [c, e]] else if d = 2 then [[a, c], [b, e]] else [[a, e], [b, c]]
def tabP (ds : List Nat) (a b c e : Int) : List (List Int) := (ds.map fun d => pairs4 d a b c e).flatten
/-- The pairs of some tables. -/
def relP (ds : List Nat) : List Int → List (List Int)
  | a :: b :: c :: e :: t => tabP ds a b c e ++ relP ds t
  | _ => []
/-! how often two stand in a relation -/
/-- What the place k of a round adds to the place x, y of a table. -/
def ordW (ds : List Nat) (r : List Int) (k x y : Nat) : Nat := (ds.filter fun d => decide (r.getD k 0 = (x : Int) ∧ r.getD (k / 4 * 4 + (k % 4 ^^^ d)) 0 = (y : Int))).length
/-- .. and all places below k. -/
def ordC (ds : List Nat) (r : List Int) (x y : Nat) : Nat → Nat
  | 0 => 0
  | k + 1 => ordC ds r x y k + ordW ds r k x y
/-- How often x and y stand in one of the relations. -/
def relN (ds : List Nat) (es : List (List Int)) (x y : Nat) : Nat := hits (relP ds es.flatten) x y
/-- The table of a relation. -/
def relT (n : Nat) (ds : List Nat) (es : List (List Int)) : List (List Int) := tabOf n fun x y => (relN ds es x y : Int)
end Go.Proofs.Ytlfflmoegfibgaa

/- A part of the proof: W3. No conditions of its own. -/
namespace Go.Proofs.Ytlfflmoegfibgaa
open Go.VL
attribute [local irreducible] VWr VOps VD Calls

open Classical in
set_option maxRecDepth 100000 in
theorem c_idx (v : Value) (l : List Int) (x : Int) (w : World) (hv : RdI w v l) (hl : l.length ≤ 1048576) :
    Calls Try.prog 166 [v, .int .i64 x].toArray w (Res w (fun u new => new = [] ∧ ∃ r : Int, u = .int .i64 r ∧ (0 ≤ r ↔ x ∈ l))) := by
  obtain ⟨a, cap, rfl⟩ := hv.len
  refine calls_of_vw Try.func166 rfl Try.ntmps166 (by simp) ?_
  repeat (first | refine vops_q tyOk rfl ?_ | refine vops_nil ?_ | refine vw_seq ?_ | refine vw_region (by kernel_rfl) ?_ | refine vw_block ?_)
  refine vw_loop (fun m' f own => ∃ i : Nat, i ≤ l.length ∧ m' = l.length - i ∧ f 8 = .int .i64 i ∧ f 7 = .int .i64 l.length ∧ f 0 = .slice a l.length cap ∧ f 1 = .int .i64 x ∧ own = [] ∧ ∀ j : Nat, j < i → x ≠ l.getD j 0) l.length
    ⟨0, by omega, by omega, rfl, rfl, rfl, rfl, rfl, fun j hj => by omega⟩ ?_
  rintro m' f own ⟨i, hi, rfl, h8, h7, h0, h1, rfl, hall⟩
  rw [upd_of h8, upd_of h7, upd_of h0, upd_of h1]
  repeat (first | refine vops_q tyOk rfl ?_ | refine vops_nil ?_ | refine vw_seq ?_ | refine vw_region (by kernel_rfl) ?_ | refine vw_cond rfl ?_)
  refine bs_dec (fun h4 => ?_) (fun h4 => ?_)
  · have hil : i < l.length := by omega
    obtain ⟨b', o, cap', hee, hcell⟩ := hv.at (i := i) hil
    cases hee
    have hc := hcell i hil
    repeat (first | refine vops_q tyOk rfl ?_ | refine vops_nil ?_ | refine vw_seq ?_ | refine vw_region (by kernel_rfl) ?_ | refine vops_p tyOk rfl (by (try simp only [inR]); omega) ?_ | refine vw_cond rfl ?_ | refine vw_skip ?_ | refine vw_block ?_ | refine vops_load tyOk rfl rfl rfl (sees_old hc (by simp)) ?_)
    refine bs_dec (fun h6 => ?_) (fun h6 => ?_)
    · repeat (first | refine vops_q tyOk rfl ?_ | refine vops_nil ?_ | refine vw_seq ?_ | refine vw_region (by kernel_rfl) ?_ | refine vw_ret ?_)
      exact out1 rfl rfl (new := []) List.nodup_nil sub_nil ⟨rfl, i, rfl, ⟨fun _ => by rw [h6]; exact mem_getD hil, fun _ => by omega⟩⟩
    repeat (first | refine vops_q tyOk rfl ?_ | refine vops_nil ?_ | refine vw_region (by kernel_rfl) ?_ | refine vops_p tyOk rfl (by (try simp only [inR]); omega) ?_ | refine vw_skip ?_)
    exact ⟨l.length - (i + 1), by omega, i + 1, by omega, rfl, rfl, rfl, rfl, rfl, rfl, fun j hj => by
      by_cases hji : j = i
      · subst hji; exact h6
      · exact hall j (by omega)⟩
  · repeat (first | refine vops_q tyOk rfl ?_ | refine vops_nil ?_ | refine vw_seq ?_ | refine vw_region (by kernel_rfl) ?_ | refine vw_ret ?_ | refine vw_exit ?_)
    refine out1 rfl rfl (new := []) List.nodup_nil sub_nil ⟨rfl, -1, rfl, ⟨fun h => by omega, fun h => ?_⟩⟩
    obtain ⟨j, hj⟩ := List.mem_iff_getElem?.1 h
    have hjl := (List.getElem?_eq_some_iff.1 hj).1
    exact absurd (by rw [List.getD_eq_getElem?_getD, hj]; rfl) (hall j (by omega))
open Classical in
theorem c_has (v : Value) (l : List Int) (x : Int) (w : World) (hv : RdI w v l) (hl : l.length ≤ 1048576) :
    Calls Try.prog 126 [v, .int .i64 x].toArray w (Res w (Is (.bool (decide (x ∈ l))))) := by
  obtain ⟨a, cap, rfl⟩ := hv.len
  refine calls_of_vw Try.func126 rfl Try.ntmps126 (by simp) ?_
  repeat (first | refine vops_q tyOk rfl ?_ | refine vops_nil ?_ | refine vw_seq ?_ | refine vw_region (by kernel_rfl) ?_ | refine vw_ret ?_ | (apply vops_call ent166 rfl; (intro w' hg; exact c_idx _ l x w' (hv.same hg.fr) hl); (rintro _ newN ⟨rfl, r, rfl, hr⟩)))
  exact rv_bool rfl rfl (decide_eq_decide.2 hr)
/-- The first numbers of a list that is read. -/
theorem rdI_cut {w : World} {b o n i cap : Nat} {l : List Int} (h : RdI w (.slice (some ⟨b, o, none⟩) n cap) l) (hi : i ≤ l.length) (cap2 : Nat) : RdI w (.slice (some ⟨b, o, none⟩) i cap2) (l.take i) := by
  have hl : (l.take i).length = i := by rw [List.length_take]; omega
  refine .inr ⟨b, o, cap2, by rw [hl], fun j x hx => ?_⟩
  have hj : j < i := by have := (List.getElem?_eq_some_iff.1 hx).1; rw [ints_length, hl] at this; exact this
  have hx' : (ints l)[j]? = some x := by
    have : (ints (l.take i))[j]? = (ints l)[j]? := by
      unfold ints
      rw [List.map_take, List.getElem?_take_of_lt hj]
    rw [← this]; exact hx
  obtain ⟨b', o', cap', he, hc⟩ := h.at (i := j) (by omega)
  cases he
  have hjl : j < l.length := by omega
  rw [ints_get hjl] at hx'
  cases hx'
  exact hc j hjl
theorem diff_snoc {n : Int} {l : List Int} {i : Nat} (hi : i < l.length) (h : DiffL n (l.take i)) (h1 : 0 ≤ l.getD i 0 ∧ l.getD i 0 < n) (h2 : l.getD i 0 ∉ l.take i) : DiffL n (l.take (i + 1)) := by
  refine ⟨fun x hx => ?_, nodup_snoc hi h.2 h2⟩
  rw [take_snoc hi] at hx
  rcases List.mem_append.1 hx with hx | hx
  · exact h.1 x hx
  · obtain rfl : x = l.getD i 0 := by simpa using hx
    exact h1

open Classical in
set_option maxHeartbeats 1000000 in
set_option maxRecDepth 100000 in
theorem c_areDifferent (v : Value) (l : List Int) (n : Int) (w : World) (hv : RdC w v l) (hl : l.length ≤ 1048576) :
    Calls Try.prog 125 [v, .int .i64 n].toArray w (Res w (Is (.bool (decide (DiffL n l))))) := by
  obtain ⟨a, cap, rfl, hcap⟩ := hv.len
  refine calls_of_vw Try.func125 rfl Try.ntmps125 (by simp) ?_
  repeat (first | refine vops_q tyOk rfl ?_ | refine vops_nil ?_ | refine vw_seq ?_ | refine vw_region (by kernel_rfl) ?_ | refine vw_block ?_)
  refine vw_loop (fun m f own => ∃ i : Nat, i ≤ l.length ∧ m = l.length - i ∧ f 9 = .int .i64 i ∧ f 8 = .int .i64 l.length ∧ f 7 = .slice a l.length cap ∧ f 0 = .slice a l.length cap ∧ f 1 = .int .i64 n ∧ own = [] ∧ DiffL n (l.take i)) l.length
    ⟨0, by omega, by omega, rfl, rfl, rfl, rfl, rfl, rfl, ⟨by simp, by simp⟩⟩ ?_
  rintro m f own ⟨i, hi, rfl, h9, h8, h7, h0, h1, rfl, hD⟩
  rw [upd_of h9, upd_of h8, upd_of h7, upd_of h0, upd_of h1]
  repeat (first | refine vops_q tyOk rfl ?_ | refine vops_nil ?_ | refine vw_seq ?_ | refine vw_region (by kernel_rfl) ?_ | refine vw_cond rfl ?_)
  refine bs_dec (fun h4 => ?_) (fun h4 => ?_)
  · have hil : i < l.length := by omega
    obtain ⟨b', o, cap', he, hcell⟩ := hv.1.at (i := i) hil
    cases he
    have hc := hcell i hil
    have hno : ¬ (0 ≤ l.getD i 0 ∧ l.getD i 0 < n) → decide (DiffL n l) = false := fun hh => decide_eq_false fun hd => hh (hd.1 _ (mem_getD hil))
    have hsl : sliced (some ⟨b', o, none⟩) (Int.toNat 0) (i : Int).toNat cap 1 = .slice (some ⟨b', o, none⟩) i cap := by simp [sliced, Addr.add]
    by_cases hr : 0 ≤ l.getD i 0 ∧ l.getD i 0 < n
    · repeat' (first | refine vops_q tyOk rfl ?_ | refine vops_nil ?_ | refine vw_seq ?_ | refine vw_region (by kernel_rfl) ?_ | refine vops_guardF rfl rfl ?_ | with_reducible refine bs_false ?_ | refine vops_p tyOk rfl (by (try simp only [inR]); omega) ?_ | refine vw_cond rfl ?_ | refine vw_skip ?_ | refine vw_block ?_ | refine vw_ret ?_ | (with_reducible refine bs_dec (fun _ => ?_) (fun _ => ?_)) <;> try (exfalso; omega) | (with_reducible refine bs_ndec (fun _ => ?_) (fun _ => ?_)) <;> try (exfalso; omega) | refine vops_load tyOk rfl rfl rfl (sees_old hc (by simp)) ?_ | (apply vops_callp ent91 rfl; (intro w _; exact c_isBelow _ _ w)) | (apply vops_callp ent126 rfl; (intro w' hg; exact c_has _ (l.take i) _ w' (by rw [hsl]; exact rdI_cut (hv.1.same hg.fr) (by omega) _) (by rw [List.length_take]; omega))) | refine vops_slice tyOk rfl rfl rfl rfl rfl (by omega) ?_)
      · rename_i h6
        exact rv_bool rfl rfl (decide_eq_false fun hh => not_nodup hil h6 hh.2).symm
      · rename_i h6
        exact ⟨l.length - (i + 1), by omega, i + 1, by omega, rfl, rfl, rfl, rfl, rfl, rfl, rfl, diff_snoc hil hD hr h6⟩
    · repeat' (first | refine vops_q tyOk rfl ?_ | refine vops_nil ?_ | refine vw_seq ?_ | refine vw_region (by kernel_rfl) ?_ | refine vops_guardF rfl rfl ?_ | with_reducible refine bs_true ?_ | refine vops_p tyOk rfl (by (try simp only [inR]); omega) ?_ | refine vw_cond rfl ?_ | refine vw_skip ?_ | refine vw_block ?_ | refine vw_ret ?_ | (with_reducible refine bs_ndec (fun _ => ?_) (fun _ => ?_)) <;> try (exfalso; omega) | refine vops_load tyOk rfl rfl rfl (sees_old hc (by simp)) ?_ | (apply vops_callp ent91 rfl; (intro w _; exact c_isBelow _ _ w)))
      all_goals first | exact rv_bool rfl rfl (hno hr).symm | (exfalso; exact hr (by assumption))
  · obtain rfl : i = l.length := by omega
    repeat (first | refine vops_q tyOk rfl ?_ | refine vops_nil ?_ | refine vw_seq ?_ | refine vw_region (by kernel_rfl) ?_ | refine vw_ret ?_ | refine vw_exit ?_)
    exact rv_bool rfl rfl (decide_eq_true (by rwa [List.take_length] at hD)).symm

end Go.Proofs.Ytlfflmoegfibgaa

/- A part of the proof: W4. No conditions of its own. -/
namespace Go.Proofs.Ytlfflmoegfibgaa
open Go.VL
attribute [local irreducible] VWr VOps VD Calls

end Go.Proofs.Ytlfflmoegfibgaa

/- A part of the proof: W5. No conditions of its own. -/
namespace Go.Proofs.Ytlfflmoegfibgaa
open Go.VL
attribute [local irreducible] VWr VOps VD Calls

/-- The numbers below k that are not in a list. -/
def sitTo (l : List Int) (k : Nat) : List Int := ((List.range k).map fun (x : Nat) => (x : Int)).filter fun x => decide (x ∉ l)
open Classical in
noncomputable def sitR (n : Int) (es : List (List Int)) (i : Int) : List Int × Int :=
  if IsEv n es then (if 0 ≤ i ∧ i < es.length then (sitTo (es.getD i.toNat []) n.toNat, 0) else ([], 2)) else ([], 1)
end Go.Proofs.Ytlfflmoegfibgaa


