import Derived.Test.YtdgaabkgfbihpaaUL
import Derived.Test.YtdgaabkgfbihpaaUD
import Derived.Test.YtdgaabkgfbihpaaVLEv
import Derived.Test.YtdgaabkgfbihpaaVLArr
import Derived.Test.YtdgaabkgfbihpaaVLBytes
import Derived.Test.YtdgaabkgfbihpaaVLSquare
/- Parts of the proof, one after another. No conditions of their own. -/
/- A part of the proof: W25. No conditions of its own. -/
namespace Go.Proofs.Ytdgaabkgfbihpaa
open Go.VL
attribute [local irreducible] VWr VOps VD Calls
attribute [local irreducible] Src

/-- An evening that has been drawn, behind its source. -/
def DrawnE (b : Nat) (a : Option Addr) (n cap : Nat) (v : Value) (new : Own) : Prop := ∃ (m : Int) (ls : List (List Int)) (p : Option Addr) (c : Nat) (newE : Own) (i h : Int), -1000 ≤ m ∧ m ≤ 1000 ∧ ls.length ≤ 40 ∧ (∀ l ∈ ls, l.length ≤ 40) ∧ v = .agg #[.int .i64 m, .slice p ls.length c] ∧ NewE 42 ls (.slice p ls.length c) newE ∧ 0 ≤ i ∧ i ≤ n ∧ 0 ≤ h ∧ h < 18446744073709551616 ∧ new = Src b a n cap i h ++ newE

theorem sliced_f0 (b h m s : Nat) : sliced (some ⟨b, 0, none⟩) (Int.toNat 0) h m s = .slice (some ⟨b, 0, none⟩) h m := sliced_front b h m s
theorem ordE_in {k : Nat} {l : List Int} (h : OrdTo k l) : ∀ x ∈ l, 0 ≤ x ∧ x < k := fun x hx => by
  obtain ⟨j, hj, rfl⟩ := List.mem_map.1 (h.mem_iff.1 hx)
  have := List.mem_range.1 hj; omega
theorem renPR_small {m : Int} {ls : List (List Int)} {q : List Int} (h0 : -1000 ≤ m) (h1 : m ≤ 1000) (hl : ls.length ≤ 40) (hll : ∀ l ∈ ls, l.length ≤ 40) :
    -1000 ≤ (renPR m ls q).1.1 ∧ (renPR m ls q).1.1 ≤ 1000 ∧ (renPR m ls q).1.2.length ≤ 40 ∧ ∀ l ∈ (renPR m ls q).1.2, l.length ≤ 40 := by
  have h0' : -1000 ≤ ((0 : Int), ([] : List (List Int))).1 ∧ ((0 : Int), ([] : List (List Int))).1 ≤ 1000 ∧ ((0 : Int), ([] : List (List Int))).2.length ≤ 40 ∧ ∀ l ∈ ((0 : Int), ([] : List (List Int))).2, l.length ≤ 40 := by simp
  unfold renPR
  split
  · split
    · refine ⟨h0, h1, by show (renP q ls).length ≤ 40; rw [renP_length]; exact hl, fun l h => ?_⟩
      obtain ⟨r, hr, rfl⟩ := List.mem_map.1 (show l ∈ List.map (renRow q) ls from h)
      rw [renRow_length]; exact hll r hr
    · exact h0'
  · exact h0'
theorem c_madeSmall (n : Nat) (v : Value) (q : List Int) (w : World) (hv : RdI w v q) (h4 : 4 ≤ n) (h16 : n ≤ 16) (hn4 : n % 4 ≤ 1) (hq : q.length ≤ 16) (hD : ∀ x ∈ q, 0 ≤ x ∧ x < n) :
    Calls Try.prog 177 [.int .i64 n, v].toArray w (Res w (fun v new => ∃ (es : List (List Int)) (p : Option Addr) (c : Nat), es.length ≤ 40 ∧ (∀ l ∈ es, l.length ≤ 40) ∧ v = .agg #[.int .i64 n, .slice p es.length c] ∧ NewE 42 es (.slice p es.length c) new)) := by
  refine (c_l06Made n v q w hv h4 h16 hn4 hq hD).mono ?_
  rintro e w' ⟨v, new, h1, h2, h3, h4', p, c, rfl, hN⟩
  refine ⟨_, new, h1, h2, h3, h4', _, p, c, ?_, fun l hl => ?_, rfl, hN.toE⟩
  · rw [madeT_length]; unfold mOf; omega
  · obtain ⟨i, _, rfl⟩ := madeT_mem hl
    rw [List.length_map]; omega
theorem c_renSmall (m : Int) (v u : Value) (ls : List (List Int)) (q : List Int) (w : World) (hv : RdII w v ls) (hu : RdI w u q) (h0 : -1000 ≤ m) (h1 : m ≤ 1000) (hl : ls.length ≤ 40) (hll : ∀ l ∈ ls, l.length ≤ 40) (hq : q.length ≤ 1048576) :
    Calls Try.prog 72 [.agg #[.int .i64 m, v], u].toArray w (Res w (fun v new => ∃ (m' cd : Int) (es : List (List Int)) (p : Option Addr) (c : Nat), -1000 ≤ m' ∧ m' ≤ 1000 ∧ es.length ≤ 40 ∧ (∀ l ∈ es, l.length ≤ 40) ∧ v = .tuple #[.agg #[.int .i64 m', .slice p es.length c], .int .i64 cd] ∧ NewE 42 es (.slice p es.length c) new)) := by
  refine (c_spec_RenumberPlayers m v u ls q w hv hu (by omega) (fun l h => by have := hll l h; omega) hq).mono ?_
  rintro e w' ⟨v, new, e1, e2, e3, e4, p, c, rfl, hN⟩
  obtain ⟨r1, r2, r3, r4⟩ := renPR_small (q := q) h0 h1 hl hll
  exact ⟨_, new, e1, e2, e3, e4, _, _, _, p, c, r1, r2, r3, r4, rfl, hN.toE⟩

set_option maxHeartbeats 2000000 in
set_option maxRecDepth 100000 in
theorem c_l06DrawOf (b : Nat) (a : Option Addr) (cs : List Nat) (cap : Nat) (i0 h00 : Int) (w : World) (hS : SrcIn w b a cs cap i0 h00) :
    Calls Try.prog 257 [.pointer (some ⟨b, 0, none⟩)].toArray w (ResM w (Src b a cs.length cap i0 h00) (DrawnE b a cs.length cap)) := by
  have hC := hS.ctx
  have hi1 := hS.i0
  have hi2 := hS.i1
  have hh1 := hS.h0
  have hh2 := hS.h1
  obtain ⟨i', hi'⟩ : ∃ i', i' = i0 := ⟨_, rfl⟩
  obtain ⟨h', hh'⟩ : ∃ h', h' = h00 := ⟨_, rfl⟩
  refine calls_of_vwM Try.func257 rfl Try.ntmps257 (by simp) hS.ok ?_
  rw [← hi', ← hh'] at hC ⊢
  rw [← hi'] at hi1 hi2
  rw [← hh'] at hh1 hh2
  refine vw_seq (vw_region (by kernel_rfl) (vops_allocZ [.int .i64 0, .slice none 0 0] tyOk rfl rfl (by simp) (fun b2 hb2 => ?_)))
  repeat (first | refine vops_q tyOk rfl ?_ | refine vops_nil ?_ | refine vw_seq ?_ | refine vw_region (by kernel_rfl) ?_ | refine vops_litI [4, 5, 8, 8, 9, 12, 13, 7, 16] tyOk rfl rfl (List.cons_ne_nil _ _) (by rfl) rfl (by omega) (by omega) (fun bt hbt => ?_) | (apply vops_callM (own0 := Src b a cs.length cap i' h') ent170 rfl; (case hp => (repeat (first | exact pm_here | exact pm_last | apply pm_next | apply pm_past))); (case h => (intro w' hg; exact c_pick (l := [4, 5, 8, 8, 9, 12, 13, 7, 16]) hC hg hi1 hi2 hh1 hh2 (by repeat (first | exact mem_here | apply mem_next | apply mem_past)) rfl (by simp) (by simp))); (rintro _ newM ⟨x, hx, rfl, i', h', hi1, hi2, hh1, hh2, rfl⟩)))
  obtain ⟨k, rfl, hk4, hk16⟩ : ∃ k : Nat, x = (k : Int) ∧ 4 ≤ k ∧ k ≤ 16 := by
    have hx' : 4 ≤ x ∧ x ≤ 16 := by simp at hx; omega
    exact ⟨x.toNat, by omega, by omega, by omega⟩
  clear hx
  repeat (first | refine vops_q tyOk rfl ?_ | refine vops_nil ?_ | refine vw_seq ?_ | refine vw_region (by kernel_rfl) ?_ | refine vw_cond rfl ?_ | refine vw_block ?_ | (apply vops_callM ent156 rfl; (case h => (intro w' hg; exact c_next (hC.at (cap := cap) hg hi1 hi2 hh1 hh2) (by omega))); (case hp => (repeat (first | exact pm_here | exact pm_last | apply pm_next | apply pm_past))); (rintro _ newM ⟨x, rfl, hx0, hx1, i', h', hi1, hi2, hh1, hh2, rfl⟩)))
  refine bs_dec (fun hy => ?_) (fun hy => ?_)
  · repeat (first | refine vops_q tyOk rfl ?_ | refine vops_nil ?_ | refine vw_seq ?_ | refine vw_region (by kernel_rfl) ?_ | refine vops_p tyOk rfl (by (try simp only [inR]); omega) ?_ | refine vops_litI [3, 0, 1, 2] tyOk rfl rfl (List.cons_ne_nil _ _) (by rfl) rfl (by omega) (by omega) (fun b18 hb18 => ?_) | refine vops_litI [1, 4, 2, 3] tyOk rfl rfl (List.cons_ne_nil _ _) (by rfl) rfl (by omega) (by omega) (fun b19 hb19 => ?_) | refine vops_litI [7, 0, 4, 5, 1, 3, 2, 6] tyOk rfl rfl (List.cons_ne_nil _ _) (by rfl) rfl (by omega) (by omega) (fun b20 hb20 => ?_) | refine vops_buildS [.slice (some ⟨b18, 0, none⟩) 4 4, .slice (some ⟨b19, 0, none⟩) 4 4, .slice (some ⟨b20, 0, none⟩) 8 8] [.slice (some ⟨b18, 0, none⟩) 4 4, .slice (some ⟨b19, 0, none⟩) 4 4, .slice (some ⟨b20, 0, none⟩) 8 8] tyOk rfl rfl (List.cons_ne_nil _ _) rfl rfl (by omega) (by decide) (by decide) (by intro v hv; simp only [List.mem_cons, List.not_mem_nil, or_false] at hv; rcases hv with rfl | rfl | rfl <;> rfl) rfl (fun bk hbk => ?_) | (apply vops_callM ent156 rfl; (case h => (intro w' hg; exact c_next (hC.at (cap := cap) hg hi1 hi2 hh1 hh2) (by omega))); (case hp => (repeat (first | exact pm_here | exact pm_last | apply pm_next | apply pm_past))); (rintro _ newM ⟨x, rfl, hx0, hx1, i', h', hi1, hi2, hh1, hh2, rfl⟩)))
    rcases (by omega : x = 0 ∨ x = 1 ∨ x = 2) with rfl | rfl | rfl
    all_goals
      repeat (first | refine vops_q tyOk rfl ?_ | refine vops_nil ?_ | refine vw_seq ?_ | refine vw_region (by kernel_rfl) ?_ | refine vops_p tyOk rfl (by (try simp only [inR]); omega) ?_ | (apply vops_call ent177 rfl; (intro w' hg; exact c_madeSmall 4 _ [3, 0, 1, 2] w' (rdI_lit (l := [3, 0, 1, 2]) (by repeat (first | exact mem_here | apply mem_next | apply mem_past)) hg rfl) (by omega) (by omega) (by omega) (by simp) (by decide)); (rintro _ newM ⟨es, pM, cM, hel, hell, rfl, hM⟩)) | (apply vops_call ent177 rfl; (intro w' hg; exact c_madeSmall 5 _ [1, 4, 2, 3] w' (rdI_lit (l := [1, 4, 2, 3]) (by repeat (first | exact mem_here | apply mem_next | apply mem_past)) hg rfl) (by omega) (by omega) (by omega) (by simp) (by decide)); (rintro _ newM ⟨es, pM, cM, hel, hell, rfl, hM⟩)) | (apply vops_call ent177 rfl; (intro w' hg; exact c_madeSmall 8 _ [7, 0, 4, 5, 1, 3, 2, 6] w' (rdI_lit (l := [7, 0, 4, 5, 1, 3, 2, 6]) (by repeat (first | exact mem_here | apply mem_next | apply mem_past)) hg rfl) (by omega) (by omega) (by omega) (by simp) (by decide)); (rintro _ newM ⟨es, pM, cM, hel, hell, rfl, hM⟩)) | refine vops_allocZ [.int .i64 0, .slice none 0 0] tyOk rfl rfl (by simp) (fun b6 hb6 => ?_) | ((show VOps _ _ _ _ (⟨some _, Go.Op.load _ _, _, _, _, none⟩ :: _) _ _); refine vops_loadM tyOk rfl rfl rfl (by repeat (first | exact mem_here | apply mem_next | apply mem_past)) (by rfl) ?_) | ((show VOps _ _ _ _ (⟨none, Go.Op.store _ _ _, _, _, _, none⟩ :: _) _ _); refine vops_storeAM tyOk rfl rfl rfl (by first | rfl | (rw [ints_length]; first | assumption | omega | (rw [ints_length]; first | assumption | omega | simp [*])) | simp [*]) (by first | exact ints_one | simp [Value.oneCell']) (by repeat (first | exact upd_here | apply upd_next | apply upd_past)) (by first | rfl | (rw [ints_length]; first | assumption | omega | (rw [ints_length]; first | assumption | omega | simp [*])) | simp [*]) ?_))
      refine vw_drawP (id := 7) [(b6, _)] [0, 1, 2, 3, 4, 5, 6, 7, 8, 9, 10, 11] 9 7 58 [.int .i64 0, .slice none 0 0] tyOk rfl rfl rfl (by simp) (by kernel_rfl) (by kernel_rfl) (by kernel_rfl) (by kernel_rfl) rfl (by decide) (by repeat (first | exact ole_nil | exact ole_refl | (apply ole_cons; (repeat (first | exact pm1_here | apply pm1_next | apply pm1_past))) | (apply ole_app; (repeat (first | exact pm_here | exact pm_last | apply pm_next | apply pm_past))))) ?_
      repeat' (first | refine vd_q tyOk rfl (by first | trivial | rfl) rfl (by kernel_rfl) (by kernel_rfl) ?_ | refine vops_nil ?_ | refine vd_nil (by kernel_rfl) ?_ | refine ⟨fun _ _ _ h => List.mem_append_right _ h, ?_⟩ | refine ⟨fun h => Bool.noConfusion (show false = true from h), ?_⟩ | refine ⟨fun _ p hp _ => (show Go.VL.Sub _ _ from (by repeat (first | exact sub_hereL | exact sub_refl | apply sub_cons | apply sub_app))) p hp, ?_⟩ | (apply vops_callM ent171 rfl; (case h => (intro w' hg; exact c_order (cap := cap) hC hg hi1 hi2 hh1 hh2 (by omega))); (case hp => (repeat (first | exact pm_here | exact pm_last | apply pm_next | apply pm_past))); (rintro _ newM ⟨l2, pl2, cl2, newl2, i', h', rfl, hO2, hNl2, hi1, hi2, hh1, hh2, rfl⟩; rw [List.append_assoc])) | (apply vops_call ent72 rfl; (intro w' hg; exact c_renSmall _ _ _ es l2 w' (hM.rdCC (by repeat (first | exact sub_hereL | exact sub_refl | apply sub_cons | apply sub_app)) hg).rd (NewI.rdG hNl2 (by repeat (first | exact sub_hereL | exact sub_refl | apply sub_cons | apply sub_app)) hg) (by omega) (by omega) hel hell (by rw [hO2.len]; omega)); (rintro _ newR ⟨m', cd, es2, pR, cR, hm0, hm1, hrl, hrll, rfl, hR⟩)) | ((show VOps _ _ _ _ (⟨none, Go.Op.store _ _ _, _, _, _, none⟩ :: _) _ _); refine vops_storeAM tyOk rfl rfl rfl (by first | rfl | (rw [ints_length]; first | assumption | omega | (rw [ints_length]; first | assumption | omega | simp [*])) | simp [*]) (by first | exact ints_one | simp [Value.oneCell']) (by repeat (first | exact upd_here | apply upd_next | apply upd_past)) (by first | rfl | (rw [ints_length]; first | assumption | omega | (rw [ints_length]; first | assumption | omega | simp [*])) | simp [*]) ?_) | refine vd_one rfl (by kernel_rfl) (by kernel_rfl) rfl ?_ | refine vp_q tyOk rfl (by first | trivial | rfl) rfl rfl rfl (by kernel_rfl) (by kernel_rfl) ?_ | refine vp_load tyOk rfl (by first | trivial | rfl) rfl rfl rfl rfl rfl (by kernel_rfl) (by kernel_rfl) (by kernel_rfl) (sees_mem (by repeat (first | exact mem_here | apply mem_next | apply mem_past)) (by rfl)) (by repeat (first | exact sub_hereL | exact sub_refl | apply sub_cons | apply sub_app)) ?_ | refine vp_loadNM tyOk rfl (by first | trivial | rfl) rfl rfl rfl rfl rfl (by repeat (first | exact mem_here | apply mem_next | apply mem_past)) (by first | rfl | (rw [ints_length]; first | assumption | omega | (rw [ints_length]; first | assumption | omega | simp [*])) | simp [*]) (by kernel_rfl) (by kernel_rfl) (by kernel_rfl) (by repeat (first | exact sub_hereL | exact sub_refl | apply sub_cons | apply sub_app)) ?_ | refine vp_one rfl rfl rfl (by kernel_rfl) (by kernel_rfl) rfl rfl (by kernel_rfl) ?_ | refine vp_alloc (by kernel_rfl) (fun bz hbz => ?_))
      show VWr _ _ _ _ _ _ _ _
      refine vw_le (own' := Src b a cs.length cap i' h' ++ (newR ++ [(bz, ⟨[.int .i64 m', .slice pR es2.length cR], 58, 2, none⟩), (b2, ⟨[.int .i64 0, .slice none 0 0], 58, 2, none⟩)])) (by repeat (first | exact ole_nil | exact ole_refl | (apply ole_cons; (repeat (first | exact pm1_here | apply pm1_next | apply pm1_past))) | (apply ole_app; (repeat (first | exact pm_here | exact pm_last | apply pm_next | apply pm_past))))) ?_
      refine vw_nodup (own := Src b a cs.length cap i' h' ++ (newR ++ [(bz, ⟨[.int .i64 m', .slice pR es2.length cR], 58, 2, none⟩), (b2, ⟨[.int .i64 0, .slice none 0 0], 58, 2, none⟩)])) (fun hnd => ?_)
      repeat (first | refine vops_nil ?_ | refine vw_seq ?_ | refine vw_region (by kernel_rfl) ?_ | refine vw_ret ?_ | ((show VOps _ _ _ _ (⟨some _, Go.Op.load _ _, _, _, _, none⟩ :: _) _ _); refine vops_loadNM tyOk rfl rfl rfl (by repeat (first | exact mem_here | apply mem_next | apply mem_past)) (by first | rfl | (rw [ints_length]; first | assumption | omega | (rw [ints_length]; first | assumption | omega | simp [*])) | simp [*]) ?_) | ((show VOps _ _ _ _ (⟨none, Go.Op.store _ _ _, _, _, _, none⟩ :: _) _ _); refine vops_storeAM tyOk rfl rfl rfl (by first | rfl | (rw [ints_length]; first | assumption | omega | (rw [ints_length]; first | assumption | omega | simp [*])) | simp [*]) (by first | exact ints_one | simp [Value.oneCell']) (by repeat (first | exact upd_here | apply upd_next | apply upd_past)) (by first | rfl | (rw [ints_length]; first | assumption | omega | (rw [ints_length]; first | assumption | omega | simp [*])) | simp [*]) ?_))
      refine ⟨_, Src b a cs.length cap i' h' ++ newR, rv_cell (cs := [.int .i64 m', .slice pR es2.length cR]) tyOk rfl rfl rfl rfl rfl (fun j v hj => by rw [Nat.zero_add]; exact sees_mem (by repeat (first | exact mem_here | apply mem_next | apply mem_past)) hj), ?_, ?_, m', es2, pR, cR, newR, i', h', hm0, hm1, hrl, hrll, rfl, hR, hi1, hi2, hh1, hh2, rfl⟩
      · exact nodup_sub hnd ((List.sublist_append_left _ _).append_left _)
      · exact fun q hq => by rw [← List.append_assoc]; exact List.mem_append_left _ hq
  · repeat (first | refine vops_q tyOk rfl ?_ | refine vops_nil ?_ | refine vw_seq ?_ | refine vw_region (by kernel_rfl) ?_ | refine vw_cond rfl ?_)
    refine bs_dec (fun hy1 => ?_) (fun hy1 => ?_)
    repeat (first | refine vops_q tyOk rfl ?_ | refine vops_nil ?_ | refine vw_seq ?_ | refine vw_region (by kernel_rfl) ?_ | refine vops_p tyOk rfl (by (try simp only [inR]); omega) ?_ | refine vw_cond rfl ?_)
    refine bs_dec (fun hk => ?_) (fun hk => ?_)
    · repeat (first | refine vops_q tyOk rfl ?_ | refine vw_seq ?_ | refine vw_region (by kernel_rfl) ?_ | refine vops_p tyOk rfl (by (try simp only [inR]); omega) ?_ | (apply vops_callM ent171 rfl; (case h => (intro w' hg; exact c_order (cap := cap) hC hg hi1 hi2 hh1 hh2 (by omega))); (case hp => (repeat (first | exact pm_here | exact pm_last | apply pm_next | apply pm_past))); (rintro _ newM ⟨l2, pl2, cl2, newl2, i', h', rfl, hO2, hNl2, hi1, hi2, hh1, hh2, rfl⟩; obtain ⟨bl2, rfl, rfl, hkc, hcm, _⟩ := NewF.blk (show NewF 2 1 k l2 _ _ from by have h := NewI.f hNl2; rwa [hO2.len] at h) (by omega); rw [List.append_assoc])) | refine vops_slice tyOk rfl rfl rfl rfl rfl (by omega) ?_)
      rw [show (k : Int) - (k : Int) % 4 = ((k - k % 4 : Nat) : Int) by omega]
      skip
      have hsl : ∀ s, sliced (some ⟨bl2, 0, none⟩) (Int.toNat 0) ((k - k % 4 : Nat) : Int).toNat cl2 s = .slice (some ⟨bl2, 0, none⟩) (k - k % 4) cl2 := fun s => by rw [Int.toNat_natCast]; exact sliced_front _ _ _ _
      rw [hsl]
      apply vops_call ent177 rfl
      · intro w' hg; exact c_madeSmall k _ (l2.take (k - k % 4)) w' (by have h := rdI_cut (show RdI w' (.slice (some ⟨bl2, 0, none⟩) k cl2) l2 from rdI_lit (l := l2) (by repeat (first | exact mem_here | apply mem_next | apply mem_past)) hg hO2.len.symm) (show k - k % 4 ≤ l2.length by rw [hO2.len]; omega) cl2; exact h) (by omega) (by omega) (by omega) (by rw [List.length_take]; omega) (fun y hy => ordE_in hO2 y (List.mem_of_mem_take hy))
      rintro _ newM ⟨es, pM, cM, hel, hell, rfl, hM⟩
      refine vops_nodup (fun hnd => ?_)
      repeat (first | refine vops_nil ?_ | refine vw_ret ?_ | ((show VOps _ _ _ _ (⟨none, Go.Op.store _ _ _, _, _, _, none⟩ :: _) _ _); refine vops_storeAM tyOk rfl rfl rfl (by first | rfl | (rw [ints_length]; first | assumption | omega | (rw [ints_length]; first | assumption | omega | simp [*])) | simp [*]) (by first | exact ints_one | simp [Value.oneCell']) (by repeat (first | exact upd_here | apply upd_next | apply upd_past)) (by first | rfl | (rw [ints_length]; first | assumption | omega | (rw [ints_length]; first | assumption | omega | simp [*])) | simp [*]) ?_))
      refine ⟨_, Src b a cs.length cap i' h' ++ newM, rv_cell (cs := [.int .i64 k, .slice pM es.length cM]) tyOk rfl rfl rfl rfl rfl (fun j v hj => by rw [Nat.zero_add]; exact sees_mem (by repeat (first | exact mem_here | apply mem_next | apply mem_past)) hj), ?_, ?_, k, es, pM, cM, newM, i', h', by omega, by omega, hel, hell, rfl, hM, hi1, hi2, hh1, hh2, rfl⟩
      · exact OLe.nodup ⟨_, by rw [← List.append_assoc]; exact List.perm_append_comm.append_right _⟩ hnd
      · exact fun q hq => (List.mem_append.1 hq).elim (fun h => List.mem_append_right _ (List.mem_append_left _ h)) (fun h => List.mem_append_left _ h)
    all_goals
      repeat (first | refine vops_q tyOk rfl ?_ | refine vops_nil ?_ | refine vw_seq ?_ | refine vw_region (by kernel_rfl) ?_ | refine vw_skip ?_ | refine vw_block ?_ | refine vops_build0 tyOk rfl rfl (fun be hbe => ?_) | refine vops_allocZ [.int .i64 0, .slice none 0 0] tyOk rfl rfl (by simp) (fun b9 hb9 => ?_) | (apply vops_callM ent156 rfl; (case h => (intro w' hg; exact c_next (hC.at (cap := cap) hg hi1 hi2 hh1 hh2) (by omega))); (case hp => (repeat (first | exact pm_here | exact pm_last | apply pm_next | apply pm_past))); (rintro _ newM ⟨x, rfl, hx0, hx1, i', h', hi1, hi2, hh1, hh2, rfl⟩)) | ((show VOps _ _ _ _ (⟨none, Go.Op.store _ _ _, _, _, _, none⟩ :: _) _ _); refine vops_storeAM tyOk rfl rfl rfl (by first | rfl | (rw [ints_length]; first | assumption | omega | (rw [ints_length]; first | assumption | omega | simp [*])) | simp [*]) (by first | exact ints_one | simp [Value.oneCell']) (by repeat (first | exact upd_here | apply upd_next | apply upd_past)) (by first | rfl | (rw [ints_length]; first | assumption | omega | (rw [ints_length]; first | assumption | omega | simp [*])) | simp [*]) ?_) | refine vops_build2 rfl rfl (by kernel_rfl) ?_)
      obtain ⟨t0, rfl, ht0⟩ : ∃ t : Nat, x = (t : Int) ∧ t ≤ 4 := ⟨x.toNat, by omega, by omega⟩
      refine vw_loopW (fun y f own => ∃ (t : Nat) (ls : List (List Int)) (vs : List Value) (R outer : Own) (p : Option Addr) (c : Nat) (i h : Int), t ≤ 4 ∧ ls.length + t ≤ 4 ∧ (∀ l ∈ ls, l.length ≤ 40) ∧ y = t ∧ f 10 = .int .i64 t ∧ f 9 = .pointer (some ⟨b9, 0, none⟩) ∧ f 3 = .int .i64 k ∧ f 2 = .pointer (some ⟨b2, 0, none⟩) ∧ f 0 = .pointer (some ⟨b, 0, none⟩) ∧
          RowsR ls vs R ∧ SlAt 42 1 (.slice p ls.length c) ls.length vs outer [] ∧ 0 ≤ i ∧ i ≤ cs.length ∧ 0 ≤ h ∧ h < 18446744073709551616 ∧
          own = Src b a cs.length cap i h ++ (outer ++ (R ++ [(b9, ⟨[.int .i64 k, .slice p ls.length c], 58, 2, none⟩), (b2, ⟨[.int .i64 0, .slice none 0 0], 58, 2, none⟩)]))) t0
        ⟨Src b a cs.length cap i' h' ++ ([(be, ⟨[], 42, 0, none⟩)] ++ ([] ++ [(b9, ⟨[.int .i64 k, .slice (some ⟨be, 0, none⟩) 0 0], 58, 2, none⟩), (b2, ⟨[.int .i64 0, .slice none 0 0], 58, 2, none⟩)])), (by repeat (first | exact ole_nil | exact ole_refl | (apply ole_cons; (repeat (first | exact pm1_here | apply pm1_next | apply pm1_past))) | (apply ole_app; (repeat (first | exact pm_here | exact pm_last | apply pm_next | apply pm_past))))), t0, [], [], [], _, some ⟨be, 0, none⟩, 0, i', h', by omega, by simp; omega, by simp, rfl, rfl, rfl, rfl, rfl, rfl, RowsR.nil, SlAt.empty, hi1, hi2, hh1, hh2, rfl⟩ ?_
      clear hi1 hi2 hh1 hh2
      rintro y f own ⟨t, ls, vs, R, outer, p, c, i', h', ht, hlt, hll, rfl, h10, h9, h3, h2, h0, hR, hO, hi1, hi2, hh1, hh2, rfl⟩
      rw [upd_of h10, upd_of h9, upd_of h3, upd_of h2, upd_of h0]
      repeat (first | refine vops_q tyOk rfl ?_ | refine vops_nil ?_ | refine vw_seq ?_ | refine vw_region (by kernel_rfl) ?_ | refine vw_cond rfl ?_)
      refine bs_dec (fun hpos => ?_) (fun hpos => ?_)
      · repeat (first | refine vw_seq ?_ | refine vw_skip ?_ | refine vw_block ?_)
        refine vw_drawB [(b9, _)] [0, 1, 2, 3, 5, 6, 7, 8, 4, 9, 10, 11, 12, 13, 14, 15] (by kernel_rfl) (by kernel_rfl) (by kernel_rfl) rfl (by repeat (first | exact ole_nil | exact ole_refl | (apply ole_cons; (repeat (first | exact pm1_here | apply pm1_next | apply pm1_past))) | (apply ole_app; (repeat (first | exact pm_here | exact pm_last | apply pm_next | apply pm_past))))) ?_
        repeat' (first | refine vd_q tyOk rfl (by first | trivial | rfl) rfl (by kernel_rfl) (by kernel_rfl) ?_ | refine vd_p tyOk rfl (by first | trivial | rfl) rfl (by kernel_rfl) (by kernel_rfl) (by (try simp only [inR]); omega) ?_ | refine vops_nil ?_ | refine vd_nil (by kernel_rfl) ?_ | refine ⟨fun _ _ _ h => List.mem_cons_of_mem _ h, ?_⟩ | refine vd_load tyOk rfl (by first | trivial | rfl) rfl rfl rfl (by kernel_rfl) (by kernel_rfl) (by kernel_rfl) (sees_mem (by repeat (first | exact mem_here | apply mem_next | apply mem_past)) (by rfl)) (by repeat (first | exact sub_hereL | exact sub_refl | apply sub_cons | apply sub_app)) ?_ | refine vd_slice tyOk rfl (by first | trivial | rfl) rfl rfl rfl rfl rfl (by kernel_rfl) (by kernel_rfl) (by omega) ?_ | refine ⟨fun h => Bool.noConfusion (show false = true from h), ?_⟩ | refine ⟨fun _ p hp _ => (show Go.VL.Sub _ _ from (by repeat (first | exact sub_hereL | exact sub_refl | apply sub_cons | apply sub_app))) p hp, ?_⟩ | (rw [sliced_f0]) | (apply vops_callM ent171 rfl; (case h => (intro w' hg; exact c_order (cap := cap) hC hg hi1 hi2 hh1 hh2 (by omega))); (case hp => (repeat (first | exact pm_here | exact pm_last | apply pm_next | apply pm_past))); (rintro _ newM ⟨l2, pl2, cl2, newl2, i', h', rfl, hO2, hNl2, hi1, hi2, hh1, hh2, rfl⟩; obtain ⟨bl2, rfl, rfl, hkc, hcm, _⟩ := NewF.blk (show NewF 2 1 k l2 _ _ from by have h := NewI.f hNl2; rwa [hO2.len] at h) (by omega); rw [List.append_assoc])) | (apply vops_callM ent156 rfl; (case h => (intro w' hg; exact c_next (hC.at (cap := cap) hg hi1 hi2 hh1 hh2) (by omega))); (case hp => (repeat (first | exact pm_here | exact pm_last | apply pm_next | apply pm_past))); (rintro _ newM ⟨x, rfl, hx0, hx1, i', h', hi1, hi2, hh1, hh2, rfl⟩)) | refine vops_litV (v := .slice (some ⟨bl2, 0, none⟩) (4 * x).toNat cl2) tyOk rfl rfl (List.cons_ne_nil _ _) rfl rfl rfl (fun bu hbu => ?_) | refine vops_appendV tyOk rfl rfl (List.cons_ne_nil _ _) rfl rfl (by decide) rfl hO (by repeat (first | exact pm_here | exact pm_last | apply pm_next | apply pm_past)) rfl (by repeat (first | exact mem_here | apply mem_next | apply mem_past)) rfl (by omega) (fun p' cap' outer' hO' => ?_) | ((show VOps _ _ _ _ (⟨none, Go.Op.store _ _ _, _, _, _, none⟩ :: _) _ _); refine vops_storeM tyOk rfl rfl rfl rfl rfl (by repeat (first | exact upd_here | apply upd_next | apply upd_past)) (by simp) ?_) | refine vd_one rfl (by kernel_rfl) (by kernel_rfl) rfl ?_)
        have hz : (4 * x).toNat ≤ k := by omega
        generalize (4 * x).toNat = z at *
        show VWr _ _ _ _ _ _ _ _
        refine vw_le (own' := (bl2, ⟨ints l2, 2, cl2 * 1, none⟩) :: (Src b a cs.length cap i' h' ++ (outer' ++ (R ++ [(b9, ⟨[.int .i64 k, .slice p' (ls.length + 1) cap'], 58, 2, none⟩), (b2, ⟨[.int .i64 0, .slice none 0 0], 58, 2, none⟩)])))) (by repeat (first | exact ole_nil | exact ole_refl | (apply ole_cons; (repeat (first | exact pm1_here | apply pm1_next | apply pm1_past))) | (apply ole_app; (repeat (first | exact pm_here | exact pm_last | apply pm_next | apply pm_past))))) ?_
        refine vw_take (cs := ints (l2.take z)) ⟨ints (l2.drop z), by unfold ints; rw [← List.map_append, List.take_append_drop]⟩ ?_
        have hNz : NewI 2 (l2.take z) (.slice (some ⟨bl2, 0, none⟩) z cl2) [(bl2, ⟨ints (l2.take z), 2, cl2 * 1, none⟩)] := NewI.lit (by rw [List.length_take, hO2.len]; omega) (by omega) hcm
        repeat (first | refine vops_q tyOk rfl ?_ | refine vops_nil ?_ | refine vw_region (by kernel_rfl) ?_ | refine vops_p tyOk rfl (by (try simp only [inR]); omega) ?_)
        refine ⟨y - 1, by omega, Src b a cs.length cap i' h' ++ (outer' ++ (([(bl2, ⟨ints (l2.take z), 2, cl2 * 1, none⟩)] ++ R) ++ [(b9, ⟨[.int .i64 k, .slice p' (ls.length + 1) cap'], 58, 2, none⟩), (b2, ⟨[.int .i64 0, .slice none 0 0], 58, 2, none⟩)])), (by repeat (first | exact ole_nil | exact ole_refl | (apply ole_cons; (repeat (first | exact pm1_here | apply pm1_next | apply pm1_past))) | (apply ole_app; (repeat (first | exact pm_here | exact pm_last | apply pm_next | apply pm_past))))), y - 1, ls ++ [l2.take z], vs ++ [.slice (some ⟨bl2, 0, none⟩) z cl2], [(bl2, ⟨ints (l2.take z), 2, cl2 * 1, none⟩)] ++ R, outer', p', cap', i', h', by omega, by rw [List.length_append, List.length_singleton]; omega, fun l hl => ?_, rfl, ?_, rfl, rfl, rfl, rfl, hR.snoc hNz, by rw [List.length_append, List.length_singleton]; exact hO', hi1, hi2, hh1, hh2, by rw [List.length_append, List.length_singleton]⟩
        · rcases List.mem_append.1 hl with h | h
          · exact hll l h
          · rw [List.mem_singleton.1 h, List.length_take]; omega
        · show Value.int .i64 _ = Value.int .i64 _
          congr 1; omega
      · refine vw_nodup (own := Src b a cs.length cap i' h' ++ (outer ++ (R ++ [(b9, ⟨[.int .i64 k, .slice p ls.length c], 58, 2, none⟩), (b2, ⟨[.int .i64 0, .slice none 0 0], 58, 2, none⟩)]))) (fun hnd => ?_)
        repeat (first | refine vops_nil ?_ | refine vw_seq ?_ | refine vw_region (by kernel_rfl) ?_ | refine vw_ret ?_ | refine vw_exit ?_ | ((show VOps _ _ _ _ (⟨some _, Go.Op.load _ _, _, _, _, none⟩ :: _) _ _); refine vops_loadNM tyOk rfl rfl rfl (by repeat (first | exact mem_here | apply mem_next | apply mem_past)) (by first | rfl | (rw [ints_length]; first | assumption | omega | (rw [ints_length]; first | assumption | omega | simp [*])) | simp [*]) ?_) | ((show VOps _ _ _ _ (⟨none, Go.Op.store _ _ _, _, _, _, none⟩ :: _) _ _); refine vops_storeAM tyOk rfl rfl rfl (by first | rfl | (rw [ints_length]; first | assumption | omega | (rw [ints_length]; first | assumption | omega | simp [*])) | simp [*]) (by first | exact ints_one | simp [Value.oneCell']) (by repeat (first | exact upd_here | apply upd_next | apply upd_past)) (by first | rfl | (rw [ints_length]; first | assumption | omega | (rw [ints_length]; first | assumption | omega | simp [*])) | simp [*]) ?_))
        refine ⟨_, Src b a cs.length cap i' h' ++ (outer ++ R), rv_cell (cs := [.int .i64 k, .slice p ls.length c]) tyOk rfl rfl rfl rfl rfl (fun j v hj => by rw [Nat.zero_add]; exact sees_mem (by repeat (first | exact mem_here | apply mem_next | apply mem_past)) hj), ?_, ?_, k, ls, p, c, outer ++ R, i', h', by omega, by omega, by omega, hll, rfl, ⟨vs, outer, R, hR, hO, rfl⟩, hi1, hi2, hh1, hh2, rfl⟩
        · exact nodup_sub hnd (((List.sublist_append_left _ _).append_left _).append_left _)
        · intro q hq
          rcases List.mem_append.1 hq with h | h
          · exact List.mem_append_left _ h
          · refine List.mem_append_right _ ?_
            rcases List.mem_append.1 h with h | h
            · exact List.mem_append_left _ h
            · exact List.mem_append_right _ (List.mem_append_left _ h)
end Go.Proofs.Ytdgaabkgfbihpaa

/- A part of the proof: W26. No conditions of its own. -/
namespace Go.Proofs.Ytdgaabkgfbihpaa
open Go.VL
attribute [local irreducible] VWr VOps VD Calls

theorem SrcCtx.of {w : World} {own0 : Own} {b : Nat} {a : Option Addr} {cs : List Nat} (hB : RdB' w own0 a cs) (hb : b ∈ ids own0) (h1 : ∀ c ∈ cs, c < 256) (h2 : cs.length ≤ 1048576) : SrcCtx ⟨w, ids own0⟩ b a cs :=
  ⟨h1, h2, fun own w' hg _ => by
    rcases hB with hB | ⟨b2, o, e1, e2, e3⟩
    · exact .inl hB
    · exact .inr ⟨b2, o, e1, fun e => e2 (e ▸ hb), fun j x hx => hg.fr.cell e2 (e3 j x hx)⟩⟩
/-- The bytes lie in nothing of one's own. -/
theorem rdB_up {w w' : World} {own own0 : Own} {a : Option Addr} {cs : List Nat} (hB : RdB w a cs) (hg : Go.VL.Good ⟨w, []⟩ own w') (hs : Go.VL.Sub own0 own) : RdB' w' own0 a cs := by
  by_cases hc : cs = []
  · exact .inl hc
  rcases hB with hB | ⟨b2, o, h1, h3⟩
  · exact .inl hB
  · refine .inr ⟨b2, o, h1, fun hm => ?_, fun j x hx => hg.fr.cell (by simp) (h3 j x hx)⟩
    obtain ⟨c, t, rfl⟩ : ∃ c t, cs = c :: t := by
      cases cs with
      | nil => exact absurd rfl hc
      | cons c t => exact ⟨c, t, rfl⟩
    have hlt := World.block_lt_of_cell? _ _ (h3 0 _ rfl)
    obtain ⟨k, hk⟩ := mem_ids hm
    rcases hg.mine b2 k (hs _ hk) with h | h
    · cases h
    · have h4 : w.heap.size ≤ b2 := h
      have h5 : b2 < w.heap.size := hlt
      omega
/-- An evening that has been drawn, and perhaps spoilt, behind its source. -/
def DrawnB (b : Nat) (a : Option Addr) (n cap : Nat) (v : Value) (new : Own) : Prop := ∃ (m : Int) (ls : List (List Int)) (p : Option Addr) (c : Nat) (newE : Own) (i h : Int), -2000 ≤ m ∧ m ≤ 2000 ∧ ls.length ≤ 50 ∧ (∀ l ∈ ls, l.length ≤ 40) ∧ v = .agg #[.int .i64 m, .slice p ls.length c] ∧ NewE 42 ls (.slice p ls.length c) newE ∧ 0 ≤ i ∧ i ≤ n ∧ 0 ≤ h ∧ h < 18446744073709551616 ∧ new = Src b a n cap i h ++ newE

theorem pm_one {x : Nat × Blk} {R : Own} : (x :: R).Perm ([x] ++ R) := List.Perm.refl _
theorem src_nodup {b : Nat} {a : Option Addr} {n cap : Nat} {i h i2 h2 : Int} {R : Own} (hn : (ids (Src b a n cap i h ++ R)).Nodup) : (ids (Src b a n cap i2 h2 ++ R)).Nodup := hn
attribute [local irreducible] Src
set_option maxHeartbeats 2000000 in
set_option maxRecDepth 100000 in
theorem c_l06Bad (b : Nat) (a : Option Addr) (cs : List Nat) (cap : Nat) (i' h' m : Int) (ls : List (List Int)) (p : Option Addr) (c : Nat) (newE : Own) (w : World) (hm0 : -1000 ≤ m) (hm1 : m ≤ 1000) (hl : ls.length ≤ 40) (hll : ∀ l ∈ ls, l.length ≤ 40) (hE : NewE 42 ls (.slice p ls.length c) newE)
    (hC : SrcCtx ⟨w, ids (Src b a cs.length cap i' h' ++ newE)⟩ b a cs) (hi1 : 0 ≤ i') (hi2 : i' ≤ cs.length) (hh1 : 0 ≤ h') (hh2 : h' < 18446744073709551616) (ho : OwnOk (Src b a cs.length cap i' h' ++ newE) w) :
    Calls Try.prog 256 [.pointer (some ⟨b, 0, none⟩), .agg #[.int .i64 m, .slice p ls.length c]].toArray w (ResM w (Src b a cs.length cap i' h' ++ newE) (DrawnB b a cs.length cap)) := by
  refine calls_of_vwM Try.func256 rfl Try.ntmps256 (by simp) ho ?_
  refine vw_seq (vw_region (by kernel_rfl) (vops_box [.int .i64 m, .slice p ls.length c] rfl (fun b3 hb3 => ?_)))
  repeat (first | refine vops_q tyOk rfl ?_ | refine vops_nil ?_ | refine vw_seq ?_ | refine vw_region (by kernel_rfl) ?_ | refine vw_cond rfl ?_ | refine vw_block ?_ | refine vops_allocZ [.int .i64 0, .slice none 0 0] tyOk rfl rfl (by simp) (fun b4 hb4 => ?_) | (apply vops_callM ent156 rfl; (case h => (intro w' hg; exact c_next (hC.at (cap := cap) hg hi1 hi2 hh1 hh2) (by omega))); (case hp => (repeat (first | exact pm_here | exact pm_last | apply pm_next | apply pm_past))); (rintro _ newM ⟨x, rfl, hx0, hx1, i', h', hi1, hi2, hh1, hh2, rfl⟩)))
  refine bs_dec (fun hx => ?_) (fun hx => ?_)
  · repeat (first | refine vops_q tyOk rfl ?_ | refine vops_nil ?_ | refine vw_seq ?_ | refine vw_region (by kernel_rfl) ?_ | refine vops_p tyOk rfl (by (try simp only [inR]); omega) ?_ | refine vw_ret ?_ | refine vops_litI [3, 17, m - 1] tyOk rfl rfl (List.cons_ne_nil _ _) (by rfl) rfl (by omega) (by omega) (fun bt hbt => ?_) | (apply vops_callM (own0 := Src b a cs.length cap i' h') ent170 rfl; (case hp => (repeat (first | exact pm_here | exact pm_last | apply pm_next | apply pm_past))); (case h => (intro w' hg; exact c_pick (l := [3, 17, m - 1]) hC hg hi1 hi2 hh1 hh2 (by repeat (first | exact mem_here | apply mem_next | apply mem_past)) rfl (by simp) (by simp))); (rintro _ newM ⟨x, hx, rfl, i', h', hi1, hi2, hh1, hh2, rfl⟩)) | ((show VOps _ _ _ _ (⟨some _, Go.Op.load _ _, _, _, _, none⟩ :: _) _ _); first | refine vops_loadM tyOk rfl rfl rfl (by repeat (first | exact mem_here | apply mem_next | apply mem_past)) (by rfl) ?_ | refine vops_loadNM tyOk rfl rfl rfl (by repeat (first | exact mem_here | apply mem_next | apply mem_past)) (by first | rfl | (rw [ints_length]; first | assumption | omega | (rw [ints_length]; first | assumption | omega | simp [*])) | simp [*]) ?_) | ((show VOps _ _ _ _ (⟨none, Go.Op.store _ _ _, _, _, _, none⟩ :: _) _ _); first | refine vops_storeM tyOk rfl rfl rfl rfl rfl (by repeat (first | exact upd_here | apply upd_next | apply upd_past)) (by simp) ?_ | refine vops_storeAM tyOk rfl rfl rfl (by first | rfl | (rw [ints_length]; first | assumption | omega | (rw [ints_length]; first | assumption | omega | simp [*])) | simp [*]) (by first | exact ints_one | simp [Value.oneCell']) (by repeat (first | exact upd_here | apply upd_next | apply upd_past)) (by first | rfl | (rw [ints_length]; first | assumption | omega | (rw [ints_length]; first | assumption | omega | simp [*])) | simp [*]) ?_))
    simp only [List.mem_cons, List.not_mem_nil, or_false] at hx
    refine ⟨_, Src b a cs.length cap i' h' ++ newE, rv_cell (cs := [.int .i64 x, .slice p ls.length c]) tyOk rfl rfl rfl rfl rfl (fun j v hj => by rw [Nat.zero_add j]; exact sees_mem (by repeat (first | exact mem_here | apply mem_next | apply mem_past)) hj), src_nodup ho.nodup, fun q hq => (List.mem_append.1 hq).elim ((show Go.VL.Sub _ _ from (by repeat (first | exact sub_hereL | exact sub_refl | apply sub_cons | apply sub_app))) q) ((show Go.VL.Sub _ _ from (by repeat (first | exact sub_hereL | exact sub_refl | apply sub_cons | apply sub_app))) q), x, ls, p, c, newE, i', h', by omega, by omega, by omega, hll, rfl, hE, hi1, hi2, hh1, hh2, rfl⟩
  · obtain ⟨vs, outer, R, hR, hO, rfl⟩ := id hE
    repeat (first | refine vops_q tyOk rfl ?_ | refine vops_nil ?_ | refine vw_seq ?_ | refine vw_region (by kernel_rfl) ?_ | refine vw_cond rfl ?_)
    refine bs_dec (fun hx1 => ?_) (fun hx1 => ?_)
    · repeat (first | refine vops_q tyOk rfl ?_ | refine vops_nil ?_ | refine vw_seq ?_ | refine vw_region (by kernel_rfl) ?_ | refine vw_ret ?_ | refine vops_build0 tyOk rfl rfl (fun be hbe => ?_) | refine vops_litI [0, 1, 2] tyOk rfl rfl (List.cons_ne_nil _ _) (by rfl) rfl (by omega) (by omega) (fun bq hbq => ?_) | refine vops_litV (v := .slice (some ⟨bq, 0, none⟩) 3 3) tyOk rfl rfl (List.cons_ne_nil _ _) rfl rfl rfl (fun bu hbu => ?_) | refine vops_appendW tyOk rfl rfl (List.cons_ne_nil _ _) rfl rfl (by decide) rfl SlAt.empty pm_one rfl hO (by repeat (first | exact sub_hereL | exact sub_refl | apply sub_cons | apply sub_app)) hR.2.1 (by omega) (fun p1 c1 new1 hN1 => ?_) | (refine vops_appendV tyOk rfl rfl (List.cons_ne_nil _ _) rfl rfl (by decide) rfl hN1 (by repeat (first | exact pm_here | exact pm_last | apply pm_next | apply pm_past)) rfl (by repeat (first | exact mem_here | apply mem_next | apply mem_past)) rfl (by omega) (fun p2 c2 new2 hN2 => ?_); refine vops_nodup (fun hnd => ?_)) | ((show VOps _ _ _ _ (⟨some _, Go.Op.load _ _, _, _, _, none⟩ :: _) _ _); first | refine vops_loadM tyOk rfl rfl rfl (by repeat (first | exact mem_here | apply mem_next | apply mem_past)) (by rfl) ?_ | refine vops_loadNM tyOk rfl rfl rfl (by repeat (first | exact mem_here | apply mem_next | apply mem_past)) (by first | rfl | (rw [ints_length]; first | assumption | omega | (rw [ints_length]; first | assumption | omega | simp [*])) | simp [*]) ?_) | ((show VOps _ _ _ _ (⟨none, Go.Op.store _ _ _, _, _, _, none⟩ :: _) _ _); first | refine vops_storeM tyOk rfl rfl rfl rfl rfl (by repeat (first | exact upd_here | apply upd_next | apply upd_past)) (by simp) ?_ | refine vops_storeAM tyOk rfl rfl rfl (by first | rfl | (rw [ints_length]; first | assumption | omega | (rw [ints_length]; first | assumption | omega | simp [*])) | simp [*]) (by first | exact ints_one | simp [Value.oneCell']) (by repeat (first | exact upd_here | apply upd_next | apply upd_past)) (by first | rfl | (rw [ints_length]; first | assumption | omega | (rw [ints_length]; first | assumption | omega | simp [*])) | simp [*]) ?_))
      have hNq : NewI 2 [0, 1, 2] (.slice (some ⟨bq, 0, none⟩) 3 3) [(bq, ⟨ints [0, 1, 2], 2, 3 * 1, none⟩)] := NewI.lit (by rfl) (Nat.le_refl _) (by simp only [maxLen]; omega)
      have hlen : (ls ++ [[0, 1, 2]]).length = 0 + ls.length + 1 := by rw [List.length_append, List.length_singleton]; omega
      refine ⟨_, Src b a cs.length cap i' h' ++ (new2 ++ ((bq, ⟨ints [0, 1, 2], 2, 3 * 1, none⟩) :: R)), rv_cell (cs := [.int .i64 m, .slice p2 (0 + ls.length + 1) c2]) tyOk rfl rfl rfl rfl rfl (fun j v hj => by rw [Nat.zero_add j]; exact sees_mem (by repeat (first | exact mem_here | apply mem_next | apply mem_past)) hj), OLe.nodup (by refine ole_app (by repeat (first | exact pm_here | exact pm_last | apply pm_next | apply pm_past)) ?_; refine ole_app (by repeat (first | exact pm_here | exact pm_last | apply pm_next | apply pm_past)) ?_; refine ole_cons (by repeat (first | exact pm1_here | apply pm1_next | apply pm1_past)) ?_; exact ole_last (by repeat (first | exact pm_here | exact pm_last | apply pm_next | apply pm_past))) hnd, fun q hq => ?_, m, ls ++ [[0, 1, 2]], p2, c2, new2 ++ ((bq, ⟨ints [0, 1, 2], 2, 3 * 1, none⟩) :: R), i', h', by omega, by omega, by omega, fun l hl => ?_, by rw [hlen], ⟨vs ++ [.slice (some ⟨bq, 0, none⟩) 3 3], new2, (bq, ⟨ints [0, 1, 2], 2, 3 * 1, none⟩) :: R, hR.snoc hNq, by rw [hlen]; exact hN2, rfl⟩, hi1, hi2, hh1, hh2, rfl⟩
      · rcases List.mem_append.1 hq with h | h
        · exact (show Go.VL.Sub _ _ from (by repeat (first | exact sub_hereL | exact sub_refl | apply sub_cons | apply sub_app))) q h
        · rcases List.mem_append.1 h with h | h
          · exact List.mem_append_left _ h
          · rcases List.mem_cons.1 h with h | h
            · rw [h]; exact List.mem_append_right _ (List.mem_cons_of_mem _ List.mem_cons_self)
            · exact (show Go.VL.Sub R _ from (by repeat (first | exact sub_hereL | exact sub_refl | apply sub_cons | apply sub_app))) q h
      · rcases List.mem_append.1 hl with h | h
        · exact hll l h
        · rw [List.mem_singleton.1 h]; decide
    · repeat (first | refine vops_q tyOk rfl ?_ | refine vops_nil ?_ | refine vw_seq ?_ | refine vw_region (by kernel_rfl) ?_ | refine vw_cond rfl ?_)
      refine bs_dec (fun hx2 => ?_) (fun hx2 => ?_)
      · repeat (first | refine vops_q tyOk rfl ?_ | refine vops_nil ?_ | refine vw_seq ?_ | refine vw_region (by kernel_rfl) ?_ | refine vw_ret ?_ | refine vops_build0 tyOk rfl rfl (fun be hbe => ?_) | refine vops_litI [0, 1, 2, 2] tyOk rfl rfl (List.cons_ne_nil _ _) (by rfl) rfl (by omega) (by omega) (fun bq hbq => ?_) | refine vops_litV (v := .slice (some ⟨bq, 0, none⟩) 4 4) tyOk rfl rfl (List.cons_ne_nil _ _) rfl rfl rfl (fun bu hbu => ?_) | refine vops_appendW tyOk rfl rfl (List.cons_ne_nil _ _) rfl rfl (by decide) rfl SlAt.empty pm_one rfl hO (by repeat (first | exact sub_hereL | exact sub_refl | apply sub_cons | apply sub_app)) hR.2.1 (by omega) (fun p1 c1 new1 hN1 => ?_) | (refine vops_appendV tyOk rfl rfl (List.cons_ne_nil _ _) rfl rfl (by decide) rfl hN1 (by repeat (first | exact pm_here | exact pm_last | apply pm_next | apply pm_past)) rfl (by repeat (first | exact mem_here | apply mem_next | apply mem_past)) rfl (by omega) (fun p2 c2 new2 hN2 => ?_); refine vops_nodup (fun hnd => ?_)) | ((show VOps _ _ _ _ (⟨some _, Go.Op.load _ _, _, _, _, none⟩ :: _) _ _); first | refine vops_loadM tyOk rfl rfl rfl (by repeat (first | exact mem_here | apply mem_next | apply mem_past)) (by rfl) ?_ | refine vops_loadNM tyOk rfl rfl rfl (by repeat (first | exact mem_here | apply mem_next | apply mem_past)) (by first | rfl | (rw [ints_length]; first | assumption | omega | (rw [ints_length]; first | assumption | omega | simp [*])) | simp [*]) ?_) | ((show VOps _ _ _ _ (⟨none, Go.Op.store _ _ _, _, _, _, none⟩ :: _) _ _); first | refine vops_storeM tyOk rfl rfl rfl rfl rfl (by repeat (first | exact upd_here | apply upd_next | apply upd_past)) (by simp) ?_ | refine vops_storeAM tyOk rfl rfl rfl (by first | rfl | (rw [ints_length]; first | assumption | omega | (rw [ints_length]; first | assumption | omega | simp [*])) | simp [*]) (by first | exact ints_one | simp [Value.oneCell']) (by repeat (first | exact upd_here | apply upd_next | apply upd_past)) (by first | rfl | (rw [ints_length]; first | assumption | omega | (rw [ints_length]; first | assumption | omega | simp [*])) | simp [*]) ?_))
        have hNq : NewI 2 [0, 1, 2, 2] (.slice (some ⟨bq, 0, none⟩) 4 4) [(bq, ⟨ints [0, 1, 2, 2], 2, 4 * 1, none⟩)] := NewI.lit (by rfl) (Nat.le_refl _) (by simp only [maxLen]; omega)
        have hlen : (ls ++ [[0, 1, 2, 2]]).length = 0 + ls.length + 1 := by rw [List.length_append, List.length_singleton]; omega
        refine ⟨_, Src b a cs.length cap i' h' ++ (new2 ++ ((bq, ⟨ints [0, 1, 2, 2], 2, 4 * 1, none⟩) :: R)), rv_cell (cs := [.int .i64 m, .slice p2 (0 + ls.length + 1) c2]) tyOk rfl rfl rfl rfl rfl (fun j v hj => by rw [Nat.zero_add j]; exact sees_mem (by repeat (first | exact mem_here | apply mem_next | apply mem_past)) hj), OLe.nodup (by refine ole_app (by repeat (first | exact pm_here | exact pm_last | apply pm_next | apply pm_past)) ?_; refine ole_app (by repeat (first | exact pm_here | exact pm_last | apply pm_next | apply pm_past)) ?_; refine ole_cons (by repeat (first | exact pm1_here | apply pm1_next | apply pm1_past)) ?_; exact ole_last (by repeat (first | exact pm_here | exact pm_last | apply pm_next | apply pm_past))) hnd, fun q hq => ?_, m, ls ++ [[0, 1, 2, 2]], p2, c2, new2 ++ ((bq, ⟨ints [0, 1, 2, 2], 2, 4 * 1, none⟩) :: R), i', h', by omega, by omega, by omega, fun l hl => ?_, by rw [hlen], ⟨vs ++ [.slice (some ⟨bq, 0, none⟩) 4 4], new2, (bq, ⟨ints [0, 1, 2, 2], 2, 4 * 1, none⟩) :: R, hR.snoc hNq, by rw [hlen]; exact hN2, rfl⟩, hi1, hi2, hh1, hh2, rfl⟩
        · rcases List.mem_append.1 hq with h | h
          · exact (show Go.VL.Sub _ _ from (by repeat (first | exact sub_hereL | exact sub_refl | apply sub_cons | apply sub_app))) q h
          · rcases List.mem_append.1 h with h | h
            · exact List.mem_append_left _ h
            · rcases List.mem_cons.1 h with h | h
              · rw [h]; exact List.mem_append_right _ (List.mem_cons_of_mem _ List.mem_cons_self)
              · exact (show Go.VL.Sub R _ from (by repeat (first | exact sub_hereL | exact sub_refl | apply sub_cons | apply sub_app))) q h
        · rcases List.mem_append.1 hl with h | h
          · exact hll l h
          · rw [List.mem_singleton.1 h]; decide
      · repeat (first | refine vops_nil ?_ | refine vw_seq ?_ | refine vw_region (by kernel_rfl) ?_ | refine vw_skip ?_ | refine vw_ret ?_ | ((show VOps _ _ _ _ (⟨some _, Go.Op.load _ _, _, _, _, none⟩ :: _) _ _); refine vops_loadNM tyOk rfl rfl rfl (by repeat (first | exact mem_here | apply mem_next | apply mem_past)) (by first | rfl | (rw [ints_length]; first | assumption | omega | (rw [ints_length]; first | assumption | omega | simp [*])) | simp [*]) ?_) | ((show VOps _ _ _ _ (⟨none, Go.Op.store _ _ _, _, _, _, none⟩ :: _) _ _); refine vops_storeAM tyOk rfl rfl rfl (by first | rfl | (rw [ints_length]; first | assumption | omega | (rw [ints_length]; first | assumption | omega | simp [*])) | simp [*]) (by first | exact ints_one | simp [Value.oneCell']) (by repeat (first | exact upd_here | apply upd_next | apply upd_past)) (by first | rfl | (rw [ints_length]; first | assumption | omega | (rw [ints_length]; first | assumption | omega | simp [*])) | simp [*]) ?_))
        refine ⟨_, Src b a cs.length cap i' h' ++ (outer ++ R), rv_cell (cs := [.int .i64 m, .slice p ls.length c]) tyOk rfl rfl rfl rfl rfl (fun j v hj => by rw [Nat.zero_add j]; exact sees_mem (by repeat (first | exact mem_here | apply mem_next | apply mem_past)) hj), src_nodup ho.nodup, fun q hq => (List.mem_append.1 hq).elim ((show Go.VL.Sub _ _ from (by repeat (first | exact sub_hereL | exact sub_refl | apply sub_cons | apply sub_app))) q) ((show Go.VL.Sub _ _ from (by repeat (first | exact sub_hereL | exact sub_refl | apply sub_cons | apply sub_app))) q), m, ls, p, c, (outer ++ R), i', h', by omega, by omega, by omega, hll, rfl, hE, hi1, hi2, hh1, hh2, rfl⟩
end Go.Proofs.Ytdgaabkgfbihpaa

/- A part of the proof: W27. No conditions of its own. -/
namespace Go.Proofs.Ytdgaabkgfbihpaa
open Go.VL
attribute [local irreducible] VWr VOps VD Calls
attribute [local irreducible] Src

/-- An evening that has been drawn. -/
def EvNew (v : Value) (new : Own) : Prop := ∃ (m : Int) (ls : List (List Int)) (p : Option Addr) (c : Nat), -2000 ≤ m ∧ m ≤ 2000 ∧ ls.length ≤ 50 ∧ (∀ l ∈ ls, l.length ≤ 40) ∧ v = .agg #[.int .i64 m, .slice p ls.length c] ∧ NewE 42 ls (.slice p ls.length c) new
/-- An evening that has been drawn, and a number. -/
def EvNum (v : Value) (new : Own) : Prop := ∃ (m x : Int) (ls : List (List Int)) (p : Option Addr) (c : Nat), -2000 ≤ m ∧ m ≤ 2000 ∧ ls.length ≤ 50 ∧ (∀ l ∈ ls, l.length ≤ 40) ∧ v = .tuple #[.agg #[.int .i64 m, .slice p ls.length c], .int .i64 x] ∧ NewE 42 ls (.slice p ls.length c) new

set_option maxHeartbeats 2000000 in
set_option maxRecDepth 100000 in
theorem c_l06Draw (a : Option Addr) (cs : List Nat) (cap : Nat) (w : World) (hB : RdB w a cs) (hcs : ∀ c ∈ cs, c < 256) (hl : cs.length ≤ 1048576) :
    Calls Try.prog 159 [.slice a cs.length cap].toArray w (Res w EvNew) := by
  have hC : ∀ {b : Nat}, SrcCtx ⟨w, []⟩ b a cs := SrcCtx.fresh hB hcs hl
  refine calls_of_vw Try.func159 rfl Try.ntmps159 (by simp) ?_
  refine vw_seq (vw_region (by kernel_rfl) (vops_allocZ [.int .i64 0, .slice none 0 0] tyOk rfl rfl (by simp) (fun b2 hb2 => ?_)))
  repeat (first | refine vops_q tyOk rfl ?_ | refine vops_nil ?_ | refine vw_seq ?_ | refine vw_region (by kernel_rfl) ?_)
  apply vops_call ent134 rfl
  · intro w' hg; exact c_l01From a cs cap w' (hB.same hg.fr) hcs hl
  rintro _ newN ⟨b, h, rfl, hh1, hh2, rfl⟩
  repeat (first | refine vops_q tyOk rfl ?_ | refine vops_nil ?_ | refine vw_seq ?_ | refine vw_region (by kernel_rfl) ?_)
  refine vops_callM ent257 rfl (own0 := Src b a cs.length cap 0 h) (by repeat (first | exact pm_here | exact pm_last | apply pm_next | apply pm_past)) (fun w' hg => c_l06DrawOf b a cs cap 0 h w' (hC.at hg (by omega) (by omega) hh1 hh2)) ?_
  rintro _ newM ⟨m, ls, p, c, newE, i', h', hm0, hm1, hll, hrl, rfl, hE, hi1, hi2, hh1, hh2, rfl⟩
  refine vops_callM ent256 rfl (own0 := Src b a cs.length cap i' h' ++ newE) (List.Perm.refl _) (fun w' hg => c_l06Bad b a cs cap i' h' m ls p c newE w' hm0 hm1 hll hrl hE (SrcCtx.of (rdB_up hB hg (fun q hq => List.mem_append_left _ hq)) (by simp [Src, ids]) hcs hl) hi1 hi2 hh1 hh2 (okS hg)) ?_
  clear hE hi1 hi2 hh1 hh2 hm0 hm1 hll hrl
  rintro _ newM ⟨m, ls, p, c, newE, i', h', hm0, hm1, hll, hrl, rfl, hE, hi1, hi2, hh1, hh2, rfl⟩
  rw [List.append_assoc]
  refine vops_nodup (fun hnd => ?_)
  repeat (first | refine vops_nil ?_ | refine vw_ret ?_ | ((show VOps _ _ _ _ (⟨none, Go.Op.store _ _ _, _, _, _, none⟩ :: _) _ _); refine vops_storeAM tyOk rfl rfl rfl (by first | rfl | (rw [ints_length]; first | assumption | omega | (rw [ints_length]; first | assumption | omega | simp [*])) | simp [*]) (by first | exact ints_one | simp [Value.oneCell']) (by repeat (first | exact upd_here | apply upd_next | apply upd_past)) (by first | rfl | (rw [ints_length]; first | assumption | omega | (rw [ints_length]; first | assumption | omega | simp [*])) | simp [*]) ?_))
  refine ⟨_, newE, rv_cell (cs := [.int .i64 m, .slice p ls.length c]) tyOk rfl rfl rfl rfl rfl (fun j v hj => by rw [Nat.zero_add j]; exact sees_mem (by repeat (first | exact mem_here | apply mem_next | apply mem_past)) hj), OLe.nodup (by exact ole_last (by repeat (first | exact pm_here | exact pm_last | apply pm_next | apply pm_past))) hnd, (by repeat (first | exact sub_hereL | exact sub_refl | apply sub_cons | apply sub_app)), m, ls, p, c, hm0, hm1, hll, hrl, rfl, hE⟩

end Go.Proofs.Ytdgaabkgfbihpaa

/- A part of the proof: W30. No conditions of its own. -/
namespace Go.Proofs.Ytdgaabkgfbihpaa
open Go.VL
attribute [local irreducible] VWr VOps VD Calls

theorem iiW {P : Program} {fn : Nat} {args : Array Value} {w : World} {e : Nat} {r : List Int × Int} {l : List Int} {c : Int} (h : Calls P fn args w (Res w (PairI e r))) (hr : r = (l, c)) :
    Calls P fn args w (Res w (fun v new => ∃ p cap, v = .tuple #[.slice p l.length cap, .int .i64 c] ∧ NewI e l (.slice p l.length cap) new)) := by
  subst hr; exact h

end Go.Proofs.Ytdgaabkgfbihpaa

