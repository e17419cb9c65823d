import Derived.Test.YtdgaabkgfbihpaaUJ
import Derived.Test.YtdgaabkgfbihpaaVLArr
import Derived.Test.YtdgaabkgfbihpaaUL
import Derived.Test.YtdgaabkgfbihpaaUG
import Derived.Test.YtdgaabkgfbihpaaSY
import Derived.Test.YtdgaabkgfbihpaaUI
/- Parts of the proof, one after another. No conditions of their own. -/
/- A part of the proof: W31. No conditions of its own. -/
namespace Go.Proofs.Ytdgaabkgfbihpaa
open Go.VL
theorem vops_take {P : Program} {Γ : Ctx} {ops : Array Oper} {Q : (Nat → Value) → Own → Prop} {f : Nat → Value} {R : Own} {d : Option Tmp} {op : Op} {ty : TypeId} {pos : String} {aft : Array Edge} {l : List Oper} {b m : Nat} {cs ds : List Value} {e : TypeId} (hp : cs <+: ds)
    (h : VOps P Γ ops Q (⟨d, op, ty, pos, aft, none⟩ :: l) f ((b, ⟨cs, e, m, none⟩) :: R)) : VOps P Γ ops Q (⟨d, op, ty, pos, aft, none⟩ :: l) f ((b, ⟨ds, e, m, none⟩) :: R) := fun w hg => h w (hg.cutB hp)
attribute [local irreducible] VWr VOps VD Calls
attribute [local irreducible] Src

theorem c_fromG (a : Option Addr) (cs : List Nat) (cap : Nat) (w : World) (hB : RdB w a cs) (hcs : ∀ c ∈ cs, c < 256) (hl : cs.length ≤ 1048576) :
    Calls Try.prog 134 [.slice a cs.length cap].toArray w (Res w (fun v new => ∃ (b : Nat) (i h : Int), v = .pointer (some ⟨b, 0, none⟩) ∧ 0 ≤ i ∧ i ≤ cs.length ∧ 0 ≤ h ∧ h < 18446744073709551616 ∧ new = Src b a cs.length cap i h)) := by
  refine (c_l01From a cs cap w hB hcs hl).mono ?_
  rintro e w' ⟨v, new, e1, e2, e3, e4, b, h, rfl, h1, h2, rfl⟩
  exact ⟨_, _, e1, e2, e3, e4, b, 0, h, rfl, by omega, by omega, h1, h2, rfl⟩
set_option maxHeartbeats 2000000 in
set_option maxRecDepth 100000 in
theorem c_DrawFirstBase (a : Option Addr) (cs : List Nat) (cap : Nat) (w : World) (hB : RdB w a cs) (hcs : ∀ c ∈ cs, c < 256) (hl : cs.length ≤ 1048576) :
    Calls Try.prog 73 [.slice a cs.length cap].toArray w (Res w (fun v new => new = [] ∧ ∃ x : Int, v = .int .i64 x)) := by
  have hC : ∀ {b : Nat}, SrcCtx ⟨w, []⟩ b a cs := SrcCtx.fresh hB hcs hl
  refine calls_of_vw Try.func73 rfl Try.ntmps73 (by simp) ?_
  repeat (first | refine vops_q tyOk rfl ?_ | refine vops_nil ?_ | refine vw_seq ?_ | refine vw_region (by kernel_rfl) ?_ | (apply vops_call ent134 rfl; (intro w' hg; exact c_fromG a cs cap w' (hB.same hg.fr) hcs hl); (rintro _ newN ⟨b, i', h', rfl, hi1, hi2, hh1, hh2, rfl⟩)))
  have hC := @hC b
  repeat (first | refine vops_q tyOk rfl ?_ | refine vops_nil ?_ | refine vw_ret ?_ | refine vops_litI [4, 5, 8, 9, 6, 12] tyOk rfl rfl (List.cons_ne_nil _ _) (by rfl) rfl (by omega) (by omega) (fun bt hbt => ?_) | (apply vops_callM (own0 := Src b a cs.length cap i' h') ent170 rfl; (case hp => (repeat (first | exact pm_here | exact pm_last | apply pm_next | apply pm_past))); (case h => (intro w' hg; exact c_pick (l := [4, 5, 8, 9, 6, 12]) hC hg hi1 hi2 hh1 hh2 (by repeat (first | exact mem_here | apply mem_next | apply mem_past)) rfl (by simp) (by simp))); (rintro _ newM ⟨x, hx, rfl, i', h', hi1, hi2, hh1, hh2, rfl⟩)))
  exact out1 rfl rfl (new := []) List.nodup_nil sub_nil ⟨rfl, x, rfl⟩
/-- A number of players and a list that have been drawn. -/
def NumI (v : Value) (new : Own) : Prop := ∃ (x : Int) (l : List Int) (p : Option Addr) (c : Nat), l.length ≤ 1000 ∧ v = .tuple #[.int .i64 x, .slice p l.length c] ∧ NewI 2 l (.slice p l.length c) new

set_option maxHeartbeats 2000000 in
set_option maxRecDepth 100000 in
theorem c_DrawMadeFrom (a : Option Addr) (cs : List Nat) (cap : Nat) (w : World) (hB : RdB w a cs) (hcs : ∀ c ∈ cs, c < 256) (hl : cs.length ≤ 1048576) :
    Calls Try.prog 66 [.slice a cs.length cap].toArray w (Res w NumI) := by
  have hC : ∀ {b : Nat}, SrcCtx ⟨w, []⟩ b a cs := SrcCtx.fresh hB hcs hl
  refine calls_of_vw Try.func66 rfl Try.ntmps66 (by simp) ?_
  repeat (first | refine vops_q tyOk rfl ?_ | refine vops_nil ?_ | refine vw_seq ?_ | refine vw_region (by kernel_rfl) ?_ | (apply vops_call ent134 rfl; (intro w' hg; exact c_fromG a cs cap w' (hB.same hg.fr) hcs hl); (rintro _ newN ⟨b, i', h', rfl, hi1, hi2, hh1, hh2, rfl⟩)))
  have hC := @hC b
  repeat (first | refine vops_q tyOk rfl ?_ | refine vops_nil ?_ | refine vw_seq ?_ | refine vw_region (by kernel_rfl) ?_ | refine vops_litI [4, 5, 8, 9, 12, 16, 13] tyOk rfl rfl (List.cons_ne_nil _ _) (by rfl) rfl (by omega) (by omega) (fun bt hbt => ?_) | (apply vops_callM (own0 := Src b a cs.length cap i' h') ent170 rfl; (case hp => (repeat (first | exact pm_here | exact pm_last | apply pm_next | apply pm_past))); (case h => (intro w' hg; exact c_pick (l := [4, 5, 8, 9, 12, 16, 13]) hC hg hi1 hi2 hh1 hh2 (by repeat (first | exact mem_here | apply mem_next | apply mem_past)) rfl (by simp) (by simp))); (rintro _ newM ⟨x, hx, rfl, i', h', hi1, hi2, hh1, hh2, rfl⟩)))
  obtain ⟨k, rfl, hk4, hk16⟩ : ∃ k : Nat, x = (k : Int) ∧ 4 ≤ k ∧ k ≤ 16 := by
    have hx' : 4 ≤ x ∧ x ≤ 16 := by simp at hx; omega
    exact ⟨x.toNat, by omega, by omega, by omega⟩
  repeat (first | refine vops_q tyOk rfl ?_ | refine vops_p tyOk rfl (by (try simp only [inR]); omega) ?_ | (apply vops_callM ent171 rfl; (case h => (intro w' hg; exact c_order (cap := cap) hC hg hi1 hi2 hh1 hh2 (by omega))); (case hp => (repeat (first | exact pm_here | exact pm_last | apply pm_next | apply pm_past))); (rintro _ newM ⟨l2, pl2, cl2, newl2, i', h', rfl, hO2, hNl2, hi1, hi2, hh1, hh2, rfl⟩; obtain ⟨bl2, rfl, rfl, hkc, hcm, _⟩ := NewF.blk (show NewF 2 1 k l2 _ _ from by have h := NewI.f hNl2; rwa [hO2.len] at h) (by omega); rw [List.append_assoc])))
  refine vops_sliceTo tyOk (.slice (some ⟨bl2, 0, none⟩) ((k : Int) - (k : Int) % 4).toNat cl2) rfl rfl rfl rfl rfl (by omega) (sliced_f0 _ _ _ _) ?_
  have hz : ((k : Int) - (k : Int) % 4).toNat ≤ k := by omega
  have hz4 : 4 ≤ ((k : Int) - (k : Int) % 4).toNat := by omega
  generalize ((k : Int) - (k : Int) % 4).toNat = z at *
  repeat (first | refine vops_q tyOk rfl ?_ | refine vops_nil ?_ | refine vw_seq ?_ | refine vw_region (by kernel_rfl) ?_)
  refine vops_perm (own' := (bl2, ⟨ints l2, 2, cl2 * 1, none⟩) :: (Src b a cs.length cap i' h' ++ [(bt, ⟨ints [4, 5, 8, 9, 12, 16, 13], 2, 7 * 1, none⟩)])) List.perm_middle ?_
  refine vops_take (cs := ints (l2.take z)) ⟨ints (l2.drop z), by unfold ints; rw [← List.map_append, List.take_append_drop]⟩ ?_
  have hlz : (l2.take z).length = z := by rw [List.length_take, hO2.len]; omega
  generalize l2.take z = l at *
  have fin : ∀ (m : Int) (L : List Int) (n : Nat), L.length = n → n ≤ cl2 → n ≤ 1000 → NumI (.tuple #[.int .i64 m, .slice (some ⟨bl2, 0, none⟩) n cl2]) [(bl2, ⟨ints L, 2, cl2 * 1, none⟩)] := fun m L n hL hn hn2 => by
    subst hL
    exact ⟨m, L, _, cl2, hn2, rfl, NewI.lit rfl hn hcm⟩
  have hnd1 : ∀ x : Nat × Blk, (ids [x]).Nodup := fun x => by simp [ids]
  repeat (first | refine vops_q tyOk rfl ?_ | refine vops_nil ?_ | refine vw_seq ?_ | refine vw_region (by kernel_rfl) ?_ | refine vw_cond rfl ?_ | refine vw_block ?_ | (apply vops_callM ent156 rfl; (case h => (intro w' hg; exact c_next (hC.at (cap := cap) hg hi1 hi2 hh1 hh2) (by omega))); (case hp => (repeat (first | exact pm_here | exact pm_last | apply pm_next | apply pm_past))); (rintro _ newM ⟨x, rfl, hx0, hx1, i', h', hi1, hi2, hh1, hh2, rfl⟩)))
  refine bs_dec (fun hx => ?_) (fun hx => ?_)
  · repeat (first | refine vops_q tyOk rfl ?_ | refine vops_nil ?_ | refine vw_seq ?_ | refine vw_region (by kernel_rfl) ?_ | refine vops_p tyOk rfl (by (try simp only [inR]); omega) ?_ | refine vw_ret ?_ | refine vops_litI [6, 17, 3, (k : Int) - 1] tyOk rfl rfl (List.cons_ne_nil _ _) (by rfl) rfl (by omega) (by omega) (fun bu hbu => ?_) | (apply vops_callM (own0 := Src b a cs.length cap i' h') ent170 rfl; (case hp => (repeat (first | exact pm_here | exact pm_last | apply pm_next | apply pm_past))); (case h => (intro w' hg; exact c_pick (l := [6, 17, 3, (k : Int) - 1]) hC hg hi1 hi2 hh1 hh2 (by repeat (first | exact mem_here | apply mem_next | apply mem_past)) rfl (by simp) (by simp))); (rintro _ newM ⟨x, hx, rfl, i', h', hi1, hi2, hh1, hh2, rfl⟩)))
    exact out2 rfl rfl rfl (new := [(bl2, ⟨ints l, 2, cl2 * 1, none⟩)]) (hnd1 _) (by repeat (first | exact sub_hereL | exact sub_refl | apply sub_cons | apply sub_app)) (fin _ l z hlz (by omega) (by omega))
  · repeat (first | refine vops_q tyOk rfl ?_ | refine vops_nil ?_ | refine vw_seq ?_ | refine vw_region (by kernel_rfl) ?_ | refine vw_cond rfl ?_)
    refine bs_dec (fun hx1 => ?_) (fun hx1 => ?_)
    · have hc1 : (ints l)[0 + (1 : Int).toNat]? = some (.int .i64 (l.getD 1 0)) := ints_get (by omega)
      repeat (first | refine vops_q tyOk rfl ?_ | refine vops_nil ?_ | refine vw_seq ?_ | refine vw_region (by kernel_rfl) ?_ | refine vops_p tyOk rfl (by (try simp only [inR]); omega) ?_ | refine vw_ret ?_ | refine vops_loadM tyOk rfl rfl rfl (by repeat (first | exact mem_here | apply mem_next | apply mem_past)) (by exact hc1) ?_ | refine vops_litI [-1, (k : Int), l.getD 1 0] tyOk rfl rfl (List.cons_ne_nil _ _) (by rfl) rfl (by omega) (by omega) (fun bu hbu => ?_) | (apply vops_callM (own0 := Src b a cs.length cap i' h') ent170 rfl; (case hp => (repeat (first | exact pm_here | exact pm_last | apply pm_next | apply pm_past))); (case h => (intro w' hg; exact c_pick (l := [-1, (k : Int), l.getD 1 0]) hC hg hi1 hi2 hh1 hh2 (by repeat (first | exact mem_here | apply mem_next | apply mem_past)) rfl (by simp) (by simp))); (rintro _ newM ⟨x, hx, rfl, i', h', hi1, hi2, hh1, hh2, rfl⟩)) | ((show VOps _ _ _ _ (⟨none, Go.Op.store _ _ _, _, _, _, none⟩ :: _) _ _); refine vops_storeIM tyOk rfl rfl rfl rfl (by repeat (first | exact upd_here | apply upd_next | apply upd_past)) (by omega) ?_))
      exact out2 rfl rfl rfl (new := [(bl2, ⟨ints (l.set (Int.toNat 0) x), 2, cl2 * 1, none⟩)]) (hnd1 _) (by repeat (first | exact sub_hereL | exact sub_refl | apply sub_cons | apply sub_app)) (fin _ _ z (by rw [List.length_set]; exact hlz) (by omega) (by omega))
    · repeat (first | refine vops_q tyOk rfl ?_ | refine vops_nil ?_ | refine vw_seq ?_ | refine vw_region (by kernel_rfl) ?_ | refine vw_cond rfl ?_)
      refine bs_dec (fun hx2 => ?_) (fun hx2 => ?_)
      · repeat (first | refine vops_q tyOk rfl ?_ | refine vw_region (by kernel_rfl) ?_ | refine vops_p tyOk rfl (by (try simp only [inR]); omega) ?_)
        refine vops_perm (own' := (bl2, ⟨ints l, 2, cl2 * 1, none⟩) :: (Src b a cs.length cap i' h' ++ [(bt, ⟨ints [4, 5, 8, 9, 12, 16, 13], 2, 7 * 1, none⟩)])) List.perm_middle ?_
        refine vops_take (cs := ints (l.take ((z : Int) - 1).toNat)) ⟨ints (l.drop ((z : Int) - 1).toNat), by unfold ints; rw [← List.map_append, List.take_append_drop]⟩ ?_
        refine vops_sliceTo tyOk (.slice (some ⟨bl2, 0, none⟩) ((z : Int) - 1).toNat cl2) rfl rfl rfl rfl rfl (by omega) (sliced_f0 _ _ _ _) ?_
        repeat (first | refine vops_q tyOk rfl ?_ | refine vops_nil ?_ | refine vw_seq ?_ | refine vw_region (by kernel_rfl) ?_ | refine vw_ret ?_)
        exact out2 rfl rfl rfl (new := [(bl2, ⟨ints (l.take ((z : Int) - 1).toNat), 2, cl2 * 1, none⟩)]) (hnd1 _) (by repeat (first | exact sub_hereL | exact sub_refl | apply sub_cons | apply sub_app)) (fin _ _ _ (by rw [List.length_take]; omega) (by omega) (by omega))
      · repeat (first | refine vops_q tyOk rfl ?_ | refine vops_nil ?_ | refine vw_seq ?_ | refine vw_region (by kernel_rfl) ?_ | refine vw_skip ?_ | refine vw_ret ?_)
        exact out2 rfl rfl rfl (new := [(bl2, ⟨ints l, 2, cl2 * 1, none⟩)]) (hnd1 _) (by repeat (first | exact sub_hereL | exact sub_refl | apply sub_cons | apply sub_app)) (fin _ l z hlz (by omega) (by omega))
/-- An evening and a list that have been drawn. -/
def EvI (v : Value) (new : Own) : Prop := ∃ (m : Int) (ls : List (List Int)) (p : Option Addr) (c : Nat) (l : List Int) (pl : Option Addr) (cl : Nat) (newE newL : Own), -2000 ≤ m ∧ m ≤ 2000 ∧ ls.length ≤ 50 ∧ (∀ l ∈ ls, l.length ≤ 40) ∧ l.length ≤ 1000 ∧ v = .tuple #[.agg #[.int .i64 m, .slice p ls.length c], .slice pl l.length cl] ∧ NewE 42 ls (.slice p ls.length c) newE ∧ NewI 2 l (.slice pl l.length cl) newL ∧ new = newE ++ newL
set_option maxHeartbeats 2000000 in
set_option maxRecDepth 100000 in
theorem c_DrawRenumberPlayers (a : Option Addr) (cs : List Nat) (cap : Nat) (w : World) (hB : RdB w a cs) (hcs : ∀ c ∈ cs, c < 256) (hl : cs.length ≤ 1048576) :
    Calls Try.prog 70 [.slice a cs.length cap].toArray w (Res w EvI) := by
  have hC : ∀ {b : Nat}, SrcCtx ⟨w, []⟩ b a cs := SrcCtx.fresh hB hcs hl
  refine calls_of_vw Try.func70 rfl Try.ntmps70 (by simp) ?_
  refine vw_seq (vw_region (by kernel_rfl) (vops_allocZ [.int .i64 0, .slice none 0 0] tyOk rfl rfl (by simp) (fun b2 hb2 => ?_)))
  repeat (first | refine vops_q tyOk rfl ?_ | refine vops_nil ?_ | refine vw_seq ?_ | refine vw_region (by kernel_rfl) ?_ | (apply vops_call ent134 rfl; (intro w' hg; exact c_fromG a cs cap w' (hB.same hg.fr) hcs hl); (rintro _ newN ⟨b, i', h', rfl, hi1, hi2, hh1, hh2, rfl⟩)) | (apply vops_call ent159 rfl; (intro w' hg; exact c_l06Draw a cs cap w' (hB.same hg.fr) hcs hl); (rintro _ newN ⟨m, ls, p, c, hm0, hm1, hll, hrl, rfl, hE⟩)) | refine vops_allocZ [.int .i64 0, .slice none 0 0] tyOk rfl rfl (by simp) (fun b5 hb5 => ?_) | ((show VOps _ _ _ _ (⟨some _, Go.Op.load _ _, _, _, _, none⟩ :: _) _ _); refine vops_loadM tyOk rfl rfl rfl (by repeat (first | exact mem_here | apply mem_next | apply mem_past)) (by rfl) ?_) | ((show VOps _ _ _ _ (⟨none, Go.Op.store _ _ _, _, _, _, none⟩ :: _) _ _); refine vops_storeAM tyOk rfl rfl rfl (by first | rfl | (rw [ints_length]; first | assumption | omega | (rw [ints_length]; first | assumption | omega | simp [*])) | simp [*]) (by first | exact ints_one | simp [Value.oneCell']) (by repeat (first | exact upd_here | apply upd_next | apply upd_past)) (by first | rfl | (rw [ints_length]; first | assumption | omega | (rw [ints_length]; first | assumption | omega | simp [*])) | simp [*]) ?_))
  have hC := @hC b
  repeat (first | refine vops_max rfl rfl ?_ | refine vops_min rfl rfl ?_)
  obtain ⟨k, hk, hk1, hk16⟩ : ∃ k : Nat, (if (16 : Int) < (if 1 > m then 1 else m) then 16 else (if 1 > m then 1 else m)) = (k : Int) ∧ 1 ≤ k ∧ k ≤ 16 := ⟨(if (16 : Int) < (if 1 > m then 1 else m) then (16 : Int) else (if 1 > m then 1 else m)).toNat, by split <;> (try split) <;> omega, by split <;> (try split) <;> omega, by split <;> (try split) <;> omega⟩
  rw [hk]
  repeat (first | refine vops_q tyOk rfl ?_ | refine vops_nil ?_ | refine vw_seq ?_ | refine vw_region (by kernel_rfl) ?_ | (apply vops_callM ent171 rfl; (case h => (intro w' hg; exact c_order (cap := cap) hC hg hi1 hi2 hh1 hh2 (by omega))); (case hp => (repeat (first | exact pm_here | exact pm_last | apply pm_next | apply pm_past))); (rintro _ newM ⟨l2, pl2, cl2, newl2, i', h', rfl, hO2, hNl2, hi1, hi2, hh1, hh2, rfl⟩; obtain ⟨bl2, rfl, rfl, hkc, hcm, _⟩ := NewF.blk (show NewF 2 1 k l2 _ _ from by have h := NewI.f hNl2; rwa [hO2.len] at h) (by omega); rw [List.append_assoc])))
  refine vops_nodup (fun hnd => ?_)
  have hids : ∀ B : Blk, ids (newN ++ [(bl2, B)]) = ids newN ++ [bl2] := fun B => by simp [ids]
  have hnd2 : (ids newN ++ [bl2]).Nodup := by
    rw [← hids ⟨ints l2, 2, cl2 * 1, none⟩]
    exact OLe.nodup (by refine ole_app (by repeat (first | exact pm_here | exact pm_last | apply pm_next | apply pm_past)) ?_; exact ole_last (by repeat (first | exact pm_here | exact pm_last | apply pm_next | apply pm_past))) hnd
  have hlk := hO2.len
  have fin : ∀ L : List Int, L.length = k → EvI (.tuple #[.agg #[.int .i64 m, .slice p ls.length c], .slice (some ⟨bl2, 0, none⟩) k cl2]) (newN ++ [(bl2, ⟨ints L, 2, cl2 * 1, none⟩)]) := fun L hL => by
    subst hL
    exact ⟨m, ls, p, c, L, _, cl2, newN, _, hm0, hm1, hll, hrl, by omega, rfl, hE, NewI.lit rfl hkc hcm, rfl⟩
  repeat (first | refine vops_q tyOk rfl ?_ | refine vops_nil ?_ | refine vw_cond rfl ?_ | (apply vops_callM ent156 rfl; (case h => (intro w' hg; exact c_next (hC.at (cap := cap) hg hi1 hi2 hh1 hh2) (by omega))); (case hp => (repeat (first | exact pm_here | exact pm_last | apply pm_next | apply pm_past))); (rintro _ newM ⟨x, rfl, hx0, hx1, i', h', hi1, hi2, hh1, hh2, rfl⟩)))
  refine bs_dec (fun hx => ?_) (fun hx => ?_)
  · have hc1 : (ints l2)[0 + ((k : Int) - 1).toNat]? = some (.int .i64 (l2.getD (k - 1) 0)) := by
      rw [show 0 + ((k : Int) - 1).toNat = k - 1 by omega]; exact ints_get (by omega)
    repeat (first | refine vops_q tyOk rfl ?_ | refine vops_nil ?_ | refine vw_seq ?_ | refine vw_region (by kernel_rfl) ?_ | refine vops_p tyOk rfl (by (try simp only [inR]); omega) ?_ | refine vw_ret ?_ | refine vops_loadM tyOk rfl rfl rfl (by repeat (first | exact mem_here | apply mem_next | apply mem_past)) (by exact hc1) ?_ | refine vops_litI [-1, 16, l2.getD (k - 1) 0] tyOk rfl rfl (List.cons_ne_nil _ _) (by rfl) rfl (by omega) (by omega) (fun bu hbu => ?_) | (apply vops_callM (own0 := Src b a cs.length cap i' h') ent170 rfl; (case hp => (repeat (first | exact pm_here | exact pm_last | apply pm_next | apply pm_past))); (case h => (intro w' hg; exact c_pick (l := [-1, 16, l2.getD (k - 1) 0]) hC hg hi1 hi2 hh1 hh2 (by repeat (first | exact mem_here | apply mem_next | apply mem_past)) rfl (by simp) (by simp))); (rintro _ newM ⟨x, hx, rfl, i', h', hi1, hi2, hh1, hh2, rfl⟩)) | ((show VOps _ _ _ _ (⟨some _, Go.Op.load _ _, _, _, _, none⟩ :: _) _ _); refine vops_loadNM tyOk rfl rfl rfl (by repeat (first | exact mem_here | apply mem_next | apply mem_past)) (by first | rfl | (rw [ints_length]; first | assumption | omega | (rw [ints_length]; first | assumption | omega | simp [*])) | simp [*]) ?_) | ((show VOps _ _ _ _ (⟨none, Go.Op.store _ _ _, _, _, _, none⟩ :: _) _ _); first | refine vops_storeIM tyOk rfl rfl rfl rfl (by repeat (first | exact upd_here | apply upd_next | apply upd_past)) (by omega) ?_ | refine vops_storeAM tyOk rfl rfl rfl (by first | rfl | (rw [ints_length]; first | assumption | omega | (rw [ints_length]; first | assumption | omega | simp [*])) | simp [*]) (by first | exact ints_one | simp [Value.oneCell']) (by repeat (first | exact upd_here | apply upd_next | apply upd_past)) (by first | rfl | (rw [ints_length]; first | assumption | omega | (rw [ints_length]; first | assumption | omega | simp [*])) | simp [*]) ?_))
    exact ⟨_, newN ++ [(bl2, ⟨ints (l2.set (Int.toNat 0) x), 2, cl2 * 1, none⟩)], rv_cell2 (x := .slice (some ⟨bl2, 0, none⟩) k cl2) (cs := [.int .i64 m, .slice p ls.length c]) tyOk rfl rfl rfl rfl rfl (fun j v hj => by rw [Nat.zero_add j]; exact sees_mem (by repeat (first | exact mem_here | apply mem_next | apply mem_past)) hj) rfl, by rw [hids]; exact hnd2, fun q hq => (List.mem_append.1 hq).elim ((show Go.VL.Sub newN _ from (by repeat (first | exact sub_hereL | exact sub_refl | apply sub_cons | apply sub_app))) q) ((show Go.VL.Sub [_] _ from (by repeat (first | exact sub_hereL | exact sub_refl | apply sub_cons | apply sub_app))) q), fin (l2.set (Int.toNat 0) x) (by rw [List.length_set]; exact hlk)⟩
  · repeat (first | refine vops_q tyOk rfl ?_ | refine vops_nil ?_ | refine vw_seq ?_ | refine vw_region (by kernel_rfl) ?_ | refine vw_skip ?_ | refine vw_ret ?_ | ((show VOps _ _ _ _ (⟨some _, Go.Op.load _ _, _, _, _, none⟩ :: _) _ _); refine vops_loadNM tyOk rfl rfl rfl (by repeat (first | exact mem_here | apply mem_next | apply mem_past)) (by first | rfl | (rw [ints_length]; first | assumption | omega | (rw [ints_length]; first | assumption | omega | simp [*])) | simp [*]) ?_) | ((show VOps _ _ _ _ (⟨none, Go.Op.store _ _ _, _, _, _, none⟩ :: _) _ _); refine vops_storeAM tyOk rfl rfl rfl (by first | rfl | (rw [ints_length]; first | assumption | omega | (rw [ints_length]; first | assumption | omega | simp [*])) | simp [*]) (by first | exact ints_one | simp [Value.oneCell']) (by repeat (first | exact upd_here | apply upd_next | apply upd_past)) (by first | rfl | (rw [ints_length]; first | assumption | omega | (rw [ints_length]; first | assumption | omega | simp [*])) | simp [*]) ?_))
    exact ⟨_, newN ++ [(bl2, ⟨ints l2, 2, cl2 * 1, none⟩)], rv_cell2 (x := .slice (some ⟨bl2, 0, none⟩) k cl2) (cs := [.int .i64 m, .slice p ls.length c]) tyOk rfl rfl rfl rfl rfl (fun j v hj => by rw [Nat.zero_add j]; exact sees_mem (by repeat (first | exact mem_here | apply mem_next | apply mem_past)) hj) rfl, by rw [hids]; exact hnd2, fun q hq => (List.mem_append.1 hq).elim ((show Go.VL.Sub newN _ from (by repeat (first | exact sub_hereL | exact sub_refl | apply sub_cons | apply sub_app))) q) ((show Go.VL.Sub [_] _ from (by repeat (first | exact sub_hereL | exact sub_refl | apply sub_cons | apply sub_app))) q), fin l2 hlk⟩
end Go.Proofs.Ytdgaabkgfbihpaa

/- A part of the proof: W32. No conditions of its own. -/
namespace Go.Proofs.Ytdgaabkgfbihpaa
open Go.VL
attribute [local irreducible] VWr VOps VD Calls

set_option maxHeartbeats 1000000 in
set_option maxRecDepth 100000 in
theorem c_evening9 (m : Int) (v u : Value) (ls : List (List Int)) (w : World) (hv : RdII w v ls) (hu : RdII w u ls) (hl : ls.length ≤ 1048576) (hll : ∀ l ∈ ls, l.length ≤ 1048576) :
    Calls Try.prog 69 [.agg #[.int .i64 m, v], .agg #[.int .i64 m, u]].toArray w (Res w (Is (.bool true))) := by
  obtain ⟨a, cap, rfl⟩ := hv.len
  obtain ⟨a2, cap2, rfl⟩ := hu.len
  refine calls_of_vw Try.func69 rfl Try.ntmps69 (by simp) ?_
  refine vw_seq (vw_region (by kernel_rfl) (vops_box [.int .i64 m, .slice a ls.length cap] rfl (fun b2 hb2 => vops_box [.int .i64 m, .slice a2 ls.length cap2] rfl (fun b3 hb3 => ?_))))
  repeat (first | refine vops_q tyOk rfl ?_ | refine vops_nil ?_ | refine vw_seq ?_ | refine vw_region (by kernel_rfl) ?_ | refine vops_guardT rfl rfl ?_ | ((show VOps _ _ _ _ (⟨some _, Go.Op.load _ _, _, _, _, none⟩ :: _) _ _); refine vops_loadM tyOk rfl rfl rfl (by repeat (first | exact mem_here | apply mem_next | apply mem_past)) (by rfl) ?_))
  refine bs_dec (fun _ => ?_) (fun h => absurd rfl h)
  repeat (first | refine vops_q tyOk rfl ?_ | refine vops_nil ?_ | refine vops_guardT rfl rfl ?_ | with_reducible refine bs_true ?_ | refine vw_ret ?_ | (apply vops_callp ent46 rfl; (intro w' hg; exact c_rows9 _ _ ls w' (hv.same hg.fr) (hu.same hg.fr) hl hll)) | ((show VOps _ _ _ _ (⟨some _, Go.Op.load _ _, _, _, _, none⟩ :: _) _ _); refine vops_loadM tyOk rfl rfl rfl (by repeat (first | exact mem_here | apply mem_next | apply mem_past)) (by rfl) ?_))
  exact rv_bool rfl rfl rfl
set_option maxHeartbeats 1000000 in
set_option maxRecDepth 100000 in
theorem c_schedule9 (n : Int) (v u : Value) (rs : List (List Int)) (w : World) (hv : RdS w v rs) (hu : RdS w u rs) (hr : ∀ r ∈ rs, r.length = 14) (hl : rs.length ≤ 1048576) :
    Calls Try.prog 65 [.agg #[.int .i64 n, v], .agg #[.int .i64 n, u]].toArray w (Res w (Is (.bool true))) := by
  obtain ⟨a, cap, rfl⟩ := hv.len
  obtain ⟨a2, cap2, rfl⟩ := hu.len
  refine calls_of_vw Try.func65 rfl Try.ntmps65 (by simp) ?_
  refine vw_seq (vw_region (by kernel_rfl) (vops_box [.int .i64 n, .slice a rs.length cap] rfl (fun b2 hb2 => vops_box [.int .i64 n, .slice a2 rs.length cap2] rfl (fun b3 hb3 => ?_))))
  repeat (first | refine vops_q tyOk rfl ?_ | refine vops_nil ?_ | refine vw_seq ?_ | refine vw_region (by kernel_rfl) ?_ | refine vops_guardF rfl rfl ?_ | ((show VOps _ _ _ _ (⟨some _, Go.Op.load _ _, _, _, _, none⟩ :: _) _ _); refine vops_loadM tyOk rfl rfl rfl (by repeat (first | exact mem_here | apply mem_next | apply mem_past)) (by rfl) ?_))
  refine bs_ndec2 (fun h => absurd rfl h) (fun _ => ?_)
  repeat (first | refine vops_q tyOk rfl ?_ | refine vops_nil ?_ | refine vops_guardF rfl rfl ?_ | with_reducible refine bs_false ?_ | refine vw_cond rfl ?_ | ((show VOps _ _ _ _ (⟨some _, Go.Op.load _ _, _, _, _, none⟩ :: _) _ _); refine vops_loadM tyOk rfl rfl rfl (by repeat (first | exact mem_here | apply mem_next | apply mem_past)) (by rfl) ?_))
  refine bs_ndec2 (fun h => absurd rfl h) (fun _ => ?_)
  repeat (first | refine vops_q tyOk rfl ?_ | refine vops_nil ?_ | refine vw_seq ?_ | refine vw_region (by kernel_rfl) ?_ | refine vw_skip ?_ | refine vw_block ?_)
  obtain ⟨O0, hO0⟩ : ∃ O0 : Own, O0 = [(b3, (⟨[.int .i64 n, .slice a2 rs.length cap2], 26, 2, none⟩ : Blk)), (b2, ⟨[.int .i64 n, .slice a rs.length cap], 26, 2, none⟩)] := ⟨_, rfl⟩
  refine vw_loop (fun y f own => ∃ i : Nat, i ≤ rs.length ∧ y = rs.length - i ∧ f 5 = .int .i64 i ∧ f 2 = .pointer (some ⟨b2, 0, none⟩) ∧ f 3 = .pointer (some ⟨b3, 0, none⟩) ∧ own = [(b3, (⟨[.int .i64 n, .slice a2 rs.length cap2], 26, 2, none⟩ : Blk)), (b2, ⟨[.int .i64 n, .slice a rs.length cap], 26, 2, none⟩)]) rs.length
    ⟨0, by omega, by omega, rfl, rfl, rfl, rfl⟩ ?_
  rintro y f own ⟨i, hi, rfl, h5, h2, h3, rfl⟩
  rw [upd_of h5, upd_of h2, upd_of h3]
  repeat (first | refine vops_q tyOk rfl ?_ | refine vops_nil ?_ | refine vw_seq ?_ | refine vw_region (by kernel_rfl) ?_ | refine vw_cond rfl ?_ | ((show VOps _ _ _ _ (⟨some _, Go.Op.load _ _, _, _, _, none⟩ :: _) _ _); refine vops_loadM tyOk rfl rfl rfl (by repeat (first | exact mem_here | apply mem_next | apply mem_past)) (by rfl) ?_))
  refine bs_dec (fun hlt => ?_) (fun hlt => ?_)
  · have hil : i < rs.length := by omega
    have hgl : rs[i]? = some (rs.getD i []) := by rw [List.getD_eq_getElem?_getD, List.getElem?_eq_getElem hil]; rfl
    obtain ⟨b, o, c, he, hrow⟩ := hv.row hr hgl
    cases he
    obtain ⟨b', o', c', he, hrow'⟩ := hu.row hr hgl
    cases he
    have hrl := hr _ (List.mem_of_getElem? hgl)
    generalize rs.getD i [] = r at *
    repeat (first | refine vw_seq ?_ | refine vw_skip ?_ | refine vw_block ?_)
    refine vw_draw [0, 1, 2, 3, 4, 5, 6, 7, 8, 9, 10] (by kernel_rfl) (by kernel_rfl) (by kernel_rfl) rfl ?_
    repeat' (first | refine vd_q tyOk rfl (by first | trivial | rfl) rfl (by kernel_rfl) (by kernel_rfl) ?_ | refine vd_p tyOk rfl (by first | trivial | rfl) rfl (by kernel_rfl) (by kernel_rfl) (by (try simp only [inR]); omega) ?_ | refine vops_nil ?_ | refine vd_nil (by kernel_rfl) ?_ | refine ⟨fun _ _ _ h => h, ?_⟩ | refine vd_load tyOk rfl (by first | trivial | rfl) rfl rfl rfl (by kernel_rfl) (by kernel_rfl) (by kernel_rfl) (sees_mem (by repeat (first | exact mem_here | apply mem_next | apply mem_past)) (by rfl)) (by repeat (first | exact sub_hereL | exact sub_refl | apply sub_cons | apply sub_app)) ?_ | refine vd_loadN tyOk (ints (r)) rfl (by first | trivial | rfl) rfl rfl rfl (by simp [ints_length, *]) (by kernel_rfl) (by kernel_rfl) (by kernel_rfl) (fun j x hx => sees_old (hrow j x hx) (by simp)) (by first | exact sub_refl | exact sub_cons sub_refl | exact sub_app sub_refl) ?_ | refine vd_loadN tyOk (ints (r)) rfl (by first | trivial | rfl) rfl rfl rfl (by simp [ints_length, *]) (by kernel_rfl) (by kernel_rfl) (by kernel_rfl) (fun j x hx => sees_old (hrow' j x hx) (by simp)) (by first | exact sub_refl | exact sub_cons sub_refl | exact sub_app sub_refl) ?_ | refine vops_neA tyOk rfl rfl rfl rfl rfl rfl (by omega) (by omega) ?_ | refine vd_one rfl (by kernel_rfl) (by kernel_rfl) rfl ?_)
    repeat (first | refine vw_cond rfl ?_)
    refine bs_ndec2 (fun h => absurd rfl h) (fun _ => ?_)
    repeat (first | refine vops_q tyOk rfl ?_ | refine vops_nil ?_ | refine vw_region (by kernel_rfl) ?_ | refine vops_p tyOk rfl (by (try simp only [inR]); omega) ?_ | refine vw_skip ?_)
    exact ⟨rs.length - (i + 1), by omega, i + 1, by omega, rfl, rfl, rfl, rfl, rfl⟩
  · repeat (first | refine vops_q tyOk rfl ?_ | refine vops_nil ?_ | refine vw_seq ?_ | refine vw_region (by kernel_rfl) ?_ | refine vw_ret ?_ | refine vw_exit ?_)
    exact rv_bool rfl rfl rfl
end Go.Proofs.Ytdgaabkgfbihpaa

/- A part of the proof: W33. No conditions of its own. -/
namespace Go.Proofs.Ytdgaabkgfbihpaa
open Go.VL

theorem iS_ok (n : Nat) : ∀ (f : Nat) {l r : List Int}, DiffL n l → l.length + f = n - n % 4 → iS n f l = some r → DiffL n r ∧ r.length = n - n % 4 ∧ CanB n r
  | 0, l, r, hD, hl, h => by
    unfold iS at h
    split at h
    · cases h
      exact ⟨hD, by omega, by assumption⟩
    · cases h
  | f + 1, l, r, hD, hl, h => by
    rw [iS_succ] at h
    split at h
    · cases h
    · obtain ⟨x, hx, h2⟩ := iL_get h
      split at h2
      · cases h2
      · exact iS_ok n f (diff_end hD hx (by assumption)) (by rw [List.length_append, List.length_singleton]; omega) h2
/-- The first base round makes a whist evening. -/
theorem base_whist {n : Nat} (hn : IsBaseN n) {r : List Int} (h : iS n (n - n % 4) [] = some r) : DiffL n r ∧ r.length = n - n % 4 ∧ IsEv n (madeT (mOf n) r (mOf n)) ∧ Whist n (madeT (mOf n) r (mOf n)) := by
  obtain ⟨hD, hl, hc⟩ := iS_ok n _ (diff_nil n) (by simp) h
  obtain ⟨hn4, hn9, hm0, hmn, hn1⟩ := isBaseN_le hn
  have h4 : r.length % 4 = 0 := by omega
  refine ⟨hD, hl, ⟨by omega, by omega, by rw [madeT_length]; omega, evRows_made hn h4 hD⟩, whole_made hn hl, ?_⟩
  rw [Int.toNat_natCast]
  exact (can_whist hn hl hD).1 hc
theorem made_row0 {n m : Nat} (hm : 0 < m) {l : List Int} (hD : DiffL n l) : (madeT m l m)[0]? = some l := by
  rw [madeT_get hm]
  congr 1
  have : l.map (shI m 0) = l.map id := List.map_congr_left fun x hx => by
    have h := hD.1 x hx
    unfold shI
    show (if x < (m : Int) then (x + ((0 : Nat) : Int)) % (m : Int) else x) = x
    by_cases hc : x < (m : Int)
    · rw [if_pos hc, show x + ((0 : Nat) : Int) = x by omega]; exact Int.emod_eq_of_lt h.1 hc
    · rw [if_neg hc]
  rw [this, List.map_id]
theorem renRow_map (q r : List Int) : renRow q r = r.map fun v => q.getD v.toNat 0 := by
  apply List.ext_getElem?
  intro j
  unfold renRow
  by_cases hj : j < r.length
  · have e : r.getD j 0 = r[j] := by rw [List.getD_eq_getElem?_getD, List.getElem?_eq_getElem hj]; rfl
    rw [lst_get hj, List.getElem?_map, List.getElem?_eq_getElem hj, e]; rfl
  · rw [List.getElem?_eq_none (by rw [lst_length]; omega), List.getElem?_eq_none (by rw [List.length_map]; omega)]
theorem renP_flat (q : List Int) (es : List (List Int)) : (renP q es).flatten = es.flatten.map fun v => q.getD v.toNat 0 := by
  unfold renP
  rw [List.map_flatten]
  congr 1
  exact List.map_congr_left fun r _ => renRow_map q r
theorem perm_at {n : Nat} {q : List Int} (hq : IsPerm n q) {x : Nat} (hx : x < n) : 0 ≤ q.getD x 0 ∧ q.getD x 0 < n := hq.2.1 _ (mem_getD (l := q) (i := x) (by have := hq.1; omega))
theorem perm_inj {n : Nat} {q : List Int} (hq : IsPerm n q) {x y : Nat} (hx : x < n) (hy : y < n) (e : q.getD x 0 = q.getD y 0) : x = y := getD_inj hq.2.2 (by have := hq.1; omega) (by have := hq.1; omega) e
theorem relN_ren {n : Nat} {q : List Int} (hq : IsPerm n q) {es : List (List Int)} (h : IsEv n es) (ds : List Nat) {x y : Nat} (hx : x < n) (hy : y < n) : relN ds (renP q es) (q.getD x 0).toNat (q.getD y 0).toNat = relN ds es x y := by
  obtain ⟨M, hM⟩ : ∃ M, es.flatten.length = 4 * M := ⟨es.flatten.length / 4, by have := (flat_len4 h).2; omega⟩
  have px := perm_at hq hx
  have py := perm_at hq hy
  unfold relN
  rw [renP_flat, relP_map _ ds M _ hM]
  unfold hits
  rw [List.filter_map, List.length_map]
  congr 1
  apply List.filter_congr
  intro p hp
  rw [relP_flat0 fun q hq => (h.2.2.2 q hq).1] at hp
  obtain ⟨L, hL, hpL⟩ := List.mem_flatten.1 hp
  obtain ⟨r, hr, rfl⟩ := List.mem_map.1 hL
  have h1 := h.2.2.2 r hr
  obtain ⟨a, b, ha, hb, hab, rfl⟩ := relP_mem (m := r.length / 4) (by have := h1.1; omega) h1.2 hpL
  have pa := perm_at hq (x := a) (by omega)
  have pb := perm_at hq (x := b) (by omega)
  have iax := fun e => perm_inj hq (x := a) (y := x) (by omega) hx e
  have iay := fun e => perm_inj hq (x := a) (y := y) (by omega) hy e
  have ibx := fun e => perm_inj hq (x := b) (y := x) (by omega) hx e
  have iby := fun e => perm_inj hq (x := b) (y := y) (by omega) hy e
  simp only [Function.comp, List.map_cons, List.map_nil, List.getD_cons_zero, List.getD_cons_succ, Int.toNat_natCast]
  refine decide_eq_decide.2 ⟨fun hh => ?_, fun hh => ?_⟩
  · rcases hh with ⟨e1, e2⟩ | ⟨e1, e2⟩
    · exact .inl ⟨by rw [iax (by omega)], by rw [iby (by omega)]⟩
    · exact .inr ⟨by rw [iay (by omega)], by rw [ibx (by omega)]⟩
  · rcases hh with ⟨e1, e2⟩ | ⟨e1, e2⟩
    · obtain rfl : a = x := by omega
      obtain rfl : b = y := by omega
      exact .inl ⟨by omega, by omega⟩
    · obtain rfl : a = y := by omega
      obtain rfl : b = x := by omega
      exact .inr ⟨by omega, by omega⟩
theorem onto_injW : ∀ (k : Nat) (f : Nat → Nat), (∀ x, x < k → f x < k) → (∀ x y, x < k → y < k → f x = f y → x = y) → ∀ z, z < k → ∃ x, x < k ∧ f x = z
  | 0, _, _, _, z, hz => by omega
  | k + 1, f, hf, hi, z, hz => by
    by_cases hzk : f k = z
    · exact ⟨k, by omega, hzk⟩
    have hfk := hf k (by omega)
    have := onto_injW k (fun x => if f x = k then f k else f x)
      (fun x hx => by
        show (if f x = k then f k else f x) < k
        by_cases h : f x = k
        · rw [if_pos h]
          have : f k ≠ k := fun e => by have := hi x k (by omega) (by omega) (by omega); omega
          omega
        · rw [if_neg h]; have := hf x (by omega); omega)
      (fun x y hx hy e => by
        have e' : (if f x = k then f k else f x) = (if f y = k then f k else f y) := e
        by_cases h1 : f x = k
        · by_cases h2 : f y = k
          · exact hi x y (by omega) (by omega) (by omega)
          · rw [if_pos h1, if_neg h2] at e'
            have := hi k y (by omega) (by omega) e'; omega
        · by_cases h2 : f y = k
          · rw [if_neg h1, if_pos h2] at e'
            have := hi x k (by omega) (by omega) e'; omega
          · rw [if_neg h1, if_neg h2] at e'
            exact hi x y (by omega) (by omega) e')
    by_cases hz2 : z = k
    · -- k is met by the one whose value k is
      by_cases hex : ∃ x, x < k ∧ f x = k
      · obtain ⟨x, hx, he⟩ := hex
        exact ⟨x, by omega, by omega⟩
      · -- then f maps k + 1 numbers below k, which the inner function shows to be met already
        have hlt : ∀ x, x < k → f x < k := fun x hx => by
          have := hf x (by omega)
          have : f x ≠ k := fun e => hex ⟨x, hx, e⟩
          omega
        obtain ⟨x, hx, he⟩ := onto_injW k f hlt (fun x y hx hy e => hi x y (by omega) (by omega) e) (f k) (by omega)
        have := hi x k (by omega) (by omega) he; omega
    · obtain ⟨x, hx, he⟩ := this z (by omega)
      have he' : (if f x = k then f k else f x) = z := he
      by_cases h : f x = k
      · rw [if_pos h] at he'; exact absurd he' hzk
      · rw [if_neg h] at he'; exact ⟨x, by omega, he'⟩


theorem perm_ontoW {n : Nat} {q : List Int} (hq : IsPerm n q) {x : Nat} (hx : x < n) : ∃ a, a < n ∧ (q.getD a 0).toNat = x :=
  onto_injW n (fun a => (q.getD a 0).toNat) (fun a ha => by have := perm_at hq ha; show (q.getD a 0).toNat < n; omega)
    (fun a b ha hb e => by
      have pa := perm_at hq ha
      have pb := perm_at hq hb
      have e' : (q.getD a 0).toNat = (q.getD b 0).toNat := e
      exact perm_inj hq ha hb (by omega)) x hx
theorem each_ren {n : Nat} {q : List Int} (hq : IsPerm n q) {es : List (List Int)} (h : IsEv n es) (ds : List Nat) (c : Nat) : EachIs n ds (renP q es) c ↔ EachIs n ds es c := by
  constructor
  · intro hE x y hx hy hxy
    have px := perm_at hq hx
    have py := perm_at hq hy
    rw [← relN_ren hq h ds hx hy]
    exact hE _ _ (by omega) (by omega) fun e => hxy (perm_inj hq hx hy (by omega))
  · intro hE x y hx hy hxy
    obtain ⟨a, ha, rfl⟩ := perm_ontoW hq hx
    obtain ⟨b, hb, rfl⟩ := perm_ontoW hq hy
    rw [relN_ren hq h ds ha hb]
    exact hE a b ha hb fun e => hxy (by rw [e])
/-- Whist does not hang on the numbers. -/
theorem whist_ren {n : Nat} {q : List Int} (hq : IsPerm n q) {es : List (List Int)} (h : IsEv n es) : Whist n (renP q es) ↔ Whist n es := by
  unfold Whist
  rw [Int.toNat_natCast, each_ren hq h, each_ren hq h]
  have hw : WholeR n (renP q es) ↔ WholeR n es := by
    unfold WholeR
    rw [renP_length]
    refine ⟨fun ⟨h1, h2, h3⟩ => ⟨h1, h2, fun r hr => ?_⟩, fun ⟨h1, h2, h3⟩ => ⟨h1, h2, fun r hr => ?_⟩⟩
    · have := h3 (renRow q r) (List.mem_map.2 ⟨r, hr, rfl⟩)
      rwa [renRow_length] at this
    · obtain ⟨r0, hr0, rfl⟩ := List.mem_map.1 hr
      rw [renRow_length]; exact h3 r0 hr0
  rw [hw]
end Go.Proofs.Ytdgaabkgfbihpaa

/- A part of the proof: W34. No conditions of its own. -/
namespace Go.Proofs.Ytdgaabkgfbihpaa
open Go.VL

theorem xor1_idx (k : Nat) : k / 4 * 4 + (k % 4 ^^^ 1) = k ^^^ 1 := by
  rcases Nat.mod_two_eq_zero_or_one k with h | h
  · obtain ⟨q, rfl⟩ : ∃ q, k = 2 * q := ⟨k / 2, by omega⟩
    rw [xor1_even]
    have h4 : 2 * q % 4 = 2 * (q % 2) := by omega
    rw [h4, xor1_even]; omega
  · obtain ⟨q, rfl⟩ : ∃ q, k = 2 * q + 1 := ⟨k / 2, by omega⟩
    rw [xor1_odd]
    have h4 : (2 * q + 1) % 4 = 2 * (q % 2) + 1 := by omega
    rw [h4, xor1_odd]; omega
theorem ordW_par (r : List Int) (k x y : Nat) : ordW [1] r k x y = if r.getD k 0 = (x : Int) ∧ r.getD (k ^^^ 1) 0 = (y : Int) then 1 else 0 := by
  rw [ordW_cons, xor1_idx]
  simp [ordW]
theorem ordC_at {n : Int} {r : List Int} (hD : DiffL n r) {j x : Nat} (hj : j < r.length) (hx : r.getD j 0 = (x : Int)) (y : Nat) : ∀ K, K ≤ r.length → ordC [1] r x y K = if j < K ∧ r.getD (j ^^^ 1) 0 = (y : Int) then 1 else 0
  | 0, _ => by simp [ordC]
  | K + 1, hK => by
    rw [ordC, ordC_at hD hj hx y K (by omega), ordW_par]
    by_cases e : K = j
    · subst e
      rw [if_neg (by omega), hx]
      by_cases hc : r.getD (K ^^^ 1) 0 = (y : Int)
      · rw [if_pos ⟨rfl, hc⟩, if_pos ⟨by omega, hc⟩]
      · rw [if_neg fun h => hc h.2, if_neg fun h => hc h.2]
    · have hne : r.getD K 0 ≠ (x : Int) := by rw [← hx]; exact hD.ne (by omega) hj e
      rw [if_neg (c := r.getD K 0 = (x : Int) ∧ _) fun h => hne h.1, Nat.add_zero]
      by_cases hc : r.getD (j ^^^ 1) 0 = (y : Int)
      · by_cases hjK : j < K
        · rw [if_pos ⟨hjK, hc⟩, if_pos ⟨by omega, hc⟩]
        · rw [if_neg fun h => hjK h.1, if_neg fun h => by omega]
      · rw [if_neg fun h => hc h.2, if_neg fun h => hc h.2]
theorem ordC_out {r : List Int} {x : Nat} (hx : (x : Int) ∉ r) (y : Nat) : ∀ K, K ≤ r.length → ordC [1] r x y K = 0
  | 0, _ => rfl
  | K + 1, hK => by
    rw [ordC, ordC_out hx y K (by omega), ordW_par, if_neg fun h => hx (by rw [← h.1]; exact mem_getD (by omega))]
theorem setTo_at {n : Int} {r base : List Int} (hD : DiffL n r) (hn : n ≤ base.length) {j : Nat} : ∀ K, K ≤ r.length → j < K → (setTo r base K).getD (r.getD j 0).toNat 0 = r.getD (j ^^^ 1) 0
  | 0, _, h => by omega
  | K + 1, hK, h => by
    have hj := hD.get (i := j) (by omega)
    have hk := hD.get (i := K) (by omega)
    rw [setTo]
    by_cases e : j = K
    · subst e
      rw [List.getD_eq_getElem?_getD, List.getElem?_set_self (by rw [setTo_length]; omega)]; rfl
    · have hne : r.getD K 0 ≠ r.getD j 0 := hD.ne (by omega) (by omega) (Ne.symm e)
      rw [List.getD_eq_getElem?_getD, List.getElem?_set_ne (by omega), ← List.getD_eq_getElem?_getD]
      exact setTo_at hD hn K (by omega) (by omega)
theorem setTo_out {n : Int} {r base : List Int} (hD : DiffL n r) {a : Nat} (ha : (a : Int) ∉ r) : ∀ K, K ≤ r.length → (setTo r base K).getD a 0 = base.getD a 0
  | 0, _ => rfl
  | K + 1, hK => by
    have hk := hD.get (i := K) (by omega)
    have hne : r.getD K 0 ≠ (a : Int) := fun e => ha (by rw [← e]; exact mem_getD (by omega))
    rw [setTo, List.getD_eq_getElem?_getD, List.getElem?_set_ne (by omega), ← List.getD_eq_getElem?_getD]
    exact setTo_out hD ha K (by omega)
theorem xor1_two (j : Nat) : (j ^^^ 1) ^^^ 1 = j := by rw [Nat.xor_assoc, Nat.xor_self, Nat.xor_zero]
theorem par_in {n : Nat} {r : List Int} (hr : EvRow n r) (hn : n ≤ 14) {j : Nat} (hj : j < r.length) : (parRow n r).getD (r.getD j 0).toNat 0 = r.getD (j ^^^ 1) 0 :=
  setTo_at hr.2 (by rw [freeTo_length]; omega) _ (Nat.le_refl _) hj
theorem par_out {n : Nat} {r : List Int} (hr : EvRow n r) {a : Nat} (ha14 : a < 14) (ha : (a : Int) ∉ r) : (parRow n r).getD a 0 = if (a : Int) < n then (a : Int) else 0 := by
  unfold parRow
  rw [setTo_out hr.2 ha _ (Nat.le_refl _), freeTo_get _ _ ha14]
theorem mem_atW {r : List Int} {x : Int} (h : x ∈ r) : ∃ j, j < r.length ∧ r.getD j 0 = x := by
  obtain ⟨j, hj⟩ := List.mem_iff_getElem?.1 h
  exact ⟨j, (List.getElem?_eq_some_iff.1 hj).1, by rw [List.getD_eq_getElem?_getD, hj]; rfl⟩
theorem par_hits {n : Nat} {r : List Int} (hr : EvRow n r) (hn : n ≤ 14) {x y : Nat} (hx : x < n) (hxy : x ≠ y) : hits (relP [1] r) x y = if (parRow n r).getD x 0 = (y : Int) then 1 else 0 := by
  rw [← ord_all hr (by simp) x y]
  by_cases hm : (x : Int) ∈ r
  · obtain ⟨j, hj, he⟩ := mem_atW hm
    rw [ordC_at hr.2 hj he y _ (Nat.le_refl _)]
    have hp := par_in hr hn hj
    rw [he, Int.toNat_natCast] at hp
    rw [hp]
    by_cases hc : r.getD (j ^^^ 1) 0 = (y : Int)
    · rw [if_pos ⟨hj, hc⟩, if_pos hc]
    · rw [if_neg fun h => hc h.2, if_neg hc]
  · rw [ordC_out hm y _ (Nat.le_refl _), par_out hr (by omega) hm, if_pos (show (x : Int) < n by omega), if_neg (by omega)]
theorem par_rd {n : Nat} {r : List Int} (hr : EvRow n r) (h2 : 2 ≤ n) (hn : n ≤ 14) : IsRd n (parRow n r) := by
  refine ⟨by omega, by omega, fun a ha => ?_⟩
  by_cases hm : (a : Int) ∈ r
  · have hb := hr.2.1 _ hm
    obtain ⟨j, hj, he⟩ := mem_atW hm
    have hx := xor1_lt hj hr.1
    have hp := par_in hr hn hj
    have hp2 := par_in hr hn hx
    have hv := hr.2.get hx
    rw [xor1_two, he] at hp2
    rw [he, Int.toNat_natCast] at hp
    exact ⟨fun h => by omega, fun _ => by rw [hp]; exact ⟨hv.1, by omega, hp2⟩⟩
  · have hp := par_out hr ha hm
    refine ⟨fun h => by rw [hp, if_neg (by omega)], fun h => ?_⟩
    rw [if_pos h] at hp
    rw [hp]
    exact ⟨by omega, by omega, by rw [Int.toNat_natCast]; exact hp⟩
theorem filt_sum (f : List Int → List Int) (p : List Int → Bool) : ∀ es : List (List Int), ((es.map f).filter p).length = (es.map fun r => if p (f r) then 1 else 0).sum
  | [] => rfl
  | r :: es => by
    rw [List.map_cons, List.filter_cons, List.map_cons, List.sum_cons, ← filt_sum f p es]
    split
    · rw [List.length_cons]; omega
    · omega
theorem par_cnt {n : Nat} {es : List (List Int)} (h : IsEv n es) (hn : n ≤ 14) {x y : Nat} (hx : x < n) (hxy : x ≠ y) : cnt (es.map (parRow n)) x y = relN [1] es x y := by
  unfold cnt relN
  rw [if_neg hxy, relP_flat0 fun q hq => (h.2.2.2 q hq).1, hits_flat, List.map_map, filt_sum]
  congr 1
  refine List.map_congr_left fun r hr => ?_
  show (if decide _ = true then 1 else 0) = hits (relP [1] r) x y
  rw [par_hits (h.2.2.2 r hr) hn hx hxy]
  simp only [decide_eq_true_eq]
open Classical in
/-- The partners of a whist evening make a round robin. -/
theorem whist_robin {n : Nat} {es : List (List Int)} (h : IsEv n es) (hn : n ≤ 14) (hw : Whist n es) : robin n (es.map (parRow n)) = (true, 0) := by
  have h4 := h.1
  have hS : IsSch n (es.map (parRow n)) := by
    refine ⟨by omega, by omega, by have := h.2.2.1; rw [List.length_map]; omega, fun i r hi => ?_⟩
    rw [List.getElem?_map] at hi
    obtain ⟨q, hq, rfl⟩ := Option.map_eq_some_iff.1 hi
    exact par_rd (h.2.2.2 q (List.mem_of_getElem? hq)) (by omega) hn
  unfold robin
  rw [if_pos hS, Int.toNat_natCast, decide_eq_true]
  refine ⟨?_, fun a b ha hb hab => ?_⟩
  · have h1 := hw.1.1
    have h2 := hw.1.2.1
    rw [List.length_map]
    unfold robinR
    omega
  · have h1 := hw.2.1
    rw [Int.toNat_natCast] at h1
    rw [par_cnt h hn ha hab]
    exact h1 a b ha hb hab
end Go.Proofs.Ytdgaabkgfbihpaa

/- A part of the proof: W36. No conditions of its own. -/
namespace Go.Proofs.Ytdgaabkgfbihpaa
open Go.VL
theorem ren_ev {n : Nat} {q : List Int} (hq : IsPerm n q) {es : List (List Int)} (h : IsEv n es) : IsEv n (renP q es) := by
  refine ⟨h.1, h.2.1, by rw [renP_length]; exact h.2.2.1, fun r hr => ?_⟩
  obtain ⟨r0, hr0, rfl⟩ := List.mem_map.1 hr
  obtain ⟨h4, hb, hn⟩ := h.2.2.2 r0 hr0
  refine ⟨by rw [renRow_length]; exact h4, ?_⟩
  rw [renRow_map]
  refine ⟨fun x hx => ?_, ?_⟩
  · obtain ⟨v, hv, rfl⟩ := List.mem_map.1 hx
    have := hb v hv
    exact perm_at hq (by omega)
  · refine List.pairwise_map.2 (List.Pairwise.imp_of_mem ?_ hn)
    intro a b ha hb' hab e
    have h1 := hb a ha
    have h2 := hb b hb'
    exact hab (by have := perm_inj hq (x := a.toNat) (y := b.toNat) (by omega) (by omega) e; omega)
open Classical in
theorem ren_cases {m rm : Int} {ls rs : List (List Int)} {q : List Int} (h : renPR m ls q = ((rm, rs), 0)) : ∃ b, whistR m ls = (b, 0) ∧ whistR rm rs = (b, 0) := by
  unfold renPR at h
  split at h
  · rename_i hE
    split at h
    · rename_i hq
      cases h
      obtain ⟨n, rfl⟩ : ∃ n : Nat, m = n := ⟨m.toNat, by have := hE.1; omega⟩
      refine ⟨decide (Whist n ls), ?_, ?_⟩
      · unfold whistR; rw [if_pos hE]
      · unfold whistR; rw [if_pos (ren_ev hq hE)]
        congr 1
        exact decide_eq_decide.2 (whist_ren hq hE)
    · simp at h
  · simp at h
theorem made_cases {n mm : Int} {q : List Int} {ms : List (List Int)} (h : madeR n q = ((mm, ms), 0)) : ms[0]? = some q ∧ 3 ≤ ms.length := by
  unfold madeR at h
  split at h
  · rename_i hB
    cases h
    obtain ⟨k, rfl⟩ : ∃ k : Nat, n = k := ⟨n.toNat, by have := hB.1; omega⟩
    have hm : 3 ≤ mOf k := by unfold mOf; have := hB.1; omega
    rw [Int.toNat_natCast]
    exact ⟨made_row0 (by omega) hB.2.2.2.2, by rw [madeT_length]; exact hm⟩
  · simp at h
open Classical in
theorem ev_cases {m wc tc pm pc : Int} {ls ps : List (List Int)} {wb tb : Bool} (hW : whistR m ls = (wb, wc)) (hT : tripleR m ls = (tb, tc)) (hP : parS m ls = ((pm, ps), pc)) :
    (wc ≠ 0 ∧ wb = false ∧ tc = wc ∧ pc = wc) ∨ (wc = 0 ∧ tc = 0 ∧ ((tb = true ∧ wb = true) ∨ (tb = false)) ∧ (wb = true → pc = 0 → robin pm ps = (true, 0))) := by
  by_cases hE : IsEv m ls
  · right
    unfold whistR at hW; rw [if_pos hE] at hW; cases hW
    unfold tripleR at hT; rw [if_pos hE] at hT; cases hT
    refine ⟨rfl, rfl, ?_, fun hw hp => ?_⟩
    · by_cases ht : Whist m ls ∧ EachIs m.toNat [2] ls 1
      · exact .inl ⟨decide_eq_true ht, decide_eq_true ht.1⟩
      · exact .inr (decide_eq_false ht)
    · unfold parS at hP; rw [if_pos hE] at hP
      split at hP
      · cases hP; omega
      · cases hP
        obtain ⟨n, rfl⟩ : ∃ n : Nat, m = n := ⟨m.toNat, by have := hE.1; omega⟩
        exact whist_robin hE (by omega) (of_decide_eq_true hw)
  · left
    unfold whistR at hW; rw [if_neg hE] at hW; cases hW
    unfold tripleR at hT; rw [if_neg hE] at hT; cases hT
    unfold parS at hP; rw [if_neg hE] at hP; cases hP
    exact ⟨by decide, rfl, rfl, rfl⟩
end Go.Proofs.Ytdgaabkgfbihpaa

/- A part of the proof: W35. No conditions of its own. -/
namespace Go.Proofs.Ytdgaabkgfbihpaa
open Go.VL
attribute [local irreducible] VWr VOps VD Calls

theorem sqW {P : Program} {fn : Nat} {args : Array Value} {w : World} {eo ei : Nat} {r : (Int × List (List Int)) × Int} {m : Int} {es : List (List Int)} {c : Int} (h : Calls P fn args w (Res w (PairSq eo ei r))) (hr : r = ((m, es), c)) :
    Calls P fn args w (Res w (fun v new => ∃ p cap, v = .tuple #[.agg #[.int .i64 m, .slice p es.length cap], .int .i64 c] ∧ NewT eo ei es (.slice p es.length cap) new)) := by
  subst hr; exact h
theorem scW {P : Program} {fn : Nat} {args : Array Value} {w : World} {e : Nat} {r : (Int × List (List Int)) × Int} {m : Int} {es : List (List Int)} {c : Int} (h : Calls P fn args w (Res w (PairS e r))) (hr : r = ((m, es), c)) :
    Calls P fn args w (Res w (fun v new => ∃ p cap, v = .tuple #[.agg #[.int .i64 m, .slice p es.length cap], .int .i64 c] ∧ NewR e 14 es (.slice p es.length cap) new)) := by
  subst hr; exact h
theorem bcW {P : Program} {fn : Nat} {args : Array Value} {w : World} {r : Bool × Int} {b : Bool} {c : Int} (h : Calls P fn args w (Res w (Is (.tuple #[.bool r.1, .int .i64 r.2])))) (hr : r = (b, c)) : Calls P fn args w (Res w (Is (.tuple #[.bool b, .int .i64 c]))) := by
  subst hr; exact h
open Classical in
theorem base_cases {n : Int} {r : List Int} (h : baseR n = (r, 0)) : ∃ es : List (List Int), madeR n r = ((n, es), 0) ∧ whistR n es = (true, 0) ∧ es.length ≤ 40 ∧ ∀ l ∈ es, l.length ≤ 40 := by
  unfold baseR at h
  split at h
  · rename_i hn
    obtain ⟨k, rfl⟩ : ∃ k : Nat, n = (k : Int) := ⟨n.toNat, by omega⟩
    rw [Int.toNat_natCast] at h
    have hb : IsBaseN k := by unfold IsBaseN; omega
    cases hs : iS k (k - k % 4) [] with
    | none => rw [hs] at h; simp at h
    | some q =>
      rw [hs] at h
      cases h
      obtain ⟨hD, hl, hE, hW⟩ := base_whist hb hs
      refine ⟨madeT (mOf k) r (mOf k), ?_, ?_, by have := hE.2.2.1; omega, fun l hl => by have := hE.len hl; omega⟩
      · unfold madeR
        rw [if_pos ⟨by omega, by omega, by omega, by omega, hD⟩, Int.toNat_natCast]
      · unfold whistR
        rw [if_pos hE, decide_eq_true hW]
  · simp at h
set_option maxHeartbeats 2000000 in
set_option maxRecDepth 100000 in
theorem c_DrawIsWhist (a : Option Addr) (cs : List Nat) (cap : Nat) (w : World) (hB : RdB w a cs) (hcs : ∀ c ∈ cs, c < 256) (hl : cs.length ≤ 1048576) :
    Calls Try.prog 58 [.slice a cs.length cap].toArray w (Res w EvNew) := by
  refine calls_of_vw Try.func58 rfl Try.ntmps58 (by simp) ?_
  refine vw_seq (vw_region (by kernel_rfl) (vops_allocZ [.int .i64 0, .slice none 0 0] tyOk rfl rfl (by simp) (fun b2 hb2 => ?_)))
  repeat (first | refine vops_q tyOk rfl ?_ | refine vops_nil ?_ | refine vw_seq ?_ | refine vw_region (by kernel_rfl) ?_)
  apply vops_call ent159 rfl
  · intro w' hg; exact c_l06Draw a cs cap w' (hB.same hg.fr) hcs hl
  rintro _ newE ⟨m, ls, p, c, hm0, hm1, hll, hrl, rfl, hE⟩
  refine vops_nodup (fun hnd => ?_)
  repeat (first | refine vops_nil ?_ | refine vw_ret ?_ | ((show VOps _ _ _ _ (⟨none, Go.Op.store _ _ _, _, _, _, none⟩ :: _) _ _); refine vops_storeAM tyOk rfl rfl rfl (by first | rfl | (rw [ints_length]; first | assumption | omega | (rw [ints_length]; first | assumption | omega | simp [*])) | simp [*]) (by first | exact ints_one | simp [Value.oneCell']) (by repeat (first | exact upd_here | apply upd_next | apply upd_past)) (by first | rfl | (rw [ints_length]; first | assumption | omega | (rw [ints_length]; first | assumption | omega | simp [*])) | simp [*]) ?_))
  refine ⟨_, newE, rv_cell (cs := [.int .i64 m, .slice p ls.length c]) tyOk rfl rfl rfl rfl rfl (fun j v hj => by rw [Nat.zero_add j]; exact sees_mem (by repeat (first | exact mem_here | apply mem_next | apply mem_past)) hj), OLe.nodup (by exact ole_last (by repeat (first | exact pm_here | exact pm_last | apply pm_next | apply pm_past))) hnd, (by repeat (first | exact sub_hereL | exact sub_refl | apply sub_cons | apply sub_app)), m, ls, p, c, hm0, hm1, hll, hrl, rfl, hE⟩

open Classical in
set_option maxHeartbeats 8000000 in
set_option maxRecDepth 100000 in
theorem c_FnWhist (a : Option Addr) (cap : Nat) (cs : List Nat) (hcs : ∀ c ∈ cs, c < 256) (_hlm : cs.length ≤ maxLen) (w : World) (hB : RdB w a cs) :
    Calls Try.prog 5 [.slice a cs.length cap].toArray w (Res w (Is (.bool true))) := by
  refine calls_of_vw Try.func5 rfl Try.ntmps5 (by simp) ?_
  repeat (first | refine vops_q tyOk rfl ?_ | refine vops_nil ?_ | refine vw_seq ?_ | refine vw_region (by kernel_rfl) ?_ | refine vw_cond rfl ?_ | (apply vops_callp ent20 rfl; (intro w _; exact c_bigW _ _ _ w)))
  refine bs_dec (fun hbig => ?_) (fun hbig => ?_)
  · repeat (first | refine vops_q tyOk rfl ?_ | refine vops_nil ?_ | refine vw_seq ?_ | refine vw_region (by kernel_rfl) ?_ | refine vw_ret ?_)
    exact rv_bool rfl rfl rfl
  have hlc : cs.length ≤ 1048576 := by omega
  repeat (first | refine vops_q tyOk rfl ?_ | refine vw_seq ?_ | refine vw_region (by kernel_rfl) ?_ | refine vw_skip ?_)
  apply vops_call ent58 rfl
  · intro w' hg; exact c_DrawIsWhist a cs cap w' (hB.same hg.fr) hcs hlc
  rintro _ newM ⟨m, ls, p, c, hm0, hm1, hll, hrl, rfl, hM⟩
  have hl1 : ls.length ≤ 1048576 := by omega
  have hl2 : ∀ l ∈ ls, l.length ≤ 1048576 := fun l hl => by have := hrl l hl; omega
  obtain ⟨wb, wc, hW⟩ : ∃ wb wc, whistR m ls = (wb, wc) := ⟨_, _, rfl⟩
  obtain ⟨tb, tc, hT⟩ : ∃ tb tc, tripleR m ls = (tb, tc) := ⟨_, _, rfl⟩
  obtain ⟨pm, ps, pc, hP⟩ : ∃ pm ps pc, parS m ls = ((pm, ps), pc) := ⟨_, _, _, rfl⟩
  have hPs := parS_ok m ls
  rw [hP] at hPs
  repeat (first | refine vops_nil ?_ | refine vw_seq ?_ | refine vw_region (by kernel_rfl) ?_ | refine vops_allocZ [.int .i64 0, .slice none 0 0] tyOk rfl rfl (by simp) (fun b3 hb3 => ?_) | ((show VOps _ _ _ _ (⟨some _, Go.Op.load _ _, _, _, _, none⟩ :: _) _ _); refine vops_loadNM tyOk rfl rfl rfl (by repeat (first | exact mem_here | apply mem_next | apply mem_past)) (by first | rfl | (rw [ints_length]; first | assumption | omega | (rw [ints_length]; first | assumption | omega | simp [*])) | simp [*]) ?_) | ((show VOps _ _ _ _ (⟨none, Go.Op.store _ _ _, _, _, _, none⟩ :: _) _ _); refine vops_storeAM tyOk rfl rfl rfl (by first | rfl | (rw [ints_length]; first | assumption | omega | (rw [ints_length]; first | assumption | omega | simp [*])) | simp [*]) (by first | exact ints_one | simp [Value.oneCell']) (by repeat (first | exact upd_here | apply upd_next | apply upd_past)) (by first | rfl | (rw [ints_length]; first | assumption | omega | (rw [ints_length]; first | assumption | omega | simp [*])) | simp [*]) ?_))
  apply vops_callp ent59 rfl
  · intro w' hg; exact bcW (c_impl_IsWhist m _ ls w' (hM.rdCC (by repeat (first | exact sub_hereL | exact sub_refl | apply sub_cons | apply sub_app)) hg) hl1 hl2) hW
  repeat (first | refine vops_q tyOk rfl ?_ | refine vops_nil ?_ | refine vw_seq ?_ | refine vw_region (by kernel_rfl) ?_ | ((show VOps _ _ _ _ (⟨some _, Go.Op.load _ _, _, _, _, none⟩ :: _) _ _); refine vops_loadNM tyOk rfl rfl rfl (by repeat (first | exact mem_here | apply mem_next | apply mem_past)) (by first | rfl | (rw [ints_length]; first | assumption | omega | (rw [ints_length]; first | assumption | omega | simp [*])) | simp [*]) ?_))
  apply vops_callp ent60 rfl
  · intro w' hg; exact bcW (c_spec_IsWhist m _ ls w' (hM.rdCC (by repeat (first | exact sub_hereL | exact sub_refl | apply sub_cons | apply sub_app)) hg).rd hl1 hl2) hW
  repeat (first | refine vops_q tyOk rfl ?_ | refine vops_nil ?_ | refine vw_seq ?_ | refine vw_region (by kernel_rfl) ?_ | refine vops_guardF rfl rfl ?_)
  refine bs_ndec2 (fun h => absurd rfl h) (fun _ => ?_)
  repeat (first | refine vops_q tyOk rfl ?_ | refine vops_nil ?_ | refine vw_seq ?_ | refine vw_region (by kernel_rfl) ?_ | refine vops_guardF rfl rfl ?_ | with_reducible refine bs_nbeq rfl ?_ | with_reducible refine bs_false ?_ | refine vw_cond rfl ?_ | refine vw_skip ?_)
  repeat (first | ((show VOps _ _ _ _ (⟨some _, Go.Op.load _ _, _, _, _, none⟩ :: _) _ _); refine vops_loadNM tyOk rfl rfl rfl (by repeat (first | exact mem_here | apply mem_next | apply mem_past)) (by first | rfl | (rw [ints_length]; first | assumption | omega | (rw [ints_length]; first | assumption | omega | simp [*])) | simp [*]) ?_))
  apply vops_callp ent61 rfl
  · intro w' hg; exact bcW (c_impl_IsTriple m _ ls w' (hM.rdCC (by repeat (first | exact sub_hereL | exact sub_refl | apply sub_cons | apply sub_app)) hg) hl1 hl2) hT
  repeat (first | refine vops_q tyOk rfl ?_ | refine vops_nil ?_ | refine vw_seq ?_ | refine vw_region (by kernel_rfl) ?_ | ((show VOps _ _ _ _ (⟨some _, Go.Op.load _ _, _, _, _, none⟩ :: _) _ _); refine vops_loadNM tyOk rfl rfl rfl (by repeat (first | exact mem_here | apply mem_next | apply mem_past)) (by first | rfl | (rw [ints_length]; first | assumption | omega | (rw [ints_length]; first | assumption | omega | simp [*])) | simp [*]) ?_))
  apply vops_callp ent62 rfl
  · intro w' hg; exact bcW (c_spec_IsTriple m _ ls w' (hM.rdCC (by repeat (first | exact sub_hereL | exact sub_refl | apply sub_cons | apply sub_app)) hg).rd hl1 hl2) hT
  repeat (first | refine vops_q tyOk rfl ?_ | refine vops_nil ?_ | refine vw_seq ?_ | refine vw_region (by kernel_rfl) ?_ | refine vops_guardF rfl rfl ?_)
  refine bs_ndec2 (fun h => absurd rfl h) (fun _ => ?_)
  repeat (first | refine vops_q tyOk rfl ?_ | refine vops_nil ?_ | refine vw_seq ?_ | refine vw_region (by kernel_rfl) ?_ | refine vops_guardF rfl rfl ?_ | with_reducible refine bs_nbeq rfl ?_ | with_reducible refine bs_false ?_ | refine vw_cond rfl ?_ | refine vw_skip ?_)
  repeat (first | ((show VOps _ _ _ _ (⟨some _, Go.Op.load _ _, _, _, _, none⟩ :: _) _ _); refine vops_loadNM tyOk rfl rfl rfl (by repeat (first | exact mem_here | apply mem_next | apply mem_past)) (by first | rfl | (rw [ints_length]; first | assumption | omega | (rw [ints_length]; first | assumption | omega | simp [*])) | simp [*]) ?_))
  apply vops_call ent63 rfl
  · intro w' hg; exact scW (c_impl_PartnerSchedule m _ ls w' (hM.rdCC (by repeat (first | exact sub_hereL | exact sub_refl | apply sub_cons | apply sub_app)) hg) hl1 hl2) hP
  rintro _ newP1 ⟨p12, c12, rfl, hP1⟩
  repeat (first | refine vops_q tyOk rfl ?_ | refine vops_nil ?_ | refine vw_seq ?_ | refine vw_region (by kernel_rfl) ?_ | refine vops_allocZ [.int .i64 0, .slice none 0 0] tyOk rfl rfl (by simp) (fun b12 hb12 => ?_) | ((show VOps _ _ _ _ (⟨some _, Go.Op.load _ _, _, _, _, none⟩ :: _) _ _); refine vops_loadNM tyOk rfl rfl rfl (by repeat (first | exact mem_here | apply mem_next | apply mem_past)) (by first | rfl | (rw [ints_length]; first | assumption | omega | (rw [ints_length]; first | assumption | omega | simp [*])) | simp [*]) ?_) | ((show VOps _ _ _ _ (⟨none, Go.Op.store _ _ _, _, _, _, none⟩ :: _) _ _); refine vops_storeAM tyOk rfl rfl rfl (by first | rfl | (rw [ints_length]; first | assumption | omega | (rw [ints_length]; first | assumption | omega | simp [*])) | simp [*]) (by first | exact ints_one | simp [Value.oneCell']) (by repeat (first | exact upd_here | apply upd_next | apply upd_past)) (by first | rfl | (rw [ints_length]; first | assumption | omega | (rw [ints_length]; first | assumption | omega | simp [*])) | simp [*]) ?_))
  apply vops_call ent64 rfl
  · intro w' hg; exact scW (c_spec_PartnerSchedule m _ ls w' (hM.rdCC (by repeat (first | exact sub_hereL | exact sub_refl | apply sub_cons | apply sub_app)) hg).rd hl1 hl2) hP
  rintro _ newP2 ⟨p14, c14, rfl, hP2⟩
  repeat (first | refine vops_q tyOk rfl ?_ | refine vops_nil ?_ | refine vw_seq ?_ | refine vw_region (by kernel_rfl) ?_ | refine vops_guardF rfl rfl ?_ | refine vops_allocZ [.int .i64 0, .slice none 0 0] tyOk rfl rfl (by simp) (fun b14 hb14 => ?_) | ((show VOps _ _ _ _ (⟨none, Go.Op.store _ _ _, _, _, _, none⟩ :: _) _ _); refine vops_storeAM tyOk rfl rfl rfl (by first | rfl | (rw [ints_length]; first | assumption | omega | (rw [ints_length]; first | assumption | omega | simp [*])) | simp [*]) (by first | exact ints_one | simp [Value.oneCell']) (by repeat (first | exact upd_here | apply upd_next | apply upd_past)) (by first | rfl | (rw [ints_length]; first | assumption | omega | (rw [ints_length]; first | assumption | omega | simp [*])) | simp [*]) ?_))
  refine bs_ndec2 (fun h => absurd rfl h) (fun _ => ?_)
  repeat (first | refine vops_guardF rfl rfl ?_ | with_reducible refine bs_false ?_ | ((show VOps _ _ _ _ (⟨some _, Go.Op.load _ _, _, _, _, none⟩ :: _) _ _); refine vops_loadNM tyOk rfl rfl rfl (by repeat (first | exact mem_here | apply mem_next | apply mem_past)) (by first | rfl | (rw [ints_length]; first | assumption | omega | (rw [ints_length]; first | assumption | omega | simp [*])) | simp [*]) ?_))
  apply vops_callp ent65 rfl
  · intro w' hg; exact c_schedule9 pm _ _ ps w' (NewR.see hP1 (by repeat (first | exact sub_hereL | exact sub_refl | apply sub_cons | apply sub_app)) _ hg) (NewR.see hP2 (by repeat (first | exact sub_hereL | exact sub_refl | apply sub_cons | apply sub_app)) _ hg) hPs.1 hPs.2
  repeat (first | refine vops_q tyOk rfl ?_ | refine vops_nil ?_ | refine vw_seq ?_ | refine vw_region (by kernel_rfl) ?_ | refine vops_guardF rfl rfl ?_ | with_reducible refine bs_false ?_ | with_reducible refine bs_ntrue ?_ | refine vw_cond rfl ?_ | refine vw_skip ?_)
  apply vops_call ent66 rfl
  · intro w' hg; exact c_DrawMadeFrom a cs cap w' (hB.same hg.fr) hcs hlc
  rintro _ newQ ⟨n2, q2, pq, cq, hq2, rfl, hQ⟩
  obtain ⟨mm, ms, mc, hMd⟩ : ∃ mm ms mc, madeR n2 q2 = ((mm, ms), mc) := ⟨_, _, _, rfl⟩
  have hMs := madeR_ok n2 q2
  rw [hMd] at hMs
  repeat (first | refine vops_q tyOk rfl ?_ | refine vops_nil ?_ | refine vw_seq ?_ | refine vw_region (by kernel_rfl) ?_)
  apply vops_call ent67 rfl
  · intro w' hg; exact sqW (c_impl_MadeFrom n2 _ q2 w' (hQ.rdC (by repeat (first | exact sub_hereL | exact sub_refl | apply sub_cons | apply sub_app)) hg) (by omega)) hMd
  rintro _ newM1 ⟨p18, c18, rfl, hM1⟩
  repeat (first | refine vops_q tyOk rfl ?_ | refine vops_nil ?_ | refine vw_seq ?_ | refine vw_region (by kernel_rfl) ?_ | refine vops_allocZ [.int .i64 0, .slice none 0 0] tyOk rfl rfl (by simp) (fun b18 hb18 => ?_) | ((show VOps _ _ _ _ (⟨none, Go.Op.store _ _ _, _, _, _, none⟩ :: _) _ _); refine vops_storeAM tyOk rfl rfl rfl (by first | rfl | (rw [ints_length]; first | assumption | omega | (rw [ints_length]; first | assumption | omega | simp [*])) | simp [*]) (by first | exact ints_one | simp [Value.oneCell']) (by repeat (first | exact upd_here | apply upd_next | apply upd_past)) (by first | rfl | (rw [ints_length]; first | assumption | omega | (rw [ints_length]; first | assumption | omega | simp [*])) | simp [*]) ?_))
  apply vops_call ent68 rfl
  · intro w' hg; exact sqW (c_spec_MadeFrom n2 _ q2 w' (hQ.rdG (by repeat (first | exact sub_hereL | exact sub_refl | apply sub_cons | apply sub_app)) hg) (by omega)) hMd
  rintro _ newM2 ⟨p20, c20, rfl, hM2⟩
  repeat (first | refine vops_q tyOk rfl ?_ | refine vops_nil ?_ | refine vw_seq ?_ | refine vw_region (by kernel_rfl) ?_ | refine vops_guardF rfl rfl ?_ | refine vops_allocZ [.int .i64 0, .slice none 0 0] tyOk rfl rfl (by simp) (fun b20 hb20 => ?_) | ((show VOps _ _ _ _ (⟨none, Go.Op.store _ _ _, _, _, _, none⟩ :: _) _ _); refine vops_storeAM tyOk rfl rfl rfl (by first | rfl | (rw [ints_length]; first | assumption | omega | (rw [ints_length]; first | assumption | omega | simp [*])) | simp [*]) (by first | exact ints_one | simp [Value.oneCell']) (by repeat (first | exact upd_here | apply upd_next | apply upd_past)) (by first | rfl | (rw [ints_length]; first | assumption | omega | (rw [ints_length]; first | assumption | omega | simp [*])) | simp [*]) ?_))
  refine bs_ndec2 (fun h => absurd rfl h) (fun _ => ?_)
  repeat (first | refine vops_guardF rfl rfl ?_ | with_reducible refine bs_false ?_ | ((show VOps _ _ _ _ (⟨some _, Go.Op.load _ _, _, _, _, none⟩ :: _) _ _); refine vops_loadNM tyOk rfl rfl rfl (by repeat (first | exact mem_here | apply mem_next | apply mem_past)) (by first | rfl | (rw [ints_length]; first | assumption | omega | (rw [ints_length]; first | assumption | omega | simp [*])) | simp [*]) ?_))
  apply vops_callp ent69 rfl
  · intro w' hg; exact c_evening9 mm _ _ ms w' (hM1.rdG (by repeat (first | exact sub_hereL | exact sub_refl | apply sub_cons | apply sub_app)) hg) (hM2.rdG (by repeat (first | exact sub_hereL | exact sub_refl | apply sub_cons | apply sub_app)) hg) hMs.1 hMs.2.1
  repeat (first | refine vops_q tyOk rfl ?_ | refine vops_nil ?_ | refine vw_seq ?_ | refine vw_region (by kernel_rfl) ?_ | refine vops_guardF rfl rfl ?_ | with_reducible refine bs_false ?_ | with_reducible refine bs_ntrue ?_ | refine vw_cond rfl ?_ | refine vw_skip ?_)
  apply vops_call ent70 rfl
  · intro w' hg; exact c_DrawRenumberPlayers a cs cap w' (hB.same hg.fr) hcs hlc
  rintro _ newD ⟨m3, ls3, p22, c22, q3, p23, c23, newE3, newL3, hm03, hm13, hll3, hrl3, hq3, rfl, hE3, hL3, rfl⟩
  have hl13 : ls3.length ≤ 1048576 := by omega
  have hl23 : ∀ l ∈ ls3, l.length ≤ 1048576 := fun l hl => by have := hrl3 l hl; omega
  obtain ⟨rm, rs, rc, hRn⟩ : ∃ rm rs rc, renPR m3 ls3 q3 = ((rm, rs), rc) := ⟨_, _, _, rfl⟩
  have hRs := renPR_ok m3 ls3 q3
  rw [hRn] at hRs
  rw [List.append_assoc]
  repeat (first | refine vops_q tyOk rfl ?_ | refine vops_nil ?_ | refine vw_seq ?_ | refine vw_region (by kernel_rfl) ?_ | refine vops_allocZ [.int .i64 0, .slice none 0 0] tyOk rfl rfl (by simp) (fun b22 hb22 => ?_) | ((show VOps _ _ _ _ (⟨some _, Go.Op.load _ _, _, _, _, none⟩ :: _) _ _); refine vops_loadNM tyOk rfl rfl rfl (by repeat (first | exact mem_here | apply mem_next | apply mem_past)) (by first | rfl | (rw [ints_length]; first | assumption | omega | (rw [ints_length]; first | assumption | omega | simp [*])) | simp [*]) ?_) | ((show VOps _ _ _ _ (⟨none, Go.Op.store _ _ _, _, _, _, none⟩ :: _) _ _); refine vops_storeAM tyOk rfl rfl rfl (by first | rfl | (rw [ints_length]; first | assumption | omega | (rw [ints_length]; first | assumption | omega | simp [*])) | simp [*]) (by first | exact ints_one | simp [Value.oneCell']) (by repeat (first | exact upd_here | apply upd_next | apply upd_past)) (by first | rfl | (rw [ints_length]; first | assumption | omega | (rw [ints_length]; first | assumption | omega | simp [*])) | simp [*]) ?_))
  apply vops_call ent71 rfl
  · intro w' hg; exact sqW (c_impl_RenumberPlayers m3 _ _ ls3 q3 w' (hE3.rdCC (by repeat (first | exact sub_hereL | exact sub_refl | apply sub_cons | apply sub_app)) hg) (hL3.rdG (by repeat (first | exact sub_hereL | exact sub_refl | apply sub_cons | apply sub_app)) hg) hl13 hl23 (by omega)) hRn
  rintro _ newR1 ⟨p24, c24, rfl, hR1⟩
  repeat (first | refine vops_q tyOk rfl ?_ | refine vops_nil ?_ | refine vw_seq ?_ | refine vw_region (by kernel_rfl) ?_ | refine vops_allocZ [.int .i64 0, .slice none 0 0] tyOk rfl rfl (by simp) (fun b24 hb24 => ?_) | ((show VOps _ _ _ _ (⟨some _, Go.Op.load _ _, _, _, _, none⟩ :: _) _ _); refine vops_loadNM tyOk rfl rfl rfl (by repeat (first | exact mem_here | apply mem_next | apply mem_past)) (by first | rfl | (rw [ints_length]; first | assumption | omega | (rw [ints_length]; first | assumption | omega | simp [*])) | simp [*]) ?_) | ((show VOps _ _ _ _ (⟨none, Go.Op.store _ _ _, _, _, _, none⟩ :: _) _ _); refine vops_storeAM tyOk rfl rfl rfl (by first | rfl | (rw [ints_length]; first | assumption | omega | (rw [ints_length]; first | assumption | omega | simp [*])) | simp [*]) (by first | exact ints_one | simp [Value.oneCell']) (by repeat (first | exact upd_here | apply upd_next | apply upd_past)) (by first | rfl | (rw [ints_length]; first | assumption | omega | (rw [ints_length]; first | assumption | omega | simp [*])) | simp [*]) ?_))
  apply vops_call ent72 rfl
  · intro w' hg; exact sqW (c_spec_RenumberPlayers m3 _ _ ls3 q3 w' (hE3.rdCC (by repeat (first | exact sub_hereL | exact sub_refl | apply sub_cons | apply sub_app)) hg).rd (hL3.rdG (by repeat (first | exact sub_hereL | exact sub_refl | apply sub_cons | apply sub_app)) hg) hl13 hl23 (by omega)) hRn
  rintro _ newR2 ⟨p26, c26, rfl, hR2⟩
  repeat (first | refine vops_q tyOk rfl ?_ | refine vops_nil ?_ | refine vw_seq ?_ | refine vw_region (by kernel_rfl) ?_ | refine vops_guardF rfl rfl ?_ | refine vops_allocZ [.int .i64 0, .slice none 0 0] tyOk rfl rfl (by simp) (fun b26 hb26 => ?_) | ((show VOps _ _ _ _ (⟨none, Go.Op.store _ _ _, _, _, _, none⟩ :: _) _ _); refine vops_storeAM tyOk rfl rfl rfl (by first | rfl | (rw [ints_length]; first | assumption | omega | (rw [ints_length]; first | assumption | omega | simp [*])) | simp [*]) (by first | exact ints_one | simp [Value.oneCell']) (by repeat (first | exact upd_here | apply upd_next | apply upd_past)) (by first | rfl | (rw [ints_length]; first | assumption | omega | (rw [ints_length]; first | assumption | omega | simp [*])) | simp [*]) ?_))
  refine bs_ndec2 (fun h => absurd rfl h) (fun _ => ?_)
  repeat (first | refine vops_guardF rfl rfl ?_ | with_reducible refine bs_false ?_ | ((show VOps _ _ _ _ (⟨some _, Go.Op.load _ _, _, _, _, none⟩ :: _) _ _); refine vops_loadNM tyOk rfl rfl rfl (by repeat (first | exact mem_here | apply mem_next | apply mem_past)) (by first | rfl | (rw [ints_length]; first | assumption | omega | (rw [ints_length]; first | assumption | omega | simp [*])) | simp [*]) ?_))
  apply vops_callp ent69 rfl
  · intro w' hg; exact c_evening9 rm _ _ rs w' (hR1.rdG (by repeat (first | exact sub_hereL | exact sub_refl | apply sub_cons | apply sub_app)) hg) (hR2.rdG (by repeat (first | exact sub_hereL | exact sub_refl | apply sub_cons | apply sub_app)) hg) hRs.1 hRs.2.1
  repeat (first | refine vops_q tyOk rfl ?_ | refine vops_nil ?_ | refine vw_seq ?_ | refine vw_region (by kernel_rfl) ?_ | refine vops_guardF rfl rfl ?_ | with_reducible refine bs_false ?_ | with_reducible refine bs_ntrue ?_ | refine vw_cond rfl ?_ | refine vw_skip ?_)
  apply vops_call ent73 rfl
  · intro w' hg; exact c_DrawFirstBase a cs cap w' (hB.same hg.fr) hcs hlc
  rintro _ newX ⟨rfl, n4, rfl⟩
  obtain ⟨bs, bc, hBs⟩ : ∃ bs bc, baseR n4 = (bs, bc) := ⟨_, _, rfl⟩
  have hBl := baseR_len n4
  rw [hBs] at hBl
  repeat (first | refine vops_q tyOk rfl ?_ | refine vops_nil ?_ | refine vw_seq ?_ | refine vw_region (by kernel_rfl) ?_)
  apply vops_call ent74 rfl
  · intro w' hg; exact iiW (c_impl_FirstBase n4 w') hBs
  rintro _ newB1 ⟨p29, c29, rfl, hB1⟩
  repeat (first | refine vops_q tyOk rfl ?_ | refine vops_nil ?_ | refine vw_seq ?_ | refine vw_region (by kernel_rfl) ?_)
  apply vops_call ent75 rfl
  · intro w' hg; exact iiW (c_spec_FirstBase n4 w') hBs
  rintro _ newB2 ⟨p31, c31, rfl, hB2⟩
  repeat (first | refine vops_q tyOk rfl ?_ | refine vops_nil ?_ | refine vw_seq ?_ | refine vw_region (by kernel_rfl) ?_ | refine vops_guardF rfl rfl ?_)
  refine bs_ndec2 (fun h => absurd rfl h) (fun _ => ?_)
  repeat (first | refine vops_q tyOk rfl ?_ | refine vops_guardF rfl rfl ?_ | with_reducible refine bs_false ?_)
  apply vops_callp ent42 rfl
  · intro w' hg; exact c_like _ _ bs w' (hB1.rdG (by repeat (first | exact sub_hereL | exact sub_refl | apply sub_cons | apply sub_app)) hg) (hB2.rdG (by repeat (first | exact sub_hereL | exact sub_refl | apply sub_cons | apply sub_app)) hg) hBl
  repeat (first | refine vops_q tyOk rfl ?_ | refine vops_nil ?_ | refine vw_seq ?_ | refine vw_region (by kernel_rfl) ?_ | refine vops_guardF rfl rfl ?_ | with_reducible refine bs_false ?_ | with_reducible refine bs_ntrue ?_ | refine vw_cond rfl ?_ | refine vw_skip ?_)
  by_cases hbc : bc = 0
  all_goals
    first
    | (
        subst hbc
        obtain ⟨es, hm, hw, he1, he2⟩ := base_cases hBs
        refine bs_dec (fun _ => ?_) (fun h => absurd rfl h)
        repeat (first | refine vops_q tyOk rfl ?_ | refine vw_seq ?_ | refine vw_region (by kernel_rfl) ?_)
        apply vops_call ent67 rfl
        · intro w' hg; exact sqW (c_impl_MadeFrom n4 _ bs w' (hB1.rdC (by repeat (first | exact sub_hereL | exact sub_refl | apply sub_cons | apply sub_app)) hg) hBl) hm
        rintro _ newM3 ⟨p33, c33, rfl, hM3⟩
        repeat (first | refine vops_q tyOk rfl ?_ | refine vops_nil ?_ | refine vw_seq ?_ | refine vw_region (by kernel_rfl) ?_ | refine vops_allocZ [.int .i64 0, .slice none 0 0] tyOk rfl rfl (by simp) (fun b33 hb33 => ?_) | ((show VOps _ _ _ _ (⟨some _, Go.Op.load _ _, _, _, _, none⟩ :: _) _ _); refine vops_loadNM tyOk rfl rfl rfl (by repeat (first | exact mem_here | apply mem_next | apply mem_past)) (by first | rfl | (rw [ints_length]; first | assumption | omega | (rw [ints_length]; first | assumption | omega | simp [*])) | simp [*]) ?_) | ((show VOps _ _ _ _ (⟨none, Go.Op.store _ _ _, _, _, _, none⟩ :: _) _ _); refine vops_storeAM tyOk rfl rfl rfl (by first | rfl | (rw [ints_length]; first | assumption | omega | (rw [ints_length]; first | assumption | omega | simp [*])) | simp [*]) (by first | exact ints_one | simp [Value.oneCell']) (by repeat (first | exact upd_here | apply upd_next | apply upd_past)) (by first | rfl | (rw [ints_length]; first | assumption | omega | (rw [ints_length]; first | assumption | omega | simp [*])) | simp [*]) ?_))
        apply vops_callp ent59 rfl
        · intro w' hg; exact bcW (c_impl_IsWhist n4 _ es w' (hM3.rdCC (by repeat (first | exact sub_hereL | exact sub_refl | apply sub_cons | apply sub_app)) hg) (by omega) (fun l hl => by have := he2 l hl; omega)) hw
        repeat (first | refine vops_q tyOk rfl ?_ | refine vops_nil ?_ | refine vw_seq ?_ | refine vw_region (by kernel_rfl) ?_ | refine vops_guardF rfl rfl ?_)
        refine bs_ndec2 (fun h => absurd rfl h) (fun _ => ?_)
        repeat (first | refine vops_q tyOk rfl ?_ | refine vops_guardF rfl rfl ?_ | with_reducible refine bs_false ?_)
        refine bs_ndec2 (fun h => absurd rfl h) (fun _ => ?_)
        repeat (first | refine vops_q tyOk rfl ?_ | refine vops_nil ?_ | refine vw_seq ?_ | refine vw_region (by kernel_rfl) ?_ | refine vops_guardF rfl rfl ?_ | with_reducible refine bs_false ?_ | with_reducible refine bs_ntrue ?_ | refine vw_cond rfl ?_ | refine vw_skip ?_))
    | (
        refine bs_dec (fun h => absurd h hbc) (fun _ => ?_)
        repeat (first | refine vops_q tyOk rfl ?_ | refine vops_nil ?_ | refine vw_seq ?_ | refine vw_region (by kernel_rfl) ?_ | refine vw_cond rfl ?_ | refine vw_skip ?_))
  all_goals
    by_cases hrc : rc = 0
    all_goals
      first
      | (
          refine bs_dec (fun h => absurd h hrc) (fun _ => ?_)
          refine vw_le (own' := (b24, ⟨[.int .i64 rm, .slice p24 rs.length c24], 58, 2, none⟩) :: (newR1 ++ ((b22, ⟨[.int .i64 m3, .slice p22 ls3.length c22], 58, 2, none⟩) :: (newE3 ++ ((b18, ⟨[.int .i64 mm, .slice p18 ms.length c18], 58, 2, none⟩) :: (newM1 ++ (newQ ++ ((b12, ⟨[.int .i64 pm, .slice p12 ps.length c12], 26, 2, none⟩) :: (newP1 ++ []))))))))) (by repeat (first | exact ole_nil | exact ole_refl | (apply ole_cons; (repeat (first | exact pm1_here | apply pm1_next | apply pm1_past))) | (apply ole_app; (repeat (first | exact pm_here | exact pm_last | apply pm_next | apply pm_past))))) ?_
          repeat (first | refine vops_q tyOk rfl ?_ | refine vw_seq ?_ | refine vw_region (by kernel_rfl) ?_ | refine vops_guardT rfl rfl ?_ | refine vw_skip ?_))
      | (
          subst hrc
          obtain ⟨fb, hwf, hwo⟩ := ren_cases hRn
          refine bs_dec (fun _ => ?_) (fun h => absurd rfl h)
          refine vw_le (own' := (b24, ⟨[.int .i64 rm, .slice p24 rs.length c24], 58, 2, none⟩) :: (newR1 ++ ((b22, ⟨[.int .i64 m3, .slice p22 ls3.length c22], 58, 2, none⟩) :: (newE3 ++ ((b18, ⟨[.int .i64 mm, .slice p18 ms.length c18], 58, 2, none⟩) :: (newM1 ++ (newQ ++ ((b12, ⟨[.int .i64 pm, .slice p12 ps.length c12], 26, 2, none⟩) :: (newP1 ++ []))))))))) (by repeat (first | exact ole_nil | exact ole_refl | (apply ole_cons; (repeat (first | exact pm1_here | apply pm1_next | apply pm1_past))) | (apply ole_app; (repeat (first | exact pm_here | exact pm_last | apply pm_next | apply pm_past))))) ?_
          repeat (first | refine vw_seq ?_ | refine vw_region (by kernel_rfl) ?_ | ((show VOps _ _ _ _ (⟨some _, Go.Op.load _ _, _, _, _, none⟩ :: _) _ _); refine vops_loadNM tyOk rfl rfl rfl (by repeat (first | exact mem_here | apply mem_next | apply mem_past)) (by first | rfl | (rw [ints_length]; first | assumption | omega | (rw [ints_length]; first | assumption | omega | simp [*])) | simp [*]) ?_))
          apply vops_callp ent59 rfl
          · intro w' hg; exact bcW (c_impl_IsWhist m3 _ ls3 w' (hE3.rdCC (by repeat (first | exact sub_hereL | exact sub_refl | apply sub_cons | apply sub_app)) hg) hl13 hl23) hwf
          repeat (first | refine vops_q tyOk rfl ?_ | refine vops_nil ?_ | refine vw_seq ?_ | refine vw_region (by kernel_rfl) ?_ | ((show VOps _ _ _ _ (⟨some _, Go.Op.load _ _, _, _, _, none⟩ :: _) _ _); refine vops_loadNM tyOk rfl rfl rfl (by repeat (first | exact mem_here | apply mem_next | apply mem_past)) (by first | rfl | (rw [ints_length]; first | assumption | omega | (rw [ints_length]; first | assumption | omega | simp [*])) | simp [*]) ?_))
          apply vops_callp ent59 rfl
          · intro w' hg; exact bcW (c_impl_IsWhist rm _ rs w' (hR1.toE.rdCC (by repeat (first | exact sub_hereL | exact sub_refl | apply sub_cons | apply sub_app)) hg) hRs.1 hRs.2.1) hwo
          repeat (first | refine vops_q tyOk rfl ?_ | refine vops_nil ?_ | refine vw_seq ?_ | refine vw_region (by kernel_rfl) ?_ | refine vops_guardF rfl rfl ?_)
          refine bs_ndec2 (fun h => absurd rfl h) (fun _ => ?_)
          repeat (first | refine vops_q tyOk rfl ?_ | refine vops_guardF rfl rfl ?_ | with_reducible refine bs_false ?_)
          refine bs_ndec2 (fun h => absurd rfl h) (fun _ => ?_)
          repeat (first | refine vops_q tyOk rfl ?_ | refine vops_nil ?_ | refine vw_seq ?_ | refine vw_region (by kernel_rfl) ?_ | refine vops_guardT rfl rfl ?_ | refine vops_guardF rfl rfl ?_ | with_reducible refine bs_nbeq rfl ?_ | with_reducible refine bs_false ?_ | refine vw_cond rfl ?_ | refine vw_skip ?_))
    all_goals
      by_cases hmc : mc = 0
      all_goals
        first
        | (
            refine bs_dec (fun h => absurd h hmc) (fun _ => ?_)
            repeat (first | refine vops_q tyOk rfl ?_ | refine vops_nil ?_ | refine vw_seq ?_ | refine vw_region (by kernel_rfl) ?_ | refine vops_guardT rfl rfl ?_ | refine vops_guardU rfl rfl ?_ | with_reducible refine bs_false ?_ | refine vw_cond rfl ?_ | refine vw_skip ?_))
        | (
            subst hmc
            obtain ⟨hrow0, hms3⟩ := made_cases hMd
            obtain ⟨vsm, outerm, Rm, hRm, hVm, hnew⟩ := hM1.toE
            obtain ⟨bom, hpe, hoe⟩ := outer_blk hVm (by omega)
            subst hnew
            subst hoe
            subst hpe
            obtain ⟨u, hu⟩ : ∃ u, vsm[0]? = some u := ⟨_, List.getElem?_eq_getElem (by rw [hRm.1]; omega)⟩
            obtain ⟨pa, ca, rfl⟩ := hRm.2.2.2 0 u q2 hu hrow0
            have hva := vals_get hu (show 0 + (0 : Int).toNat = 0 by omega)
            refine bs_dec (fun _ => ?_) (fun h => absurd rfl h)
            repeat (first | refine vops_q tyOk rfl ?_ | refine vops_guardT rfl rfl ?_ | refine vops_guardF rfl rfl ?_ | with_reducible refine bs_true ?_ | ((show VOps _ _ _ _ (⟨some _, Go.Op.load _ _, _, _, _, none⟩ :: _) _ _); refine vops_loadM tyOk rfl rfl rfl (by repeat (first | exact mem_here | apply mem_next | apply mem_past)) (by rfl) ?_))
            refine bs_dec (fun h => by omega) (fun _ => ?_)
            repeat (first | refine vops_q tyOk rfl ?_ | refine vops_guardF rfl rfl ?_ | with_reducible refine bs_false ?_ | refine vops_p tyOk rfl (by (try simp only [inR]); omega) ?_ | refine vops_loadM tyOk rfl rfl rfl (by repeat (first | exact mem_here | apply mem_next | apply mem_past)) (by exact hva) ?_ | ((show VOps _ _ _ _ (⟨some _, Go.Op.load _ _, _, _, _, none⟩ :: _) _ _); refine vops_loadM tyOk rfl rfl rfl (by repeat (first | exact mem_here | apply mem_next | apply mem_past)) (by rfl) ?_))
            apply vops_callp ent42 rfl
            · intro w' hg; exact c_like _ _ q2 w' (hRm.2.2.1 _ _ w' (by repeat (first | exact sub_hereL | exact sub_refl | apply sub_cons | apply sub_app)) hg 0 _ q2 hu hrow0).1 (hQ.rdG (by repeat (first | exact sub_hereL | exact sub_refl | apply sub_cons | apply sub_app)) hg) (by omega)
            repeat (first | refine vops_q tyOk rfl ?_ | refine vops_nil ?_ | refine vw_seq ?_ | refine vw_region (by kernel_rfl) ?_ | refine vops_guardT rfl rfl ?_ | refine vops_guardF rfl rfl ?_ | with_reducible refine bs_true ?_ | with_reducible refine bs_false ?_ | with_reducible refine bs_ntrue ?_ | refine vw_cond rfl ?_ | refine vw_skip ?_))
      all_goals
        rcases ev_cases hW hT hP with ⟨hwc, rfl, rfl, rfl⟩ | ⟨rfl, rfl, htb, hrob⟩
        · refine bs_ndec2 (fun _ => ?_) (fun h => absurd h hwc)
          repeat (first | refine vops_q tyOk rfl ?_ | refine vw_seq ?_ | refine vw_region (by kernel_rfl) ?_ | refine vops_guardT rfl rfl ?_ | with_reducible refine bs_true ?_ | with_reducible refine bs_nfalse ?_)
          refine bs_dec (fun _ => ?_) (fun h => absurd rfl h)
          repeat (first | refine vops_q tyOk rfl ?_ | refine vops_nil ?_ | refine vops_guardT rfl rfl ?_ | with_reducible refine bs_true ?_ | refine vw_ret ?_)
          exact rv_bool rfl rfl (decide_eq_true rfl)
        · refine bs_ndec2 (fun h => absurd rfl h) (fun _ => ?_)
          by_cases hwp : wb = true ∧ pc = 0
          · obtain ⟨rfl, rfl⟩ := hwp
            have hr := hrob rfl rfl
            repeat (first | refine vops_q tyOk rfl ?_ | refine vw_seq ?_ | refine vw_region (by kernel_rfl) ?_ | refine vops_guardF rfl rfl ?_ | refine vw_skip ?_)
            refine bs_ndec2 (fun h => absurd rfl h) (fun _ => ?_)
            rcases htb with ⟨rfl, _⟩ | rfl
            all_goals
              repeat (first | refine vops_q tyOk rfl ?_ | refine vops_nil ?_ | refine vw_seq ?_ | refine vw_region (by kernel_rfl) ?_ | refine vops_guardT rfl rfl ?_ | refine vops_guardF rfl rfl ?_ | with_reducible refine bs_true ?_ | with_reducible refine bs_false ?_ | with_reducible refine bs_ntrue ?_ | refine vw_cond rfl ?_ | refine vw_skip ?_)
              refine bs_dec (fun _ => ?_) (fun h => absurd rfl h)
              repeat (first | refine vw_seq ?_ | refine vw_region (by kernel_rfl) ?_ | ((show VOps _ _ _ _ (⟨some _, Go.Op.load _ _, _, _, _, none⟩ :: _) _ _); refine vops_loadNM tyOk rfl rfl rfl (by repeat (first | exact mem_here | apply mem_next | apply mem_past)) (by first | rfl | (rw [ints_length]; first | assumption | omega | (rw [ints_length]; first | assumption | omega | simp [*])) | simp [*]) ?_))
              apply vops_callp ent76 rfl
              · intro w' hg; exact bcW (c_impl_IsRoundRobin pm _ ps w' (NewR.see hP1 (by repeat (first | exact sub_hereL | exact sub_refl | apply sub_cons | apply sub_app)) _ hg) hPs.1 hPs.2) hr
              repeat (first | refine vops_q tyOk rfl ?_ | refine vops_nil ?_ | refine vw_seq ?_ | refine vw_region (by kernel_rfl) ?_ | refine vops_guardT rfl rfl ?_)
              refine bs_dec (fun _ => ?_) (fun h => absurd rfl h)
              repeat (first | refine vops_q tyOk rfl ?_ | refine vops_nil ?_ | refine vw_ret ?_)
              exact rv_bool rfl rfl rfl
          · repeat (first | refine vops_q tyOk rfl ?_ | refine vw_seq ?_ | refine vw_region (by kernel_rfl) ?_ | refine vops_guardF rfl rfl ?_ | refine vw_skip ?_)
            refine bs_ndec2 (fun h => absurd rfl h) (fun _ => ?_)
            rcases htb with ⟨rfl, rfl⟩ | rfl
            · repeat (first | refine vops_q tyOk rfl ?_ | refine vops_nil ?_ | refine vw_seq ?_ | refine vw_region (by kernel_rfl) ?_ | refine vops_guardT rfl rfl ?_ | refine vops_guardF rfl rfl ?_ | with_reducible refine bs_true ?_ | with_reducible refine bs_false ?_ | with_reducible refine bs_ntrue ?_ | refine vw_cond rfl ?_ | refine vw_skip ?_)
              refine bs_dec (fun h => absurd ⟨rfl, h⟩ hwp) (fun _ => ?_)
              repeat (first | refine vops_q tyOk rfl ?_ | refine vops_nil ?_ | refine vw_seq ?_ | refine vw_region (by kernel_rfl) ?_ | refine vw_skip ?_ | refine vw_ret ?_)
              exact rv_bool rfl rfl rfl
            · cases wb with
              | false =>
                repeat (first | refine vops_q tyOk rfl ?_ | refine vops_nil ?_ | refine vw_seq ?_ | refine vw_region (by kernel_rfl) ?_ | refine vops_guardT rfl rfl ?_ | refine vops_guardF rfl rfl ?_ | with_reducible refine bs_false ?_ | refine vw_cond rfl ?_ | refine vw_skip ?_ | refine vw_ret ?_)
                exact rv_bool rfl rfl rfl
              | true =>
                repeat (first | refine vops_q tyOk rfl ?_ | refine vops_nil ?_ | refine vw_seq ?_ | refine vw_region (by kernel_rfl) ?_ | refine vops_guardT rfl rfl ?_ | refine vops_guardF rfl rfl ?_ | with_reducible refine bs_true ?_ | with_reducible refine bs_false ?_ | refine vw_cond rfl ?_ | refine vw_skip ?_)
                refine bs_dec (fun h => absurd ⟨rfl, h⟩ hwp) (fun _ => ?_)
                repeat (first | refine vops_q tyOk rfl ?_ | refine vops_nil ?_ | refine vw_seq ?_ | refine vw_region (by kernel_rfl) ?_ | refine vw_skip ?_ | refine vw_ret ?_)
                exact rv_bool rfl rfl rfl
end Go.Proofs.Ytdgaabkgfbihpaa

