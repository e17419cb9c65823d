import Derived.Test.YtnammdmiljjhjaaGE
import Derived.Test.YtnammdmiljjhjaaX11
import Derived.Test.YtnammdmiljjhjaaVLA
import Derived.Test.YtnammdmiljjhjaaVLAllocE
/- Parts of the proof, one after another. No conditions of their own. -/
/- A part of the proof: X14. No conditions of its own. -/
namespace Go.Proofs.Ytnammdmiljjhjaa
open Go.VL
attribute [local irreducible] VWr VOps VD Calls

/-- The slices of the groups. -/
def prtV (g b m : Nat) : List Value := (List.range m).map (partG g (some ⟨b, 0, none⟩))
theorem prtV_succ (g b m : Nat) : prtV g b (m + 1) = prtV g b m ++ [.slice (some ⟨b, 0 + g * m, none⟩) g g] := by simp [prtV, List.range_succ, partG]
theorem prtV_get {g b m i : Nat} (h : i < m) : (prtV g b m)[i]? = some (.slice (some ⟨b, g * i, none⟩) g g) := by simp [prtV, h, partG]

set_option maxHeartbeats 1000000 in
set_option maxRecDepth 100000 in
theorem c_collectG (g : Nat) (hg0 : 0 < g) (b m cap b2 b3 : Nat) (hcap : g * m ≤ cap) (hm : g * m ≤ 1000) (w : World) (ho : OwnOk (ChunkGCap g (.slice (some ⟨b, 0, none⟩) (g * m) cap) b2 b3) w) :
    Calls Try.prog 68 [.func (.func 96) #[] [.pointer (some ⟨b2, 0, none⟩), .pointer (some ⟨b3, 0, none⟩)].toArray].toArray w
      (ResM w (ChunkGCap g (.slice (some ⟨b, 0, none⟩) (g * m) cap) b2 b3) (fun u new => ∃ p c X, u = .slice p m c ∧ SlAt 29 1 (.slice p m c) m (prtV g b m) X [] ∧ new = X ++ ChunkGCap g (.slice (some ⟨b, 0, none⟩) (g * m) cap) b2 b3)) := by
  have hm2 : m ≤ 1000 := by have := Nat.le_mul_of_pos_left m hg0; omega
  have key : ∀ w, OwnOk (ChunkGCap g (.slice (some ⟨b, 0, none⟩) (g * m) cap) b2 b3) w → Calls Try.prog 95 [.slice none 0 0, .func (.func 96) #[] [.pointer (some ⟨b2, 0, none⟩), .pointer (some ⟨b3, 0, none⟩)].toArray].toArray w
      (ResM w (ChunkGCap g (.slice (some ⟨b, 0, none⟩) (g * m) cap) b2 b3) (fun u new => ∃ p c X, u = .slice p m c ∧ SlAt 29 1 (.slice p m c) m (prtV g b m) X [] ∧ new = X ++ ChunkGCap g (.slice (some ⟨b, 0, none⟩) (g * m) cap) b2 b3)) := fun w ho => by
    refine calls_of_vwM Try.func95 rfl Try.ntmps95 (by simp) ho ?_
    refine vw_seq (vw_region (by kernel_rfl) (vops_box [.slice none 0 0] rfl (fun bs hbs => ?_)))
    repeat (first | refine vops_q tyOk rfl ?_ | refine vops_nil ?_ | refine vw_seq ?_ | refine vw_region (by kernel_rfl) ?_ | refine vw_block ?_)
    refine vw_rangeFunc (ts := [7]) (own0 := [(bs, ⟨[.slice none 0 0], 24, 1, none⟩)]) (cap := ChunkGCap g (.slice (some ⟨b, 0, none⟩) (g * m) cap) b2 b3) rfl ent96 (it_chunkG g hg0 (some ⟨b, 0, none⟩) m cap (.inr ⟨b, 0, rfl⟩) hcap (by omega) b2 b3) (List.Perm.refl _) (by simp) (fun x hx => by
        obtain ⟨q, _, rfl⟩ := List.mem_map.1 hx; rfl)
      (fun q own => ∃ (p : Option Addr) (c : Nat) (X : Own), SlAt 29 1 (.slice p q c) q (prtV g b q) X [] ∧ own = X ++ [(bs, ⟨[.slice p q c], 24, 1, none⟩)])
      (fun _ _ => False) ⟨none, 0, [], SlAt.nil, rfl⟩ ?_ ?_ (fun c o h => h.elim)
    · rintro l q x ownc w1 hx ⟨p, c, X, hX, rfl⟩ hg1
      have hqm : q < m := by have := (List.getElem?_eq_some_iff.1 hx).1; rwa [chunkG_length] at this
      rw [chunkG_at hqm] at hx
      obtain rfl : [partG g (some ⟨b, 0, none⟩) q] = x := Option.some.inj hx
      have hpart : partG g (some ⟨b, 0, none⟩) q = .slice (some ⟨b, 0 + g * q, none⟩) g g := rfl
      simp only [updL, hpart]
      repeat (first | refine vops_q tyOk rfl ?_ | refine vops_nil ?_ | refine vw_region (by kernel_rfl) ?_)
      intro w2 hg2
      refine vw_block ?_
      repeat (first | refine vops_q tyOk rfl ?_ | refine vops_nil ?_ | refine vw_region (by kernel_rfl) ?_ | refine vops_litV tyOk rfl rfl (List.cons_ne_nil _ _) rfl rfl rfl (fun bl hbl => ?_) | refine vops_appendV tyOk rfl rfl (List.cons_ne_nil _ _) rfl rfl (by decide) rfl hX (by repeat (first | exact pm_here | exact pm_last | apply pm_next | apply pm_past)) rfl (by repeat (first | exact mem_here | apply mem_next | apply mem_past)) rfl (by omega) (fun p' c' X' hX' => ?_) | ((show VOps _ _ _ _ (⟨some _, Go.Op.load _ _, _, _, _, none⟩ :: _) _ _); refine vops_loadM tyOk rfl rfl rfl (by repeat (first | exact mem_here | apply mem_next | apply mem_past)) (by rfl) ?_) | ((show VOps _ _ _ _ (⟨none, Go.Op.store _ _ _, _, _, _, none⟩ :: _) _ _); refine vops_storeM tyOk rfl rfl rfl rfl rfl (by repeat (first | exact upd_here | apply upd_next | apply upd_past)) (by simp) ?_))
      exact ⟨X' ++ [(bs, ⟨[.slice p' (q + 1) c'], 24, 1, none⟩)], (by repeat (first | exact ole_nil | exact ole_refl | (apply ole_cons; (repeat (first | exact pm1_here | apply pm1_next | apply pm1_past))) | (apply ole_app; (repeat (first | exact pm_here | exact pm_last | apply pm_next | apply pm_past))))), p', c', X', by rw [prtV_succ]; exact hX', rfl⟩
    · rintro own' ⟨p, c, X, hX, rfl⟩
      rw [chunkG_length] at hX ⊢
      rw [List.append_assoc]
      refine vw_nodup (fun hnd => ?_)
      repeat (first | refine vops_q tyOk rfl ?_ | refine vops_nil ?_ | refine vw_seq ?_ | refine vw_region (by kernel_rfl) ?_ | refine vw_ret ?_ | ((show VOps _ _ _ _ (⟨some _, Go.Op.load _ _, _, _, _, none⟩ :: _) _ _); refine vops_loadM tyOk rfl rfl rfl (by repeat (first | exact mem_here | apply mem_next | apply mem_past)) (by rfl) ?_))
      refine out1 rfl rfl (nodup_sub hnd ?_) (fun x hx => ?_) ⟨p, c, X, rfl, hX, rfl⟩
      · exact (List.Sublist.refl X).append (List.sublist_append_right _ _)
      · rcases List.mem_append.1 hx with h | h
        · exact List.mem_append_left _ h
        · exact List.mem_append_right _ (List.mem_append_right _ h)
  refine calls_of_vwM Try.func68 rfl Try.ntmps68 (by simp) ho ?_
  repeat (first | refine vops_q tyOk rfl ?_ | refine vops_nil ?_ | refine vw_seq ?_ | refine vw_region (by kernel_rfl) ?_)
  refine vops_callM ent95 rfl (own0 := ChunkGCap g (.slice (some ⟨b, 0, none⟩) (g * m) cap) b2 b3) (own1 := []) (by rw [List.append_nil]) (fun w' hg => key w' (okS hg)) ?_
  rintro _ newM ⟨p, c, X, rfl, hX, rfl⟩
  refine vops_nodup (fun hnd => ?_)
  repeat (first | refine vops_q tyOk rfl ?_ | refine vops_nil ?_ | refine vw_ret ?_)
  rw [List.append_nil] at hnd ⊢
  exact out1 rfl rfl hnd (fun x hx => hx) ⟨p, c, X, rfl, hX, rfl⟩

open Classical in
noncomputable def tidyR (n g : Int) (ls : List (List Int)) (i : Int) : List Int × Int :=
  if IsGf n g ls then (if 0 ≤ i ∧ i < ls.length then ((tdTo g.toNat (ls.getD i.toNat []) n.toNat).flatten, 0) else ([], 2)) else ([], 1)
theorem gf_parts {k d : Nat} {ls : List (List Int)} (h : IsGf k d ls) : ∃ m, d * m = k ∧ 0 < m := by
  have h1 := gf_dvd h
  have h2 := h.1
  have hm : d * (k / d) = k := Nat.mul_div_cancel' (Nat.dvd_of_mod_eq_zero h1)
  refine ⟨k / d, hm, ?_⟩
  rcases Nat.eq_zero_or_pos (k / d) with e | e
  · rw [e] at hm; omega
  · exact e
theorem tidyR_len (n g : Int) (ls : List (List Int)) (i : Int) : (tidyR n g ls i).1.length ≤ 1048576 := by
  unfold tidyR
  split
  · rename_i h
    have h25 := h.2.1
    have h2g := h.2.2.1
    split
    · rename_i hi
      obtain ⟨k, d, rfl, rfl⟩ := h.nat
      obtain ⟨m, hm, _⟩ := gf_parts h
      rw [Int.toNat_natCast, Int.toNat_natCast]
      have hgt : ls[i.toNat]? = some (ls.getD i.toNat []) := by rw [List.getD_eq_getElem?_getD, List.getElem?_eq_getElem (by omega)]; rfl
      have := tdFlat_len (h.row hgt) (show 0 < d by omega) hm (by omega) k (Nat.le_refl _)
      show (tdTo _ _ _).flatten.length ≤ _
      omega
    · simp
  · simp
/-- Slices of groups, read. -/
theorem rd_groups {Γ : Ctx} {own : Own} {w : World} {b bo g m e e2 cap n2 : Nat} {r : List Int} {l : List Nat} {L : List Int} (hg : Go.VL.Good Γ own w) (hr : r.length = g * m) (hl : ∀ i ∈ l, i < m) (hL : L = ((List.range m).map (Gs g r)).flatten)
    (ho : (bo, (⟨l.map (partG g (some ⟨b, 0, none⟩)), e, n2, none⟩ : Blk)) ∈ own) (hb : (b, (⟨ints L, e2, cap, none⟩ : Blk)) ∈ own) (c : Nat) : RdII w (.slice (some ⟨bo, 0, none⟩) l.length c) (l.map (Gs g r)) := by
  subst hL
  have hLl := flatG_length hr m (Nat.le_refl _)
  refine ⟨l.map (partG g (some ⟨b, 0, none⟩)), by simp, fun i u y hu hy => ?_, .inr ⟨bo, 0, c, by simp, fun j x hx => by rw [Nat.zero_add]; exact cell_of_blk hg.ok ho hx⟩⟩
  rw [List.getElem?_map] at hu hy
  obtain ⟨z, hz, rfl⟩ := Option.map_eq_some_iff.1 hu
  rw [hz] at hy
  obtain rfl : Gs g r z = y := by simpa using hy
  have hzm := hl z (List.mem_of_getElem? hz)
  have hGl := Gs_length hr hzm
  refine .inr ⟨b, 0 + g * z, g, by rw [hGl]; rfl, fun j x hx => ?_⟩
  have hj : j < (Gs g r z).length := by have := (List.getElem?_eq_some_iff.1 hx).1; rwa [ints_length] at this
  rw [ints_get hj] at hx
  cases hx
  have hmul := Nat.mul_le_mul_left g (show z + 1 ≤ m by omega)
  rw [Nat.mul_add, Nat.mul_one] at hmul
  rw [Nat.zero_add, ← srtL_get hr (i := z) (by omega) m hzm (Nat.le_refl _)]
  exact cell_of_blk hg.ok hb (ints_get (by omega))

open Classical in
set_option maxHeartbeats 4000000 in
set_option maxRecDepth 100000 in
theorem c_impl_TidyRound (m g i : Int) (v : Value) (ls : List (List Int)) (w : World) (hv : RdCC w v ls) (hl : ls.length ≤ 1048576) (hll : ∀ l ∈ ls, l.length ≤ 1048576) :
    Calls Try.prog 25 [.agg #[.int .i64 m, .int .i64 g, v], .int .i64 i].toArray w (Res w (PairI 2 (tidyR m g ls i))) := by
  obtain ⟨a, cap, rfl⟩ := hv.len
  refine calls_of_vw Try.func25 rfl Try.ntmps25 (by simp) ?_
  refine vw_seq (vw_region (by kernel_rfl) (vops_box [.int .i64 m, .int .i64 g, .slice a ls.length cap] rfl (fun b2 hb2 => ?_)))
  repeat (first | refine vops_q tyOk rfl ?_ | refine vops_nil ?_ | refine vw_seq ?_)
  refine vw_draw [0, 1, 2, 3, 4, 5, 6, 7] (by kernel_rfl) (by kernel_rfl) (by kernel_rfl) rfl ?_
  repeat' (first | refine vd_q tyOk rfl (by first | trivial | rfl) rfl (by kernel_rfl) (by kernel_rfl) ?_ | refine vops_nil ?_ | refine vd_nil (by kernel_rfl) ?_ | refine ⟨fun _ _ _ h => h, ?_⟩ | refine vd_load tyOk rfl (by first | trivial | rfl) rfl rfl rfl (by kernel_rfl) (by kernel_rfl) (by kernel_rfl) (sees_mem (by repeat (first | exact mem_here | apply mem_next | apply mem_past)) (by rfl)) (by repeat (first | exact sub_hereL | exact sub_refl | apply sub_cons | apply sub_app)) ?_ | refine vd_loadNM tyOk rfl (by first | trivial | rfl) rfl rfl rfl (by repeat (first | exact mem_here | apply mem_next | apply mem_past)) (by first | rfl | (rw [ints_length]; first | assumption | omega | (rw [ints_length]; first | assumption | omega | simp [*])) | simp [*]) (by kernel_rfl) (by kernel_rfl) (by kernel_rfl) (by repeat (first | exact sub_hereL | exact sub_refl | apply sub_cons | apply sub_app)) ?_ | (apply vops_callp ent58 rfl; (intro w _; exact c_isBelow _ _ w)) | (apply vops_callp ent57 rfl; (intro w' hg; exact c_codeOfGolf _ _ _ ls _ w' (hv.rd.same hg.fr) hl hll)) | refine vd_one rfl (by kernel_rfl) (by kernel_rfl) rfl ?_)
  have hcd := codeG_dec (n := m) (g := g) (ls := ls) (p := 0 ≤ i ∧ i < (ls.length : Int)) rfl
  rw [hcd]
  by_cases h : IsGf m g ls
  rotate_left
  · rw [if_neg h]
    repeat (first | refine vops_q tyOk rfl ?_ | refine vops_nil ?_ | refine vw_seq ?_ | refine vw_region (by kernel_rfl) ?_ | refine vw_cond rfl ?_)
    refine bs_ndec2 (fun _ => ?_) (fun hh => by omega)
    repeat (first | refine vops_q tyOk rfl ?_ | refine vops_nil ?_ | refine vw_seq ?_ | refine vw_region (by kernel_rfl) ?_ | refine vw_ret ?_)
    exact pairI_err rfl rfl rfl (by rw [tidyR, if_neg h])
  rw [if_pos h]
  by_cases hi : 0 ≤ i ∧ i < (ls.length : Int)
  rotate_left
  · rw [if_neg hi]
    repeat (first | refine vops_q tyOk rfl ?_ | refine vops_nil ?_ | refine vw_seq ?_ | refine vw_region (by kernel_rfl) ?_ | refine vw_cond rfl ?_)
    refine bs_ndec2 (fun _ => ?_) (fun hh => by omega)
    repeat (first | refine vops_q tyOk rfl ?_ | refine vops_nil ?_ | refine vw_seq ?_ | refine vw_region (by kernel_rfl) ?_ | refine vw_ret ?_)
    exact pairI_err rfl rfl rfl (by rw [tidyR, if_pos h, if_neg hi])
  rw [if_pos hi]
  have hm2 := h.1
  have hm25 := h.2.1
  have hg2 := h.2.2.1
  have hgle := h.gle
  obtain ⟨k, d, rfl, rfl⟩ := h.nat
  obtain ⟨t, rfl⟩ : ∃ t : Nat, i = (t : Int) := ⟨i.toNat, by omega⟩
  have hd2 : 2 ≤ d := by omega
  have hR : tidyR k d ls t = ((tdTo d (ls.getD t []) k).flatten, 0) := by rw [tidyR, if_pos h, if_pos hi, Int.toNat_natCast, Int.toNat_natCast, Int.toNat_natCast]
  rw [hR]
  have htl : t < ls.length := by omega
  obtain ⟨b, o, cap', u, cap2, he, hcu, hu⟩ := hv.row (i := t) htl
  cases he
  have hgt : ls[t]? = some (ls.getD t []) := by rw [List.getD_eq_getElem?_getD, List.getElem?_eq_getElem htl]; rfl
  have hrow := h.row hgt
  obtain ⟨q, hq, hq0⟩ := gf_parts h
  generalize ls.getD t [] = r at *
  have hrl : r.length = k := by have := hrow.1; omega
  have hrq : r.length = d * q := by omega
  have hqk : q ≤ 25 := by
    have := Nat.le_mul_of_pos_left q (show 0 < d by omega)
    omega
  rw [hrl] at hcu hu
  repeat (first | refine vops_q tyOk rfl ?_ | refine vops_nil ?_ | refine vw_seq ?_ | refine vw_region (by kernel_rfl) ?_ | refine vw_cond rfl ?_)
  refine bs_ndec2 (fun hh => absurd rfl hh) (fun _ => ?_)
  repeat (first | refine vw_seq ?_ | refine vw_skip ?_)
  refine vw_draw [0, 1, 2, 3, 4, 6, 7, 5, 8, 9, 10] (by kernel_rfl) (by kernel_rfl) (by kernel_rfl) rfl ?_
  repeat' (first | refine vd_q tyOk rfl (by first | trivial | rfl) rfl (by kernel_rfl) (by kernel_rfl) ?_ | refine vd_p tyOk rfl (by first | trivial | rfl) rfl (by kernel_rfl) (by kernel_rfl) (by (try simp only [inR]); omega) ?_ | refine vops_nil ?_ | refine ⟨fun _ _ _ h => List.mem_append_right _ h, ?_⟩ | refine vd_load tyOk rfl (by first | trivial | rfl) rfl rfl rfl (by kernel_rfl) (by kernel_rfl) (by kernel_rfl) (sees_mem (by repeat (first | exact mem_here | apply mem_next | apply mem_past)) (by rfl)) (by repeat (first | exact sub_hereL | exact sub_refl | apply sub_cons | apply sub_app)) ?_ | refine vd_load tyOk rfl (by first | trivial | rfl) rfl rfl rfl (by kernel_rfl) (by kernel_rfl) (by kernel_rfl) (sees_old hcu (by simp)) (by repeat (first | exact sub_hereL | exact sub_refl | apply sub_cons | apply sub_app)) ?_ | (apply vops_call ent60 rfl; (intro w' hg; exact c_clone _ r w' (hu.1.same hg.fr) (by omega)); (intro _ newN hN; obtain ⟨pN, cN, rfl⟩ := SlAt.form hN)) | refine vd_one rfl (by kernel_rfl) (by kernel_rfl) rfl ?_)
  obtain ⟨bn, rfl, rfl, hNc1, hNc2⟩ : ∃ bn, pN = some ⟨bn, 0, none⟩ ∧ newN = [(bn, ⟨ints r, 2, cN * 1, none⟩)] ∧ r.length ≤ cN ∧ cN ≤ maxLen := by
    rcases hN.2 with ⟨_, h, _⟩ | ⟨bn, c, h1, h2, h3, h4⟩
    · omega
    · injection h1 with h1 _ h5; subst h5; exact ⟨bn, h1, h4, h2, h3⟩
  clear hN
  rw [hrq] at hNc1 ⊢
  repeat' (first | refine vd_q tyOk rfl (by first | trivial | rfl) rfl (by kernel_rfl) (by kernel_rfl) ?_ | refine vops_nil ?_ | refine vd_nil (by kernel_rfl) ?_ | refine ⟨fun _ _ _ h => List.mem_append_right _ h, ?_⟩ | refine ⟨fun _ p hp _ => (show Go.VL.Sub _ _ from (by repeat (first | exact sub_hereL | exact sub_refl | apply sub_cons | apply sub_app))) p hp, ?_⟩ | (apply vops_call ent69 rfl; (intro w' hg; exact c_chunkG d (by omega) (some ⟨bn, 0, none⟩) (d * q) cN w'); (rintro _ newC ⟨b8, b9, rfl, rfl, hne⟩)) | (refine vops_callM ent68 rfl (own0 := ChunkGCap d (.slice (some ⟨bn, 0, none⟩) (d * q) cN) b8 b9) (by repeat (first | exact pm_here | exact pm_last | apply pm_next | apply pm_past)) (fun w' hg => c_collectG d (by omega) bn q cN b8 b9 hNc1 (by omega) w' (okS hg)) ?_; rintro _ newM ⟨pX, cX, X, rfl, hX, rfl⟩) | refine vd_one rfl (by kernel_rfl) (by kernel_rfl) rfl ?_)
  obtain ⟨bo, rfl, rfl⟩ := outer_blk hX hq0
  have hcX : q ≤ cX ∧ cX ≤ maxLen := by
    rcases hX.2 with ⟨_, h, _⟩ | ⟨bn, c, h1, h2, h3, h4⟩
    · omega
    · injection h1 with h1 _ h5; subst h5; exact ⟨h2, h3⟩
  repeat (first | refine vops_q tyOk rfl ?_ | refine vops_nil ?_ | refine vw_seq ?_ | refine vw_region (by kernel_rfl) ?_ | refine vw_block ?_)
  refine vw_loopW (fun y f own => ∃ z : Nat, z ≤ q ∧ y = q - z ∧ f 32 = .int .i64 z ∧ f 31 = .int .i64 q ∧ f 30 = .slice (some ⟨bo, 0, none⟩) q cX ∧ f 7 = .slice (some ⟨bo, 0, none⟩) q cX ∧
      own = [(bo, ⟨prtV d bn q, 29, cX * 1, none⟩), (bn, ⟨ints (srtL d r z), 2, cN * 1, none⟩), (b2, ⟨[.int .i64 k, .int .i64 d, .slice (some ⟨b, o, none⟩) ls.length cap], 26, 3, none⟩)]) q
    ⟨[(bo, ⟨prtV d bn q, 29, cX * 1, none⟩), (bn, ⟨ints r, 2, cN * 1, none⟩), (b2, ⟨[.int .i64 k, .int .i64 d, .slice (some ⟨b, o, none⟩) ls.length cap], 26, 3, none⟩)], by rw [List.append_assoc]; exact (by repeat (first | exact ole_nil | exact ole_refl | (apply ole_cons; (repeat (first | exact pm1_here | apply pm1_next | apply pm1_past))) | (apply ole_app; (repeat (first | exact pm_here | exact pm_last | apply pm_next | apply pm_past))))), 0, by omega, by omega, rfl, rfl, rfl, rfl, by simp [srtL]⟩ ?_
  rintro y f own ⟨z, hz, rfl, h32, h31, h30, h7, rfl⟩
  rw [upd_of h32, upd_of h31, upd_of h30, upd_of h7]
  repeat (first | refine vops_q tyOk rfl ?_ | refine vops_nil ?_ | refine vw_seq ?_ | refine vw_region (by kernel_rfl) ?_ | refine vw_cond rfl ?_)
  refine bs_dec (fun hlt => ?_) (fun hlt => ?_)
  · have hzq : z < q := by omega
    have hmul := Nat.mul_le_mul_left d (show z + 1 ≤ q by omega)
    rw [Nat.mul_add, Nat.mul_one] at hmul
    have hva : (prtV d bn q)[0 + (z : Int).toNat]? = some (.slice (some ⟨bn, d * z, none⟩) d d) := by rw [show 0 + (z : Int).toNat = z by omega]; exact prtV_get hzq
    have hsl := srtL_length hrq (show z ≤ q by omega)
    have hst := srtL_step hrq hzq
    repeat (first | refine vops_q tyOk rfl ?_ | refine vops_nil ?_ | refine vw_seq ?_ | refine vw_region (by kernel_rfl) ?_ | refine vops_p tyOk rfl (by (try simp only [inR]); omega) ?_ | refine vw_skip ?_ | refine vw_block ?_ | refine vops_loadM tyOk rfl rfl rfl (by repeat (first | exact mem_here | apply mem_next | apply mem_past)) (by exact hva) ?_)
    refine vops_callM ent61 rfl (own0 := [(bn, ⟨ints (srtL d r z), 2, cN * 1, none⟩)]) (by repeat (first | exact pm_here | exact pm_last | apply pm_next | apply pm_past)) (fun w' hg => c_sortPart bn 2 (cN * 1) (srtL d r z) (d * z) d (by omega) (by omega) w' (okS hg) (by omega) d) ?_
    rintro _ newM ⟨rfl, rfl⟩
    rw [hst]
    repeat (first | refine vops_q tyOk rfl ?_ | refine vops_nil ?_ | refine vw_region (by kernel_rfl) ?_ | refine vops_p tyOk rfl (by (try simp only [inR]); omega) ?_)
    exact ⟨q - (z + 1), by omega, [(bo, ⟨prtV d bn q, 29, cX * 1, none⟩), (bn, ⟨ints (srtL d r (z + 1)), 2, cN * 1, none⟩), (b2, ⟨[.int .i64 k, .int .i64 d, .slice (some ⟨b, o, none⟩) ls.length cap], 26, 3, none⟩)], (by repeat (first | exact ole_nil | exact ole_refl | (apply ole_cons; (repeat (first | exact pm1_here | apply pm1_next | apply pm1_past))) | (apply ole_app; (repeat (first | exact pm_here | exact pm_last | apply pm_next | apply pm_past))))), z + 1, by omega, rfl, rfl, rfl, rfl, rfl, rfl⟩
  · obtain rfl : z = q := by omega
    obtain ⟨j, rfl⟩ : ∃ j, z = j + 1 := ⟨z - 1, by omega⟩
    rw [srtL_all hrq]
    have hLl := flatG_length hrq (j + 1) (Nat.le_refl _)
    repeat (first | refine vops_q tyOk rfl ?_ | refine vw_seq ?_ | refine vw_region (by kernel_rfl) ?_ | refine vw_exit ?_)
    refine vops_callM ent70 rfl (own0 := [(bo, ⟨prtV d bn (j + 1), 29, cX * 1, none⟩)]) (own1 := [(bn, ⟨ints (((List.range (j + 1)).map (Gs d r)).flatten), 2, cN * 1, none⟩), (b2, ⟨[.int .i64 k, .int .i64 d, .slice (some ⟨b, o, none⟩) ls.length cap], 26, 3, none⟩)]) (List.Perm.refl _) (fun w' hg => c_sortGroups d bn j 29 (cX * 1) bo (fun e => by
        have hnd := hg.ok.nodup
        rw [e] at hnd
        exact absurd hnd (by simp [ids])) (Gs d r) (fun i hi => Gs_length hrq (by omega)) (by omega) (by omega) (by omega) (fun i1 i2 h1 h2 e => by
        obtain ⟨a1, _, e1, p1, _⟩ := Gs_head hrow (show 0 < d by omega) hq (show i1 < j + 1 by omega)
        obtain ⟨a2, _, e2, p2, _⟩ := Gs_head hrow (show 0 < d by omega) hq (show i2 < j + 1 by omega)
        rw [e1, e2] at e
        have : a1 = a2 := by omega
        rw [← p1, ← p2, this]) w' (okS hg) (fun i hi x hx => by
        have hmul := Nat.mul_le_mul_left d (show i + 1 ≤ j + 1 by omega)
        rw [Nat.mul_add d i, Nat.mul_one] at hmul
        rw [Nat.zero_add, ← srtL_get hrq (i := i) hx (j + 1) (by omega) (Nat.le_refl _)]
        exact cell_of_blk hg.ok (List.mem_append_right _ List.mem_cons_self) (ints_get (by omega))) cX) ?_
    rintro _ newM ⟨rfl, l, hlp, hls, rfl⟩
    have hll2 : l.length = j + 1 := by rw [hlp.length_eq, List.length_range]
    have hlm : ∀ i ∈ l, i < j + 1 := fun i hi => List.mem_range.1 (hlp.mem_iff.1 hi)
    have htd := tidy_eq hrow (show 0 < d by omega) hq hlp hls
    have hsum : sumLen (l.map (Gs d r)) = l.length * d := by
      rw [sumLen_const (k := d) (fun x hx => by
        obtain ⟨y, hy, rfl⟩ := List.mem_map.1 hx
        exact Gs_length hrq (hlm y hy)), List.length_map]
    have hsum2 : l.length * d ≤ 1048576 := by rw [hll2, Nat.mul_comm]; omega
    repeat (first | refine vops_q tyOk rfl ?_ | refine vops_nil ?_ | refine vw_seq ?_ | refine vw_region (by kernel_rfl) ?_ | refine vw_ret ?_ | (apply vops_call ent72 rfl; (intro w' hg; exact c_concat _ (l.map (Gs d r)) w' (by rw [← hll2]; exact rd_groups hg hrq hlm rfl (by repeat (first | exact mem_here | apply mem_next | apply mem_past)) (by repeat (first | exact mem_here | apply mem_next | apply mem_past)) _) (by rw [List.length_map, hll2]; omega) (by rw [hsum]; exact hsum2)); (intro _ newN hN; obtain ⟨pN, cN2, rfl⟩ := SlAt.form hN)))
    exact pairI_ok rfl rfl rfl hN (by repeat (first | exact sub_hereL | exact sub_refl | apply sub_cons | apply sub_app)) (by rw [htd])
end Go.Proofs.Ytnammdmiljjhjaa

/- A part of the proof: X14S. No conditions of its own. -/
namespace Go.Proofs.Ytnammdmiljjhjaa
open Go.VL
attribute [local irreducible] VWr VOps VD Calls

theorem mem_own {n g m : Nat} {r : List Int} (h : IsPerm n r) (hg : 0 < g) (hm : g * m = n) {a x : Nat} (ha : a < n) (hx : x < n) (haa : hdG g r a = (a : Int)) : (x : Int) ∈ sortL (grpAt g r a) ↔ hdG g r x = (a : Int) := by
  have hp := pos_lt h ha
  rw [grp_of_pos, mem_Gs h hg hm (Nat.div_lt_of_lt_mul (by omega)) hx]
  constructor
  · intro e
    unfold hdG at haa ⊢
    rw [grp_of_pos, e, ← grp_of_pos]; exact haa
  · intro e
    obtain ⟨a', _, h2, h3, _, _⟩ := hdG_facts h hg hm hx
    have : a' = a := by omega
    subst this
    exact h3.symm
open Classical in
set_option maxHeartbeats 4000000 in
set_option maxRecDepth 100000 in
theorem c_spec_TidyRound (m g i : Int) (v : Value) (ls : List (List Int)) (w : World) (hv : RdCC w v ls) (hl : ls.length ≤ 1048576) (hll : ∀ l ∈ ls, l.length ≤ 1048576) :
    Calls Try.prog 26 [.agg #[.int .i64 m, .int .i64 g, v], .int .i64 i].toArray w (Res w (PairI 2 (tidyR m g ls i))) := by
  obtain ⟨a, cap, rfl⟩ := hv.len
  refine calls_of_vw Try.func26 rfl Try.ntmps26 (by simp) ?_
  refine vw_seq (vw_region (by kernel_rfl) (vops_box [.int .i64 m, .int .i64 g, .slice a ls.length cap] rfl (fun b2 hb2 => ?_)))
  have hcd : code8 m g ls i [] = if IsGf m g ls then (if 0 ≤ i ∧ i < ls.length then 0 else 2) else 1 := by
    unfold code8
    simp
  repeat (first | refine vops_q tyOk rfl ?_ | refine vops_nil ?_ | refine vw_seq ?_ | refine vw_region (by kernel_rfl) ?_ | refine vw_cond rfl ?_ | (apply vops_callp ent62 rfl; (intro w' hg; exact c_l08Code _ _ i _ _ ls [] w' (hv.rd.same hg.fr) (.inl ⟨none, 0, rfl, rfl⟩) hl hll (by simp))) | ((show VOps _ _ _ _ (⟨some _, Go.Op.load _ _, _, _, _, none⟩ :: _) _ _); refine vops_loadNM tyOk rfl rfl rfl (by repeat (first | exact mem_here | apply mem_next | apply mem_past)) (by first | rfl | (rw [ints_length]; first | assumption | omega | (rw [ints_length]; first | assumption | omega | simp [*])) | simp [*]) ?_))
  rw [hcd]
  by_cases h : IsGf m g ls
  rotate_left
  · rw [if_neg h]
    skip
    refine bs_ndec2 (fun _ => ?_) (fun hh => by omega)
    repeat (first | refine vops_q tyOk rfl ?_ | refine vops_nil ?_ | refine vw_seq ?_ | refine vw_region (by kernel_rfl) ?_ | refine vw_ret ?_)
    exact pairI_err rfl rfl rfl (by rw [tidyR, if_neg h])
  rw [if_pos h]
  by_cases hi : 0 ≤ i ∧ i < (ls.length : Int)
  rotate_left
  · rw [if_neg hi]
    skip
    refine bs_ndec2 (fun _ => ?_) (fun hh => by omega)
    repeat (first | refine vops_q tyOk rfl ?_ | refine vops_nil ?_ | refine vw_seq ?_ | refine vw_region (by kernel_rfl) ?_ | refine vw_ret ?_)
    exact pairI_err rfl rfl rfl (by rw [tidyR, if_pos h, if_neg hi])
  rw [if_pos hi]
  have hm2 := h.1
  have hm25 := h.2.1
  have hg2 := h.2.2.1
  have hgle := h.gle
  obtain ⟨k, d, rfl, rfl⟩ := h.nat
  obtain ⟨t, rfl⟩ : ∃ t : Nat, i = (t : Int) := ⟨i.toNat, by omega⟩
  have hd2 : 2 ≤ d := by omega
  have hR : tidyR k d ls t = ((tdTo d (ls.getD t []) k).flatten, 0) := by rw [tidyR, if_pos h, if_pos hi, Int.toNat_natCast, Int.toNat_natCast, Int.toNat_natCast]
  rw [hR]
  have htl : t < ls.length := by omega
  obtain ⟨b, o, cap', u, cap2, he, hcu, hu⟩ := hv.row (i := t) htl
  cases he
  have hgt : ls[t]? = some (ls.getD t []) := by rw [List.getD_eq_getElem?_getD, List.getElem?_eq_getElem htl]; rfl
  have hrow := h.row hgt
  obtain ⟨q, hq, hq0⟩ := gf_parts h
  generalize ls.getD t [] = r at *
  have hrl : r.length = k := by have := hrow.1; omega
  have hdk : d ≤ k := by omega
  skip
  refine bs_ndec2 (fun hh => absurd rfl hh) (fun _ => ?_)
  repeat (first | refine vops_q tyOk rfl ?_ | refine vw_seq ?_ | refine vw_region (by kernel_rfl) ?_ | refine vw_skip ?_ | ((show VOps _ _ _ _ (⟨some _, Go.Op.load _ _, _, _, _, none⟩ :: _) _ _); refine vops_loadM tyOk rfl rfl rfl (by repeat (first | exact mem_here | apply mem_next | apply mem_past)) (by rfl) ?_))
  refine vops_makeBools (n := k) tyOk rfl rfl rfl rfl rfl rfl rfl (by decide) (by omega) (fun bm hbm => ?_)
  refine vops_build0 tyOk rfl rfl (fun be hbe => ?_)
  repeat (first | refine vops_q tyOk rfl ?_ | refine vops_nil ?_ | refine vw_seq ?_ | refine vw_region (by kernel_rfl) ?_ | refine vw_block ?_)
  refine vw_loopW (fun y f own => ∃ (x : Nat) (M : List Bool) (p2 : Option Addr) (c2 : Nat) (new : Own), x ≤ k ∧ y = k - x ∧ M.length = k ∧ (∀ z, z < k → M.getD z false = decide (hdG d r z < (x : Int))) ∧ f 9 = .int .i64 x ∧ f 7 = .slice (some ⟨bm, 0, none⟩) k k ∧ f 8 = .slice p2 (tdTo d r x).flatten.length c2 ∧ f 1 = .int .i64 t ∧ f 2 = .pointer (some ⟨b2, 0, none⟩) ∧
      NewI 2 (tdTo d r x).flatten (.slice p2 (tdTo d r x).flatten.length c2) new ∧ own = new ++ [(bm, ⟨bools M, 4, k, none⟩), (b2, ⟨[.int .i64 k, .int .i64 d, .slice (some ⟨b, o, none⟩) ls.length cap], 26, 3, none⟩)]) k
    ⟨_, ole_refl, 0, List.replicate k false, some ⟨be, 0, none⟩, 0, [(be, ⟨[], 2, 0, none⟩)], by omega, by omega, by simp, fun z hz => by
      obtain ⟨a', _, h2, _, _, _⟩ := hdG_facts hrow (show 0 < d by omega) hq hz
      have h0 : ¬ hdG d r z < ((0 : Nat) : Int) := by omega
      rw [decide_eq_false h0]; simp [hz], rfl, rfl, rfl, rfl, rfl, NewI.empty, rfl⟩ ?_
  rintro y f own ⟨x, M, p2, c2, new, hx, rfl, hMl, hM, h9, h7, h8, h1, h2, hN, rfl⟩
  rw [upd_of h9, upd_of h7, upd_of h8, upd_of h1, upd_of h2]
  have hsl := tdFlat_len hrow (show 0 < d by omega) hq (by omega) x hx
  repeat (first | refine vops_q tyOk rfl ?_ | refine vops_nil ?_ | refine vw_seq ?_ | refine vw_region (by kernel_rfl) ?_ | refine vw_cond rfl ?_ | ((show VOps _ _ _ _ (⟨some _, Go.Op.load _ _, _, _, _, none⟩ :: _) _ _); refine vops_loadM tyOk rfl rfl rfl (by repeat (first | exact mem_here | apply mem_next | apply mem_past)) (by rfl) ?_))
  refine bs_dec (fun hlt => ?_) (fun hlt => ?_)
  · have hxk : x < k := by omega
    obtain ⟨a', ha1, ha2, ha3, ha4, ha5⟩ := hdG_facts hrow (show 0 < d by omega) hq hxk
    have hld : (bools M)[0 + (x : Int).toNat]? = some (.bool (decide (hdG d r x < (x : Int)))) := by
      rw [show (x : Int).toNat = x from Int.toNat_natCast x, ← hM x hxk]; exact bools_get (by omega)
    repeat (first | refine vops_q tyOk rfl ?_ | refine vops_nil ?_ | refine vw_seq ?_ | refine vw_region (by kernel_rfl) ?_ | refine vops_p tyOk rfl (by (try simp only [inR]); omega) ?_ | refine vw_cond rfl ?_ | refine vw_skip ?_ | refine vw_block ?_ | refine vops_loadM tyOk rfl rfl rfl (by repeat (first | exact mem_here | apply mem_next | apply mem_past)) (by exact hld) ?_)
    refine bs_dec (fun hb => ?_) (fun hb => ?_)
    · have hst : tdTo d r (x + 1) = tdTo d r x := by rw [tdTo, if_neg (by omega)]
      repeat (first | refine vops_q tyOk rfl ?_ | refine vops_nil ?_ | refine vw_region (by kernel_rfl) ?_ | refine vops_p tyOk rfl (by (try simp only [inR]); omega) ?_ | refine vw_exit ?_)
      refine ⟨k - (x + 1), by omega, _, ole_refl, x + 1, M, p2, c2, new, by omega, rfl, hMl, fun z hz => ?_, rfl, rfl, by rw [hst]; rfl, rfl, rfl, by rw [hst]; exact hN, rfl⟩
      rw [hM z hz]
      obtain ⟨a'', _, hz2, _, _, hz5⟩ := hdG_facts hrow (show 0 < d by omega) hq hz
      refine decide_eq_decide.2 ⟨fun hh => by omega, fun hh => ?_⟩
      by_cases e : hdG d r z = (x : Int)
      · have : a'' = x := by omega
        subst this
        omega
      · omega
    · have hxx : hdG d r x = (x : Int) := by omega
      have hst : tdTo d r (x + 1) = tdTo d r x ++ [sortL (grpAt d r x)] := by rw [tdTo, if_pos hxx]
      have hgl : (sortL (grpAt d r x)).length = d := by rw [sortL_length, grpAt_length hrow (gf_dvd h) hxk]
      have hmo := fun {z : Nat} (hz : z < k) => mem_own hrow (show 0 < d by omega) hq hxk hz hxx
      have hrg : ∀ y ∈ sortL (grpAt d r x), 0 ≤ y ∧ y < (k : Int) := fun y hy => by
        rw [grp_of_pos] at hy; exact Gs_nat hrow hy
      repeat (first | refine vw_seq ?_ | refine vw_skip ?_)
      refine vw_draw [0, 1, 2, 3, 4, 5, 6, 7, 8] (by kernel_rfl) (by kernel_rfl) (by kernel_rfl) rfl ?_
      repeat' (first | refine vd_q tyOk rfl (by first | trivial | rfl) rfl (by kernel_rfl) (by kernel_rfl) ?_ | refine vd_p tyOk rfl (by first | trivial | rfl) rfl (by kernel_rfl) (by kernel_rfl) (by (try simp only [inR]); omega) ?_ | refine vops_nil ?_ | refine vd_nil (by kernel_rfl) ?_ | refine ⟨fun _ _ _ h => List.mem_append_right _ h, ?_⟩ | refine vd_load tyOk rfl (by first | trivial | rfl) rfl rfl rfl (by kernel_rfl) (by kernel_rfl) (by kernel_rfl) (sees_mem (by repeat (first | exact mem_here | apply mem_next | apply mem_past)) (by rfl)) (by repeat (first | exact sub_hereL | exact sub_refl | apply sub_cons | apply sub_app)) ?_ | refine vd_loadNM tyOk rfl (by first | trivial | rfl) rfl rfl rfl (by repeat (first | exact mem_here | apply mem_next | apply mem_past)) (by first | rfl | (rw [ints_length]; first | assumption | omega | (rw [ints_length]; first | assumption | omega | simp [*])) | simp [*]) (by kernel_rfl) (by kernel_rfl) (by kernel_rfl) (by repeat (first | exact sub_hereL | exact sub_refl | apply sub_cons | apply sub_app)) ?_ | refine vd_load tyOk rfl (by first | trivial | rfl) rfl rfl rfl (by kernel_rfl) (by kernel_rfl) (by kernel_rfl) (sees_old hcu (by simp)) (by repeat (first | exact sub_hereL | exact sub_refl | apply sub_cons | apply sub_app)) ?_ | (apply vops_call ent63 rfl; (intro w' hg; exact c_l08Group k d _ _ r x (by omega) (by omega) hdk (gf_dvd h) hrow hxk w' (hu.same hg.fr) _ _ _ rfl); (intro _ newG hG; obtain ⟨pG, cG, rfl⟩ := SlAt.form hG)) | refine vd_one rfl (by kernel_rfl) (by kernel_rfl) rfl ?_)
      obtain ⟨G, hGd⟩ : ∃ G, G = sortL (grpAt d r x) := ⟨_, rfl⟩
      rw [← hGd] at hG hgl hst hrg ⊢
      have hmo' : ∀ {z : Nat}, z < k → ((z : Int) ∈ G ↔ hdG d r z = (x : Int)) := fun hz => by rw [hGd]; exact hmo hz
      obtain ⟨bg, rfl, rfl⟩ : ∃ bg, pG = some ⟨bg, 0, none⟩ ∧ newG = [(bg, ⟨ints G, 2, cG * 1, none⟩)] := by
        rcases hG.2 with ⟨_, h, _⟩ | ⟨bn, c, h1, h2, h3, h4⟩
        · omega
        · injection h1 with h1 _ h5; subst h5; exact ⟨bn, h1, h4⟩
      rw [hgl]
      repeat (first | refine vops_q tyOk rfl ?_ | refine vops_nil ?_ | refine vw_seq ?_ | refine vw_region (by kernel_rfl) ?_ | refine vw_block ?_)
      refine vw_loopW (fun y f own => ∃ (z : Nat) (M1 : List Bool), z ≤ d ∧ y = d - z ∧ M1.length = k ∧ (∀ s, s < k → M1.getD s false = (decide (hdG d r s < (x : Int)) || decide ((s : Int) ∈ G.take z))) ∧ f 11 = .int .i64 z ∧ f 10 = .slice (some ⟨bg, 0, none⟩) d cG ∧ f 9 = .int .i64 x ∧ f 7 = .slice (some ⟨bm, 0, none⟩) k k ∧ f 8 = .slice p2 (tdTo d r x).flatten.length c2 ∧ f 1 = .int .i64 t ∧ f 2 = .pointer (some ⟨b2, 0, none⟩) ∧
          own = (bg, ⟨ints G, 2, cG * 1, none⟩) :: (new ++ [(bm, ⟨bools M1, 4, k, none⟩), (b2, ⟨[.int .i64 k, .int .i64 d, .slice (some ⟨b, o, none⟩) ls.length cap], 26, 3, none⟩)])) d
        ⟨_, ole_refl, 0, M, by omega, by omega, hMl, fun s hs => by rw [hM s hs]; simp, rfl, rfl, rfl, rfl, rfl, rfl, rfl, rfl⟩ ?_
      clear h9 h7 h8 h1 h2 f hM hMl hld
      rintro y f own ⟨z, M1, hz, rfl, hMl, hM, h11, h10, h9, h7, h8, h1, h2, rfl⟩
      rw [upd_of h11, upd_of h10, upd_of h9, upd_of h7, upd_of h8, upd_of h1, upd_of h2]
      repeat (first | refine vops_q tyOk rfl ?_ | refine vops_nil ?_ | refine vw_seq ?_ | refine vw_region (by kernel_rfl) ?_ | refine vw_cond rfl ?_)
      refine bs_dec (fun hlt2 => ?_) (fun hlt2 => ?_)
      · have hzd : z < d := by omega
        have hgz := hrg _ (mem_getD (l := G) (i := z) (by omega))
        have hcg : (ints G)[0 + (z : Int).toNat]? = some (.int .i64 (G.getD z 0)) := by rw [show 0 + (z : Int).toNat = z by omega]; exact ints_get (by omega)
        obtain ⟨e, hee⟩ : ∃ e : Nat, G.getD z 0 = (e : Int) := ⟨(G.getD z 0).toNat, by omega⟩
        repeat (first | refine vops_q tyOk rfl ?_ | refine vops_nil ?_ | refine vw_seq ?_ | refine vw_region (by kernel_rfl) ?_ | refine vops_p tyOk rfl (by (try simp only [inR]); omega) ?_ | refine vw_skip ?_ | refine vw_block ?_ | refine vops_loadM tyOk rfl rfl rfl (by repeat (first | exact mem_here | apply mem_next | apply mem_past)) (by exact hcg) ?_ | refine vops_storeBM tyOk rfl rfl rfl rfl (by repeat (first | exact upd_here | apply upd_next | apply upd_past)) (by rw [hMl]; omega) ?_)
        refine ⟨d - (z + 1), by omega, (bg, ⟨ints G, 2, cG * 1, none⟩) :: (new ++ [(bm, ⟨bools (M1.set (G.getD z 0).toNat true), 4, k, none⟩), (b2, ⟨[.int .i64 k, .int .i64 d, .slice (some ⟨b, o, none⟩) ls.length cap], 26, 3, none⟩)]), ole_refl, z + 1, M1.set (G.getD z 0).toNat true, by omega, rfl, by rw [List.length_set]; exact hMl, fun s hs => ?_, rfl, rfl, rfl, rfl, rfl, rfl, rfl, rfl⟩
        rw [take_snoc (by omega), hee, Int.toNat_natCast]
        simp only [List.getD_eq_getElem?_getD, List.getElem?_set]
        by_cases hse : e = s
        · subst hse
          rw [if_pos rfl, if_pos (by omega)]
          simp
        · rw [if_neg hse]
          have := hM s hs
          rw [List.getD_eq_getElem?_getD] at this
          rw [this]
          congr 1
          refine decide_eq_decide.2 ?_
          simp only [List.mem_append, List.mem_singleton]
          exact ⟨.inl, fun hh => by rcases hh with hh | hh; exact hh; omega⟩
      · obtain rfl : z = d := by omega
        rw [List.take_of_length_le (by omega)] at hM
        repeat (first | refine vops_q tyOk rfl ?_ | refine vops_nil ?_ | refine vw_region (by kernel_rfl) ?_ | refine vops_p tyOk rfl (by (try simp only [inR]); omega) ?_ | refine vw_exit ?_ | refine vops_appendL (k := 1) (q := (tdTo z r x).flatten) (q2 := G) tyOk rfl rfl (List.cons_ne_nil _ _) rfl rfl (by decide) rfl (NewI.f hN) (by repeat (first | exact pm_here | exact pm_last | apply pm_next | apply pm_past)) rfl (fun w' hg => by have h0 := rdI_F (rdI_lit (l := G) (m := z) (cap := cG) (by repeat (first | exact mem_here | apply mem_next | apply mem_past)) hg hgl.symm); rw [hgl] at h0; exact h0) (by omega) (fun p' cap' new' hN' => ?_))
        have hfl : (tdTo z r (x + 1)).flatten = (tdTo z r x).flatten ++ G := by rw [hst, List.flatten_append]; simp
        have hfll : (tdTo z r (x + 1)).flatten.length = (tdTo z r x).flatten.length + z := by rw [hfl, List.length_append, hgl]
        refine ⟨k - (x + 1), by omega, new' ++ [(bm, ⟨bools M1, 4, k, none⟩), (b2, ⟨[.int .i64 k, .int .i64 z, .slice (some ⟨b, o, none⟩) ls.length cap], 26, 3, none⟩)], (by repeat (first | exact ole_nil | exact ole_refl | (apply ole_cons; (repeat (first | exact pm1_here | apply pm1_next | apply pm1_past))) | (apply ole_app; (repeat (first | exact pm_here | exact pm_last | apply pm_next | apply pm_past))))), x + 1, M1, p', cap', new', by omega, rfl, hMl, fun s hs => ?_, rfl, rfl, by rw [hfll]; rfl, rfl, rfl, ?_, rfl⟩
        · rw [hM s hs]
          have := hmo' hs
          by_cases c1 : hdG z r s < (x : Int)
          · rw [decide_eq_true c1, Bool.true_or, decide_eq_true (show hdG z r s < ((x + 1 : Nat) : Int) by omega)]
          · rw [decide_eq_false c1, Bool.false_or]
            refine decide_eq_decide.2 ⟨fun hh => by have := this.1 hh; omega, fun hh => this.2 (by omega)⟩
        · rw [hfll, hfl]
          unfold NewI
          rw [List.length_append, hgl]
          exact hN'
  · obtain rfl : x = k := by omega
    repeat (first | refine vops_q tyOk rfl ?_ | refine vops_nil ?_ | refine vw_seq ?_ | refine vw_region (by kernel_rfl) ?_ | refine vw_ret ?_ | refine vw_exit ?_)
    exact pairI_ok rfl rfl rfl hN (by repeat (first | exact sub_hereL | exact sub_refl | apply sub_cons | apply sub_app)) rfl
end Go.Proofs.Ytnammdmiljjhjaa

