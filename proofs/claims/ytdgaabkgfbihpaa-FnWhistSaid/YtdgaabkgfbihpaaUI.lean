import Derived.Test.YtdgaabkgfbihpaaUH
import Derived.Test.YtdgaabkgfbihpaaSX
import Derived.Test.YtdgaabkgfbihpaaVLArr
/- Parts of the proof, one after another. No conditions of their own. -/
/- A part of the proof: W19. No conditions of its own. -/
namespace Go.Proofs.Ytdgaabkgfbihpaa
open Go.VL
attribute [local irreducible] VWr VOps VD Calls

/-- A round in which k players of a list have met their partners. -/
def setTo (r base : List Int) : Nat → List Int
  | 0 => base
  | k + 1 => (setTo r base k).set (r.getD k 0).toNat (r.getD (k ^^^ 1) 0)
theorem setTo_length (r base : List Int) : ∀ k, (setTo r base k).length = base.length
  | 0 => rfl
  | k + 1 => by rw [setTo, List.length_set, setTo_length r base k]
theorem xor1_even (q : Nat) : (2 * q) ^^^ 1 = 2 * q + 1 := by
  apply Nat.eq_of_testBit_eq
  intro i
  cases i with
  | zero =>
    rw [Nat.testBit_xor, Nat.testBit_zero, Nat.testBit_zero, Nat.testBit_zero, show 2 * q % 2 = 0 by omega, show (2 * q + 1) % 2 = 1 by omega]
    decide
  | succ i =>
    rw [Nat.testBit_xor, Nat.testBit_succ, Nat.testBit_succ, Nat.testBit_succ, show 2 * q / 2 = q by omega, show (2 * q + 1) / 2 = q by omega, show 1 / 2 = 0 from rfl]
    simp
theorem xor1_odd (q : Nat) : (2 * q + 1) ^^^ 1 = 2 * q := by
  rw [← xor1_even q, Nat.xor_assoc, Nat.xor_self, Nat.xor_zero]
theorem setTo_two (r base : List Int) (q : Nat) : setTo r base (2 * (q + 1)) = ((setTo r base (2 * q)).set (r.getD (2 * q) 0).toNat (r.getD (2 * q + 1) 0)).set (r.getD (2 * q + 1) 0).toNat (r.getD (2 * q) 0) := by
  show setTo r base (2 * q + 1 + 1) = _
  rw [setTo, setTo, xor1_even, xor1_odd]
/-- The round of a list of tables. -/
def parRow (n : Int) (r : List Int) : List Int := setTo r (freeTo n) r.length
theorem parRow_length (n : Int) (r : List Int) : (parRow n r).length = 14 := by rw [parRow, setTo_length, freeTo_length]
open Classical in
noncomputable def parS (n : Int) (es : List (List Int)) : (Int × List (List Int)) × Int :=
  if IsEv n es then (if 14 < n then ((0, []), 3) else ((n, es.map (parRow n)), 0)) else ((0, []), 1)
theorem parS_ok (n : Int) (es : List (List Int)) : (∀ r ∈ (parS n es).1.2, r.length = 14) ∧ (parS n es).1.2.length ≤ 1048576 := by
  unfold parS
  split
  · rename_i h
    have := h.2.2.1
    split
    · simp
    · refine ⟨fun r hr => ?_, by show (es.map (parRow n)).length ≤ _; rw [List.length_map]; omega⟩
      obtain ⟨q, _, rfl⟩ := List.mem_map.1 (show r ∈ es.map (parRow n) from hr)
      exact parRow_length _ _
  · simp
theorem parAt {r : List Int} (h4 : r.length % 4 = 0) {q : Nat} (hq : 2 * q + 1 < r.length) : ((relP [1] r).map ints)[q]? = some [.int .i64 (r.getD (2 * q) 0), .int .i64 (r.getD (2 * q + 1) 0)] := by
  have := relV_at (ds := [1]) (t := r) (i := q / 2) (j := 0) (d := 1) (p := q % 2) (by omega) h4 rfl (by omega) rfl
  have e : q / 2 * (2 * [1].length) + 2 * 0 + q % 2 = q := by simp only [List.length_cons, List.length_nil]; omega
  rw [e] at this
  rw [this]
  have h0 : ∀ a b c e : Int, flat4 1 a b c e = [a, b, c, e] := fun a b c e => rfl
  rw [h0]
  rcases Nat.mod_two_eq_zero_or_one q with h | h
  · rw [h]
    show some [Value.int .i64 (r.getD (4 * (q / 2)) 0), Value.int .i64 (r.getD (4 * (q / 2) + 1) 0)] = _
    rw [show 4 * (q / 2) = 2 * q by omega]
  · rw [h]
    show some [Value.int .i64 (r.getD (4 * (q / 2) + 2) 0), Value.int .i64 (r.getD (4 * (q / 2) + 3) 0)] = _
    rw [show 4 * (q / 2) + 2 = 2 * q by omega, show 4 * (q / 2) + 3 = 2 * q + 1 by omega]
theorem rdO_old {w0 w : World} {own : Own} {v : Value} {t : List Int} (hv : RdI w0 v t) (hg : Go.VL.Good ⟨w0, []⟩ own w) : RdO w v t own := by
  rcases hv with ⟨a, cap, _, h⟩ | ⟨b, o, cap, rfl, hc⟩
  · exact .inl h
  · by_cases h0 : t.length = 0
    · exact .inl (List.eq_nil_of_length_eq_zero h0)
    · exact .inr ⟨b, o, cap, rfl, (old_stays hg (hc 0 _ (ints_get (by omega))) (by simp)).2, fun j hj => (old_stays hg (hc j _ (ints_get hj)) (by simp)).1⟩
theorem rdFn_own {Γ : Ctx} {own' cap : Own} {w : World} {b e n c : Nat} {ds : List Nat} (hm : (b, (⟨ds.map relV, e, n, none⟩ : Blk)) ∈ cap) (hg : Go.VL.Good Γ (own' ++ cap) w) (hn : c = ds.length) : RdFn w (.slice (some ⟨b, 0, none⟩) c c) ds own' := by
  subst hn
  refine ⟨b, 0, _, rfl, fun hb => ?_, fun j d hj => ?_⟩
  · have hnd := hg.ok.nodup
    rw [ids_app] at hnd
    exact (List.nodup_append.1 hnd).2.2 b hb b (ids_mem hm) rfl
  · rw [Nat.zero_add]
    exact cell_of_blk hg.ok (List.mem_append_right _ hm) (by simp [hj])

set_option maxHeartbeats 2000000 in
set_option maxRecDepth 100000 in
theorem c_partnerRound (n : Int) (v : Value) (r : List Int) (h0 : 0 ≤ n) (h14 : n ≤ 14) (hr : EvRow n r) (w : World) (hv : RdC w v r) :
    Calls Try.prog 168 [.int .i64 n, v].toArray w (Res w (Is (.agg (ints (parRow n r)).toArray))) := by
  obtain ⟨a, cap, rfl, hcap⟩ := hv.len
  obtain ⟨h4, hD⟩ := hr
  obtain ⟨m, hm⟩ : ∃ m, r.length = 4 * m := ⟨r.length / 4, by omega⟩
  have hrl := hD.len
  have hPl := relP_length [1] m r hm
  refine calls_of_vw Try.func168 rfl Try.ntmps168 (by simp) ?_
  rw [hm]
  rw [hm] at hv
  refine vw_seq (vw_region (by kernel_rfl) (vops_allocZ (ints (List.replicate 14 0)) tyOk rfl rfl (by simp [ints]) (fun b4 hb4 => ?_)))
  have hfl := freeTo_length n
  repeat (first | refine vops_q tyOk rfl ?_ | refine vops_nil ?_ | refine vw_seq ?_ | refine vw_region (by kernel_rfl) ?_ | refine vw_block ?_ | (apply vops_callp ent248 rfl; (intro w _; exact c_freeRound _ h0 h14 w)) | refine vops_allocZ (ints (List.replicate 14 0)) tyOk rfl rfl (by simp [ints]) (fun b5 hb5 => ?_) | refine vops_litV (v := relV 1) tyOk rfl rfl (List.cons_ne_nil _ _) rfl rfl rfl (fun bl hbl => ?_) | (apply vops_call ent264 rfl; (intro w' hg; exact c_relatedAt _ _ _ _ _ _ w'); (rintro _ newN ⟨b7, b8, rfl, rfl, hne⟩)) | ((show VOps _ _ _ _ (⟨none, Go.Op.store _ _ _, _, _, _, none⟩ :: _) _ _); refine vops_storeAM tyOk rfl rfl rfl (by first | rfl | (rw [ints_length]; first | assumption | omega | (rw [ints_length]; first | assumption | omega | simp [*])) | simp [*]) (by first | exact ints_one | simp [Value.oneCell']) (by repeat (first | exact upd_here | apply upd_next | apply upd_past)) (by first | rfl | (rw [ints_length]; first | assumption | omega | (rw [ints_length]; first | assumption | omega | simp [*])) | simp [*]) ?_))
  have hlen : ((relP [1] r).map ints).length = 2 * m := by rw [List.length_map, hPl]; simp only [List.length_cons, List.length_nil]; omega
  refine vw_rangeFuncG (ts := [13, 14]) (own0 := [(b5, ⟨ints (freeTo n), 48, 14, none⟩), (b4, ⟨ints (List.replicate 14 0), 48, 14, none⟩)]) (cap := RelB (.slice a (4 * m) cap) (.slice (some ⟨bl, 0, none⟩) 1 1) b7 b8 ++ [(bl, ⟨[relV 1], 297, 1 * 1, none⟩)]) rfl ent313
    (it_rel a m cap _ r [1] hm (by omega) (by omega) (by simp) (by simp) b7 b8 _)
    (fun w' own' hg => ⟨rdO_old (t := r) (by rw [hm] at *; exact hv.1) (Good.left hg), rdFn_own (ds := [1]) (List.mem_append_right _ List.mem_cons_self) hg rfl⟩)
    ((List.perm_append_comm (l₁ := RelB (.slice a (4 * m) cap) (.slice (some ⟨bl, 0, none⟩) 1 1) b7 b8 ++ [(bl, ⟨[relV 1], 297, 1 * 1, none⟩)]) (l₂ := [(b5, ⟨ints (freeTo n), 48, 14, none⟩), (b4, ⟨ints (List.replicate 14 0), 48, 14, none⟩)]))) (by simp) (fun x hx => by
      obtain ⟨p, hp, rfl⟩ := List.mem_map.1 hx
      obtain ⟨_, _, _, _, _, rfl⟩ := relP_mem hm hD hp
      rfl)
    (fun q own => own = [(b5, ⟨ints (setTo r (freeTo n) (2 * q)), 48, 14, none⟩), (b4, ⟨ints (List.replicate 14 0), 48, 14, none⟩)])
    (fun _ _ => False) rfl ?_ ?_ (fun c o h => h.elim)
  · rintro l q x ownc w1 hx rfl hg1
    have hq : q < 2 * m := by have := (List.getElem?_eq_some_iff.1 hx).1; rwa [hlen] at this
    rw [parAt h4 (by omega)] at hx
    obtain rfl := Option.some.inj hx
    have hr1 := hD.get (i := 2 * q) (by omega)
    have hr2 := hD.get (i := 2 * q + 1) (by omega)
    have hsl := setTo_length r (freeTo n) (2 * q)
    rw [hfl] at hsl
    simp only [updL]
    repeat (first | refine vops_q tyOk rfl ?_ | refine vops_nil ?_ | refine vw_seq ?_ | refine vw_region (by kernel_rfl) ?_)
    intro w2 hg2
    repeat (first | refine vops_q tyOk rfl ?_ | refine vops_nil ?_ | refine vw_region (by kernel_rfl) ?_ | refine vops_p tyOk rfl (by (try simp only [inR]); omega) ?_ | refine vw_block ?_ | refine vops_storeIM tyOk rfl rfl rfl rfl (by repeat (first | exact upd_here | apply upd_next | apply upd_past)) (by first | omega | (rw [List.length_set]; omega)) ?_)
    refine ⟨_, ole_refl, ?_⟩
    rw [setTo_two]
  · rintro own' rfl
    rw [hlen]
    have hsl := setTo_length r (freeTo n) (2 * (2 * m))
    rw [hfl] at hsl
    repeat (first | refine vops_nil ?_ | refine vw_seq ?_ | refine vw_region (by kernel_rfl) ?_ | refine vw_ret ?_ | ((show VOps _ _ _ _ (⟨some _, Go.Op.load _ _, _, _, _, none⟩ :: _) _ _); refine vops_loadNM tyOk rfl rfl rfl (by repeat (first | exact mem_here | apply mem_next | apply mem_past)) (by first | rfl | (rw [ints_length]; first | assumption | omega | (rw [ints_length]; first | assumption | omega | simp [*])) | simp [*]) ?_) | ((show VOps _ _ _ _ (⟨none, Go.Op.store _ _ _, _, _, _, none⟩ :: _) _ _); refine vops_storeAM tyOk rfl rfl rfl (by first | rfl | (rw [ints_length]; first | assumption | omega | (rw [ints_length]; first | assumption | omega | simp [*])) | simp [*]) (by first | exact ints_one | simp [Value.oneCell']) (by repeat (first | exact upd_here | apply upd_next | apply upd_past)) (by first | rfl | (rw [ints_length]; first | assumption | omega | (rw [ints_length]; first | assumption | omega | simp [*])) | simp [*]) ?_))
    refine rvc_ints 1 tyOk rfl rfl rfl rfl (by rw [ints_length]; exact hsl) rfl ?_
    rw [parRow, show r.length = 2 * (2 * m) by omega]
end Go.Proofs.Ytdgaabkgfbihpaa

/- A part of the proof: W19S. No conditions of its own. -/
namespace Go.Proofs.Ytdgaabkgfbihpaa
open Go.VL
attribute [local irreducible] VWr VOps VD Calls

theorem xor1_lt {k len : Nat} (hk : k < len) (h4 : len % 4 = 0) : k ^^^ 1 < len := by
  rcases Nat.mod_two_eq_zero_or_one k with h | h
  · rw [show k = 2 * (k / 2) by omega, xor1_even]; omega
  · rw [show k = 2 * (k / 2) + 1 by omega, xor1_odd]; omega
theorem parMap_get {n : Int} {es : List (List Int)} {i : Nat} (h : i < es.length) : (es.map (parRow n))[i]? = some (parRow n (es.getD i [])) := by
  rw [List.getElem?_map, List.getD_eq_getElem?_getD, List.getElem?_eq_getElem h]; rfl

open Classical in
set_option maxHeartbeats 1000000 in
set_option maxRecDepth 100000 in
theorem c_impl_PartnerSchedule (m : Int) (v : Value) (ls : List (List Int)) (w : World) (hv : RdCC w v ls) (hl : ls.length ≤ 1048576) (hll : ∀ l ∈ ls, l.length ≤ 1048576) :
    Calls Try.prog 63 [.agg #[.int .i64 m, v]].toArray w (Res w (PairS 48 (parS m ls))) := by
  obtain ⟨a, cap, rfl⟩ := hv.len
  refine calls_of_vw Try.func63 rfl Try.ntmps63 (by simp) ?_
  refine vw_seq (vw_region (by kernel_rfl) (vops_box [.int .i64 m, .slice a ls.length cap] rfl (fun b1 hb1 => ?_)))
  repeat (first | refine vops_q tyOk rfl ?_ | refine vops_nil ?_ | refine vw_seq ?_ | refine vw_region (by kernel_rfl) ?_ | refine vw_cond rfl ?_ | refine vops_allocZ [.int .i64 0, .slice none 0 0] tyOk rfl rfl (by simp) (fun bz hbz => ?_) | (apply vops_callp ent160 rfl; (intro w' hg; exact c_IsEvening m _ ls w' (hv.same hg.fr) hl hll)) | ((show VOps _ _ _ _ (⟨some _, Go.Op.load _ _, _, _, _, none⟩ :: _) _ _); refine vops_loadNM tyOk rfl rfl rfl (by repeat (first | exact mem_here | apply mem_next | apply mem_past)) (by first | rfl | (rw [ints_length]; first | assumption | omega | (rw [ints_length]; first | assumption | omega | simp [*])) | simp [*]) ?_))
  refine bs_ndec2 (fun h => ?_) (fun h => ?_)
  · repeat (first | refine vops_q tyOk rfl ?_ | refine vops_nil ?_ | refine vw_seq ?_ | refine vw_region (by kernel_rfl) ?_ | refine vw_ret ?_ | ((show VOps _ _ _ _ (⟨none, Go.Op.store _ _ _, _, _, _, none⟩ :: _) _ _); refine vops_storeAM tyOk rfl rfl rfl (by first | rfl | (rw [ints_length]; first | assumption | omega | (rw [ints_length]; first | assumption | omega | simp [*])) | simp [*]) (by first | exact ints_one | simp [Value.oneCell']) (by repeat (first | exact upd_here | apply upd_next | apply upd_past)) (by first | rfl | (rw [ints_length]; first | assumption | omega | (rw [ints_length]; first | assumption | omega | simp [*])) | simp [*]) ?_) | refine vops_buildZ tyOk rfl (by kernel_rfl) ?_)
    exact pairS_err tyOk rfl rfl rfl rfl rfl (by repeat (first | exact mem_here | apply mem_next | apply mem_past)) rfl (by rw [parS, if_neg h])
  repeat (first | refine vops_q tyOk rfl ?_ | refine vops_nil ?_ | refine vw_seq ?_ | refine vw_region (by kernel_rfl) ?_ | refine vw_cond rfl ?_ | refine vw_skip ?_ | ((show VOps _ _ _ _ (⟨some _, Go.Op.load _ _, _, _, _, none⟩ :: _) _ _); refine vops_loadM tyOk rfl rfl rfl (by repeat (first | exact mem_here | apply mem_next | apply mem_past)) (by rfl) ?_))
  refine bs_dec (fun h14 => ?_) (fun h14 => ?_)
  · repeat (first | refine vops_q tyOk rfl ?_ | refine vops_nil ?_ | refine vw_seq ?_ | refine vw_region (by kernel_rfl) ?_ | refine vw_ret ?_ | ((show VOps _ _ _ _ (⟨none, Go.Op.store _ _ _, _, _, _, none⟩ :: _) _ _); refine vops_storeAM tyOk rfl rfl rfl (by first | rfl | (rw [ints_length]; first | assumption | omega | (rw [ints_length]; first | assumption | omega | simp [*])) | simp [*]) (by first | exact ints_one | simp [Value.oneCell']) (by repeat (first | exact upd_here | apply upd_next | apply upd_past)) (by first | rfl | (rw [ints_length]; first | assumption | omega | (rw [ints_length]; first | assumption | omega | simp [*])) | simp [*]) ?_) | refine vops_buildZ tyOk rfl (by kernel_rfl) ?_)
    exact pairS_err tyOk rfl rfl rfl rfl rfl (by repeat (first | exact mem_here | apply mem_next | apply mem_past)) rfl (by rw [parS, if_pos h, if_pos h14])
  have h4 := h.1
  have h20 := h.2.2.1
  have hR : parS m ls = ((m, ls.map (parRow m)), 0) := by rw [parS, if_pos h, if_neg h14]
  have hq14 : ∀ r ∈ ls.map (parRow m), r.length = 14 := fun r hr => by obtain ⟨q, _, rfl⟩ := List.mem_map.1 hr; exact parRow_length _ _
  have hrl : (ls.map (parRow m)).length = ls.length := List.length_map _
  repeat (first | refine vops_q tyOk rfl ?_ | refine vw_seq ?_ | refine vw_region (by kernel_rfl) ?_ | refine vw_skip ?_ | ((show VOps _ _ _ _ (⟨some _, Go.Op.load _ _, _, _, _, none⟩ :: _) _ _); refine vops_loadM tyOk rfl rfl rfl (by repeat (first | exact mem_here | apply mem_next | apply mem_past)) (by rfl) ?_))
  refine vops_makeRows (k := 14) (n := ls.length) tyOk rfl rfl rfl (by omega) rfl rfl rfl (by show 112 * _ ≤ _; omega) (by omega) (fun b hb => ?_)
  repeat (first | refine vops_q tyOk rfl ?_ | refine vops_nil ?_ | refine vw_seq ?_ | refine vw_region (by kernel_rfl) ?_ | refine vw_block ?_ | ((show VOps _ _ _ _ (⟨some _, Go.Op.load _ _, _, _, _, none⟩ :: _) _ _); refine vops_loadM tyOk rfl rfl rfl (by repeat (first | exact mem_here | apply mem_next | apply mem_past)) (by rfl) ?_))
  refine vw_loopW (fun y f own => ∃ i : Nat, i ≤ ls.length ∧ y = ls.length - i ∧ f 22 = .int .i64 i ∧ f 21 = .int .i64 ls.length ∧ f 20 = .slice a ls.length cap ∧ f 4 = .slice (some ⟨b, 0, none⟩) ls.length ls.length ∧ f 2 = .pointer (some ⟨bz, 0, none⟩) ∧ f 1 = .pointer (some ⟨b1, 0, none⟩) ∧
      own = [(b, ⟨ints (fill 14 (ls.map (parRow m)) i), 48, ls.length * 14, none⟩), (bz, ⟨[.int .i64 0, .slice none 0 0], 26, 2, none⟩), (b1, ⟨[.int .i64 m, .slice a ls.length cap], 58, 2, none⟩)]) ls.length
    ⟨_, ole_refl, 0, by omega, by omega, rfl, rfl, rfl, rfl, rfl, rfl, by rw [fill_none, hrl]; rfl⟩ ?_
  rintro y f own ⟨i, hi, rfl, h22, h21, h20', h4', h2, h1, rfl⟩
  rw [upd_of h22, upd_of h21, upd_of h20', upd_of h4', upd_of h2, upd_of h1]
  repeat (first | refine vops_q tyOk rfl ?_ | refine vops_nil ?_ | refine vw_seq ?_ | refine vw_region (by kernel_rfl) ?_ | refine vw_cond rfl ?_)
  refine bs_dec (fun hlt => ?_) (fun hlt => ?_)
  · have hil : i < ls.length := by omega
    obtain ⟨b', o, cap', u, cap2, he, hcu, hu⟩ := hv.row (i := i) hil
    cases he
    have hmem : ls.getD i [] ∈ ls := by rw [List.getD_eq_getElem?_getD, List.getElem?_eq_getElem hil]; exact List.getElem_mem _
    have hrow := h.2.2.2 _ hmem
    have hget := parMap_get (n := m) hil
    have hpl := parRow_length m (ls.getD i [])
    repeat (first | refine vops_q tyOk rfl ?_ | refine vops_nil ?_ | refine vw_seq ?_ | refine vw_region (by kernel_rfl) ?_ | refine vops_p tyOk rfl (by (try simp only [inR]); omega) ?_ | refine vw_skip ?_ | refine vw_block ?_ | refine vops_load tyOk rfl rfl rfl (sees_old hcu (by simp)) ?_ | (apply vops_callp ent168 rfl; (intro w' hg; exact c_partnerRound m _ _ (by omega) (by omega) hrow w' (hu.same hg.fr))) | refine vops_storeRowM tyOk rfl hpl rfl rfl (by repeat (first | exact upd_here | apply upd_next | apply upd_past)) (by rw [fill_length hq14 (by omega), hrl]) (by rw [hpl]; show (i : Int).toNat * 14 + 14 ≤ _; omega) ?_ | ((show VOps _ _ _ _ (⟨some _, Go.Op.load _ _, _, _, _, none⟩ :: _) _ _); refine vops_loadM tyOk rfl rfl rfl (by repeat (first | exact mem_here | apply mem_next | apply mem_past)) (by rfl) ?_))
    refine ⟨ls.length - (i + 1), by omega, _, ole_refl, i + 1, by omega, rfl, rfl, rfl, rfl, rfl, rfl, rfl, ?_⟩
    rw [← fill_step hq14 hget]; rfl
  · obtain rfl : i = ls.length := by omega
    repeat (first | refine vops_q tyOk rfl ?_ | refine vops_nil ?_ | refine vw_seq ?_ | refine vw_region (by kernel_rfl) ?_ | refine vw_ret ?_ | refine vw_exit ?_ | ((show VOps _ _ _ _ (⟨some _, Go.Op.load _ _, _, _, _, none⟩ :: _) _ _); refine vops_loadM tyOk rfl rfl rfl (by repeat (first | exact mem_here | apply mem_next | apply mem_past)) (by rfl) ?_) | ((show VOps _ _ _ _ (⟨none, Go.Op.store _ _ _, _, _, _, none⟩ :: _) _ _); refine vops_storeAM tyOk rfl rfl rfl (by first | rfl | (rw [ints_length]; first | assumption | omega | (rw [ints_length]; first | assumption | omega | simp [*])) | simp [*]) (by first | exact ints_one | simp [Value.oneCell']) (by repeat (first | exact upd_here | apply upd_next | apply upd_past)) (by first | rfl | (rw [ints_length]; first | assumption | omega | (rw [ints_length]; first | assumption | omega | simp [*])) | simp [*]) ?_) | refine vops_build2 rfl rfl (by kernel_rfl) ?_)
    have hN : NewR 48 14 (ls.map (parRow m)) (.slice (some ⟨b, 0, none⟩) ls.length ls.length) [(b, ⟨ints (fill 14 (ls.map (parRow m)) ls.length), 48, ls.length * 14, none⟩)] := by
      rw [show fill 14 (ls.map (parRow m)) ls.length = (ls.map (parRow m)).flatten by rw [← hrl, fill_all]]
      exact NewF.r (m := 0) (NewF.mk (by rw [flat_length hq14, hrl]) (Nat.le_refl _) (by simp only [maxLen]; omega)) hrl.symm rfl
    exact pairS_ok (c := 0) tyOk rfl rfl rfl rfl rfl (by repeat (first | exact mem_here | apply mem_next | apply mem_past)) rfl hrl.symm hN (by intro p hp; simp only [List.mem_singleton] at hp; subst hp; simp) hR

open Classical in
set_option maxHeartbeats 1000000 in
set_option maxRecDepth 100000 in
theorem c_spec_PartnerSchedule (m : Int) (v : Value) (ls : List (List Int)) (w : World) (hv : RdII w v ls) (hl : ls.length ≤ 1048576) (hll : ∀ l ∈ ls, l.length ≤ 1048576) :
    Calls Try.prog 64 [.agg #[.int .i64 m, v]].toArray w (Res w (PairS 48 (parS m ls))) := by
  obtain ⟨a, cap, rfl⟩ := hv.len
  refine calls_of_vw Try.func64 rfl Try.ntmps64 (by simp) ?_
  refine vw_seq (vw_region (by kernel_rfl) (vops_box [.int .i64 m, .slice a ls.length cap] rfl (fun b1 hb1 => ?_)))
  repeat (first | refine vops_q tyOk rfl ?_ | refine vops_nil ?_ | refine vw_seq ?_ | refine vw_region (by kernel_rfl) ?_ | refine vw_cond rfl ?_ | refine vw_block ?_ | refine vops_allocZ [.int .i64 0, .slice none 0 0] tyOk rfl rfl (by simp) (fun bz hbz => ?_) | (apply vops_callp ent163 rfl; (intro w' hg; exact c_l06Is m _ ls w' (hv.same hg.fr) hl hll)) | ((show VOps _ _ _ _ (⟨some _, Go.Op.load _ _, _, _, _, none⟩ :: _) _ _); refine vops_loadNM tyOk rfl rfl rfl (by repeat (first | exact mem_here | apply mem_next | apply mem_past)) (by first | rfl | (rw [ints_length]; first | assumption | omega | (rw [ints_length]; first | assumption | omega | simp [*])) | simp [*]) ?_))
  refine bs_ndec2 (fun h => ?_) (fun h => ?_)
  · repeat (first | refine vops_q tyOk rfl ?_ | refine vops_nil ?_ | refine vw_seq ?_ | refine vw_region (by kernel_rfl) ?_ | refine vw_ret ?_ | ((show VOps _ _ _ _ (⟨none, Go.Op.store _ _ _, _, _, _, none⟩ :: _) _ _); refine vops_storeAM tyOk rfl rfl rfl (by first | rfl | (rw [ints_length]; first | assumption | omega | (rw [ints_length]; first | assumption | omega | simp [*])) | simp [*]) (by first | exact ints_one | simp [Value.oneCell']) (by repeat (first | exact upd_here | apply upd_next | apply upd_past)) (by first | rfl | (rw [ints_length]; first | assumption | omega | (rw [ints_length]; first | assumption | omega | simp [*])) | simp [*]) ?_) | refine vops_buildZ tyOk rfl (by kernel_rfl) ?_)
    exact pairS_err tyOk rfl rfl rfl rfl rfl (by repeat (first | exact mem_here | apply mem_next | apply mem_past)) rfl (by rw [parS, if_neg h])
  repeat (first | refine vops_q tyOk rfl ?_ | refine vops_nil ?_ | refine vw_seq ?_ | refine vw_region (by kernel_rfl) ?_ | refine vw_cond rfl ?_ | ((show VOps _ _ _ _ (⟨some _, Go.Op.load _ _, _, _, _, none⟩ :: _) _ _); refine vops_loadM tyOk rfl rfl rfl (by repeat (first | exact mem_here | apply mem_next | apply mem_past)) (by rfl) ?_))
  refine bs_dec (fun h14 => ?_) (fun h14 => ?_)
  · repeat (first | refine vops_q tyOk rfl ?_ | refine vops_nil ?_ | refine vw_seq ?_ | refine vw_region (by kernel_rfl) ?_ | refine vw_ret ?_ | ((show VOps _ _ _ _ (⟨none, Go.Op.store _ _ _, _, _, _, none⟩ :: _) _ _); refine vops_storeAM tyOk rfl rfl rfl (by first | rfl | (rw [ints_length]; first | assumption | omega | (rw [ints_length]; first | assumption | omega | simp [*])) | simp [*]) (by first | exact ints_one | simp [Value.oneCell']) (by repeat (first | exact upd_here | apply upd_next | apply upd_past)) (by first | rfl | (rw [ints_length]; first | assumption | omega | (rw [ints_length]; first | assumption | omega | simp [*])) | simp [*]) ?_) | refine vops_buildZ tyOk rfl (by kernel_rfl) ?_)
    exact pairS_err tyOk rfl rfl rfl rfl rfl (by repeat (first | exact mem_here | apply mem_next | apply mem_past)) rfl (by rw [parS, if_pos h, if_pos h14])
  have h4 := h.1
  have h20 := h.2.2.1
  have hR : parS m ls = ((m, ls.map (parRow m)), 0) := by rw [parS, if_pos h, if_neg h14]
  have hrl : (ls.map (parRow m)).length = ls.length := List.length_map _
  repeat (first | refine vops_q tyOk rfl ?_ | refine vw_seq ?_ | refine vw_region (by kernel_rfl) ?_ | refine vw_skip ?_ | refine vops_build0 tyOk rfl rfl (fun be hbe => ?_) | ((show VOps _ _ _ _ (⟨some _, Go.Op.load _ _, _, _, _, none⟩ :: _) _ _); refine vops_loadM tyOk rfl rfl rfl (by repeat (first | exact mem_here | apply mem_next | apply mem_past)) (by rfl) ?_) | refine vops_build2 rfl rfl (by kernel_rfl) ?_)
  refine vops_allocZ [.int .i64 0, .slice none 0 0] tyOk rfl rfl (by simp) (fun b4 hb4 => ?_)
  repeat (first | refine vops_q tyOk rfl ?_ | refine vops_nil ?_ | refine vw_seq ?_ | refine vw_region (by kernel_rfl) ?_ | refine vw_block ?_ | ((show VOps _ _ _ _ (⟨none, Go.Op.store _ _ _, _, _, _, none⟩ :: _) _ _); refine vops_storeAM tyOk rfl rfl rfl (by first | rfl | (rw [ints_length]; first | assumption | omega | (rw [ints_length]; first | assumption | omega | simp [*])) | simp [*]) (by first | exact ints_one | simp [Value.oneCell']) (by repeat (first | exact upd_here | apply upd_next | apply upd_past)) (by first | rfl | (rw [ints_length]; first | assumption | omega | (rw [ints_length]; first | assumption | omega | simp [*])) | simp [*]) ?_))
  refine vw_loopW (fun y f own => ∃ (i : Nat) (p : Option Addr) (cp : Nat) (new : Own), i ≤ ls.length ∧ y = ls.length - i ∧ f 5 = .int .i64 i ∧ f 4 = .pointer (some ⟨b4, 0, none⟩) ∧ f 2 = .pointer (some ⟨bz, 0, none⟩) ∧ f 1 = .pointer (some ⟨b1, 0, none⟩) ∧
      NewF 48 14 i ((ls.map (parRow m)).take i).flatten (.slice p i cp) new ∧
      own = new ++ [(b4, ⟨[.int .i64 m, .slice p i cp], 26, 2, none⟩), (bz, ⟨[.int .i64 0, .slice none 0 0], 26, 2, none⟩), (b1, ⟨[.int .i64 m, .slice a ls.length cap], 58, 2, none⟩)]) ls.length
    ⟨[(be, _)] ++ [(b4, _), (bz, _), (b1, _)], (by repeat (first | exact ole_nil | exact ole_refl | (apply ole_cons; (repeat (first | exact pm1_here | apply pm1_next | apply pm1_past))) | (apply ole_app; (repeat (first | exact pm_here | exact pm_last | apply pm_next | apply pm_past))))), 0, _, _, [_], by omega, by omega, rfl, rfl, rfl, rfl, NewF.empty, rfl⟩ ?_
  rintro y f own ⟨i, p, cp, new, hi, rfl, h5, h4', h2, h1, hN, rfl⟩
  rw [upd_of h5, upd_of h4', upd_of h2, upd_of h1]
  repeat (first | refine vops_q tyOk rfl ?_ | refine vops_nil ?_ | refine vw_seq ?_ | refine vw_region (by kernel_rfl) ?_ | refine vw_cond rfl ?_ | ((show VOps _ _ _ _ (⟨some _, Go.Op.load _ _, _, _, _, none⟩ :: _) _ _); refine vops_loadM tyOk rfl rfl rfl (by repeat (first | exact mem_here | apply mem_next | apply mem_past)) (by rfl) ?_))
  refine bs_dec (fun hlt => ?_) (fun hlt => ?_)
  · have hil : i < ls.length := by omega
    obtain ⟨b', o, cap', u, cap2, he, hcu, hu⟩ := rdRow hv (i := i) hil
    cases he
    have hmem : ls.getD i [] ∈ ls := by rw [List.getD_eq_getElem?_getD, List.getElem?_eq_getElem hil]; exact List.getElem_mem _
    have hrow := h.2.2.2 _ hmem
    have hst : ((ls.map (parRow m)).take (i + 1)).flatten = ((ls.map (parRow m)).take i).flatten ++ parRow m (ls.getD i []) := by
      rw [List.take_add_one, parMap_get hil]; simp
    have hpl : ∀ r, (parRow m r).length = 14 := parRow_length m
    unfold parRow at hst hpl
    have hrl16 : (ls.getD i []).length ≤ 16 := h.len hmem
    generalize ls.getD i [] = r at *
    have hr4 := hrow.1
    have hD := hrow.2
    have hfl := freeTo_length m
    repeat (first | refine vops_q tyOk rfl ?_ | refine vops_nil ?_ | refine vw_seq ?_ | refine vw_region (by kernel_rfl) ?_ | refine vw_skip ?_ | refine vw_block ?_ | (apply vops_callp ent169 rfl; (intro w _; exact c_l01Free _ (by omega) (by omega) w)) | refine vops_allocZ (ints (List.replicate 14 0)) tyOk rfl rfl (by simp [ints]) (fun br hbr => ?_) | ((show VOps _ _ _ _ (⟨some _, Go.Op.load _ _, _, _, _, none⟩ :: _) _ _); refine vops_loadM tyOk rfl rfl rfl (by repeat (first | exact mem_here | apply mem_next | apply mem_past)) (by rfl) ?_) | ((show VOps _ _ _ _ (⟨none, Go.Op.store _ _ _, _, _, _, none⟩ :: _) _ _); refine vops_storeAM tyOk rfl rfl rfl (by first | rfl | (rw [ints_length]; first | assumption | omega | (rw [ints_length]; first | assumption | omega | simp [*])) | simp [*]) (by first | exact ints_one | simp [Value.oneCell']) (by repeat (first | exact upd_here | apply upd_next | apply upd_past)) (by first | rfl | (rw [ints_length]; first | assumption | omega | (rw [ints_length]; first | assumption | omega | simp [*])) | simp [*]) ?_))
    refine vw_loopW (fun y f own => ∃ (k : Nat), k ≤ r.length ∧ y = r.length - k ∧ f 7 = .int .i64 k ∧ f 6 = .pointer (some ⟨br, 0, none⟩) ∧ f 5 = .int .i64 i ∧ f 4 = .pointer (some ⟨b4, 0, none⟩) ∧ f 2 = .pointer (some ⟨bz, 0, none⟩) ∧ f 1 = .pointer (some ⟨b1, 0, none⟩) ∧
        own = (br, ⟨ints (setTo r (freeTo m) k), 48, 14, none⟩) :: (new ++ [(b4, ⟨[.int .i64 m, .slice p i cp], 26, 2, none⟩), (bz, ⟨[.int .i64 0, .slice none 0 0], 26, 2, none⟩), (b1, ⟨[.int .i64 m, .slice (some ⟨b', o, none⟩) ls.length cap], 58, 2, none⟩)])) r.length
      ⟨_, ole_refl, 0, by omega, by omega, rfl, rfl, rfl, rfl, rfl, rfl, rfl⟩ ?_
    rintro y f own ⟨k, hk, rfl, h7, h6, h5, h4', h2, h1, rfl⟩
    rw [upd_of h7, upd_of h6, upd_of h5, upd_of h4', upd_of h2, upd_of h1]
    have hsl := setTo_length r (freeTo m) k
    rw [hfl] at hsl
    repeat (first | refine vops_q tyOk rfl ?_ | refine vops_nil ?_ | refine vw_seq ?_ | refine vw_region (by kernel_rfl) ?_ | refine vops_p tyOk rfl (by (try simp only [inR]); omega) ?_ | refine vw_cond rfl ?_ | refine vops_load tyOk rfl rfl rfl (sees_old hcu (by simp)) ?_ | ((show VOps _ _ _ _ (⟨some _, Go.Op.load _ _, _, _, _, none⟩ :: _) _ _); refine vops_loadM tyOk rfl rfl rfl (by repeat (first | exact mem_here | apply mem_next | apply mem_past)) (by rfl) ?_))
    refine bs_dec (fun hlt2 => ?_) (fun hlt2 => ?_)
    · have hkr : k < r.length := by omega
      obtain ⟨b3, o3, cap3, he, hcell⟩ := hu.at (i := k) hkr
      cases he
      have hc := hcell k hkr
      have hrg := hD.get hkr
      have hx1 := xor1_lt hkr hr4
      have hco := hcell (k ^^^ 1) hx1
      repeat (first | refine vw_seq ?_ | refine vw_skip ?_ | refine vw_block ?_)
      refine vw_draw [0, 1, 2, 3, 4, 5, 6, 7, 8, 9, 10, 11, 12, 13, 14, 15, 16, 17, 18] (by kernel_rfl) (by kernel_rfl) (by kernel_rfl) rfl ?_
      repeat' (first | refine vd_q tyOk rfl (by first | trivial | rfl) rfl (by kernel_rfl) (by kernel_rfl) ?_ | refine vd_p tyOk rfl (by first | trivial | rfl) rfl (by kernel_rfl) (by kernel_rfl) (by (try simp only [inR]); omega) ?_ | refine vops_nil ?_ | refine vd_nil (by kernel_rfl) ?_ | refine vd_load tyOk rfl (by first | trivial | rfl) rfl rfl rfl (by kernel_rfl) (by kernel_rfl) (by kernel_rfl) (sees_mem (by repeat (first | exact mem_here | apply mem_next | apply mem_past)) (by rfl)) (by repeat (first | exact sub_hereL | exact sub_refl | apply sub_cons | apply sub_app)) ?_ | refine ⟨fun h => Bool.noConfusion (show false = true from h), ?_⟩ | refine vd_load tyOk rfl (by first | trivial | rfl) rfl rfl rfl (by kernel_rfl) (by kernel_rfl) (by kernel_rfl) (sees_old hcu (by simp)) (by repeat (first | exact sub_hereL | exact sub_refl | apply sub_cons | apply sub_app)) ?_ | refine vd_load tyOk rfl (by first | trivial | rfl) rfl rfl rfl (by kernel_rfl) (by kernel_rfl) (by kernel_rfl) (sees_old hc (by simp)) (by repeat (first | exact sub_hereL | exact sub_refl | apply sub_cons | apply sub_app)) ?_ | refine vd_xor k 1 rfl (by first | trivial | rfl) rfl rfl rfl rfl (by omega) (by omega) (by kernel_rfl) (by kernel_rfl) ?_ | refine vd_load tyOk rfl (by first | trivial | rfl) rfl rfl rfl (by kernel_rfl) (by kernel_rfl) (by kernel_rfl) (sees_old hco (by simp)) (by repeat (first | exact sub_hereL | exact sub_refl | apply sub_cons | apply sub_app)) ?_ | ((show VOps _ _ _ _ (⟨none, Go.Op.store _ _ _, _, _, _, none⟩ :: _) _ _); refine vops_storeIM tyOk rfl rfl rfl rfl (by repeat (first | exact upd_here | apply upd_next | apply upd_past)) (by omega) ?_) | refine vd_one rfl (by kernel_rfl) (by kernel_rfl) rfl ?_)
      repeat (first | refine vops_q tyOk rfl ?_ | refine vops_nil ?_ | refine vw_region (by kernel_rfl) ?_ | refine vops_p tyOk rfl (by (try simp only [inR]); omega) ?_)
      refine ⟨r.length - (k + 1), by omega, _, ole_refl, k + 1, by omega, rfl, rfl, rfl, rfl, rfl, rfl, rfl, ?_⟩
      rw [setTo]
    · obtain rfl : k = r.length := by omega
      have hpr := hpl r
      repeat (first | refine vops_q tyOk rfl ?_ | refine vops_nil ?_ | refine vw_region (by kernel_rfl) ?_ | refine vops_p tyOk rfl (by (try simp only [inR]); omega) ?_ | refine vw_exit ?_ | refine vops_litR (k := 14) tyOk rfl rfl (List.cons_ne_nil _ _) rfl hpr rfl (by omega) (by omega) (fun be hbe => ?_) | refine vops_append1 (k := 14) tyOk rfl rfl (List.cons_ne_nil _ _) rfl rfl (by decide) rfl hN (by repeat (first | exact pm_here | exact pm_last | apply pm_next | apply pm_past)) rfl (by repeat (first | exact mem_here | apply mem_next | apply mem_past)) (by first | assumption | omega) (by omega) (fun p' cap' new' hN' => ?_) | ((show VOps _ _ _ _ (⟨some _, Go.Op.load _ _, _, _, _, none⟩ :: _) _ _); first | refine vops_loadM tyOk rfl rfl rfl (by repeat (first | exact mem_here | apply mem_next | apply mem_past)) (by rfl) ?_ | refine vops_loadNM tyOk rfl rfl rfl (by repeat (first | exact mem_here | apply mem_next | apply mem_past)) (by first | rfl | (rw [ints_length]; first | assumption | omega | (rw [ints_length]; first | assumption | omega | simp [*])) | simp [*]) ?_) | ((show VOps _ _ _ _ (⟨none, Go.Op.store _ _ _, _, _, _, none⟩ :: _) _ _); refine vops_storeM tyOk rfl rfl rfl rfl rfl (by repeat (first | exact upd_here | apply upd_next | apply upd_past)) (by simp) ?_))
      exact ⟨ls.length - (i + 1), by omega, new' ++ [(b4, _), (bz, _), (b1, _)], (by repeat (first | exact ole_nil | exact ole_refl | (apply ole_cons; (repeat (first | exact pm1_here | apply pm1_next | apply pm1_past))) | (apply ole_app; (repeat (first | exact pm_here | exact pm_last | apply pm_next | apply pm_past))))), i + 1, p', cap', new', by omega, rfl, rfl, rfl, rfl, rfl, hN'.cast hst.symm, rfl⟩
  · obtain rfl : i = ls.length := by omega
    repeat (first | refine vops_q tyOk rfl ?_ | refine vops_nil ?_ | refine vw_seq ?_ | refine vw_region (by kernel_rfl) ?_ | refine vw_ret ?_ | refine vw_exit ?_ | ((show VOps _ _ _ _ (⟨some _, Go.Op.load _ _, _, _, _, none⟩ :: _) _ _); refine vops_loadNM tyOk rfl rfl rfl (by repeat (first | exact mem_here | apply mem_next | apply mem_past)) (by first | rfl | (rw [ints_length]; first | assumption | omega | (rw [ints_length]; first | assumption | omega | simp [*])) | simp [*]) ?_) | ((show VOps _ _ _ _ (⟨none, Go.Op.store _ _ _, _, _, _, none⟩ :: _) _ _); refine vops_storeAM tyOk rfl rfl rfl (by first | rfl | (rw [ints_length]; first | assumption | omega | (rw [ints_length]; first | assumption | omega | simp [*])) | simp [*]) (by first | exact ints_one | simp [Value.oneCell']) (by repeat (first | exact upd_here | apply upd_next | apply upd_past)) (by first | rfl | (rw [ints_length]; first | assumption | omega | (rw [ints_length]; first | assumption | omega | simp [*])) | simp [*]) ?_))
    have hfin : NewR 48 14 (ls.map (parRow m)) (.slice p ls.length cp) new := NewF.r (m := 0) hN hrl.symm (by rw [List.take_of_length_le (by omega)])
    exact pairS_ok (c := 0) tyOk rfl rfl rfl rfl rfl (by repeat (first | exact mem_here | apply mem_next | apply mem_past)) rfl hrl.symm hfin (by repeat (first | exact sub_hereL | exact sub_refl | apply sub_cons | apply sub_app)) hR
end Go.Proofs.Ytdgaabkgfbihpaa

