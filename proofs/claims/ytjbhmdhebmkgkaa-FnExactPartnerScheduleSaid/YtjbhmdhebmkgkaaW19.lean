import Derived.Test.YtjbhmdhebmkgkaaW18
import Derived.Test.YtjbhmdhebmkgkaaSI
import Derived.Test.YtjbhmdhebmkgkaaVLArr
/- A part of the proof: W19. No conditions of its own. -/
namespace Go.Proofs.Ytjbhmdhebmkgkaa
open Go.VL
attribute [local irreducible] VWr VOps VD Calls

/-- A round in which k players of a list have met their partners. -/
def setTo (r base : List Int) : Nat → List Int
  | 0 => base
  | k + 1 => (setTo r base k).set (r.getD k 0).toNat (r.getD (k ^^^ 1) 0)
theorem setTo_length (r base : List Int) : ∀ k, (setTo r base k).length = base.length
  | 0 => rfl
  | k + 1 => by rw [setTo, List.length_set, setTo_length r base k]
theorem xor1_even (q : Nat) : (2 * q) ^^^ 1 = 2 * q + 1 := by
  apply Nat.eq_of_testBit_eq
  intro i
  cases i with
  | zero =>
    rw [Nat.testBit_xor, Nat.testBit_zero, Nat.testBit_zero, Nat.testBit_zero, show 2 * q % 2 = 0 by omega, show (2 * q + 1) % 2 = 1 by omega]
    decide
  | succ i =>
    rw [Nat.testBit_xor, Nat.testBit_succ, Nat.testBit_succ, Nat.testBit_succ, show 2 * q / 2 = q by omega, show (2 * q + 1) / 2 = q by omega, show 1 / 2 = 0 from rfl]
    simp
theorem xor1_odd (q : Nat) : (2 * q + 1) ^^^ 1 = 2 * q := by
  rw [← xor1_even q, Nat.xor_assoc, Nat.xor_self, Nat.xor_zero]
theorem setTo_two (r base : List Int) (q : Nat) : setTo r base (2 * (q + 1)) = ((setTo r base (2 * q)).set (r.getD (2 * q) 0).toNat (r.getD (2 * q + 1) 0)).set (r.getD (2 * q + 1) 0).toNat (r.getD (2 * q) 0) := by
  show setTo r base (2 * q + 1 + 1) = _
  rw [setTo, setTo, xor1_even, xor1_odd]
/-- The round of a list of tables. -/
def parRow (n : Int) (r : List Int) : List Int := setTo r (freeTo n) r.length
theorem parRow_length (n : Int) (r : List Int) : (parRow n r).length = 14 := by rw [parRow, setTo_length, freeTo_length]
open Classical in
noncomputable def parS (n : Int) (es : List (List Int)) : (Int × List (List Int)) × Int :=
  if IsEv n es then (if 14 < n then ((0, []), 3) else ((n, es.map (parRow n)), 0)) else ((0, []), 1)
theorem parS_ok (n : Int) (es : List (List Int)) : (∀ r ∈ (parS n es).1.2, r.length = 14) ∧ (parS n es).1.2.length ≤ 1048576 := by
  unfold parS
  split
  · rename_i h
    have := h.2.2.1
    split
    · simp
    · refine ⟨fun r hr => ?_, by show (es.map (parRow n)).length ≤ _; rw [List.length_map]; omega⟩
      obtain ⟨q, _, rfl⟩ := List.mem_map.1 (show r ∈ es.map (parRow n) from hr)
      exact parRow_length _ _
  · simp
theorem parAt {r : List Int} (h4 : r.length % 4 = 0) {q : Nat} (hq : 2 * q + 1 < r.length) : ((relP [1] r).map ints)[q]? = some [.int .i64 (r.getD (2 * q) 0), .int .i64 (r.getD (2 * q + 1) 0)] := by
  have := relV_at (ds := [1]) (t := r) (i := q / 2) (j := 0) (d := 1) (p := q % 2) (by omega) h4 rfl (by omega) rfl
  have e : q / 2 * (2 * [1].length) + 2 * 0 + q % 2 = q := by simp only [List.length_cons, List.length_nil]; omega
  rw [e] at this
  rw [this]
  have h0 : ∀ a b c e : Int, flat4 1 a b c e = [a, b, c, e] := fun a b c e => rfl
  rw [h0]
  rcases Nat.mod_two_eq_zero_or_one q with h | h
  · rw [h]
    show some [Value.int .i64 (r.getD (4 * (q / 2)) 0), Value.int .i64 (r.getD (4 * (q / 2) + 1) 0)] = _
    rw [show 4 * (q / 2) = 2 * q by omega]
  · rw [h]
    show some [Value.int .i64 (r.getD (4 * (q / 2) + 2) 0), Value.int .i64 (r.getD (4 * (q / 2) + 3) 0)] = _
    rw [show 4 * (q / 2) + 2 = 2 * q by omega, show 4 * (q / 2) + 3 = 2 * q + 1 by omega]
theorem rdO_old {w0 w : World} {own : Own} {v : Value} {t : List Int} (hv : RdI w0 v t) (hg : Go.VL.Good ⟨w0, []⟩ own w) : RdO w v t own := by
  rcases hv with ⟨a, cap, _, h⟩ | ⟨b, o, cap, rfl, hc⟩
  · exact .inl h
  · by_cases h0 : t.length = 0
    · exact .inl (List.eq_nil_of_length_eq_zero h0)
    · exact .inr ⟨b, o, cap, rfl, (old_stays hg (hc 0 _ (ints_get (by omega))) (by simp)).2, fun j hj => (old_stays hg (hc j _ (ints_get hj)) (by simp)).1⟩
theorem rdFn_own {Γ : Ctx} {own' cap : Own} {w : World} {b e n c : Nat} {ds : List Nat} (hm : (b, (⟨ds.map relV, e, n, none⟩ : Blk)) ∈ cap) (hg : Go.VL.Good Γ (own' ++ cap) w) (hn : c = ds.length) : RdFn w (.slice (some ⟨b, 0, none⟩) c c) ds own' := by
  subst hn
  refine ⟨b, 0, _, rfl, fun hb => ?_, fun j d hj => ?_⟩
  · have hnd := hg.ok.nodup
    rw [ids_app] at hnd
    exact (List.nodup_append.1 hnd).2.2 b hb b (ids_mem hm) rfl
  · rw [Nat.zero_add]
    exact cell_of_blk hg.ok (List.mem_append_right _ hm) (by simp [hj])

set_option maxHeartbeats 2000000 in
set_option maxRecDepth 100000 in
theorem c_partnerRound (n : Int) (v : Value) (r : List Int) (h0 : 0 ≤ n) (h14 : n ≤ 14) (hr : EvRow n r) (w : World) (hv : RdC w v r) :
    Calls Try.prog 147 [.int .i64 n, v].toArray w (Res w (Is (.agg (ints (parRow n r)).toArray))) := by
  obtain ⟨a, cap, rfl, hcap⟩ := hv.len
  obtain ⟨h4, hD⟩ := hr
  obtain ⟨m, hm⟩ : ∃ m, r.length = 4 * m := ⟨r.length / 4, by omega⟩
  have hrl := hD.len
  have hPl := relP_length [1] m r hm
  refine calls_of_vw Try.func147 rfl Try.ntmps147 (by simp) ?_
  rw [hm]
  rw [hm] at hv
  refine vw_seq (vw_region (by kernel_rfl) (vops_allocZ (ints (List.replicate 14 0)) tyOk rfl rfl (by simp [ints]) (fun b4 hb4 => ?_)))
  have hfl := freeTo_length n
  repeat (first | refine vops_q tyOk rfl ?_ | refine vops_nil ?_ | refine vw_seq ?_ | refine vw_region (by kernel_rfl) ?_ | refine vops_guardT rfl rfl ?_ | refine vops_guardF rfl rfl ?_ | refine vops_guardU rfl rfl ?_ | with_reducible refine bs_nbeq rfl ?_ | with_reducible refine bs_true ?_ | with_reducible refine bs_false ?_ | with_reducible refine bs_ntrue ?_ | with_reducible refine bs_nfalse ?_ | refine vops_p tyOk rfl (by (try simp only [inR]); omega) ?_ | refine vw_cond rfl ?_ | refine vw_skip ?_ | refine vw_block ?_ | refine vw_ret ?_ | refine vw_exit ?_ | (apply vops_callp ent230 rfl; (intro w _; exact c_freeRound _ h0 h14 w)) | refine vops_allocZ (ints (List.replicate 14 0)) tyOk rfl rfl (by simp [ints]) (fun b5 hb5 => ?_) | refine vops_litV (v := relV 1) tyOk rfl rfl (List.cons_ne_nil _ _) rfl rfl rfl (fun bl hbl => ?_) | (apply vops_call ent219 rfl; (intro w' hg; exact c_relatedAt _ _ _ _ _ _ w'); (rintro _ newN ⟨b7, b8, rfl, rfl, hne⟩)) | ((show VOps _ _ _ _ (⟨some _, Go.Op.load _ _, _, _, _, none⟩ :: _) _ _); first | refine vops_loadM tyOk rfl rfl rfl (by repeat (first | exact mem_here | apply mem_next | apply mem_past)) (by rfl) ?_ | refine vops_loadM tyOk rfl rfl rfl (by repeat (first | exact mem_here | apply mem_next | apply mem_past)) (by exact ints_get0 (by omega)) ?_ | refine vops_loadNM tyOk rfl rfl rfl (by repeat (first | exact mem_here | apply mem_next | apply mem_past)) (by first | rfl | (rw [ints_length]; first | assumption | omega | (rw [ints_length]; first | assumption | omega | simp [*])) | simp [*]) ?_) | ((show VOps _ _ _ _ (⟨none, Go.Op.store _ _ _, _, _, _, none⟩ :: _) _ _); first | refine vops_storeIM tyOk rfl rfl rfl rfl (by repeat (first | exact upd_here | apply upd_next | apply upd_past)) (by omega) ?_ | refine vops_storeM tyOk rfl rfl rfl rfl rfl (by repeat (first | exact upd_here | apply upd_next | apply upd_past)) (by simp) ?_ | refine vops_storeAM tyOk rfl rfl rfl (by first | rfl | (rw [ints_length]; first | assumption | omega | (rw [ints_length]; first | assumption | omega | simp [*])) | simp [*]) (by first | exact ints_one | simp [Value.oneCell']) (by repeat (first | exact upd_here | apply upd_next | apply upd_past)) (by first | rfl | (rw [ints_length]; first | assumption | omega | (rw [ints_length]; first | assumption | omega | simp [*])) | simp [*]) ?_) | refine vops_build2 rfl rfl (by kernel_rfl) ?_ | refine vops_buildZ tyOk rfl (by kernel_rfl) ?_ | refine vops_slice tyOk rfl rfl rfl rfl rfl (by omega) ?_)
  have hlen : ((relP [1] r).map ints).length = 2 * m := by rw [List.length_map, hPl]; simp only [List.length_cons, List.length_nil]; omega
  refine vw_rangeFuncG (ts := [13, 14]) (own0 := [(b5, ⟨ints (freeTo n), 72, 14, none⟩), (b4, ⟨ints (List.replicate 14 0), 72, 14, none⟩)]) (cap := RelB (.slice a (4 * m) cap) (.slice (some ⟨bl, 0, none⟩) 1 1) b7 b8 ++ [(bl, ⟨[relV 1], 117, 1 * 1, none⟩)]) rfl ent268
    (it_rel a m cap _ r [1] hm (by omega) (by omega) (by simp) (by simp) b7 b8 _)
    (fun w' own' hg => ⟨rdO_old (t := r) (by rw [hm] at *; exact hv.1) (Good.left hg), rdFn_own (ds := [1]) (List.mem_append_right _ List.mem_cons_self) hg rfl⟩)
    ((List.perm_append_comm (l₁ := RelB (.slice a (4 * m) cap) (.slice (some ⟨bl, 0, none⟩) 1 1) b7 b8 ++ [(bl, ⟨[relV 1], 117, 1 * 1, none⟩)]) (l₂ := [(b5, ⟨ints (freeTo n), 72, 14, none⟩), (b4, ⟨ints (List.replicate 14 0), 72, 14, none⟩)]))) (by simp) (fun x hx => by
      obtain ⟨p, hp, rfl⟩ := List.mem_map.1 hx
      obtain ⟨_, _, _, _, _, rfl⟩ := relP_mem hm hD hp
      rfl)
    (fun q own => own = [(b5, ⟨ints (setTo r (freeTo n) (2 * q)), 72, 14, none⟩), (b4, ⟨ints (List.replicate 14 0), 72, 14, none⟩)])
    (fun _ _ => False) rfl ?_ ?_ (fun c o h => h.elim)
  · rintro l q x ownc w1 hx rfl hg1
    have hq : q < 2 * m := by have := (List.getElem?_eq_some_iff.1 hx).1; rwa [hlen] at this
    rw [parAt h4 (by omega)] at hx
    obtain rfl := Option.some.inj hx
    have hr1 := hD.get (i := 2 * q) (by omega)
    have hr2 := hD.get (i := 2 * q + 1) (by omega)
    have hsl := setTo_length r (freeTo n) (2 * q)
    rw [hfl] at hsl
    simp only [updL]
    repeat (first | refine vops_q tyOk rfl ?_ | refine vops_nil ?_ | refine vw_seq ?_ | refine vw_region (by kernel_rfl) ?_ | refine vops_guardT rfl rfl ?_ | refine vops_guardF rfl rfl ?_ | refine vops_guardU rfl rfl ?_ | with_reducible refine bs_nbeq rfl ?_ | with_reducible refine bs_true ?_ | with_reducible refine bs_false ?_ | with_reducible refine bs_ntrue ?_ | with_reducible refine bs_nfalse ?_ | refine vops_p tyOk rfl (by (try simp only [inR]); omega) ?_ | refine vw_cond rfl ?_ | refine vw_skip ?_ | refine vw_block ?_ | refine vw_ret ?_ | refine vw_exit ?_ | ((show VOps _ _ _ _ (⟨some _, Go.Op.load _ _, _, _, _, none⟩ :: _) _ _); first | refine vops_loadM tyOk rfl rfl rfl (by repeat (first | exact mem_here | apply mem_next | apply mem_past)) (by rfl) ?_ | refine vops_loadM tyOk rfl rfl rfl (by repeat (first | exact mem_here | apply mem_next | apply mem_past)) (by exact ints_get0 (by omega)) ?_ | refine vops_loadNM tyOk rfl rfl rfl (by repeat (first | exact mem_here | apply mem_next | apply mem_past)) (by first | rfl | (rw [ints_length]; first | assumption | omega | (rw [ints_length]; first | assumption | omega | simp [*])) | simp [*]) ?_) | ((show VOps _ _ _ _ (⟨none, Go.Op.store _ _ _, _, _, _, none⟩ :: _) _ _); first | refine vops_storeIM tyOk rfl rfl rfl rfl (by repeat (first | exact upd_here | apply upd_next | apply upd_past)) (by omega) ?_ | refine vops_storeM tyOk rfl rfl rfl rfl rfl (by repeat (first | exact upd_here | apply upd_next | apply upd_past)) (by simp) ?_ | refine vops_storeAM tyOk rfl rfl rfl (by first | rfl | (rw [ints_length]; first | assumption | omega | (rw [ints_length]; first | assumption | omega | simp [*])) | simp [*]) (by first | exact ints_one | simp [Value.oneCell']) (by repeat (first | exact upd_here | apply upd_next | apply upd_past)) (by first | rfl | (rw [ints_length]; first | assumption | omega | (rw [ints_length]; first | assumption | omega | simp [*])) | simp [*]) ?_) | refine vops_build2 rfl rfl (by kernel_rfl) ?_ | refine vops_buildZ tyOk rfl (by kernel_rfl) ?_ | refine vops_slice tyOk rfl rfl rfl rfl rfl (by omega) ?_)
    intro w2 hg2
    repeat (first | refine vops_q tyOk rfl ?_ | refine vops_nil ?_ | refine vw_seq ?_ | refine vw_region (by kernel_rfl) ?_ | refine vops_guardT rfl rfl ?_ | refine vops_guardF rfl rfl ?_ | refine vops_guardU rfl rfl ?_ | with_reducible refine bs_nbeq rfl ?_ | with_reducible refine bs_true ?_ | with_reducible refine bs_false ?_ | with_reducible refine bs_ntrue ?_ | with_reducible refine bs_nfalse ?_ | refine vops_p tyOk rfl (by (try simp only [inR]); omega) ?_ | refine vw_cond rfl ?_ | refine vw_skip ?_ | refine vw_block ?_ | refine vw_ret ?_ | refine vw_exit ?_ | refine vops_storeIM tyOk rfl rfl rfl rfl (by repeat (first | exact upd_here | apply upd_next | apply upd_past)) (by first | omega | (rw [List.length_set]; omega)) ?_ | ((show VOps _ _ _ _ (⟨some _, Go.Op.load _ _, _, _, _, none⟩ :: _) _ _); first | refine vops_loadM tyOk rfl rfl rfl (by repeat (first | exact mem_here | apply mem_next | apply mem_past)) (by rfl) ?_ | refine vops_loadM tyOk rfl rfl rfl (by repeat (first | exact mem_here | apply mem_next | apply mem_past)) (by exact ints_get0 (by omega)) ?_ | refine vops_loadNM tyOk rfl rfl rfl (by repeat (first | exact mem_here | apply mem_next | apply mem_past)) (by first | rfl | (rw [ints_length]; first | assumption | omega | (rw [ints_length]; first | assumption | omega | simp [*])) | simp [*]) ?_) | ((show VOps _ _ _ _ (⟨none, Go.Op.store _ _ _, _, _, _, none⟩ :: _) _ _); first | refine vops_storeIM tyOk rfl rfl rfl rfl (by repeat (first | exact upd_here | apply upd_next | apply upd_past)) (by omega) ?_ | refine vops_storeM tyOk rfl rfl rfl rfl rfl (by repeat (first | exact upd_here | apply upd_next | apply upd_past)) (by simp) ?_ | refine vops_storeAM tyOk rfl rfl rfl (by first | rfl | (rw [ints_length]; first | assumption | omega | (rw [ints_length]; first | assumption | omega | simp [*])) | simp [*]) (by first | exact ints_one | simp [Value.oneCell']) (by repeat (first | exact upd_here | apply upd_next | apply upd_past)) (by first | rfl | (rw [ints_length]; first | assumption | omega | (rw [ints_length]; first | assumption | omega | simp [*])) | simp [*]) ?_) | refine vops_build2 rfl rfl (by kernel_rfl) ?_ | refine vops_buildZ tyOk rfl (by kernel_rfl) ?_ | refine vops_slice tyOk rfl rfl rfl rfl rfl (by omega) ?_)
    refine ⟨_, ole_refl, ?_⟩
    rw [setTo_two]
  · rintro own' rfl
    rw [hlen]
    have hsl := setTo_length r (freeTo n) (2 * (2 * m))
    rw [hfl] at hsl
    repeat (first | refine vops_q tyOk rfl ?_ | refine vops_nil ?_ | refine vw_seq ?_ | refine vw_region (by kernel_rfl) ?_ | refine vops_guardT rfl rfl ?_ | refine vops_guardF rfl rfl ?_ | refine vops_guardU rfl rfl ?_ | with_reducible refine bs_nbeq rfl ?_ | with_reducible refine bs_true ?_ | with_reducible refine bs_false ?_ | with_reducible refine bs_ntrue ?_ | with_reducible refine bs_nfalse ?_ | refine vops_p tyOk rfl (by (try simp only [inR]); omega) ?_ | refine vw_cond rfl ?_ | refine vw_skip ?_ | refine vw_block ?_ | refine vw_ret ?_ | refine vw_exit ?_ | ((show VOps _ _ _ _ (⟨some _, Go.Op.load _ _, _, _, _, none⟩ :: _) _ _); first | refine vops_loadM tyOk rfl rfl rfl (by repeat (first | exact mem_here | apply mem_next | apply mem_past)) (by rfl) ?_ | refine vops_loadM tyOk rfl rfl rfl (by repeat (first | exact mem_here | apply mem_next | apply mem_past)) (by exact ints_get0 (by omega)) ?_ | refine vops_loadNM tyOk rfl rfl rfl (by repeat (first | exact mem_here | apply mem_next | apply mem_past)) (by first | rfl | (rw [ints_length]; first | assumption | omega | (rw [ints_length]; first | assumption | omega | simp [*])) | simp [*]) ?_) | ((show VOps _ _ _ _ (⟨none, Go.Op.store _ _ _, _, _, _, none⟩ :: _) _ _); first | refine vops_storeIM tyOk rfl rfl rfl rfl (by repeat (first | exact upd_here | apply upd_next | apply upd_past)) (by omega) ?_ | refine vops_storeM tyOk rfl rfl rfl rfl rfl (by repeat (first | exact upd_here | apply upd_next | apply upd_past)) (by simp) ?_ | refine vops_storeAM tyOk rfl rfl rfl (by first | rfl | (rw [ints_length]; first | assumption | omega | (rw [ints_length]; first | assumption | omega | simp [*])) | simp [*]) (by first | exact ints_one | simp [Value.oneCell']) (by repeat (first | exact upd_here | apply upd_next | apply upd_past)) (by first | rfl | (rw [ints_length]; first | assumption | omega | (rw [ints_length]; first | assumption | omega | simp [*])) | simp [*]) ?_) | refine vops_build2 rfl rfl (by kernel_rfl) ?_ | refine vops_buildZ tyOk rfl (by kernel_rfl) ?_ | refine vops_slice tyOk rfl rfl rfl rfl rfl (by omega) ?_)
    refine rvc_ints 1 tyOk rfl rfl rfl rfl (by rw [ints_length]; exact hsl) rfl ?_
    rw [parRow, show r.length = 2 * (2 * m) by omega]
end Go.Proofs.Ytjbhmdhebmkgkaa
