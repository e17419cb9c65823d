import Derived.Test.YtabccmngdhgdfaaP13
import Derived.Test.YtabccmngdhgdfaaP3
import Derived.Test.YtabccmngdhgdfaaVLLol
import Derived.Test.YtabccmngdhgdfaaVLArr
/- A part of the proof: P30. No conditions of its own. -/
namespace Go.Proofs.Ytabccmngdhgdfaa
open Go.VL
attribute [local irreducible] VWr VOps VD Calls

/-- The round whose turn it is, and the other one. -/
def cur (r q : List Int) (t : Nat) : List Int := if t % 2 = 0 then r else q
def oth (r q : List Int) (t : Nat) : List Int := if t % 2 = 0 then q else r
theorem cur_next (r q : List Int) (t : Nat) : cur r q (t + 1) = oth r q t := by
  unfold cur oth; by_cases h : t % 2 = 0
  · rw [if_pos h, if_neg (by omega)]
  · rw [if_neg h, if_pos (by omega)]
theorem oth_next (r q : List Int) (t : Nat) : oth r q (t + 1) = cur r q t := by
  unfold cur oth; by_cases h : t % 2 = 0
  · rw [if_pos h, if_neg (by omega)]
  · rw [if_neg h, if_pos (by omega)]
theorem cur_par {r q : List Int} {t s : Nat} (h : t % 2 = s % 2) : cur r q t = cur r q s := by unfold cur; rw [h]
theorem cur_length {r q : List Int} (hr : r.length = 14) (hq : q.length = 14) (t : Nat) : (cur r q t).length = 14 := by unfold cur; split <;> assumption
theorem oth_length {r q : List Int} (hr : r.length = 14) (hq : q.length = 14) (t : Nat) : (oth r q t).length = 14 := by unfold oth; split <;> assumption
def mv (r q : List Int) (t : Nat) (x : Int) : Int := (cur r q t).getD x.toNat 0
theorem mv_ok {n : Int} {r q : List Int} (hr : IsRd n r) (hq : IsRd n q) (t : Nat) {x : Int} (h0 : 0 ≤ x) (h1 : x < n) : 0 ≤ mv r q t x ∧ mv r q t x < n ∧ mv r q t (mv r q t x) = x := by
  have hc : IsRd n (cur r q t) := by unfold cur; split <;> assumption
  have h14 := hc.2.1
  have := (hc.2.2 x.toNat (by omega)).2 (by omega)
  unfold mv
  refine ⟨this.1, by omega, ?_⟩
  rw [this.2.2]; omega
/-- A chain of a, as far as it has come. -/
structure Ch (n : Int) (r q : List Int) (a : Int) (l : List Int) : Prop where
  ne : 0 < l.length
  first : l.getD 0 0 = a
  inn : ∀ x ∈ l, 0 ≤ x ∧ x < n
  step : ∀ i, i + 1 < l.length → l.getD (i + 1) 0 = mv r q i (l.getD i 0)
  nodup : l.Nodup
theorem getD_mem {l : List Int} {i : Nat} (h : i < l.length) : l.getD i 0 ∈ l := by
  rw [List.getD_eq_getElem?_getD, List.getElem?_eq_getElem h]; exact List.getElem_mem _
theorem getD_inj {l : List Int} (hn : l.Nodup) {i j : Nat} (hi : i < l.length) (hj : j < l.length) (h : l.getD i 0 = l.getD j 0) : i = j := by
  refine (List.getElem?_inj hi hn).1 ?_
  rw [List.getD_eq_getElem?_getD, List.getD_eq_getElem?_getD, List.getElem?_eq_getElem hi, List.getElem?_eq_getElem hj] at h
  rw [List.getElem?_eq_getElem hi, List.getElem?_eq_getElem hj]
  exact congrArg some h
theorem Ch.last {n : Int} {r q : List Int} {a : Int} {l : List Int} (h : Ch n r q a l) : 0 ≤ l.getD (l.length - 1) 0 ∧ l.getD (l.length - 1) 0 < n := h.inn _ (getD_mem (by have := h.ne; omega))
theorem getD_app {l : List Int} {x : Int} {i : Nat} (h : i < l.length) : (l ++ [x]).getD i 0 = l.getD i 0 := by
  rw [List.getD_eq_getElem?_getD, List.getElem?_append_left h, ← List.getD_eq_getElem?_getD]
theorem getD_end {l : List Int} {x : Int} {i : Nat} (h : i = l.length) : (l ++ [x]).getD i 0 = x := by
  subst h; rw [List.getD_eq_getElem?_getD, List.getElem?_append_right (Nat.le_refl _), Nat.sub_self]; rfl
theorem Ch.snoc {n : Int} {r q : List Int} (hr : IsRd n r) (hq : IsRd n q) {a x : Int} {l : List Int} (h : Ch n r q a l) (hx : x = mv r q (l.length - 1) (l.getD (l.length - 1) 0)) (hxa : x ≠ a) (hxl : x ≠ l.getD (l.length - 1) 0) : Ch n r q a (l ++ [x]) := by
  have hne := h.ne
  have hlast := h.last
  have hmv := mv_ok hr hq (l.length - 1) hlast.1 hlast.2
  have hnot : x ∉ l := fun hm => by
    obtain ⟨k, hk⟩ := List.mem_iff_getElem?.1 hm
    have hkl := (List.getElem?_eq_some_iff.1 hk).1
    have hkd : l.getD k 0 = x := by rw [List.getD_eq_getElem?_getD, hk]; rfl
    have hk0 : k ≠ 0 := fun e => hxa (by rw [← hkd, e, h.first])
    have hkm : k ≠ l.length - 1 := fun e => hxl (by rw [← hkd, e])
    have hback : mv r q (l.length - 1) x = l.getD (l.length - 1) 0 := by rw [hx]; exact hmv.2.2
    by_cases hp : (l.length - 1) % 2 = k % 2
    · have h1 := h.step k (by omega)
      have h2 : mv r q k (l.getD k 0) = l.getD (l.length - 1) 0 := by rw [hkd, ← hback]; unfold mv; rw [cur_par hp]
      have := getD_inj h.nodup (show k + 1 < l.length by omega) (show l.length - 1 < l.length by omega) (h1.trans h2)
      omega
    · have h1 := h.step (k - 1) (by omega)
      rw [show k - 1 + 1 = k by omega] at h1
      have hb := h.inn _ (getD_mem (show k - 1 < l.length by omega))
      have h3 := (mv_ok hr hq (k - 1) hb.1 hb.2).2.2
      rw [← h1, hkd] at h3
      have h4 : mv r q (k - 1) x = l.getD (l.length - 1) 0 := by rw [← hback]; unfold mv; rw [cur_par (show (k - 1) % 2 = (l.length - 1) % 2 by omega)]
      have := getD_inj h.nodup (show k - 1 < l.length by omega) (show l.length - 1 < l.length by omega) (h3.symm.trans h4)
      omega
  refine ⟨by simp, by rw [getD_app hne]; exact h.first, fun y hy => ?_, fun i hi => ?_, ?_⟩
  · rcases List.mem_append.1 hy with hy | hy
    · exact h.inn y hy
    · have : y = x := by simpa using hy
      rw [this, hx]; exact ⟨hmv.1, hmv.2.1⟩
  · rw [List.length_append] at hi
    simp only [List.length_cons, List.length_nil] at hi
    by_cases hil : i + 1 < l.length
    · rw [getD_app hil, getD_app (by omega)]; exact h.step i hil
    · rw [getD_end (by omega), getD_app (by omega), hx]
      rw [show l.length - 1 = i by omega]
  · rw [List.nodup_append]
    refine ⟨h.nodup, by simp, fun y hy z hz e => ?_⟩
    have : z = x := by simpa using hz
    subst this; subst e; exact hnot hy
theorem pigeon : ∀ (n : Nat) (l : List Int), l.Nodup → (∀ x ∈ l, 0 ≤ x ∧ x < (n : Int)) → l.length ≤ n
  | 0, l, _, h => by
    match l, h with
    | [], _ => exact Nat.le_refl _
    | x :: l, h => have := h x (by simp); omega
  | n + 1, l, hn, h => by
    by_cases hm : (n : Int) ∈ l
    · have h1 := pigeon n (l.erase (n : Int)) (hn.erase _) (fun x hx => by
        have hx2 := (hn.mem_erase_iff).1 hx
        have := h x hx2.2
        have hne := hx2.1
        omega)
      rw [List.length_erase_of_mem hm] at h1
      omega
    · have := pigeon n l hn (fun x hx => by
        have h1 := h x hx
        have h2 : x ≠ n := fun e => hm (e ▸ hx)
        omega)
      omega
theorem Ch.length_le {n : Int} {r q : List Int} {a : Int} {l : List Int} (h : Ch n r q a l) (hn : n ≤ 14) : l.length ≤ 14 := by
  have := pigeon n.toNat l h.nodup (fun x hx => by have := h.inn x hx; omega)
  omega
def chainGo (r q : List Int) (a : Int) : Nat → List Int → List Int
  | 0, l => l
  | f + 1, l => if mv r q (l.length - 1) (l.getD (l.length - 1) 0) = a ∨ mv r q (l.length - 1) (l.getD (l.length - 1) 0) = l.getD (l.length - 1) 0 then l else chainGo r q a f (l ++ [mv r q (l.length - 1) (l.getD (l.length - 1) 0)])
/-- The chain of a. -/
def chain (r q : List Int) (a : Int) : List Int := chainGo r q a 15 [a]
theorem chainGo_stop {r q : List Int} {a x : Int} {l : List Int} (hl : l.length ≤ 14) (hx : x = mv r q (l.length - 1) (l.getD (l.length - 1) 0)) (h : x = a ∨ x = l.getD (l.length - 1) 0) : chainGo r q a (16 - l.length) l = l := by
  rw [show 16 - l.length = (15 - l.length) + 1 by omega, chainGo, ← hx, if_pos h]
theorem chainGo_next {r q : List Int} {a x : Int} {l : List Int} (hl : l.length ≤ 14) (hx : x = mv r q (l.length - 1) (l.getD (l.length - 1) 0)) (h : ¬ (x = a ∨ x = l.getD (l.length - 1) 0)) : chainGo r q a (16 - l.length) l = chainGo r q a (16 - (l ++ [x]).length) (l ++ [x]) := by
  rw [show 16 - l.length = (15 - l.length) + 1 by omega, chainGo, ← hx, if_neg h]
  congr 1
  rw [List.length_append]; simp
theorem Ch.one {n : Int} {r q : List Int} {a : Int} (h0 : 0 ≤ a) (h1 : a < n) : Ch n r q a [a] := ⟨by simp, rfl, fun x hx => by
  have : x = a := by simpa using hx
  subst this; exact ⟨h0, h1⟩, fun i hi => by simp at hi, by simp⟩
theorem chainGo_ch {n : Int} {r q : List Int} {a : Int} (hr : IsRd n r) (hq : IsRd n q) : ∀ (f : Nat) (l : List Int), Ch n r q a l → Ch n r q a (chainGo r q a f l)
  | 0, l, h => h
  | f + 1, l, h => by
    unfold chainGo
    split
    · exact h
    · rename_i hc
      exact chainGo_ch hr hq f _ (h.snoc hr hq rfl (fun e => hc (.inl e)) (fun e => hc (.inr e)))
theorem chain_ch {n : Int} {r q : List Int} {a : Int} (hr : IsRd n r) (hq : IsRd n q) (h0 : 0 ≤ a) (h1 : a < n) : Ch n r q a (chain r q a) := chainGo_ch hr hq _ _ (Ch.one h0 h1)

set_option maxHeartbeats 2000000 in
set_option maxRecDepth 100000 in
theorem c_chainOf (n : Int) (r q : List Int) (a : Int) (hr : IsRd n r) (hq : IsRd n q) (h0 : 0 ≤ a) (h1 : a < n) (hrl : r.length = 14) (hql : q.length = 14) (w : World) :
    Calls Try.prog 88 [.agg (ints r).toArray, .agg (ints q).toArray, .int .i64 a].toArray w (Res w (NewI 2 (chain r q a))) := by
  have hn14 := hr.2.1
  refine calls_of_vw Try.func88 rfl Try.ntmps88 (by simp) ?_
  refine vw_seq (vw_region (by kernel_rfl) (vops_box (ints r) rfl (fun b3 hb3 => ?_)))
  refine vops_box (ints q) rfl (fun b4 hb4 => ?_)
  repeat (first | refine vops_q tyOk rfl ?_ | refine vops_nil ?_ | refine vw_seq ?_ | refine vw_region (by kernel_rfl) ?_ | refine vops_guardT rfl rfl ?_ | refine vops_guardF rfl rfl ?_ | refine vops_guardU rfl rfl ?_ | with_reducible refine bs_nbeq rfl ?_ | with_reducible refine bs_true ?_ | with_reducible refine bs_false ?_ | with_reducible refine bs_ntrue ?_ | with_reducible refine bs_nfalse ?_ | refine vops_p tyOk rfl (by (try simp only [inR]); omega) ?_ | refine vw_cond rfl ?_ | refine vw_skip ?_ | refine vw_block ?_ | refine vw_ret ?_ | refine vw_exit ?_ | refine vops_litI [_] tyOk rfl rfl (List.cons_ne_nil _ _) (by rfl) rfl (by omega) (by omega) (fun bt hbt => ?_) | refine vops_loadM tyOk rfl rfl rfl (by repeat (first | exact mem_here | apply mem_next | apply mem_past)) (by rfl) ?_ | refine vops_loadM tyOk rfl rfl rfl (by repeat (first | exact mem_here | apply mem_next | apply mem_past)) (by exact ints_get0 (by omega)) ?_ | refine vops_loadNM tyOk rfl rfl rfl (by repeat (first | exact mem_here | apply mem_next | apply mem_past)) (by first | rfl | (rw [ints_length]; first | assumption | omega | (rw [ints_length]; first | assumption | omega | simp [*])) | simp [*]) ?_ | refine vops_storeIM tyOk rfl rfl rfl rfl (by repeat (first | exact upd_here | apply upd_next | apply upd_past)) (by omega) ?_ | refine vops_storeM tyOk rfl rfl rfl rfl rfl (by repeat (first | exact upd_here | apply upd_next | apply upd_past)) (by simp) ?_ | refine vops_storeAM tyOk rfl rfl rfl (by first | rfl | (rw [ints_length]; first | assumption | omega | (rw [ints_length]; first | assumption | omega | simp [*])) | simp [*]) (by first | exact ints_one | simp [Value.oneCell']) (by repeat (first | exact upd_here | apply upd_next | apply upd_past)) (by first | rfl | (rw [ints_length]; first | assumption | omega | (rw [ints_length]; first | assumption | omega | simp [*])) | simp [*]) ?_ | refine vops_build2 rfl rfl (by kernel_rfl) ?_ | refine vops_buildZ tyOk rfl (by kernel_rfl) ?_ | refine vops_slice tyOk rfl rfl rfl rfl rfl (by omega) ?_)
  refine vw_loopW (fun m f own => ∃ (l R Q : List Int) (x : Int) (p : Option Addr) (cp : Nat) (new : Own), Ch n r q a l ∧ m = 15 - l.length ∧ chain r q a = chainGo r q a (16 - l.length) l ∧ R = cur r q (l.length - 1) ∧ Q = oth r q (l.length - 1) ∧ x = mv r q (l.length - 1) (l.getD (l.length - 1) 0) ∧
      f 8 = .int .i64 x ∧ f 2 = .int .i64 a ∧ f 3 = .pointer (some ⟨b3, 0, none⟩) ∧ f 4 = .pointer (some ⟨b4, 0, none⟩) ∧ f 7 = .slice p l.length cp ∧ NewI 2 l (.slice p l.length cp) new ∧
      own = new ++ [(b4, ⟨ints Q, 25, 14, none⟩), (b3, ⟨ints R, 25, 14, none⟩)]) 14
    ⟨_, ole_refl, [a], r, q, r.getD a.toNat 0, _, _, [_], Ch.one h0 h1, rfl, rfl, rfl, rfl, rfl, rfl, rfl, rfl, rfl, rfl, NewI.lit (l := [a]) rfl (Nat.le_refl _) (by simp [maxLen]), by rw [ints_length, ints_length, hrl, hql]; rfl⟩ ?_
  rintro m f own ⟨l, R, Q, x, p, cp, new, hCh, rfl, hgo, hR, hQ, hx, h8, h2, h3, h4, h7, hN, rfl⟩
  rw [upd_of h8, upd_of h2, upd_of h3, upd_of h4, upd_of h7]
  have hl14 := hCh.length_le hn14
  have hl0 := hCh.ne
  have hlast := hCh.last
  have hmv := mv_ok hr hq (l.length - 1) hlast.1 hlast.2
  rw [← hx] at hmv
  obtain ⟨bn, rfl, rfl, hc1, hc2, hl1⟩ := NewF.blk (NewI.f hN) hl0
  have hRl : R.length = 14 := by rw [hR]; exact cur_length hrl hql _
  have hQl : Q.length = 14 := by rw [hQ]; exact oth_length hrl hql _
  have hlen : ((l.length : Int) - 1).toNat = l.length - 1 := by omega
  have hcell : (ints l)[0 + ((l.length : Int) - 1).toNat]? = some (.int .i64 (l.getD (l.length - 1) 0)) := by
    rw [show 0 + ((l.length : Int) - 1).toNat = l.length - 1 by omega]; exact ints_get (by omega)
  repeat (first | refine vops_q tyOk rfl ?_ | refine vops_nil ?_ | refine vw_seq ?_ | refine vw_region (by kernel_rfl) ?_ | refine vops_guardT rfl rfl ?_ | refine vops_guardF rfl rfl ?_ | refine vops_guardU rfl rfl ?_ | with_reducible refine bs_nbeq rfl ?_ | with_reducible refine bs_true ?_ | with_reducible refine bs_false ?_ | with_reducible refine bs_ntrue ?_ | with_reducible refine bs_nfalse ?_ | refine vops_p tyOk rfl (by (try simp only [inR]); omega) ?_ | refine vw_cond rfl ?_ | refine vw_skip ?_ | refine vw_block ?_ | refine vw_ret ?_ | refine vw_exit ?_ | refine vops_loadM tyOk rfl rfl rfl (by repeat (first | exact mem_here | apply mem_next | apply mem_past)) (by rfl) ?_ | refine vops_loadM tyOk rfl rfl rfl (by repeat (first | exact mem_here | apply mem_next | apply mem_past)) (by exact ints_get0 (by omega)) ?_ | refine vops_loadNM tyOk rfl rfl rfl (by repeat (first | exact mem_here | apply mem_next | apply mem_past)) (by first | rfl | (rw [ints_length]; first | assumption | omega | (rw [ints_length]; first | assumption | omega | simp [*])) | simp [*]) ?_ | refine vops_storeIM tyOk rfl rfl rfl rfl (by repeat (first | exact upd_here | apply upd_next | apply upd_past)) (by omega) ?_ | refine vops_storeM tyOk rfl rfl rfl rfl rfl (by repeat (first | exact upd_here | apply upd_next | apply upd_past)) (by simp) ?_ | refine vops_storeAM tyOk rfl rfl rfl (by first | rfl | (rw [ints_length]; first | assumption | omega | (rw [ints_length]; first | assumption | omega | simp [*])) | simp [*]) (by first | exact ints_one | simp [Value.oneCell']) (by repeat (first | exact upd_here | apply upd_next | apply upd_past)) (by first | rfl | (rw [ints_length]; first | assumption | omega | (rw [ints_length]; first | assumption | omega | simp [*])) | simp [*]) ?_ | refine vops_build2 rfl rfl (by kernel_rfl) ?_ | refine vops_buildZ tyOk rfl (by kernel_rfl) ?_ | refine vops_slice tyOk rfl rfl rfl rfl rfl (by omega) ?_)
  refine bs_ndec2 (fun hxa => ?_) (fun hxa => ?_)
  · repeat (first | refine vops_q tyOk rfl ?_ | refine vops_nil ?_ | refine vw_seq ?_ | refine vw_region (by kernel_rfl) ?_ | refine vops_guardT rfl rfl ?_ | refine vops_guardF rfl rfl ?_ | refine vops_guardU rfl rfl ?_ | with_reducible refine bs_nbeq rfl ?_ | with_reducible refine bs_true ?_ | with_reducible refine bs_false ?_ | with_reducible refine bs_ntrue ?_ | with_reducible refine bs_nfalse ?_ | refine vops_p tyOk rfl (by (try simp only [inR]); omega) ?_ | refine vw_cond rfl ?_ | refine vw_skip ?_ | refine vw_block ?_ | refine vw_ret ?_ | refine vw_exit ?_ | refine vops_loadM tyOk rfl rfl rfl (by repeat (first | exact mem_here | apply mem_next | apply mem_past)) (by exact hcell) ?_ | refine vops_loadM tyOk rfl rfl rfl (by repeat (first | exact mem_here | apply mem_next | apply mem_past)) (by rfl) ?_ | refine vops_loadM tyOk rfl rfl rfl (by repeat (first | exact mem_here | apply mem_next | apply mem_past)) (by exact ints_get0 (by omega)) ?_ | refine vops_loadNM tyOk rfl rfl rfl (by repeat (first | exact mem_here | apply mem_next | apply mem_past)) (by first | rfl | (rw [ints_length]; first | assumption | omega | (rw [ints_length]; first | assumption | omega | simp [*])) | simp [*]) ?_ | refine vops_storeIM tyOk rfl rfl rfl rfl (by repeat (first | exact upd_here | apply upd_next | apply upd_past)) (by omega) ?_ | refine vops_storeM tyOk rfl rfl rfl rfl rfl (by repeat (first | exact upd_here | apply upd_next | apply upd_past)) (by simp) ?_ | refine vops_storeAM tyOk rfl rfl rfl (by first | rfl | (rw [ints_length]; first | assumption | omega | (rw [ints_length]; first | assumption | omega | simp [*])) | simp [*]) (by first | exact ints_one | simp [Value.oneCell']) (by repeat (first | exact upd_here | apply upd_next | apply upd_past)) (by first | rfl | (rw [ints_length]; first | assumption | omega | (rw [ints_length]; first | assumption | omega | simp [*])) | simp [*]) ?_ | refine vops_build2 rfl rfl (by kernel_rfl) ?_ | refine vops_buildZ tyOk rfl (by kernel_rfl) ?_ | refine vops_slice tyOk rfl rfl rfl rfl rfl (by omega) ?_)
    refine bs_ndec2 (fun hxl => ?_) (fun hxl => ?_)
    · repeat (first | refine vops_q tyOk rfl ?_ | refine vops_nil ?_ | refine vw_seq ?_ | refine vw_region (by kernel_rfl) ?_ | refine vops_guardT rfl rfl ?_ | refine vops_guardF rfl rfl ?_ | refine vops_guardU rfl rfl ?_ | with_reducible refine bs_nbeq rfl ?_ | with_reducible refine bs_true ?_ | with_reducible refine bs_false ?_ | with_reducible refine bs_ntrue ?_ | with_reducible refine bs_nfalse ?_ | refine vops_p tyOk rfl (by (try simp only [inR]); omega) ?_ | refine vw_cond rfl ?_ | refine vw_skip ?_ | refine vw_block ?_ | refine vw_ret ?_ | refine vw_exit ?_ | refine vops_litI [_] tyOk rfl rfl (List.cons_ne_nil _ _) (by rfl) rfl (by omega) (by omega) (fun bt hbt => ?_) | refine vops_append1 (k := 1) tyOk rfl rfl (List.cons_ne_nil _ _) rfl rfl (by decide) rfl hN (by repeat (first | exact pm_here | exact pm_last | apply pm_next | apply pm_past)) rfl (by repeat (first | exact mem_here | apply mem_next | apply mem_past)) rfl (by omega) (fun p' cap' new' hN' => ?_) | refine vops_loadM tyOk rfl rfl rfl (by repeat (first | exact mem_here | apply mem_next | apply mem_past)) (by rfl) ?_ | refine vops_loadM tyOk rfl rfl rfl (by repeat (first | exact mem_here | apply mem_next | apply mem_past)) (by exact ints_get0 (by omega)) ?_ | refine vops_loadNM tyOk rfl rfl rfl (by repeat (first | exact mem_here | apply mem_next | apply mem_past)) (by first | rfl | (rw [ints_length]; first | assumption | omega | (rw [ints_length]; first | assumption | omega | simp [*])) | simp [*]) ?_ | refine vops_storeIM tyOk rfl rfl rfl rfl (by repeat (first | exact upd_here | apply upd_next | apply upd_past)) (by omega) ?_ | refine vops_storeM tyOk rfl rfl rfl rfl rfl (by repeat (first | exact upd_here | apply upd_next | apply upd_past)) (by simp) ?_ | refine vops_storeAM tyOk rfl rfl rfl (by first | rfl | (rw [ints_length]; first | assumption | omega | (rw [ints_length]; first | assumption | omega | simp [*])) | simp [*]) (by first | exact ints_one | simp [Value.oneCell']) (by repeat (first | exact upd_here | apply upd_next | apply upd_past)) (by first | rfl | (rw [ints_length]; first | assumption | omega | (rw [ints_length]; first | assumption | omega | simp [*])) | simp [*]) ?_ | refine vops_build2 rfl rfl (by kernel_rfl) ?_ | refine vops_buildZ tyOk rfl (by kernel_rfl) ?_ | refine vops_slice tyOk rfl rfl rfl rfl rfl (by omega) ?_)
      have hst := chainGo_next hl14 hx (fun h => h.elim hxa hxl)
      have hll : (l ++ [x]).length = l.length + 1 := by simp
      refine ⟨15 - (l ++ [x]).length, by omega, new' ++ [(b4, ⟨ints R, 25, 14, none⟩), (b3, ⟨ints Q, 25, 14, none⟩)], (by repeat (first | exact ole_nil | exact ole_refl | (apply ole_cons; (repeat (first | exact pm1_here | apply pm1_next | apply pm1_past))) | (apply ole_app; (repeat (first | exact pm_here | exact pm_last | apply pm_next | apply pm_past))))), l ++ [x], Q, R, Q.getD x.toNat 0, p', cap', new', hCh.snoc hr hq hx hxa hxl, rfl, by rw [hgo, hst], ?_, ?_, ?_, rfl, rfl, rfl, rfl, ?_, ?_, rfl⟩
      · rw [hQ, hll, ← cur_next, show l.length - 1 + 1 = l.length + 1 - 1 by omega]
      · rw [hR, hll, ← oth_next, show l.length - 1 + 1 = l.length + 1 - 1 by omega]
      · rw [hll, getD_end (by omega)]
        unfold mv
        rw [show l.length + 1 - 1 = l.length - 1 + 1 by omega, cur_next, ← hQ]
      · rw [hll]; rfl
      · rw [hll]; exact NewI.snoc hN' rfl
    · repeat (first | refine vops_q tyOk rfl ?_ | refine vops_nil ?_ | refine vw_seq ?_ | refine vw_region (by kernel_rfl) ?_ | refine vops_guardT rfl rfl ?_ | refine vops_guardF rfl rfl ?_ | refine vops_guardU rfl rfl ?_ | with_reducible refine bs_nbeq rfl ?_ | with_reducible refine bs_true ?_ | with_reducible refine bs_false ?_ | with_reducible refine bs_ntrue ?_ | with_reducible refine bs_nfalse ?_ | refine vops_p tyOk rfl (by (try simp only [inR]); omega) ?_ | refine vw_cond rfl ?_ | refine vw_skip ?_ | refine vw_block ?_ | refine vw_ret ?_ | refine vw_exit ?_ | refine vops_loadM tyOk rfl rfl rfl (by repeat (first | exact mem_here | apply mem_next | apply mem_past)) (by rfl) ?_ | refine vops_loadM tyOk rfl rfl rfl (by repeat (first | exact mem_here | apply mem_next | apply mem_past)) (by exact ints_get0 (by omega)) ?_ | refine vops_loadNM tyOk rfl rfl rfl (by repeat (first | exact mem_here | apply mem_next | apply mem_past)) (by first | rfl | (rw [ints_length]; first | assumption | omega | (rw [ints_length]; first | assumption | omega | simp [*])) | simp [*]) ?_ | refine vops_storeIM tyOk rfl rfl rfl rfl (by repeat (first | exact upd_here | apply upd_next | apply upd_past)) (by omega) ?_ | refine vops_storeM tyOk rfl rfl rfl rfl rfl (by repeat (first | exact upd_here | apply upd_next | apply upd_past)) (by simp) ?_ | refine vops_storeAM tyOk rfl rfl rfl (by first | rfl | (rw [ints_length]; first | assumption | omega | (rw [ints_length]; first | assumption | omega | simp [*])) | simp [*]) (by first | exact ints_one | simp [Value.oneCell']) (by repeat (first | exact upd_here | apply upd_next | apply upd_past)) (by first | rfl | (rw [ints_length]; first | assumption | omega | (rw [ints_length]; first | assumption | omega | simp [*])) | simp [*]) ?_ | refine vops_build2 rfl rfl (by kernel_rfl) ?_ | refine vops_buildZ tyOk rfl (by kernel_rfl) ?_ | refine vops_slice tyOk rfl rfl rfl rfl rfl (by omega) ?_)
      refine out1 rfl rfl (SlAt.nodup hN) (by repeat (first | exact sub_hereL | exact sub_refl | apply sub_cons | apply sub_app)) ?_
      rw [hgo, chainGo_stop hl14 hx (.inr hxl)]; exact hN
  · repeat (first | refine vops_q tyOk rfl ?_ | refine vops_nil ?_ | refine vw_seq ?_ | refine vw_region (by kernel_rfl) ?_ | refine vops_guardT rfl rfl ?_ | refine vops_guardF rfl rfl ?_ | refine vops_guardU rfl rfl ?_ | with_reducible refine bs_nbeq rfl ?_ | with_reducible refine bs_true ?_ | with_reducible refine bs_false ?_ | with_reducible refine bs_ntrue ?_ | with_reducible refine bs_nfalse ?_ | refine vops_p tyOk rfl (by (try simp only [inR]); omega) ?_ | refine vw_cond rfl ?_ | refine vw_skip ?_ | refine vw_block ?_ | refine vw_ret ?_ | refine vw_exit ?_ | refine vops_loadM tyOk rfl rfl rfl (by repeat (first | exact mem_here | apply mem_next | apply mem_past)) (by rfl) ?_ | refine vops_loadM tyOk rfl rfl rfl (by repeat (first | exact mem_here | apply mem_next | apply mem_past)) (by exact ints_get0 (by omega)) ?_ | refine vops_loadNM tyOk rfl rfl rfl (by repeat (first | exact mem_here | apply mem_next | apply mem_past)) (by first | rfl | (rw [ints_length]; first | assumption | omega | (rw [ints_length]; first | assumption | omega | simp [*])) | simp [*]) ?_ | refine vops_storeIM tyOk rfl rfl rfl rfl (by repeat (first | exact upd_here | apply upd_next | apply upd_past)) (by omega) ?_ | refine vops_storeM tyOk rfl rfl rfl rfl rfl (by repeat (first | exact upd_here | apply upd_next | apply upd_past)) (by simp) ?_ | refine vops_storeAM tyOk rfl rfl rfl (by first | rfl | (rw [ints_length]; first | assumption | omega | (rw [ints_length]; first | assumption | omega | simp [*])) | simp [*]) (by first | exact ints_one | simp [Value.oneCell']) (by repeat (first | exact upd_here | apply upd_next | apply upd_past)) (by first | rfl | (rw [ints_length]; first | assumption | omega | (rw [ints_length]; first | assumption | omega | simp [*])) | simp [*]) ?_ | refine vops_build2 rfl rfl (by kernel_rfl) ?_ | refine vops_buildZ tyOk rfl (by kernel_rfl) ?_ | refine vops_slice tyOk rfl rfl rfl rfl rfl (by omega) ?_)
    refine out1 rfl rfl (SlAt.nodup hN) (by repeat (first | exact sub_hereL | exact sub_refl | apply sub_cons | apply sub_app)) ?_
    rw [hgo, chainGo_stop hl14 hx (.inl hxa)]; exact hN
end Go.Proofs.Ytabccmngdhgdfaa
