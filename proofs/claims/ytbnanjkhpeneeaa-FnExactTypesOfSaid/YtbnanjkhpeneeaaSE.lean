import Derived.Test.YtbnanjkhpeneeaaP13
import Derived.Test.YtbnanjkhpeneeaaP3
import Derived.Test.YtbnanjkhpeneeaaVLLol
import Derived.Test.YtbnanjkhpeneeaaVLArr
/- Parts of the proof, one after another. No conditions of their own. -/
/- A part of the proof: P30. No conditions of its own. -/
namespace Go.Proofs.Ytbnanjkhpeneeaa
open Go.VL
attribute [local irreducible] VWr VOps VD Calls

/-- The round whose turn it is, and the other one. -/
def cur (r q : List Int) (t : Nat) : List Int := if t % 2 = 0 then r else q
def oth (r q : List Int) (t : Nat) : List Int := if t % 2 = 0 then q else r
theorem cur_next (r q : List Int) (t : Nat) : cur r q (t + 1) = oth r q t := by
  unfold cur oth; by_cases h : t % 2 = 0
  · rw [if_pos h, if_neg (by omega)]
  · rw [if_neg h, if_pos (by omega)]
theorem oth_next (r q : List Int) (t : Nat) : oth r q (t + 1) = cur r q t := by
  unfold cur oth; by_cases h : t % 2 = 0
  · rw [if_pos h, if_neg (by omega)]
  · rw [if_neg h, if_pos (by omega)]
theorem cur_par {r q : List Int} {t s : Nat} (h : t % 2 = s % 2) : cur r q t = cur r q s := by unfold cur; rw [h]
theorem cur_length {r q : List Int} (hr : r.length = 14) (hq : q.length = 14) (t : Nat) : (cur r q t).length = 14 := by unfold cur; split <;> assumption
theorem oth_length {r q : List Int} (hr : r.length = 14) (hq : q.length = 14) (t : Nat) : (oth r q t).length = 14 := by unfold oth; split <;> assumption
def mv (r q : List Int) (t : Nat) (x : Int) : Int := (cur r q t).getD x.toNat 0
theorem mv_ok {n : Int} {r q : List Int} (hr : IsRd n r) (hq : IsRd n q) (t : Nat) {x : Int} (h0 : 0 ≤ x) (h1 : x < n) : 0 ≤ mv r q t x ∧ mv r q t x < n ∧ mv r q t (mv r q t x) = x := by
  have hc : IsRd n (cur r q t) := by unfold cur; split <;> assumption
  have h14 := hc.2.1
  have := (hc.2.2 x.toNat (by omega)).2 (by omega)
  unfold mv
  refine ⟨this.1, by omega, ?_⟩
  rw [this.2.2]; omega
/-- A chain of a, as far as it has come. -/
structure Ch (n : Int) (r q : List Int) (a : Int) (l : List Int) : Prop where
  ne : 0 < l.length
  first : l.getD 0 0 = a
  inn : ∀ x ∈ l, 0 ≤ x ∧ x < n
  step : ∀ i, i + 1 < l.length → l.getD (i + 1) 0 = mv r q i (l.getD i 0)
  nodup : l.Nodup
theorem getD_mem {l : List Int} {i : Nat} (h : i < l.length) : l.getD i 0 ∈ l := by
  rw [List.getD_eq_getElem?_getD, List.getElem?_eq_getElem h]; exact List.getElem_mem _
theorem getD_inj {l : List Int} (hn : l.Nodup) {i j : Nat} (hi : i < l.length) (hj : j < l.length) (h : l.getD i 0 = l.getD j 0) : i = j := by
  refine (List.getElem?_inj hi hn).1 ?_
  rw [List.getD_eq_getElem?_getD, List.getD_eq_getElem?_getD, List.getElem?_eq_getElem hi, List.getElem?_eq_getElem hj] at h
  rw [List.getElem?_eq_getElem hi, List.getElem?_eq_getElem hj]
  exact congrArg some h
theorem Ch.last {n : Int} {r q : List Int} {a : Int} {l : List Int} (h : Ch n r q a l) : 0 ≤ l.getD (l.length - 1) 0 ∧ l.getD (l.length - 1) 0 < n := h.inn _ (getD_mem (by have := h.ne; omega))
theorem getD_app {l : List Int} {x : Int} {i : Nat} (h : i < l.length) : (l ++ [x]).getD i 0 = l.getD i 0 := by
  rw [List.getD_eq_getElem?_getD, List.getElem?_append_left h, ← List.getD_eq_getElem?_getD]
theorem getD_end {l : List Int} {x : Int} {i : Nat} (h : i = l.length) : (l ++ [x]).getD i 0 = x := by
  subst h; rw [List.getD_eq_getElem?_getD, List.getElem?_append_right (Nat.le_refl _), Nat.sub_self]; rfl
theorem Ch.snoc {n : Int} {r q : List Int} (hr : IsRd n r) (hq : IsRd n q) {a x : Int} {l : List Int} (h : Ch n r q a l) (hx : x = mv r q (l.length - 1) (l.getD (l.length - 1) 0)) (hxa : x ≠ a) (hxl : x ≠ l.getD (l.length - 1) 0) : Ch n r q a (l ++ [x]) := by
  have hne := h.ne
  have hlast := h.last
  have hmv := mv_ok hr hq (l.length - 1) hlast.1 hlast.2
  have hnot : x ∉ l := fun hm => by
    obtain ⟨k, hk⟩ := List.mem_iff_getElem?.1 hm
    have hkl := (List.getElem?_eq_some_iff.1 hk).1
    have hkd : l.getD k 0 = x := by rw [List.getD_eq_getElem?_getD, hk]; rfl
    have hk0 : k ≠ 0 := fun e => hxa (by rw [← hkd, e, h.first])
    have hkm : k ≠ l.length - 1 := fun e => hxl (by rw [← hkd, e])
    have hback : mv r q (l.length - 1) x = l.getD (l.length - 1) 0 := by rw [hx]; exact hmv.2.2
    by_cases hp : (l.length - 1) % 2 = k % 2
    · have h1 := h.step k (by omega)
      have h2 : mv r q k (l.getD k 0) = l.getD (l.length - 1) 0 := by rw [hkd, ← hback]; unfold mv; rw [cur_par hp]
      have := getD_inj h.nodup (show k + 1 < l.length by omega) (show l.length - 1 < l.length by omega) (h1.trans h2)
      omega
    · have h1 := h.step (k - 1) (by omega)
      rw [show k - 1 + 1 = k by omega] at h1
      have hb := h.inn _ (getD_mem (show k - 1 < l.length by omega))
      have h3 := (mv_ok hr hq (k - 1) hb.1 hb.2).2.2
      rw [← h1, hkd] at h3
      have h4 : mv r q (k - 1) x = l.getD (l.length - 1) 0 := by rw [← hback]; unfold mv; rw [cur_par (show (k - 1) % 2 = (l.length - 1) % 2 by omega)]
      have := getD_inj h.nodup (show k - 1 < l.length by omega) (show l.length - 1 < l.length by omega) (h3.symm.trans h4)
      omega
  refine ⟨by simp, by rw [getD_app hne]; exact h.first, fun y hy => ?_, fun i hi => ?_, ?_⟩
  · rcases List.mem_append.1 hy with hy | hy
    · exact h.inn y hy
    · have : y = x := by simpa using hy
      rw [this, hx]; exact ⟨hmv.1, hmv.2.1⟩
  · rw [List.length_append] at hi
    simp only [List.length_cons, List.length_nil] at hi
    by_cases hil : i + 1 < l.length
    · rw [getD_app hil, getD_app (by omega)]; exact h.step i hil
    · rw [getD_end (by omega), getD_app (by omega), hx]
      rw [show l.length - 1 = i by omega]
  · rw [List.nodup_append]
    refine ⟨h.nodup, by simp, fun y hy z hz e => ?_⟩
    have : z = x := by simpa using hz
    subst this; subst e; exact hnot hy
theorem pigeon : ∀ (n : Nat) (l : List Int), l.Nodup → (∀ x ∈ l, 0 ≤ x ∧ x < (n : Int)) → l.length ≤ n
  | 0, l, _, h => by
    match l, h with
    | [], _ => exact Nat.le_refl _
    | x :: l, h => have := h x (by simp); omega
  | n + 1, l, hn, h => by
    by_cases hm : (n : Int) ∈ l
    · have h1 := pigeon n (l.erase (n : Int)) (hn.erase _) (fun x hx => by
        have hx2 := (hn.mem_erase_iff).1 hx
        have := h x hx2.2
        have hne := hx2.1
        omega)
      rw [List.length_erase_of_mem hm] at h1
      omega
    · have := pigeon n l hn (fun x hx => by
        have h1 := h x hx
        have h2 : x ≠ n := fun e => hm (e ▸ hx)
        omega)
      omega
theorem Ch.length_le {n : Int} {r q : List Int} {a : Int} {l : List Int} (h : Ch n r q a l) (hn : n ≤ 14) : l.length ≤ 14 := by
  have := pigeon n.toNat l h.nodup (fun x hx => by have := h.inn x hx; omega)
  omega
def chainGo (r q : List Int) (a : Int) : Nat → List Int → List Int
  | 0, l => l
  | f + 1, l => if mv r q (l.length - 1) (l.getD (l.length - 1) 0) = a ∨ mv r q (l.length - 1) (l.getD (l.length - 1) 0) = l.getD (l.length - 1) 0 then l else chainGo r q a f (l ++ [mv r q (l.length - 1) (l.getD (l.length - 1) 0)])
/-- The chain of a. -/
def chain (r q : List Int) (a : Int) : List Int := chainGo r q a 15 [a]
theorem chainGo_stop {r q : List Int} {a x : Int} {l : List Int} (hl : l.length ≤ 14) (hx : x = mv r q (l.length - 1) (l.getD (l.length - 1) 0)) (h : x = a ∨ x = l.getD (l.length - 1) 0) : chainGo r q a (16 - l.length) l = l := by
  rw [show 16 - l.length = (15 - l.length) + 1 by omega, chainGo, ← hx, if_pos h]
theorem chainGo_next {r q : List Int} {a x : Int} {l : List Int} (hl : l.length ≤ 14) (hx : x = mv r q (l.length - 1) (l.getD (l.length - 1) 0)) (h : ¬ (x = a ∨ x = l.getD (l.length - 1) 0)) : chainGo r q a (16 - l.length) l = chainGo r q a (16 - (l ++ [x]).length) (l ++ [x]) := by
  rw [show 16 - l.length = (15 - l.length) + 1 by omega, chainGo, ← hx, if_neg h]
  congr 1
  rw [List.length_append]; simp
theorem Ch.one {n : Int} {r q : List Int} {a : Int} (h0 : 0 ≤ a) (h1 : a < n) : Ch n r q a [a] := ⟨by simp, rfl, fun x hx => by
  have : x = a := by simpa using hx
  subst this; exact ⟨h0, h1⟩, fun i hi => by simp at hi, by simp⟩
theorem chainGo_ch {n : Int} {r q : List Int} {a : Int} (hr : IsRd n r) (hq : IsRd n q) : ∀ (f : Nat) (l : List Int), Ch n r q a l → Ch n r q a (chainGo r q a f l)
  | 0, l, h => h
  | f + 1, l, h => by
    unfold chainGo
    split
    · exact h
    · rename_i hc
      exact chainGo_ch hr hq f _ (h.snoc hr hq rfl (fun e => hc (.inl e)) (fun e => hc (.inr e)))
theorem chain_ch {n : Int} {r q : List Int} {a : Int} (hr : IsRd n r) (hq : IsRd n q) (h0 : 0 ≤ a) (h1 : a < n) : Ch n r q a (chain r q a) := chainGo_ch hr hq _ _ (Ch.one h0 h1)

set_option maxHeartbeats 2000000 in
set_option maxRecDepth 100000 in
theorem c_chainOf (n : Int) (r q : List Int) (a : Int) (hr : IsRd n r) (hq : IsRd n q) (h0 : 0 ≤ a) (h1 : a < n) (hrl : r.length = 14) (hql : q.length = 14) (w : World) :
    Calls Try.prog 60 [.agg (ints r).toArray, .agg (ints q).toArray, .int .i64 a].toArray w (Res w (NewI 2 (chain r q a))) := by
  have hn14 := hr.2.1
  refine calls_of_vw Try.func60 rfl Try.ntmps60 (by simp) ?_
  refine vw_seq (vw_region (by kernel_rfl) (vops_box (ints r) rfl (fun b3 hb3 => ?_)))
  refine vops_box (ints q) rfl (fun b4 hb4 => ?_)
  repeat (first | refine vops_q tyOk rfl ?_ | refine vops_nil ?_ | refine vw_seq ?_ | refine vw_region (by kernel_rfl) ?_ | refine vops_guardT rfl rfl ?_ | refine vops_guardF rfl rfl ?_ | refine vops_guardU rfl rfl ?_ | with_reducible refine bs_nbeq rfl ?_ | with_reducible refine bs_true ?_ | with_reducible refine bs_false ?_ | with_reducible refine bs_ntrue ?_ | with_reducible refine bs_nfalse ?_ | refine vops_p tyOk rfl (by (try simp only [inR]); omega) ?_ | refine vw_cond rfl ?_ | refine vw_skip ?_ | refine vw_block ?_ | refine vw_ret ?_ | refine vw_exit ?_ | refine vops_litI [_] tyOk rfl rfl (List.cons_ne_nil _ _) (by rfl) rfl (by omega) (by omega) (fun bt hbt => ?_) | refine vops_loadM tyOk rfl rfl rfl (by repeat (first | exact mem_here | apply mem_next | apply mem_past)) (by rfl) ?_ | refine vops_loadM tyOk rfl rfl rfl (by repeat (first | exact mem_here | apply mem_next | apply mem_past)) (by exact ints_get0 (by omega)) ?_ | refine vops_loadNM tyOk rfl rfl rfl (by repeat (first | exact mem_here | apply mem_next | apply mem_past)) (by first | rfl | (rw [ints_length]; first | assumption | omega | (rw [ints_length]; first | assumption | omega | simp [*])) | simp [*]) ?_ | refine vops_storeIM tyOk rfl rfl rfl rfl (by repeat (first | exact upd_here | apply upd_next | apply upd_past)) (by omega) ?_ | refine vops_storeM tyOk rfl rfl rfl rfl rfl (by repeat (first | exact upd_here | apply upd_next | apply upd_past)) (by simp) ?_ | refine vops_storeAM tyOk rfl rfl rfl (by first | rfl | (rw [ints_length]; first | assumption | omega | (rw [ints_length]; first | assumption | omega | simp [*])) | simp [*]) (by first | exact ints_one | simp [Value.oneCell']) (by repeat (first | exact upd_here | apply upd_next | apply upd_past)) (by first | rfl | (rw [ints_length]; first | assumption | omega | (rw [ints_length]; first | assumption | omega | simp [*])) | simp [*]) ?_ | refine vops_build2 rfl rfl (by kernel_rfl) ?_ | refine vops_buildZ tyOk rfl (by kernel_rfl) ?_ | refine vops_slice tyOk rfl rfl rfl rfl rfl (by omega) ?_)
  refine vw_loopW (fun m f own => ∃ (l R Q : List Int) (x : Int) (p : Option Addr) (cp : Nat) (new : Own), Ch n r q a l ∧ m = 15 - l.length ∧ chain r q a = chainGo r q a (16 - l.length) l ∧ R = cur r q (l.length - 1) ∧ Q = oth r q (l.length - 1) ∧ x = mv r q (l.length - 1) (l.getD (l.length - 1) 0) ∧
      f 8 = .int .i64 x ∧ f 2 = .int .i64 a ∧ f 3 = .pointer (some ⟨b3, 0, none⟩) ∧ f 4 = .pointer (some ⟨b4, 0, none⟩) ∧ f 7 = .slice p l.length cp ∧ NewI 2 l (.slice p l.length cp) new ∧
      own = new ++ [(b4, ⟨ints Q, 25, 14, none⟩), (b3, ⟨ints R, 25, 14, none⟩)]) 14
    ⟨_, ole_refl, [a], r, q, r.getD a.toNat 0, _, _, [_], Ch.one h0 h1, rfl, rfl, rfl, rfl, rfl, rfl, rfl, rfl, rfl, rfl, NewI.lit (l := [a]) rfl (Nat.le_refl _) (by simp [maxLen]), by rw [ints_length, ints_length, hrl, hql]; rfl⟩ ?_
  rintro m f own ⟨l, R, Q, x, p, cp, new, hCh, rfl, hgo, hR, hQ, hx, h8, h2, h3, h4, h7, hN, rfl⟩
  rw [upd_of h8, upd_of h2, upd_of h3, upd_of h4, upd_of h7]
  have hl14 := hCh.length_le hn14
  have hl0 := hCh.ne
  have hlast := hCh.last
  have hmv := mv_ok hr hq (l.length - 1) hlast.1 hlast.2
  rw [← hx] at hmv
  obtain ⟨bn, rfl, rfl, hc1, hc2, hl1⟩ := NewF.blk (NewI.f hN) hl0
  have hRl : R.length = 14 := by rw [hR]; exact cur_length hrl hql _
  have hQl : Q.length = 14 := by rw [hQ]; exact oth_length hrl hql _
  have hlen : ((l.length : Int) - 1).toNat = l.length - 1 := by omega
  have hcell : (ints l)[0 + ((l.length : Int) - 1).toNat]? = some (.int .i64 (l.getD (l.length - 1) 0)) := by
    rw [show 0 + ((l.length : Int) - 1).toNat = l.length - 1 by omega]; exact ints_get (by omega)
  repeat (first | refine vops_q tyOk rfl ?_ | refine vops_nil ?_ | refine vw_seq ?_ | refine vw_region (by kernel_rfl) ?_ | refine vops_guardT rfl rfl ?_ | refine vops_guardF rfl rfl ?_ | refine vops_guardU rfl rfl ?_ | with_reducible refine bs_nbeq rfl ?_ | with_reducible refine bs_true ?_ | with_reducible refine bs_false ?_ | with_reducible refine bs_ntrue ?_ | with_reducible refine bs_nfalse ?_ | refine vops_p tyOk rfl (by (try simp only [inR]); omega) ?_ | refine vw_cond rfl ?_ | refine vw_skip ?_ | refine vw_block ?_ | refine vw_ret ?_ | refine vw_exit ?_ | refine vops_loadM tyOk rfl rfl rfl (by repeat (first | exact mem_here | apply mem_next | apply mem_past)) (by rfl) ?_ | refine vops_loadM tyOk rfl rfl rfl (by repeat (first | exact mem_here | apply mem_next | apply mem_past)) (by exact ints_get0 (by omega)) ?_ | refine vops_loadNM tyOk rfl rfl rfl (by repeat (first | exact mem_here | apply mem_next | apply mem_past)) (by first | rfl | (rw [ints_length]; first | assumption | omega | (rw [ints_length]; first | assumption | omega | simp [*])) | simp [*]) ?_ | refine vops_storeIM tyOk rfl rfl rfl rfl (by repeat (first | exact upd_here | apply upd_next | apply upd_past)) (by omega) ?_ | refine vops_storeM tyOk rfl rfl rfl rfl rfl (by repeat (first | exact upd_here | apply upd_next | apply upd_past)) (by simp) ?_ | refine vops_storeAM tyOk rfl rfl rfl (by first | rfl | (rw [ints_length]; first | assumption | omega | (rw [ints_length]; first | assumption | omega | simp [*])) | simp [*]) (by first | exact ints_one | simp [Value.oneCell']) (by repeat (first | exact upd_here | apply upd_next | apply upd_past)) (by first | rfl | (rw [ints_length]; first | assumption | omega | (rw [ints_length]; first | assumption | omega | simp [*])) | simp [*]) ?_ | refine vops_build2 rfl rfl (by kernel_rfl) ?_ | refine vops_buildZ tyOk rfl (by kernel_rfl) ?_ | refine vops_slice tyOk rfl rfl rfl rfl rfl (by omega) ?_)
  refine bs_ndec2 (fun hxa => ?_) (fun hxa => ?_)
  · repeat (first | refine vops_q tyOk rfl ?_ | refine vops_nil ?_ | refine vw_seq ?_ | refine vw_region (by kernel_rfl) ?_ | refine vops_guardT rfl rfl ?_ | refine vops_guardF rfl rfl ?_ | refine vops_guardU rfl rfl ?_ | with_reducible refine bs_nbeq rfl ?_ | with_reducible refine bs_true ?_ | with_reducible refine bs_false ?_ | with_reducible refine bs_ntrue ?_ | with_reducible refine bs_nfalse ?_ | refine vops_p tyOk rfl (by (try simp only [inR]); omega) ?_ | refine vw_cond rfl ?_ | refine vw_skip ?_ | refine vw_block ?_ | refine vw_ret ?_ | refine vw_exit ?_ | refine vops_loadM tyOk rfl rfl rfl (by repeat (first | exact mem_here | apply mem_next | apply mem_past)) (by exact hcell) ?_ | refine vops_loadM tyOk rfl rfl rfl (by repeat (first | exact mem_here | apply mem_next | apply mem_past)) (by rfl) ?_ | refine vops_loadM tyOk rfl rfl rfl (by repeat (first | exact mem_here | apply mem_next | apply mem_past)) (by exact ints_get0 (by omega)) ?_ | refine vops_loadNM tyOk rfl rfl rfl (by repeat (first | exact mem_here | apply mem_next | apply mem_past)) (by first | rfl | (rw [ints_length]; first | assumption | omega | (rw [ints_length]; first | assumption | omega | simp [*])) | simp [*]) ?_ | refine vops_storeIM tyOk rfl rfl rfl rfl (by repeat (first | exact upd_here | apply upd_next | apply upd_past)) (by omega) ?_ | refine vops_storeM tyOk rfl rfl rfl rfl rfl (by repeat (first | exact upd_here | apply upd_next | apply upd_past)) (by simp) ?_ | refine vops_storeAM tyOk rfl rfl rfl (by first | rfl | (rw [ints_length]; first | assumption | omega | (rw [ints_length]; first | assumption | omega | simp [*])) | simp [*]) (by first | exact ints_one | simp [Value.oneCell']) (by repeat (first | exact upd_here | apply upd_next | apply upd_past)) (by first | rfl | (rw [ints_length]; first | assumption | omega | (rw [ints_length]; first | assumption | omega | simp [*])) | simp [*]) ?_ | refine vops_build2 rfl rfl (by kernel_rfl) ?_ | refine vops_buildZ tyOk rfl (by kernel_rfl) ?_ | refine vops_slice tyOk rfl rfl rfl rfl rfl (by omega) ?_)
    refine bs_ndec2 (fun hxl => ?_) (fun hxl => ?_)
    · repeat (first | refine vops_q tyOk rfl ?_ | refine vops_nil ?_ | refine vw_seq ?_ | refine vw_region (by kernel_rfl) ?_ | refine vops_guardT rfl rfl ?_ | refine vops_guardF rfl rfl ?_ | refine vops_guardU rfl rfl ?_ | with_reducible refine bs_nbeq rfl ?_ | with_reducible refine bs_true ?_ | with_reducible refine bs_false ?_ | with_reducible refine bs_ntrue ?_ | with_reducible refine bs_nfalse ?_ | refine vops_p tyOk rfl (by (try simp only [inR]); omega) ?_ | refine vw_cond rfl ?_ | refine vw_skip ?_ | refine vw_block ?_ | refine vw_ret ?_ | refine vw_exit ?_ | refine vops_litI [_] tyOk rfl rfl (List.cons_ne_nil _ _) (by rfl) rfl (by omega) (by omega) (fun bt hbt => ?_) | refine vops_append1 (k := 1) tyOk rfl rfl (List.cons_ne_nil _ _) rfl rfl (by decide) rfl hN (by repeat (first | exact pm_here | exact pm_last | apply pm_next | apply pm_past)) rfl (by repeat (first | exact mem_here | apply mem_next | apply mem_past)) rfl (by omega) (fun p' cap' new' hN' => ?_) | refine vops_loadM tyOk rfl rfl rfl (by repeat (first | exact mem_here | apply mem_next | apply mem_past)) (by rfl) ?_ | refine vops_loadM tyOk rfl rfl rfl (by repeat (first | exact mem_here | apply mem_next | apply mem_past)) (by exact ints_get0 (by omega)) ?_ | refine vops_loadNM tyOk rfl rfl rfl (by repeat (first | exact mem_here | apply mem_next | apply mem_past)) (by first | rfl | (rw [ints_length]; first | assumption | omega | (rw [ints_length]; first | assumption | omega | simp [*])) | simp [*]) ?_ | refine vops_storeIM tyOk rfl rfl rfl rfl (by repeat (first | exact upd_here | apply upd_next | apply upd_past)) (by omega) ?_ | refine vops_storeM tyOk rfl rfl rfl rfl rfl (by repeat (first | exact upd_here | apply upd_next | apply upd_past)) (by simp) ?_ | refine vops_storeAM tyOk rfl rfl rfl (by first | rfl | (rw [ints_length]; first | assumption | omega | (rw [ints_length]; first | assumption | omega | simp [*])) | simp [*]) (by first | exact ints_one | simp [Value.oneCell']) (by repeat (first | exact upd_here | apply upd_next | apply upd_past)) (by first | rfl | (rw [ints_length]; first | assumption | omega | (rw [ints_length]; first | assumption | omega | simp [*])) | simp [*]) ?_ | refine vops_build2 rfl rfl (by kernel_rfl) ?_ | refine vops_buildZ tyOk rfl (by kernel_rfl) ?_ | refine vops_slice tyOk rfl rfl rfl rfl rfl (by omega) ?_)
      have hst := chainGo_next hl14 hx (fun h => h.elim hxa hxl)
      have hll : (l ++ [x]).length = l.length + 1 := by simp
      refine ⟨15 - (l ++ [x]).length, by omega, new' ++ [(b4, ⟨ints R, 25, 14, none⟩), (b3, ⟨ints Q, 25, 14, none⟩)], (by repeat (first | exact ole_nil | exact ole_refl | (apply ole_cons; (repeat (first | exact pm1_here | apply pm1_next | apply pm1_past))) | (apply ole_app; (repeat (first | exact pm_here | exact pm_last | apply pm_next | apply pm_past))))), l ++ [x], Q, R, Q.getD x.toNat 0, p', cap', new', hCh.snoc hr hq hx hxa hxl, rfl, by rw [hgo, hst], ?_, ?_, ?_, rfl, rfl, rfl, rfl, ?_, ?_, rfl⟩
      · rw [hQ, hll, ← cur_next, show l.length - 1 + 1 = l.length + 1 - 1 by omega]
      · rw [hR, hll, ← oth_next, show l.length - 1 + 1 = l.length + 1 - 1 by omega]
      · rw [hll, getD_end (by omega)]
        unfold mv
        rw [show l.length + 1 - 1 = l.length - 1 + 1 by omega, cur_next, ← hQ]
      · rw [hll]; rfl
      · rw [hll]; exact NewI.snoc hN' rfl
    · repeat (first | refine vops_q tyOk rfl ?_ | refine vops_nil ?_ | refine vw_seq ?_ | refine vw_region (by kernel_rfl) ?_ | refine vops_guardT rfl rfl ?_ | refine vops_guardF rfl rfl ?_ | refine vops_guardU rfl rfl ?_ | with_reducible refine bs_nbeq rfl ?_ | with_reducible refine bs_true ?_ | with_reducible refine bs_false ?_ | with_reducible refine bs_ntrue ?_ | with_reducible refine bs_nfalse ?_ | refine vops_p tyOk rfl (by (try simp only [inR]); omega) ?_ | refine vw_cond rfl ?_ | refine vw_skip ?_ | refine vw_block ?_ | refine vw_ret ?_ | refine vw_exit ?_ | refine vops_loadM tyOk rfl rfl rfl (by repeat (first | exact mem_here | apply mem_next | apply mem_past)) (by rfl) ?_ | refine vops_loadM tyOk rfl rfl rfl (by repeat (first | exact mem_here | apply mem_next | apply mem_past)) (by exact ints_get0 (by omega)) ?_ | refine vops_loadNM tyOk rfl rfl rfl (by repeat (first | exact mem_here | apply mem_next | apply mem_past)) (by first | rfl | (rw [ints_length]; first | assumption | omega | (rw [ints_length]; first | assumption | omega | simp [*])) | simp [*]) ?_ | refine vops_storeIM tyOk rfl rfl rfl rfl (by repeat (first | exact upd_here | apply upd_next | apply upd_past)) (by omega) ?_ | refine vops_storeM tyOk rfl rfl rfl rfl rfl (by repeat (first | exact upd_here | apply upd_next | apply upd_past)) (by simp) ?_ | refine vops_storeAM tyOk rfl rfl rfl (by first | rfl | (rw [ints_length]; first | assumption | omega | (rw [ints_length]; first | assumption | omega | simp [*])) | simp [*]) (by first | exact ints_one | simp [Value.oneCell']) (by repeat (first | exact upd_here | apply upd_next | apply upd_past)) (by first | rfl | (rw [ints_length]; first | assumption | omega | (rw [ints_length]; first | assumption | omega | simp [*])) | simp [*]) ?_ | refine vops_build2 rfl rfl (by kernel_rfl) ?_ | refine vops_buildZ tyOk rfl (by kernel_rfl) ?_ | refine vops_slice tyOk rfl rfl rfl rfl rfl (by omega) ?_)
      refine out1 rfl rfl (SlAt.nodup hN) (by repeat (first | exact sub_hereL | exact sub_refl | apply sub_cons | apply sub_app)) ?_
      rw [hgo, chainGo_stop hl14 hx (.inr hxl)]; exact hN
  · repeat (first | refine vops_q tyOk rfl ?_ | refine vops_nil ?_ | refine vw_seq ?_ | refine vw_region (by kernel_rfl) ?_ | refine vops_guardT rfl rfl ?_ | refine vops_guardF rfl rfl ?_ | refine vops_guardU rfl rfl ?_ | with_reducible refine bs_nbeq rfl ?_ | with_reducible refine bs_true ?_ | with_reducible refine bs_false ?_ | with_reducible refine bs_ntrue ?_ | with_reducible refine bs_nfalse ?_ | refine vops_p tyOk rfl (by (try simp only [inR]); omega) ?_ | refine vw_cond rfl ?_ | refine vw_skip ?_ | refine vw_block ?_ | refine vw_ret ?_ | refine vw_exit ?_ | refine vops_loadM tyOk rfl rfl rfl (by repeat (first | exact mem_here | apply mem_next | apply mem_past)) (by rfl) ?_ | refine vops_loadM tyOk rfl rfl rfl (by repeat (first | exact mem_here | apply mem_next | apply mem_past)) (by exact ints_get0 (by omega)) ?_ | refine vops_loadNM tyOk rfl rfl rfl (by repeat (first | exact mem_here | apply mem_next | apply mem_past)) (by first | rfl | (rw [ints_length]; first | assumption | omega | (rw [ints_length]; first | assumption | omega | simp [*])) | simp [*]) ?_ | refine vops_storeIM tyOk rfl rfl rfl rfl (by repeat (first | exact upd_here | apply upd_next | apply upd_past)) (by omega) ?_ | refine vops_storeM tyOk rfl rfl rfl rfl rfl (by repeat (first | exact upd_here | apply upd_next | apply upd_past)) (by simp) ?_ | refine vops_storeAM tyOk rfl rfl rfl (by first | rfl | (rw [ints_length]; first | assumption | omega | (rw [ints_length]; first | assumption | omega | simp [*])) | simp [*]) (by first | exact ints_one | simp [Value.oneCell']) (by repeat (first | exact upd_here | apply upd_next | apply upd_past)) (by first | rfl | (rw [ints_length]; first | assumption | omega | (rw [ints_length]; first | assumption | omega | simp [*])) | simp [*]) ?_ | refine vops_build2 rfl rfl (by kernel_rfl) ?_ | refine vops_buildZ tyOk rfl (by kernel_rfl) ?_ | refine vops_slice tyOk rfl rfl rfl rfl rfl (by omega) ?_)
    refine out1 rfl rfl (SlAt.nodup hN) (by repeat (first | exact sub_hereL | exact sub_refl | apply sub_cons | apply sub_app)) ?_
    rw [hgo, chainGo_stop hl14 hx (.inl hxa)]; exact hN
end Go.Proofs.Ytbnanjkhpeneeaa

/- A part of the proof: P31. No conditions of its own. -/
namespace Go.Proofs.Ytbnanjkhpeneeaa
open Go.VL
attribute [local irreducible] VWr VOps VD Calls

open Classical in
noncomputable def roundsCode (n : Int) (rs : List (List Int)) : Int := if (2 ≤ n ∧ n ≤ 14) ∧ ∀ r ∈ rs, IsRd n r then 0 else 2
set_option maxHeartbeats 1000000 in
set_option maxRecDepth 100000 in
theorem c_l02Rounds (n : Int) (v : Value) (rs : List (List Int)) (w : World) (hv : RdS w v rs) (hr : ∀ r ∈ rs, r.length = 14) (hl : rs.length ≤ 1048576) :
    Calls Try.prog 55 [.int .i64 n, v].toArray w (Res w (Is (.int .i64 (roundsCode n rs)))) := by
  obtain ⟨a, cap, rfl⟩ := hv.len
  refine calls_of_vw Try.func55 rfl Try.ntmps55 (by simp) ?_
  repeat (first | refine vops_q tyOk rfl ?_ | refine vops_nil ?_ | refine vw_seq ?_ | refine vw_region (by kernel_rfl) ?_ | refine vops_guardT rfl rfl ?_ | refine vops_guardF rfl rfl ?_ | refine vops_guardU rfl rfl ?_ | with_reducible refine bs_nbeq rfl ?_ | with_reducible refine bs_true ?_ | with_reducible refine bs_false ?_ | with_reducible refine bs_ntrue ?_ | with_reducible refine bs_nfalse ?_ | refine vops_p tyOk rfl (by (try simp only [inR]); omega) ?_ | refine vw_cond rfl ?_ | refine vw_skip ?_ | refine vw_block ?_ | refine vw_ret ?_ | refine vw_exit ?_ | (apply vops_callp ent61 rfl; (intro w _; exact c_l01In _ _ _ w)) | refine vops_loadM tyOk rfl rfl rfl (by repeat (first | exact mem_here | apply mem_next | apply mem_past)) (by rfl) ?_ | refine vops_loadM tyOk rfl rfl rfl (by repeat (first | exact mem_here | apply mem_next | apply mem_past)) (by exact ints_get0 (by omega)) ?_ | refine vops_loadNM tyOk rfl rfl rfl (by repeat (first | exact mem_here | apply mem_next | apply mem_past)) (by first | rfl | (rw [ints_length]; first | assumption | omega | (rw [ints_length]; first | assumption | omega | simp [*])) | simp [*]) ?_ | refine vops_storeIM tyOk rfl rfl rfl rfl (by repeat (first | exact upd_here | apply upd_next | apply upd_past)) (by omega) ?_ | refine vops_storeM tyOk rfl rfl rfl rfl rfl (by repeat (first | exact upd_here | apply upd_next | apply upd_past)) (by simp) ?_ | refine vops_storeAM tyOk rfl rfl rfl (by first | rfl | (rw [ints_length]; first | assumption | omega | (rw [ints_length]; first | assumption | omega | simp [*])) | simp [*]) (by first | exact ints_one | simp [Value.oneCell']) (by repeat (first | exact upd_here | apply upd_next | apply upd_past)) (by first | rfl | (rw [ints_length]; first | assumption | omega | (rw [ints_length]; first | assumption | omega | simp [*])) | simp [*]) ?_ | refine vops_build2 rfl rfl (by kernel_rfl) ?_ | refine vops_buildZ tyOk rfl (by kernel_rfl) ?_ | refine vops_slice tyOk rfl rfl rfl rfl rfl (by omega) ?_)
  refine bs_ndec2 (fun h => ?_) (fun h => ?_)
  · repeat (first | refine vops_q tyOk rfl ?_ | refine vops_nil ?_ | refine vw_seq ?_ | refine vw_region (by kernel_rfl) ?_ | refine vops_guardT rfl rfl ?_ | refine vops_guardF rfl rfl ?_ | refine vops_guardU rfl rfl ?_ | with_reducible refine bs_nbeq rfl ?_ | with_reducible refine bs_true ?_ | with_reducible refine bs_false ?_ | with_reducible refine bs_ntrue ?_ | with_reducible refine bs_nfalse ?_ | refine vops_p tyOk rfl (by (try simp only [inR]); omega) ?_ | refine vw_cond rfl ?_ | refine vw_skip ?_ | refine vw_block ?_ | refine vw_ret ?_ | refine vw_exit ?_ | refine vops_loadM tyOk rfl rfl rfl (by repeat (first | exact mem_here | apply mem_next | apply mem_past)) (by rfl) ?_ | refine vops_loadM tyOk rfl rfl rfl (by repeat (first | exact mem_here | apply mem_next | apply mem_past)) (by exact ints_get0 (by omega)) ?_ | refine vops_loadNM tyOk rfl rfl rfl (by repeat (first | exact mem_here | apply mem_next | apply mem_past)) (by first | rfl | (rw [ints_length]; first | assumption | omega | (rw [ints_length]; first | assumption | omega | simp [*])) | simp [*]) ?_ | refine vops_storeIM tyOk rfl rfl rfl rfl (by repeat (first | exact upd_here | apply upd_next | apply upd_past)) (by omega) ?_ | refine vops_storeM tyOk rfl rfl rfl rfl rfl (by repeat (first | exact upd_here | apply upd_next | apply upd_past)) (by simp) ?_ | refine vops_storeAM tyOk rfl rfl rfl (by first | rfl | (rw [ints_length]; first | assumption | omega | (rw [ints_length]; first | assumption | omega | simp [*])) | simp [*]) (by first | exact ints_one | simp [Value.oneCell']) (by repeat (first | exact upd_here | apply upd_next | apply upd_past)) (by first | rfl | (rw [ints_length]; first | assumption | omega | (rw [ints_length]; first | assumption | omega | simp [*])) | simp [*]) ?_ | refine vops_build2 rfl rfl (by kernel_rfl) ?_ | refine vops_buildZ tyOk rfl (by kernel_rfl) ?_ | refine vops_slice tyOk rfl rfl rfl rfl rfl (by omega) ?_)
    exact rv_int rfl rfl (by rw [roundsCode, if_neg fun hh => h hh.1])
  repeat (first | refine vops_q tyOk rfl ?_ | refine vops_nil ?_ | refine vw_seq ?_ | refine vw_region (by kernel_rfl) ?_ | refine vops_guardT rfl rfl ?_ | refine vops_guardF rfl rfl ?_ | refine vops_guardU rfl rfl ?_ | with_reducible refine bs_nbeq rfl ?_ | with_reducible refine bs_true ?_ | with_reducible refine bs_false ?_ | with_reducible refine bs_ntrue ?_ | with_reducible refine bs_nfalse ?_ | refine vops_p tyOk rfl (by (try simp only [inR]); omega) ?_ | refine vw_cond rfl ?_ | refine vw_skip ?_ | refine vw_block ?_ | refine vw_ret ?_ | refine vw_exit ?_ | refine vops_loadM tyOk rfl rfl rfl (by repeat (first | exact mem_here | apply mem_next | apply mem_past)) (by rfl) ?_ | refine vops_loadM tyOk rfl rfl rfl (by repeat (first | exact mem_here | apply mem_next | apply mem_past)) (by exact ints_get0 (by omega)) ?_ | refine vops_loadNM tyOk rfl rfl rfl (by repeat (first | exact mem_here | apply mem_next | apply mem_past)) (by first | rfl | (rw [ints_length]; first | assumption | omega | (rw [ints_length]; first | assumption | omega | simp [*])) | simp [*]) ?_ | refine vops_storeIM tyOk rfl rfl rfl rfl (by repeat (first | exact upd_here | apply upd_next | apply upd_past)) (by omega) ?_ | refine vops_storeM tyOk rfl rfl rfl rfl rfl (by repeat (first | exact upd_here | apply upd_next | apply upd_past)) (by simp) ?_ | refine vops_storeAM tyOk rfl rfl rfl (by first | rfl | (rw [ints_length]; first | assumption | omega | (rw [ints_length]; first | assumption | omega | simp [*])) | simp [*]) (by first | exact ints_one | simp [Value.oneCell']) (by repeat (first | exact upd_here | apply upd_next | apply upd_past)) (by first | rfl | (rw [ints_length]; first | assumption | omega | (rw [ints_length]; first | assumption | omega | simp [*])) | simp [*]) ?_ | refine vops_build2 rfl rfl (by kernel_rfl) ?_ | refine vops_buildZ tyOk rfl (by kernel_rfl) ?_ | refine vops_slice tyOk rfl rfl rfl rfl rfl (by omega) ?_)
  refine vw_loop (fun m f own => ∃ i : Nat, i ≤ rs.length ∧ m = rs.length - i ∧ f 5 = .int .i64 i ∧ f 0 = .int .i64 n ∧ f 1 = .slice a rs.length cap ∧ own = [] ∧ ∀ (j : Nat) (r : List Int), j < i → rs[j]? = some r → IsRd n r) rs.length
    ⟨0, by omega, by omega, rfl, rfl, rfl, rfl, fun j r hj => by omega⟩ ?_
  rintro m f own ⟨i, hi, rfl, h5, h0, h1, rfl, hall⟩
  rw [upd_of h5, upd_of h0, upd_of h1]
  repeat (first | refine vops_q tyOk rfl ?_ | refine vops_nil ?_ | refine vw_seq ?_ | refine vw_region (by kernel_rfl) ?_ | refine vops_guardT rfl rfl ?_ | refine vops_guardF rfl rfl ?_ | refine vops_guardU rfl rfl ?_ | with_reducible refine bs_nbeq rfl ?_ | with_reducible refine bs_true ?_ | with_reducible refine bs_false ?_ | with_reducible refine bs_ntrue ?_ | with_reducible refine bs_nfalse ?_ | refine vops_p tyOk rfl (by (try simp only [inR]); omega) ?_ | refine vw_cond rfl ?_ | refine vw_skip ?_ | refine vw_block ?_ | refine vw_ret ?_ | refine vw_exit ?_ | refine vops_loadM tyOk rfl rfl rfl (by repeat (first | exact mem_here | apply mem_next | apply mem_past)) (by rfl) ?_ | refine vops_loadM tyOk rfl rfl rfl (by repeat (first | exact mem_here | apply mem_next | apply mem_past)) (by exact ints_get0 (by omega)) ?_ | refine vops_loadNM tyOk rfl rfl rfl (by repeat (first | exact mem_here | apply mem_next | apply mem_past)) (by first | rfl | (rw [ints_length]; first | assumption | omega | (rw [ints_length]; first | assumption | omega | simp [*])) | simp [*]) ?_ | refine vops_storeIM tyOk rfl rfl rfl rfl (by repeat (first | exact upd_here | apply upd_next | apply upd_past)) (by omega) ?_ | refine vops_storeM tyOk rfl rfl rfl rfl rfl (by repeat (first | exact upd_here | apply upd_next | apply upd_past)) (by simp) ?_ | refine vops_storeAM tyOk rfl rfl rfl (by first | rfl | (rw [ints_length]; first | assumption | omega | (rw [ints_length]; first | assumption | omega | simp [*])) | simp [*]) (by first | exact ints_one | simp [Value.oneCell']) (by repeat (first | exact upd_here | apply upd_next | apply upd_past)) (by first | rfl | (rw [ints_length]; first | assumption | omega | (rw [ints_length]; first | assumption | omega | simp [*])) | simp [*]) ?_ | refine vops_build2 rfl rfl (by kernel_rfl) ?_ | refine vops_buildZ tyOk rfl (by kernel_rfl) ?_ | refine vops_slice tyOk rfl rfl rfl rfl rfl (by omega) ?_)
  refine bs_dec (fun h4 => ?_) (fun h4 => ?_)
  · obtain ⟨r, hri⟩ : ∃ r, rs[i]? = some r := ⟨_, List.getElem?_eq_getElem (by omega)⟩
    have hrl := hr r (List.mem_of_getElem? hri)
    obtain ⟨b2, o, cap', he, hrow⟩ := hv.row hr hri
    cases he
    repeat (first | refine vops_q tyOk rfl ?_ | refine vops_nil ?_ | refine vw_seq ?_ | refine vw_region (by kernel_rfl) ?_ | refine vops_guardT rfl rfl ?_ | refine vops_guardF rfl rfl ?_ | refine vops_guardU rfl rfl ?_ | with_reducible refine bs_nbeq rfl ?_ | with_reducible refine bs_true ?_ | with_reducible refine bs_false ?_ | with_reducible refine bs_ntrue ?_ | with_reducible refine bs_nfalse ?_ | refine vops_p tyOk rfl (by (try simp only [inR]); omega) ?_ | refine vw_cond rfl ?_ | refine vw_skip ?_ | refine vw_block ?_ | refine vw_ret ?_ | refine vw_exit ?_ | refine vops_loadN tyOk (ints r) rfl rfl rfl (by rw [ints_length, hrl]) (fun j x hx => sees_old (hrow j x hx) (by simp)) ?_ | (apply vops_callp ent91 rfl; (intro w _; exact c_l01Round _ _ hrl w)) | refine vops_loadM tyOk rfl rfl rfl (by repeat (first | exact mem_here | apply mem_next | apply mem_past)) (by rfl) ?_ | refine vops_loadM tyOk rfl rfl rfl (by repeat (first | exact mem_here | apply mem_next | apply mem_past)) (by exact ints_get0 (by omega)) ?_ | refine vops_loadNM tyOk rfl rfl rfl (by repeat (first | exact mem_here | apply mem_next | apply mem_past)) (by first | rfl | (rw [ints_length]; first | assumption | omega | (rw [ints_length]; first | assumption | omega | simp [*])) | simp [*]) ?_ | refine vops_storeIM tyOk rfl rfl rfl rfl (by repeat (first | exact upd_here | apply upd_next | apply upd_past)) (by omega) ?_ | refine vops_storeM tyOk rfl rfl rfl rfl rfl (by repeat (first | exact upd_here | apply upd_next | apply upd_past)) (by simp) ?_ | refine vops_storeAM tyOk rfl rfl rfl (by first | rfl | (rw [ints_length]; first | assumption | omega | (rw [ints_length]; first | assumption | omega | simp [*])) | simp [*]) (by first | exact ints_one | simp [Value.oneCell']) (by repeat (first | exact upd_here | apply upd_next | apply upd_past)) (by first | rfl | (rw [ints_length]; first | assumption | omega | (rw [ints_length]; first | assumption | omega | simp [*])) | simp [*]) ?_ | refine vops_build2 rfl rfl (by kernel_rfl) ?_ | refine vops_buildZ tyOk rfl (by kernel_rfl) ?_ | refine vops_slice tyOk rfl rfl rfl rfl rfl (by omega) ?_)
    refine bs_ndec2 (fun h6 => ?_) (fun h6 => ?_)
    · repeat (first | refine vops_q tyOk rfl ?_ | refine vops_nil ?_ | refine vw_seq ?_ | refine vw_region (by kernel_rfl) ?_ | refine vops_guardT rfl rfl ?_ | refine vops_guardF rfl rfl ?_ | refine vops_guardU rfl rfl ?_ | with_reducible refine bs_nbeq rfl ?_ | with_reducible refine bs_true ?_ | with_reducible refine bs_false ?_ | with_reducible refine bs_ntrue ?_ | with_reducible refine bs_nfalse ?_ | refine vops_p tyOk rfl (by (try simp only [inR]); omega) ?_ | refine vw_cond rfl ?_ | refine vw_skip ?_ | refine vw_block ?_ | refine vw_ret ?_ | refine vw_exit ?_ | refine vops_loadM tyOk rfl rfl rfl (by repeat (first | exact mem_here | apply mem_next | apply mem_past)) (by rfl) ?_ | refine vops_loadM tyOk rfl rfl rfl (by repeat (first | exact mem_here | apply mem_next | apply mem_past)) (by exact ints_get0 (by omega)) ?_ | refine vops_loadNM tyOk rfl rfl rfl (by repeat (first | exact mem_here | apply mem_next | apply mem_past)) (by first | rfl | (rw [ints_length]; first | assumption | omega | (rw [ints_length]; first | assumption | omega | simp [*])) | simp [*]) ?_ | refine vops_storeIM tyOk rfl rfl rfl rfl (by repeat (first | exact upd_here | apply upd_next | apply upd_past)) (by omega) ?_ | refine vops_storeM tyOk rfl rfl rfl rfl rfl (by repeat (first | exact upd_here | apply upd_next | apply upd_past)) (by simp) ?_ | refine vops_storeAM tyOk rfl rfl rfl (by first | rfl | (rw [ints_length]; first | assumption | omega | (rw [ints_length]; first | assumption | omega | simp [*])) | simp [*]) (by first | exact ints_one | simp [Value.oneCell']) (by repeat (first | exact upd_here | apply upd_next | apply upd_past)) (by first | rfl | (rw [ints_length]; first | assumption | omega | (rw [ints_length]; first | assumption | omega | simp [*])) | simp [*]) ?_ | refine vops_build2 rfl rfl (by kernel_rfl) ?_ | refine vops_buildZ tyOk rfl (by kernel_rfl) ?_ | refine vops_slice tyOk rfl rfl rfl rfl rfl (by omega) ?_)
      exact rv_int rfl rfl (by rw [roundsCode, if_neg fun hh => h6 (hh.2 r (List.mem_of_getElem? hri))])
    repeat (first | refine vops_q tyOk rfl ?_ | refine vops_nil ?_ | refine vw_seq ?_ | refine vw_region (by kernel_rfl) ?_ | refine vops_guardT rfl rfl ?_ | refine vops_guardF rfl rfl ?_ | refine vops_guardU rfl rfl ?_ | with_reducible refine bs_nbeq rfl ?_ | with_reducible refine bs_true ?_ | with_reducible refine bs_false ?_ | with_reducible refine bs_ntrue ?_ | with_reducible refine bs_nfalse ?_ | refine vops_p tyOk rfl (by (try simp only [inR]); omega) ?_ | refine vw_cond rfl ?_ | refine vw_skip ?_ | refine vw_block ?_ | refine vw_ret ?_ | refine vw_exit ?_ | refine vops_loadM tyOk rfl rfl rfl (by repeat (first | exact mem_here | apply mem_next | apply mem_past)) (by rfl) ?_ | refine vops_loadM tyOk rfl rfl rfl (by repeat (first | exact mem_here | apply mem_next | apply mem_past)) (by exact ints_get0 (by omega)) ?_ | refine vops_loadNM tyOk rfl rfl rfl (by repeat (first | exact mem_here | apply mem_next | apply mem_past)) (by first | rfl | (rw [ints_length]; first | assumption | omega | (rw [ints_length]; first | assumption | omega | simp [*])) | simp [*]) ?_ | refine vops_storeIM tyOk rfl rfl rfl rfl (by repeat (first | exact upd_here | apply upd_next | apply upd_past)) (by omega) ?_ | refine vops_storeM tyOk rfl rfl rfl rfl rfl (by repeat (first | exact upd_here | apply upd_next | apply upd_past)) (by simp) ?_ | refine vops_storeAM tyOk rfl rfl rfl (by first | rfl | (rw [ints_length]; first | assumption | omega | (rw [ints_length]; first | assumption | omega | simp [*])) | simp [*]) (by first | exact ints_one | simp [Value.oneCell']) (by repeat (first | exact upd_here | apply upd_next | apply upd_past)) (by first | rfl | (rw [ints_length]; first | assumption | omega | (rw [ints_length]; first | assumption | omega | simp [*])) | simp [*]) ?_ | refine vops_build2 rfl rfl (by kernel_rfl) ?_ | refine vops_buildZ tyOk rfl (by kernel_rfl) ?_ | refine vops_slice tyOk rfl rfl rfl rfl rfl (by omega) ?_)
    refine ⟨rs.length - (i + 1), by omega, i + 1, by omega, rfl, rfl, rfl, rfl, rfl, fun j r' hj hr' => ?_⟩
    by_cases hji : j = i
    · subst hji; obtain rfl : r = r' := Option.some.inj (hri.symm.trans hr'); exact h6
    · exact hall j r' (by omega) hr'
  · repeat (first | refine vops_q tyOk rfl ?_ | refine vops_nil ?_ | refine vw_seq ?_ | refine vw_region (by kernel_rfl) ?_ | refine vops_guardT rfl rfl ?_ | refine vops_guardF rfl rfl ?_ | refine vops_guardU rfl rfl ?_ | with_reducible refine bs_nbeq rfl ?_ | with_reducible refine bs_true ?_ | with_reducible refine bs_false ?_ | with_reducible refine bs_ntrue ?_ | with_reducible refine bs_nfalse ?_ | refine vops_p tyOk rfl (by (try simp only [inR]); omega) ?_ | refine vw_cond rfl ?_ | refine vw_skip ?_ | refine vw_block ?_ | refine vw_ret ?_ | refine vw_exit ?_ | refine vops_loadM tyOk rfl rfl rfl (by repeat (first | exact mem_here | apply mem_next | apply mem_past)) (by rfl) ?_ | refine vops_loadM tyOk rfl rfl rfl (by repeat (first | exact mem_here | apply mem_next | apply mem_past)) (by exact ints_get0 (by omega)) ?_ | refine vops_loadNM tyOk rfl rfl rfl (by repeat (first | exact mem_here | apply mem_next | apply mem_past)) (by first | rfl | (rw [ints_length]; first | assumption | omega | (rw [ints_length]; first | assumption | omega | simp [*])) | simp [*]) ?_ | refine vops_storeIM tyOk rfl rfl rfl rfl (by repeat (first | exact upd_here | apply upd_next | apply upd_past)) (by omega) ?_ | refine vops_storeM tyOk rfl rfl rfl rfl rfl (by repeat (first | exact upd_here | apply upd_next | apply upd_past)) (by simp) ?_ | refine vops_storeAM tyOk rfl rfl rfl (by first | rfl | (rw [ints_length]; first | assumption | omega | (rw [ints_length]; first | assumption | omega | simp [*])) | simp [*]) (by first | exact ints_one | simp [Value.oneCell']) (by repeat (first | exact upd_here | apply upd_next | apply upd_past)) (by first | rfl | (rw [ints_length]; first | assumption | omega | (rw [ints_length]; first | assumption | omega | simp [*])) | simp [*]) ?_ | refine vops_build2 rfl rfl (by kernel_rfl) ?_ | refine vops_buildZ tyOk rfl (by kernel_rfl) ?_ | refine vops_slice tyOk rfl rfl rfl rfl rfl (by omega) ?_)
    have hA : ∀ r ∈ rs, IsRd n r := fun r hr => by
      obtain ⟨j, hj⟩ := List.mem_iff_getElem?.1 hr
      exact hall j r (by have := (List.getElem?_eq_some_iff.1 hj).1; omega) hj
    exact rv_int rfl rfl (by rw [roundsCode, if_pos ⟨h, hA⟩])

open Classical in
noncomputable def chainFrom (n : Int) (r q : List Int) (a : Int) : List Int × Int := if IsRd n r ∧ IsRd n q ∧ 0 ≤ a ∧ a < n then (chain r q a, 0) else ([], 2)
theorem chainFrom_len (n : Int) (r q : List Int) (a : Int) : (chainFrom n r q a).1.length ≤ 1048576 := by
  unfold chainFrom
  split
  · rename_i h
    have := (chain_ch h.1 h.2.1 h.2.2.1 h.2.2.2).length_le h.1.2.1
    show (chain r q a).length ≤ _
    omega
  · simp

open Classical in
set_option maxHeartbeats 1000000 in
set_option maxRecDepth 100000 in
theorem c_impl_ChainFrom (n : Int) (r q : List Int) (a : Int) (hrl : r.length = 14) (hql : q.length = 14) (w : World) :
    Calls Try.prog 19 [.int .i64 n, .agg (ints r).toArray, .agg (ints q).toArray, .int .i64 a].toArray w (Res w (PairI 2 (chainFrom n r q a))) := by
  refine calls_of_vw Try.func19 rfl Try.ntmps19 (by simp) ?_
  refine vw_seq (vw_region (by kernel_rfl) (vops_box (ints r) rfl (fun b5 hb5 => ?_)))
  refine vops_box (ints q) rfl (fun b6 hb6 => ?_)
  by_cases h : IsRd n r ∧ IsRd n q ∧ 0 ≤ a ∧ a < n
  · have hT1 : ∀ w', Calls Try.prog 53 [.int .i64 n, .agg (ints r).toArray].toArray w' (Res w' (Is (.bool true))) := fun w' => by
      have := c_IsRound n r hrl w'; rwa [decide_eq_true h.1] at this
    have hT2 : ∀ w', Calls Try.prog 53 [.int .i64 n, .agg (ints q).toArray].toArray w' (Res w' (Is (.bool true))) := fun w' => by
      have := c_IsRound n q hql w'; rwa [decide_eq_true h.2.1] at this
    have hT3 : ∀ w', Calls Try.prog 59 [.int .i64 a, .int .i64 n].toArray w' (Res w' (Is (.bool true))) := fun w' => by
      have := c_isBelow a n w'; rwa [decide_eq_true h.2.2] at this
    repeat (first | refine vops_q tyOk rfl ?_ | refine vops_nil ?_ | refine vw_seq ?_ | refine vw_region (by kernel_rfl) ?_ | refine vops_guardT rfl rfl ?_ | refine vops_guardF rfl rfl ?_ | refine vops_guardU rfl rfl ?_ | with_reducible refine bs_nbeq rfl ?_ | with_reducible refine bs_true ?_ | with_reducible refine bs_false ?_ | with_reducible refine bs_ntrue ?_ | with_reducible refine bs_nfalse ?_ | refine vops_p tyOk rfl (by (try simp only [inR]); omega) ?_ | refine vw_cond rfl ?_ | refine vw_skip ?_ | refine vw_block ?_ | refine vw_ret ?_ | refine vw_exit ?_ | refine vops_loadNM tyOk rfl rfl rfl (by repeat (first | exact mem_here | apply mem_next | apply mem_past)) (by rw [ints_length]; first | exact hrl | exact hql) ?_ | (apply vops_callp ent53 rfl; (intro w' hg; exact hT1 w')) | (apply vops_callp ent53 rfl; (intro w' hg; exact hT2 w')) | (apply vops_callp ent59 rfl; (intro w' hg; exact hT3 w')) | (apply vops_call ent60 rfl; (intro w' hg; exact c_chainOf n r q a h.1 h.2.1 h.2.2.1 h.2.2.2 hrl hql w'); (intro _ newN hN; obtain ⟨pN, cN, rfl⟩ := SlAt.form hN)) | refine vops_loadM tyOk rfl rfl rfl (by repeat (first | exact mem_here | apply mem_next | apply mem_past)) (by rfl) ?_ | refine vops_loadM tyOk rfl rfl rfl (by repeat (first | exact mem_here | apply mem_next | apply mem_past)) (by exact ints_get0 (by omega)) ?_ | refine vops_loadNM tyOk rfl rfl rfl (by repeat (first | exact mem_here | apply mem_next | apply mem_past)) (by first | rfl | (rw [ints_length]; first | assumption | omega | (rw [ints_length]; first | assumption | omega | simp [*])) | simp [*]) ?_ | refine vops_storeIM tyOk rfl rfl rfl rfl (by repeat (first | exact upd_here | apply upd_next | apply upd_past)) (by omega) ?_ | refine vops_storeM tyOk rfl rfl rfl rfl rfl (by repeat (first | exact upd_here | apply upd_next | apply upd_past)) (by simp) ?_ | refine vops_storeAM tyOk rfl rfl rfl (by first | rfl | (rw [ints_length]; first | assumption | omega | (rw [ints_length]; first | assumption | omega | simp [*])) | simp [*]) (by first | exact ints_one | simp [Value.oneCell']) (by repeat (first | exact upd_here | apply upd_next | apply upd_past)) (by first | rfl | (rw [ints_length]; first | assumption | omega | (rw [ints_length]; first | assumption | omega | simp [*])) | simp [*]) ?_ | refine vops_build2 rfl rfl (by kernel_rfl) ?_ | refine vops_buildZ tyOk rfl (by kernel_rfl) ?_ | refine vops_slice tyOk rfl rfl rfl rfl rfl (by omega) ?_)
    exact pairI_ok rfl rfl rfl hN (by repeat (first | exact sub_hereL | exact sub_refl | apply sub_cons | apply sub_app)) (by rw [chainFrom, if_pos h])
  · have he : chainFrom n r q a = ([], 2) := by rw [chainFrom, if_neg h]
    repeat' (first | refine vops_q tyOk rfl ?_ | refine vops_nil ?_ | refine vw_seq ?_ | refine vw_region (by kernel_rfl) ?_ | refine vops_guardT rfl rfl ?_ | refine vops_guardF rfl rfl ?_ | refine vops_guardU rfl rfl ?_ | with_reducible refine bs_nbeq rfl ?_ | with_reducible refine bs_true ?_ | with_reducible refine bs_false ?_ | with_reducible refine bs_ntrue ?_ | with_reducible refine bs_nfalse ?_ | refine vops_p tyOk rfl (by (try simp only [inR]); omega) ?_ | refine vw_cond rfl ?_ | refine vw_skip ?_ | refine vw_block ?_ | refine vw_ret ?_ | refine vw_exit ?_ | (with_reducible refine bs_dec (fun _ => ?_) (fun _ => ?_)) <;> try (exfalso; omega) | (with_reducible refine bs_ndec (fun _ => ?_) (fun _ => ?_)) <;> try (exfalso; omega) | with_reducible refine bs_nany (fun _ => ?_) (fun _ => ?_) | with_reducible refine bs_any (fun _ => ?_) (fun _ => ?_) | refine vops_loadNM tyOk rfl rfl rfl (by repeat (first | exact mem_here | apply mem_next | apply mem_past)) (by rw [ints_length]; first | exact hrl | exact hql) ?_ | (apply vops_callp ent53 rfl; (intro w _; exact c_IsRound _ _ hrl w)) | (apply vops_callp ent53 rfl; (intro w _; exact c_IsRound _ _ hql w)) | (apply vops_callp ent59 rfl; (intro w _; exact c_isBelow _ _ w)) | refine vops_loadM tyOk rfl rfl rfl (by repeat (first | exact mem_here | apply mem_next | apply mem_past)) (by rfl) ?_ | refine vops_loadM tyOk rfl rfl rfl (by repeat (first | exact mem_here | apply mem_next | apply mem_past)) (by exact ints_get0 (by omega)) ?_ | refine vops_loadNM tyOk rfl rfl rfl (by repeat (first | exact mem_here | apply mem_next | apply mem_past)) (by first | rfl | (rw [ints_length]; first | assumption | omega | (rw [ints_length]; first | assumption | omega | simp [*])) | simp [*]) ?_ | refine vops_storeIM tyOk rfl rfl rfl rfl (by repeat (first | exact upd_here | apply upd_next | apply upd_past)) (by omega) ?_ | refine vops_storeM tyOk rfl rfl rfl rfl rfl (by repeat (first | exact upd_here | apply upd_next | apply upd_past)) (by simp) ?_ | refine vops_storeAM tyOk rfl rfl rfl (by first | rfl | (rw [ints_length]; first | assumption | omega | (rw [ints_length]; first | assumption | omega | simp [*])) | simp [*]) (by first | exact ints_one | simp [Value.oneCell']) (by repeat (first | exact upd_here | apply upd_next | apply upd_past)) (by first | rfl | (rw [ints_length]; first | assumption | omega | (rw [ints_length]; first | assumption | omega | simp [*])) | simp [*]) ?_ | refine vops_build2 rfl rfl (by kernel_rfl) ?_ | refine vops_buildZ tyOk rfl (by kernel_rfl) ?_ | refine vops_slice tyOk rfl rfl rfl rfl rfl (by omega) ?_)
    all_goals first
      | exact pairI_err rfl rfl rfl he
      | (exfalso; apply h; refine ⟨by assumption, by assumption, ?_⟩; assumption)

theorem vops_litR2 {P : Program} {T : Nat → Option TI} {Γ : Ctx} {ops : Array Oper} {Q : (Nat → Value) → Own → Prop} {rest : List Oper} {f : Nat → Value} {own : Own} {ty : TypeId} {pos : String} {aft : Array Edge} (hT : Go.VL.TyOk P T) {d t e a b : Nat} {z : List Value} {ei : TI} {x y : Operand} {r q : List Int}
    (ht : T t = some ⟨.slice e, a, b, z⟩) (he : T e = some ei) (hz : ei.zero ≠ []) (hx : ev f x = .agg (ints r).toArray) (hy : ev f y = .agg (ints q).toArray) (hr : r.length = 14) (hq : q.length = 14) (hk : ei.size = 14)
    (kk : ∀ b, b ∉ ids own → VOps P Γ ops Q rest (upd f d (.slice (some ⟨b, 0, none⟩) 2 2)) ((b, ⟨ints (r ++ q), e, 28, none⟩) :: own)) :
    VOps P Γ ops Q (⟨some d, .buildSlice t 2 #[(0, x), (1, y)], ty, pos, aft, none⟩ :: rest) f own := by
  have := vops_buildS (P := P) (Γ := Γ) (ops := ops) (Q := Q) (rest := rest) (f := f) (own := own) (ty := ty) (pos := pos) (aft := aft) (ps := [(0, x), (1, y)]) (n := 2) (d := d) [.agg (ints r).toArray, .agg (ints q).toArray] (ints (r ++ q)) hT ht he hz (by rw [← hx, ← hy]; rfl) rfl (by omega) (by omega) (by omega) (fun v hv => by
    rcases List.mem_cons.1 hv with rfl | hv
    · simp [Value.cells, ints_length, hr, hk]
    · have : v = .agg (ints q).toArray := by simpa using hv
      subst this; simp [Value.cells, ints_length, hq, hk]) (by simp [Value.cells, ints])
  rw [hk] at this
  exact this kk
theorem rds_two {Γ : Ctx} {own : Own} {w : World} {b e n cap : Nat} {r q : List Int} (hm : (b, (⟨ints (r ++ q), e, n, none⟩ : Blk)) ∈ own) (hg : Go.VL.Good Γ own w) : RdS w (.slice (some ⟨b, 0, none⟩) 2 cap) [r, q] :=
  .inr ⟨b, 0, cap, rfl, fun j x hx => by rw [Nat.zero_add]; exact cell_of_blk hg.ok hm (by simpa using hx)⟩
theorem two_cell {r q : List Int} (hr : r.length = 14) (hq : q.length = 14) {t z : Nat} {x : Int} {u : Int} (hu : u = (cur r q t).getD x.toNat 0) (h0 : 0 ≤ x) (h1 : x < 14) (hz : z = (t % 2) * 14 + x.toNat) : (ints (r ++ q))[z]? = some (.int .i64 u) := by
  subst hz; subst hu
  rw [ints_get (by rw [List.length_append]; omega)]
  unfold cur
  by_cases h : t % 2 = 0
  · rw [if_pos h, h, Nat.zero_mul, Nat.zero_add]
    rw [List.getD_eq_getElem?_getD, List.getElem?_append_left (by omega), ← List.getD_eq_getElem?_getD]
  · rw [if_neg h, show t % 2 = 1 by omega]
    rw [List.getD_eq_getElem?_getD, List.getElem?_append_right (by omega), ← List.getD_eq_getElem?_getD, hr]
    congr 3; omega
end Go.Proofs.Ytbnanjkhpeneeaa

/- A part of the proof: P32. No conditions of its own. -/
namespace Go.Proofs.Ytbnanjkhpeneeaa
open Go.VL
attribute [local irreducible] VWr VOps VD Calls

open Classical in
set_option maxHeartbeats 2000000 in
set_option maxRecDepth 100000 in
theorem c_spec_ChainFrom (n : Int) (r q : List Int) (a : Int) (hrl : r.length = 14) (hql : q.length = 14) (w : World) :
    Calls Try.prog 20 [.int .i64 n, .agg (ints r).toArray, .agg (ints q).toArray, .int .i64 a].toArray w (Res w (PairI 2 (chainFrom n r q a))) := by
  refine calls_of_vw Try.func20 rfl Try.ntmps20 (by simp) ?_
  refine vw_seq (vw_region (by kernel_rfl) (vops_box (ints r) rfl (fun b5 hb5 => ?_)))
  refine vops_box (ints q) rfl (fun b6 hb6 => ?_)
  by_cases h12 : (2 ≤ n ∧ n ≤ 14) ∧ ∀ r' ∈ [r, q], IsRd n r'
  case neg =>
    have he : chainFrom n r q a = ([], 2) := by rw [chainFrom, if_neg fun hh => h12 ⟨⟨hh.1.1, hh.1.2.1⟩, fun r' hr' => by
      rcases List.mem_cons.1 hr' with rfl | hr'
      · exact hh.1
      · have : r' = q := by simpa using hr'
        rw [this]; exact hh.2.1⟩]
    have hC : ∀ w' v, RdS w' v [r, q] → Calls Try.prog 55 [.int .i64 n, v].toArray w' (Res w' (Is (.int .i64 2))) := fun w' v hv => by
      have := c_l02Rounds n v [r, q] w' hv (by simp [hrl, hql]) (by simp); rwa [roundsCode, if_neg h12] at this
    repeat (first | refine vops_q tyOk rfl ?_ | refine vops_nil ?_ | refine vw_seq ?_ | refine vw_region (by kernel_rfl) ?_ | refine vops_guardT rfl rfl ?_ | refine vops_guardF rfl rfl ?_ | refine vops_guardU rfl rfl ?_ | with_reducible refine bs_nbeq rfl ?_ | with_reducible refine bs_true ?_ | with_reducible refine bs_false ?_ | with_reducible refine bs_ntrue ?_ | with_reducible refine bs_nfalse ?_ | refine vops_p tyOk rfl (by (try simp only [inR]); omega) ?_ | refine vw_cond rfl ?_ | refine vw_skip ?_ | refine vw_block ?_ | refine vw_ret ?_ | refine vw_exit ?_ | refine vops_loadNM tyOk rfl rfl rfl (by repeat (first | exact mem_here | apply mem_next | apply mem_past)) (by rw [ints_length]; first | exact hrl | exact hql) ?_ | refine vops_litR2 tyOk rfl rfl (List.cons_ne_nil _ _) rfl rfl hrl hql rfl (fun bq hbq => ?_) | (apply vops_callp ent55 rfl; (intro w' hg; exact hC w' _ (rds_two (by repeat (first | exact mem_here | apply mem_next | apply mem_past)) hg))) | refine bs_dec (fun _ => ?_) (fun hh => absurd rfl hh) | refine bs_dec (fun hh => absurd hh (by decide)) (fun _ => ?_) | refine bs_ndec2 (fun hh => absurd rfl hh) (fun _ => ?_) | refine bs_ndec2 (fun _ => ?_) (fun hh => absurd hh (by decide)) | refine vops_loadM tyOk rfl rfl rfl (by repeat (first | exact mem_here | apply mem_next | apply mem_past)) (by rfl) ?_ | refine vops_loadM tyOk rfl rfl rfl (by repeat (first | exact mem_here | apply mem_next | apply mem_past)) (by exact ints_get0 (by omega)) ?_ | refine vops_loadNM tyOk rfl rfl rfl (by repeat (first | exact mem_here | apply mem_next | apply mem_past)) (by first | rfl | (rw [ints_length]; first | assumption | omega | (rw [ints_length]; first | assumption | omega | simp [*])) | simp [*]) ?_ | refine vops_storeIM tyOk rfl rfl rfl rfl (by repeat (first | exact upd_here | apply upd_next | apply upd_past)) (by omega) ?_ | refine vops_storeM tyOk rfl rfl rfl rfl rfl (by repeat (first | exact upd_here | apply upd_next | apply upd_past)) (by simp) ?_ | refine vops_storeAM tyOk rfl rfl rfl (by first | rfl | (rw [ints_length]; first | assumption | omega | (rw [ints_length]; first | assumption | omega | simp [*])) | simp [*]) (by first | exact ints_one | simp [Value.oneCell']) (by repeat (first | exact upd_here | apply upd_next | apply upd_past)) (by first | rfl | (rw [ints_length]; first | assumption | omega | (rw [ints_length]; first | assumption | omega | simp [*])) | simp [*]) ?_ | refine vops_build2 rfl rfl (by kernel_rfl) ?_ | refine vops_buildZ tyOk rfl (by kernel_rfl) ?_ | refine vops_slice tyOk rfl rfl rfl rfl rfl (by omega) ?_)
    exact pairI_err rfl rfl rfl he
  have hr : IsRd n r := h12.2 r (by simp)
  have hq : IsRd n q := h12.2 q (by simp)
  have hn14 := hr.2.1
  have hC : ∀ w' v, RdS w' v [r, q] → Calls Try.prog 55 [.int .i64 n, v].toArray w' (Res w' (Is (.int .i64 0))) := fun w' v hv => by
    have := c_l02Rounds n v [r, q] w' hv (by simp [hrl, hql]) (by simp); rwa [roundsCode, if_pos h12] at this
  by_cases hab : 0 ≤ a ∧ a ≤ n - 1
  case neg =>
    have he : chainFrom n r q a = ([], 2) := by rw [chainFrom, if_neg fun hh => hab (by omega)]
    have hI : ∀ w', Calls Try.prog 61 [.int .i64 a, .int .i64 0, .int .i64 (n - 1)].toArray w' (Res w' (Is (.bool false))) := fun w' => by
      have := c_l01In a 0 (n - 1) w'; rwa [decide_eq_false hab] at this
    repeat (first | refine vops_q tyOk rfl ?_ | refine vops_nil ?_ | refine vw_seq ?_ | refine vw_region (by kernel_rfl) ?_ | refine vops_guardT rfl rfl ?_ | refine vops_guardF rfl rfl ?_ | refine vops_guardU rfl rfl ?_ | with_reducible refine bs_nbeq rfl ?_ | with_reducible refine bs_true ?_ | with_reducible refine bs_false ?_ | with_reducible refine bs_ntrue ?_ | with_reducible refine bs_nfalse ?_ | refine vops_p tyOk rfl (by (try simp only [inR]); omega) ?_ | refine vw_cond rfl ?_ | refine vw_skip ?_ | refine vw_block ?_ | refine vw_ret ?_ | refine vw_exit ?_ | refine vops_loadNM tyOk rfl rfl rfl (by repeat (first | exact mem_here | apply mem_next | apply mem_past)) (by rw [ints_length]; first | exact hrl | exact hql) ?_ | refine vops_litR2 tyOk rfl rfl (List.cons_ne_nil _ _) rfl rfl hrl hql rfl (fun bq hbq => ?_) | (apply vops_callp ent55 rfl; (intro w' hg; exact hC w' _ (rds_two (by repeat (first | exact mem_here | apply mem_next | apply mem_past)) hg))) | (apply vops_callp ent61 rfl; (intro w' hg; exact hI w')) | refine bs_dec (fun _ => ?_) (fun hh => absurd rfl hh) | refine bs_dec (fun hh => absurd hh (by decide)) (fun _ => ?_) | refine bs_ndec2 (fun hh => absurd rfl hh) (fun _ => ?_) | refine bs_ndec2 (fun _ => ?_) (fun hh => absurd hh (by decide)) | refine vops_loadM tyOk rfl rfl rfl (by repeat (first | exact mem_here | apply mem_next | apply mem_past)) (by rfl) ?_ | refine vops_loadM tyOk rfl rfl rfl (by repeat (first | exact mem_here | apply mem_next | apply mem_past)) (by exact ints_get0 (by omega)) ?_ | refine vops_loadNM tyOk rfl rfl rfl (by repeat (first | exact mem_here | apply mem_next | apply mem_past)) (by first | rfl | (rw [ints_length]; first | assumption | omega | (rw [ints_length]; first | assumption | omega | simp [*])) | simp [*]) ?_ | refine vops_storeIM tyOk rfl rfl rfl rfl (by repeat (first | exact upd_here | apply upd_next | apply upd_past)) (by omega) ?_ | refine vops_storeM tyOk rfl rfl rfl rfl rfl (by repeat (first | exact upd_here | apply upd_next | apply upd_past)) (by simp) ?_ | refine vops_storeAM tyOk rfl rfl rfl (by first | rfl | (rw [ints_length]; first | assumption | omega | (rw [ints_length]; first | assumption | omega | simp [*])) | simp [*]) (by first | exact ints_one | simp [Value.oneCell']) (by repeat (first | exact upd_here | apply upd_next | apply upd_past)) (by first | rfl | (rw [ints_length]; first | assumption | omega | (rw [ints_length]; first | assumption | omega | simp [*])) | simp [*]) ?_ | refine vops_build2 rfl rfl (by kernel_rfl) ?_ | refine vops_buildZ tyOk rfl (by kernel_rfl) ?_ | refine vops_slice tyOk rfl rfl rfl rfl rfl (by omega) ?_)
    exact pairI_err rfl rfl rfl he
  have hI : ∀ w', Calls Try.prog 61 [.int .i64 a, .int .i64 0, .int .i64 (n - 1)].toArray w' (Res w' (Is (.bool true))) := fun w' => by
    have := c_l01In a 0 (n - 1) w'; rwa [decide_eq_true hab] at this
  have hgood : chainFrom n r q a = (chain r q a, 0) := by rw [chainFrom, if_pos ⟨hr, hq, by omega⟩]
  repeat (first | refine vops_q tyOk rfl ?_ | refine vops_nil ?_ | refine vw_seq ?_ | refine vw_region (by kernel_rfl) ?_ | refine vops_guardT rfl rfl ?_ | refine vops_guardF rfl rfl ?_ | refine vops_guardU rfl rfl ?_ | with_reducible refine bs_nbeq rfl ?_ | with_reducible refine bs_true ?_ | with_reducible refine bs_false ?_ | with_reducible refine bs_ntrue ?_ | with_reducible refine bs_nfalse ?_ | refine vops_p tyOk rfl (by (try simp only [inR]); omega) ?_ | refine vw_cond rfl ?_ | refine vw_skip ?_ | refine vw_block ?_ | refine vw_ret ?_ | refine vw_exit ?_ | refine vops_loadNM tyOk rfl rfl rfl (by repeat (first | exact mem_here | apply mem_next | apply mem_past)) (by rw [ints_length]; first | exact hrl | exact hql) ?_ | refine vops_litR2 tyOk rfl rfl (List.cons_ne_nil _ _) rfl rfl hrl hql rfl (fun bq hbq => ?_) | (apply vops_callp ent55 rfl; (intro w' hg; exact hC w' _ (rds_two (by repeat (first | exact mem_here | apply mem_next | apply mem_past)) hg))) | (apply vops_callp ent61 rfl; (intro w' hg; exact hI w')) | refine bs_dec (fun _ => ?_) (fun hh => absurd rfl hh) | refine bs_dec (fun hh => absurd hh (by decide)) (fun _ => ?_) | refine bs_ndec2 (fun hh => absurd rfl hh) (fun _ => ?_) | refine bs_ndec2 (fun _ => ?_) (fun hh => absurd hh (by decide)) | refine vops_loadM tyOk rfl rfl rfl (by repeat (first | exact mem_here | apply mem_next | apply mem_past)) (by rfl) ?_ | refine vops_loadM tyOk rfl rfl rfl (by repeat (first | exact mem_here | apply mem_next | apply mem_past)) (by exact ints_get0 (by omega)) ?_ | refine vops_loadNM tyOk rfl rfl rfl (by repeat (first | exact mem_here | apply mem_next | apply mem_past)) (by first | rfl | (rw [ints_length]; first | assumption | omega | (rw [ints_length]; first | assumption | omega | simp [*])) | simp [*]) ?_ | refine vops_storeIM tyOk rfl rfl rfl rfl (by repeat (first | exact upd_here | apply upd_next | apply upd_past)) (by omega) ?_ | refine vops_storeM tyOk rfl rfl rfl rfl rfl (by repeat (first | exact upd_here | apply upd_next | apply upd_past)) (by simp) ?_ | refine vops_storeAM tyOk rfl rfl rfl (by first | rfl | (rw [ints_length]; first | assumption | omega | (rw [ints_length]; first | assumption | omega | simp [*])) | simp [*]) (by first | exact ints_one | simp [Value.oneCell']) (by repeat (first | exact upd_here | apply upd_next | apply upd_past)) (by first | rfl | (rw [ints_length]; first | assumption | omega | (rw [ints_length]; first | assumption | omega | simp [*])) | simp [*]) ?_ | refine vops_build2 rfl rfl (by kernel_rfl) ?_ | refine vops_buildZ tyOk rfl (by kernel_rfl) ?_ | refine vops_slice tyOk rfl rfl rfl rfl rfl (by omega) ?_)
  refine vw_draw [0, 2, 3, 1, 5, 4, 6] (by kernel_rfl) (by kernel_rfl) (by kernel_rfl) rfl ?_
  iterate 3 (first | refine vd_q tyOk rfl (by first | trivial | rfl) rfl (by kernel_rfl) (by kernel_rfl) ?_ | refine vd_p tyOk rfl (by first | trivial | rfl) rfl (by kernel_rfl) (by kernel_rfl) (by (try simp only [inR]); omega) ?_ | refine vd_skipT rfl rfl (by kernel_rfl) (by kernel_rfl) ?_ | refine vd_skipF rfl rfl (by kernel_rfl) (by kernel_rfl) ?_ | refine vd_skipU rfl rfl (by kernel_rfl) (by kernel_rfl) ?_ | refine vops_nil ?_ | refine vd_nil (by kernel_rfl) ?_ | refine ⟨fun _ _ _ h => h, ?_⟩ | refine ⟨fun _ _ _ h => List.mem_cons_of_mem _ h, ?_⟩ | refine ⟨fun _ _ _ h => List.mem_append_right _ h, ?_⟩ | refine vops_q tyOk rfl ?_ | refine vd_load tyOk rfl (by first | trivial | rfl) rfl rfl rfl (by kernel_rfl) (by kernel_rfl) (by kernel_rfl) (sees_mem (by repeat (first | exact mem_here | apply mem_next | apply mem_past)) (by rfl)) (by repeat (first | exact sub_hereL | exact sub_refl | apply sub_cons | apply sub_app)) ?_ | refine vd_load tyOk rfl (by first | trivial | rfl) rfl rfl rfl (by kernel_rfl) (by kernel_rfl) (by kernel_rfl) (sees_mem (k := ⟨ints _, _, _, none⟩) (by repeat (first | exact mem_here | apply mem_next | apply mem_past)) (by exact ints_get0 (by omega))) (by repeat (first | exact sub_hereL | exact sub_refl | apply sub_cons | apply sub_app)) ?_ | refine vd_loadNM tyOk rfl (by first | trivial | rfl) rfl rfl rfl (by repeat (first | exact mem_here | apply mem_next | apply mem_past)) (by first | rfl | (rw [ints_length]; first | assumption | omega | (rw [ints_length]; first | assumption | omega | simp [*])) | simp [*]) (by kernel_rfl) (by kernel_rfl) (by kernel_rfl) (by repeat (first | exact sub_hereL | exact sub_refl | apply sub_cons | apply sub_app)) ?_ | refine vd_build2 rfl (by first | trivial | rfl) rfl rfl (by kernel_rfl) (by kernel_rfl) (by kernel_rfl) ?_ | refine vd_slice tyOk rfl (by first | trivial | rfl) rfl rfl rfl rfl rfl (by kernel_rfl) (by kernel_rfl) (by omega) ?_ | refine ⟨fun h => Bool.noConfusion (show false = true from h), ?_⟩ | refine ⟨fun _ p hp _ => (show Go.VL.Sub _ _ from (by repeat (first | exact sub_hereL | exact sub_refl | apply sub_cons | apply sub_app))) p hp, ?_⟩ | refine vd_loadNM tyOk rfl (by first | trivial | rfl) rfl rfl rfl (by repeat (first | exact mem_here | apply mem_next | apply mem_past)) (by rw [ints_length]; first | exact hrl | exact hql) (by kernel_rfl) (by kernel_rfl) (by kernel_rfl) (by repeat (first | exact sub_hereL | exact sub_refl | apply sub_cons | apply sub_app)) ?_ | refine vops_loadM tyOk rfl rfl rfl (by repeat (first | exact mem_here | apply mem_next | apply mem_past)) (by rfl) ?_ | refine vops_loadM tyOk rfl rfl rfl (by repeat (first | exact mem_here | apply mem_next | apply mem_past)) (by exact ints_get0 (by omega)) ?_ | refine vops_loadNM tyOk rfl rfl rfl (by repeat (first | exact mem_here | apply mem_next | apply mem_past)) (by first | rfl | (rw [ints_length]; first | assumption | omega | (rw [ints_length]; first | assumption | omega | simp [*])) | simp [*]) ?_ | refine vops_storeIM tyOk rfl rfl rfl rfl (by repeat (first | exact upd_here | apply upd_next | apply upd_past)) (by omega) ?_ | refine vops_storeM tyOk rfl rfl rfl rfl rfl (by repeat (first | exact upd_here | apply upd_next | apply upd_past)) (by simp) ?_ | refine vops_storeAM tyOk rfl rfl rfl (by first | rfl | (rw [ints_length]; first | assumption | omega | (rw [ints_length]; first | assumption | omega | simp [*])) | simp [*]) (by first | exact ints_one | simp [Value.oneCell']) (by repeat (first | exact upd_here | apply upd_next | apply upd_past)) (by first | rfl | (rw [ints_length]; first | assumption | omega | (rw [ints_length]; first | assumption | omega | simp [*])) | simp [*]) ?_ | refine vops_build2 rfl rfl (by kernel_rfl) ?_ | refine vops_buildZ tyOk rfl (by kernel_rfl) ?_ | refine vops_slice tyOk rfl rfl rfl rfl rfl (by omega) ?_ | refine vd_one rfl (by kernel_rfl) (by kernel_rfl) rfl ?_ | refine vd_oneG rfl (by kernel_rfl) (by kernel_rfl) rfl ?_ | (refine vd_gsplit rfl rfl rfl ?_; (fail_if_success (with_reducible (first | refine bs_true ?_ | refine bs_false ?_))); with_reducible refine bs_dec (fun _ => ?_) (fun _ => ?_)) <;> try (exfalso; omega) | (refine vd_gsplit rfl rfl rfl ?_; (fail_if_success (with_reducible (first | refine bs_true ?_ | refine bs_false ?_))); with_reducible refine bs_ndec (fun _ => ?_) (fun _ => ?_)) <;> try (exfalso; omega) | (refine vd_gsplit rfl rfl rfl ?_; (fail_if_success (with_reducible (first | refine bs_true ?_ | refine bs_false ?_))); with_reducible refine bs_nany (fun _ => ?_) (fun _ => ?_)) <;> try (exfalso; omega) | (refine vd_gsplit rfl rfl rfl ?_; (fail_if_success (with_reducible (first | refine bs_true ?_ | refine bs_false ?_))); with_reducible refine bs_any (fun _ => ?_) (fun _ => ?_)) <;> try (exfalso; omega))
  refine vd_two (j := 4) [5, 4, 6] [1, 5, 6] rfl rfl (by kernel_rfl) rfl rfl rfl rfl ?_ ?_
  · refine vops_litI [_] tyOk rfl rfl (List.cons_ne_nil _ _) (by rfl) rfl (by omega) (by omega) (fun bt hbt => ?_)
    repeat' (first | refine vd_q tyOk rfl (by first | trivial | rfl) rfl (by kernel_rfl) (by kernel_rfl) ?_ | refine vd_p tyOk rfl (by first | trivial | rfl) rfl (by kernel_rfl) (by kernel_rfl) (by (try simp only [inR]); omega) ?_ | refine vd_skipT rfl rfl (by kernel_rfl) (by kernel_rfl) ?_ | refine vd_skipF rfl rfl (by kernel_rfl) (by kernel_rfl) ?_ | refine vd_skipU rfl rfl (by kernel_rfl) (by kernel_rfl) ?_ | refine vops_nil ?_ | refine vd_nil (by kernel_rfl) ?_ | refine ⟨fun _ _ _ h => h, ?_⟩ | refine ⟨fun _ _ _ h => List.mem_cons_of_mem _ h, ?_⟩ | refine ⟨fun _ _ _ h => List.mem_append_right _ h, ?_⟩ | refine vops_q tyOk rfl ?_ | refine vd_load tyOk rfl (by first | trivial | rfl) rfl rfl rfl (by kernel_rfl) (by kernel_rfl) (by kernel_rfl) (sees_mem (by repeat (first | exact mem_here | apply mem_next | apply mem_past)) (by rfl)) (by repeat (first | exact sub_hereL | exact sub_refl | apply sub_cons | apply sub_app)) ?_ | refine vd_load tyOk rfl (by first | trivial | rfl) rfl rfl rfl (by kernel_rfl) (by kernel_rfl) (by kernel_rfl) (sees_mem (k := ⟨ints _, _, _, none⟩) (by repeat (first | exact mem_here | apply mem_next | apply mem_past)) (by exact ints_get0 (by omega))) (by repeat (first | exact sub_hereL | exact sub_refl | apply sub_cons | apply sub_app)) ?_ | refine vd_loadNM tyOk rfl (by first | trivial | rfl) rfl rfl rfl (by repeat (first | exact mem_here | apply mem_next | apply mem_past)) (by first | rfl | (rw [ints_length]; first | assumption | omega | (rw [ints_length]; first | assumption | omega | simp [*])) | simp [*]) (by kernel_rfl) (by kernel_rfl) (by kernel_rfl) (by repeat (first | exact sub_hereL | exact sub_refl | apply sub_cons | apply sub_app)) ?_ | refine vd_build2 rfl (by first | trivial | rfl) rfl rfl (by kernel_rfl) (by kernel_rfl) (by kernel_rfl) ?_ | refine vd_slice tyOk rfl (by first | trivial | rfl) rfl rfl rfl rfl rfl (by kernel_rfl) (by kernel_rfl) (by omega) ?_ | refine ⟨fun h => Bool.noConfusion (show false = true from h), ?_⟩ | refine ⟨fun _ p hp _ => (show Go.VL.Sub _ _ from (by repeat (first | exact sub_hereL | exact sub_refl | apply sub_cons | apply sub_app))) p hp, ?_⟩ | refine vops_litR2 tyOk rfl rfl (List.cons_ne_nil _ _) rfl rfl hrl hql rfl (fun bq hbq => ?_) | refine vops_loadM tyOk rfl rfl rfl (by repeat (first | exact mem_here | apply mem_next | apply mem_past)) (by rfl) ?_ | refine vops_loadM tyOk rfl rfl rfl (by repeat (first | exact mem_here | apply mem_next | apply mem_past)) (by exact ints_get0 (by omega)) ?_ | refine vops_loadNM tyOk rfl rfl rfl (by repeat (first | exact mem_here | apply mem_next | apply mem_past)) (by first | rfl | (rw [ints_length]; first | assumption | omega | (rw [ints_length]; first | assumption | omega | simp [*])) | simp [*]) ?_ | refine vops_storeIM tyOk rfl rfl rfl rfl (by repeat (first | exact upd_here | apply upd_next | apply upd_past)) (by omega) ?_ | refine vops_storeM tyOk rfl rfl rfl rfl rfl (by repeat (first | exact upd_here | apply upd_next | apply upd_past)) (by simp) ?_ | refine vops_storeAM tyOk rfl rfl rfl (by first | rfl | (rw [ints_length]; first | assumption | omega | (rw [ints_length]; first | assumption | omega | simp [*])) | simp [*]) (by first | exact ints_one | simp [Value.oneCell']) (by repeat (first | exact upd_here | apply upd_next | apply upd_past)) (by first | rfl | (rw [ints_length]; first | assumption | omega | (rw [ints_length]; first | assumption | omega | simp [*])) | simp [*]) ?_ | refine vops_build2 rfl rfl (by kernel_rfl) ?_ | refine vops_buildZ tyOk rfl (by kernel_rfl) ?_ | refine vops_slice tyOk rfl rfl rfl rfl rfl (by omega) ?_ | refine vd_one rfl (by kernel_rfl) (by kernel_rfl) rfl ?_ | refine vd_oneG rfl (by kernel_rfl) (by kernel_rfl) rfl ?_ | (refine vd_gsplit rfl rfl rfl ?_; (fail_if_success (with_reducible (first | refine bs_true ?_ | refine bs_false ?_))); with_reducible refine bs_dec (fun _ => ?_) (fun _ => ?_)) <;> try (exfalso; omega) | (refine vd_gsplit rfl rfl rfl ?_; (fail_if_success (with_reducible (first | refine bs_true ?_ | refine bs_false ?_))); with_reducible refine bs_ndec (fun _ => ?_) (fun _ => ?_)) <;> try (exfalso; omega) | (refine vd_gsplit rfl rfl rfl ?_; (fail_if_success (with_reducible (first | refine bs_true ?_ | refine bs_false ?_))); with_reducible refine bs_nany (fun _ => ?_) (fun _ => ?_)) <;> try (exfalso; omega) | (refine vd_gsplit rfl rfl rfl ?_; (fail_if_success (with_reducible (first | refine bs_true ?_ | refine bs_false ?_))); with_reducible refine bs_any (fun _ => ?_) (fun _ => ?_)) <;> try (exfalso; omega))
    repeat (first | refine vops_q tyOk rfl ?_ | refine vops_nil ?_ | refine vw_seq ?_ | refine vw_region (by kernel_rfl) ?_ | refine vops_guardT rfl rfl ?_ | refine vops_guardF rfl rfl ?_ | refine vops_guardU rfl rfl ?_ | with_reducible refine bs_nbeq rfl ?_ | with_reducible refine bs_true ?_ | with_reducible refine bs_false ?_ | with_reducible refine bs_ntrue ?_ | with_reducible refine bs_nfalse ?_ | refine vops_p tyOk rfl (by (try simp only [inR]); omega) ?_ | refine vw_cond rfl ?_ | refine vw_skip ?_ | refine vw_block ?_ | refine vw_ret ?_ | refine vw_exit ?_ | refine vops_loadM tyOk rfl rfl rfl (by repeat (first | exact mem_here | apply mem_next | apply mem_past)) (by rfl) ?_ | refine vops_loadM tyOk rfl rfl rfl (by repeat (first | exact mem_here | apply mem_next | apply mem_past)) (by exact ints_get0 (by omega)) ?_ | refine vops_loadNM tyOk rfl rfl rfl (by repeat (first | exact mem_here | apply mem_next | apply mem_past)) (by first | rfl | (rw [ints_length]; first | assumption | omega | (rw [ints_length]; first | assumption | omega | simp [*])) | simp [*]) ?_ | refine vops_storeIM tyOk rfl rfl rfl rfl (by repeat (first | exact upd_here | apply upd_next | apply upd_past)) (by omega) ?_ | refine vops_storeM tyOk rfl rfl rfl rfl rfl (by repeat (first | exact upd_here | apply upd_next | apply upd_past)) (by simp) ?_ | refine vops_storeAM tyOk rfl rfl rfl (by first | rfl | (rw [ints_length]; first | assumption | omega | (rw [ints_length]; first | assumption | omega | simp [*])) | simp [*]) (by first | exact ints_one | simp [Value.oneCell']) (by repeat (first | exact upd_here | apply upd_next | apply upd_past)) (by first | rfl | (rw [ints_length]; first | assumption | omega | (rw [ints_length]; first | assumption | omega | simp [*])) | simp [*]) ?_ | refine vops_build2 rfl rfl (by kernel_rfl) ?_ | refine vops_buildZ tyOk rfl (by kernel_rfl) ?_ | refine vops_slice tyOk rfl rfl rfl rfl rfl (by omega) ?_)
    refine vw_loopW (fun m f own => ∃ (l : List Int) (T : Nat) (c : Int) (p : Option Addr) (cp : Nat) (new : Own), Ch n r q a l ∧ m = 15 - l.length ∧ chain r q a = chainGo r q a (16 - l.length) l ∧ c = T ∧ T = (l.length - 1) % 2 ∧ f 13 = .int .i64 c ∧ f 3 = .int .i64 a ∧ f 12 = .slice (some ⟨bq, 0, none⟩) 2 2 ∧ f 11 = .slice p l.length cp ∧ NewI 2 l (.slice p l.length cp) new ∧
        own = new ++ [(bq, ⟨ints (r ++ q), 25, 28, none⟩)]) 14
      ⟨[(bt, ⟨ints [a], 2, 1 * 1, none⟩)] ++ [(bq, ⟨ints (r ++ q), 25, 28, none⟩)], (by repeat (first | exact ole_nil | exact ole_refl | (apply ole_cons; (repeat (first | exact pm1_here | apply pm1_next | apply pm1_past))) | (apply ole_app; (repeat (first | exact pm_here | exact pm_last | apply pm_next | apply pm_past))))), [a], 0, 0, some ⟨bt, 0, none⟩, 1, [(bt, ⟨ints [a], 2, 1 * 1, none⟩)], Ch.one (by omega) (by omega), rfl, rfl, rfl, rfl, rfl, rfl, rfl, rfl, NewI.lit (l := [a]) rfl (Nat.le_refl _) (by simp [maxLen]), rfl⟩ ?_
    rintro m f own ⟨l, T, c, p, cp, new, hCh, rfl, hgo, hcT, hT, h13, h3, h12, h11, hN, rfl⟩
    rw [upd_of h13, upd_of h3, upd_of h12, upd_of h11]
    have hl14 := hCh.length_le hn14
    have hl0 := hCh.ne
    have hlast := hCh.last
    have hmv := mv_ok hr hq (l.length - 1) hlast.1 hlast.2
    obtain ⟨x, hx⟩ : ∃ x, x = mv r q (l.length - 1) (l.getD (l.length - 1) 0) := ⟨_, rfl⟩
    rw [← hx] at hmv
    obtain ⟨bn, rfl, rfl, hc1, hc2, hl1⟩ := NewF.blk (NewI.f hN) hl0
    have hcell : (ints l)[0 + ((l.length : Int) - 1).toNat]? = some (.int .i64 (l.getD (l.length - 1) 0)) := by
      rw [show 0 + ((l.length : Int) - 1).toNat = l.length - 1 by omega]; exact ints_get (by omega)
    have hcell2 : ∀ z, z = 0 + c.toNat * 14 + (l.getD (l.length - 1) 0).toNat → (ints (r ++ q))[z]? = some (.int .i64 x) := fun z hz =>
      two_cell hrl hql (t := l.length - 1) (x := l.getD (l.length - 1) 0) hx hlast.1 (by omega) (by rw [hz, ← hT, hcT]; simp)
    have hT2 : c = 0 ∨ c = 1 := by omega
    repeat (first | refine vops_q tyOk rfl ?_ | refine vops_nil ?_ | refine vw_seq ?_ | refine vw_region (by kernel_rfl) ?_ | refine vops_guardT rfl rfl ?_ | refine vops_guardF rfl rfl ?_ | refine vops_guardU rfl rfl ?_ | with_reducible refine bs_nbeq rfl ?_ | with_reducible refine bs_true ?_ | with_reducible refine bs_false ?_ | with_reducible refine bs_ntrue ?_ | with_reducible refine bs_nfalse ?_ | refine vops_p tyOk rfl (by (try simp only [inR]); omega) ?_ | refine vw_cond rfl ?_ | refine vw_skip ?_ | refine vw_block ?_ | refine vw_ret ?_ | refine vw_exit ?_ | refine vops_loadM tyOk rfl rfl rfl (by repeat (first | exact mem_here | apply mem_next | apply mem_past)) (by exact hcell) ?_ | refine vops_loadM tyOk rfl rfl rfl (by repeat (first | exact mem_here | apply mem_next | apply mem_past)) (by exact hcell2 _ rfl) ?_ | refine vops_loadM tyOk rfl rfl rfl (by repeat (first | exact mem_here | apply mem_next | apply mem_past)) (by rfl) ?_ | refine vops_loadM tyOk rfl rfl rfl (by repeat (first | exact mem_here | apply mem_next | apply mem_past)) (by exact ints_get0 (by omega)) ?_ | refine vops_loadNM tyOk rfl rfl rfl (by repeat (first | exact mem_here | apply mem_next | apply mem_past)) (by first | rfl | (rw [ints_length]; first | assumption | omega | (rw [ints_length]; first | assumption | omega | simp [*])) | simp [*]) ?_ | refine vops_storeIM tyOk rfl rfl rfl rfl (by repeat (first | exact upd_here | apply upd_next | apply upd_past)) (by omega) ?_ | refine vops_storeM tyOk rfl rfl rfl rfl rfl (by repeat (first | exact upd_here | apply upd_next | apply upd_past)) (by simp) ?_ | refine vops_storeAM tyOk rfl rfl rfl (by first | rfl | (rw [ints_length]; first | assumption | omega | (rw [ints_length]; first | assumption | omega | simp [*])) | simp [*]) (by first | exact ints_one | simp [Value.oneCell']) (by repeat (first | exact upd_here | apply upd_next | apply upd_past)) (by first | rfl | (rw [ints_length]; first | assumption | omega | (rw [ints_length]; first | assumption | omega | simp [*])) | simp [*]) ?_ | refine vops_build2 rfl rfl (by kernel_rfl) ?_ | refine vops_buildZ tyOk rfl (by kernel_rfl) ?_ | refine vops_slice tyOk rfl rfl rfl rfl rfl (by omega) ?_)
    refine bs_dec (fun hxa => ?_) (fun hxa => ?_)
    · repeat (first | refine vops_q tyOk rfl ?_ | refine vops_nil ?_ | refine vw_seq ?_ | refine vw_region (by kernel_rfl) ?_ | refine vops_guardT rfl rfl ?_ | refine vops_guardF rfl rfl ?_ | refine vops_guardU rfl rfl ?_ | with_reducible refine bs_nbeq rfl ?_ | with_reducible refine bs_true ?_ | with_reducible refine bs_false ?_ | with_reducible refine bs_ntrue ?_ | with_reducible refine bs_nfalse ?_ | refine vops_p tyOk rfl (by (try simp only [inR]); omega) ?_ | refine vw_cond rfl ?_ | refine vw_skip ?_ | refine vw_block ?_ | refine vw_ret ?_ | refine vw_exit ?_ | refine vops_loadM tyOk rfl rfl rfl (by repeat (first | exact mem_here | apply mem_next | apply mem_past)) (by rfl) ?_ | refine vops_loadM tyOk rfl rfl rfl (by repeat (first | exact mem_here | apply mem_next | apply mem_past)) (by exact ints_get0 (by omega)) ?_ | refine vops_loadNM tyOk rfl rfl rfl (by repeat (first | exact mem_here | apply mem_next | apply mem_past)) (by first | rfl | (rw [ints_length]; first | assumption | omega | (rw [ints_length]; first | assumption | omega | simp [*])) | simp [*]) ?_ | refine vops_storeIM tyOk rfl rfl rfl rfl (by repeat (first | exact upd_here | apply upd_next | apply upd_past)) (by omega) ?_ | refine vops_storeM tyOk rfl rfl rfl rfl rfl (by repeat (first | exact upd_here | apply upd_next | apply upd_past)) (by simp) ?_ | refine vops_storeAM tyOk rfl rfl rfl (by first | rfl | (rw [ints_length]; first | assumption | omega | (rw [ints_length]; first | assumption | omega | simp [*])) | simp [*]) (by first | exact ints_one | simp [Value.oneCell']) (by repeat (first | exact upd_here | apply upd_next | apply upd_past)) (by first | rfl | (rw [ints_length]; first | assumption | omega | (rw [ints_length]; first | assumption | omega | simp [*])) | simp [*]) ?_ | refine vops_build2 rfl rfl (by kernel_rfl) ?_ | refine vops_buildZ tyOk rfl (by kernel_rfl) ?_ | refine vops_slice tyOk rfl rfl rfl rfl rfl (by omega) ?_)
      exact pairI_ok rfl rfl rfl hN (by repeat (first | exact sub_hereL | exact sub_refl | apply sub_cons | apply sub_app)) (by rw [hgood, hgo, chainGo_stop hl14 hx (.inl hxa)])
    repeat (first | refine vops_q tyOk rfl ?_ | refine vops_nil ?_ | refine vw_seq ?_ | refine vw_region (by kernel_rfl) ?_ | refine vops_guardT rfl rfl ?_ | refine vops_guardF rfl rfl ?_ | refine vops_guardU rfl rfl ?_ | with_reducible refine bs_nbeq rfl ?_ | with_reducible refine bs_true ?_ | with_reducible refine bs_false ?_ | with_reducible refine bs_ntrue ?_ | with_reducible refine bs_nfalse ?_ | refine vops_p tyOk rfl (by (try simp only [inR]); omega) ?_ | refine vw_cond rfl ?_ | refine vw_skip ?_ | refine vw_block ?_ | refine vw_ret ?_ | refine vw_exit ?_ | refine vops_loadM tyOk rfl rfl rfl (by repeat (first | exact mem_here | apply mem_next | apply mem_past)) (by rfl) ?_ | refine vops_loadM tyOk rfl rfl rfl (by repeat (first | exact mem_here | apply mem_next | apply mem_past)) (by exact ints_get0 (by omega)) ?_ | refine vops_loadNM tyOk rfl rfl rfl (by repeat (first | exact mem_here | apply mem_next | apply mem_past)) (by first | rfl | (rw [ints_length]; first | assumption | omega | (rw [ints_length]; first | assumption | omega | simp [*])) | simp [*]) ?_ | refine vops_storeIM tyOk rfl rfl rfl rfl (by repeat (first | exact upd_here | apply upd_next | apply upd_past)) (by omega) ?_ | refine vops_storeM tyOk rfl rfl rfl rfl rfl (by repeat (first | exact upd_here | apply upd_next | apply upd_past)) (by simp) ?_ | refine vops_storeAM tyOk rfl rfl rfl (by first | rfl | (rw [ints_length]; first | assumption | omega | (rw [ints_length]; first | assumption | omega | simp [*])) | simp [*]) (by first | exact ints_one | simp [Value.oneCell']) (by repeat (first | exact upd_here | apply upd_next | apply upd_past)) (by first | rfl | (rw [ints_length]; first | assumption | omega | (rw [ints_length]; first | assumption | omega | simp [*])) | simp [*]) ?_ | refine vops_build2 rfl rfl (by kernel_rfl) ?_ | refine vops_buildZ tyOk rfl (by kernel_rfl) ?_ | refine vops_slice tyOk rfl rfl rfl rfl rfl (by omega) ?_)
    refine bs_dec (fun hxl => ?_) (fun hxl => ?_)
    · repeat (first | refine vops_q tyOk rfl ?_ | refine vops_nil ?_ | refine vw_seq ?_ | refine vw_region (by kernel_rfl) ?_ | refine vops_guardT rfl rfl ?_ | refine vops_guardF rfl rfl ?_ | refine vops_guardU rfl rfl ?_ | with_reducible refine bs_nbeq rfl ?_ | with_reducible refine bs_true ?_ | with_reducible refine bs_false ?_ | with_reducible refine bs_ntrue ?_ | with_reducible refine bs_nfalse ?_ | refine vops_p tyOk rfl (by (try simp only [inR]); omega) ?_ | refine vw_cond rfl ?_ | refine vw_skip ?_ | refine vw_block ?_ | refine vw_ret ?_ | refine vw_exit ?_ | refine vops_loadM tyOk rfl rfl rfl (by repeat (first | exact mem_here | apply mem_next | apply mem_past)) (by rfl) ?_ | refine vops_loadM tyOk rfl rfl rfl (by repeat (first | exact mem_here | apply mem_next | apply mem_past)) (by exact ints_get0 (by omega)) ?_ | refine vops_loadNM tyOk rfl rfl rfl (by repeat (first | exact mem_here | apply mem_next | apply mem_past)) (by first | rfl | (rw [ints_length]; first | assumption | omega | (rw [ints_length]; first | assumption | omega | simp [*])) | simp [*]) ?_ | refine vops_storeIM tyOk rfl rfl rfl rfl (by repeat (first | exact upd_here | apply upd_next | apply upd_past)) (by omega) ?_ | refine vops_storeM tyOk rfl rfl rfl rfl rfl (by repeat (first | exact upd_here | apply upd_next | apply upd_past)) (by simp) ?_ | refine vops_storeAM tyOk rfl rfl rfl (by first | rfl | (rw [ints_length]; first | assumption | omega | (rw [ints_length]; first | assumption | omega | simp [*])) | simp [*]) (by first | exact ints_one | simp [Value.oneCell']) (by repeat (first | exact upd_here | apply upd_next | apply upd_past)) (by first | rfl | (rw [ints_length]; first | assumption | omega | (rw [ints_length]; first | assumption | omega | simp [*])) | simp [*]) ?_ | refine vops_build2 rfl rfl (by kernel_rfl) ?_ | refine vops_buildZ tyOk rfl (by kernel_rfl) ?_ | refine vops_slice tyOk rfl rfl rfl rfl rfl (by omega) ?_)
      exact pairI_ok rfl rfl rfl hN (by repeat (first | exact sub_hereL | exact sub_refl | apply sub_cons | apply sub_app)) (by rw [hgood, hgo, chainGo_stop hl14 hx (.inr hxl)])
    · repeat (first | refine vops_q tyOk rfl ?_ | refine vops_nil ?_ | refine vw_seq ?_ | refine vw_region (by kernel_rfl) ?_ | refine vops_guardT rfl rfl ?_ | refine vops_guardF rfl rfl ?_ | refine vops_guardU rfl rfl ?_ | with_reducible refine bs_nbeq rfl ?_ | with_reducible refine bs_true ?_ | with_reducible refine bs_false ?_ | with_reducible refine bs_ntrue ?_ | with_reducible refine bs_nfalse ?_ | refine vops_p tyOk rfl (by (try simp only [inR]); omega) ?_ | refine vw_cond rfl ?_ | refine vw_skip ?_ | refine vw_block ?_ | refine vw_ret ?_ | refine vw_exit ?_ | refine vops_litI [_] tyOk rfl rfl (List.cons_ne_nil _ _) (by rfl) rfl (by omega) (by omega) (fun bt hbt => ?_) | refine vops_append1 (k := 1) tyOk rfl rfl (List.cons_ne_nil _ _) rfl rfl (by decide) rfl hN (by repeat (first | exact pm_here | exact pm_last | apply pm_next | apply pm_past)) rfl (by repeat (first | exact mem_here | apply mem_next | apply mem_past)) rfl (by omega) (fun p' cap' new' hN' => ?_) | refine vops_loadM tyOk rfl rfl rfl (by repeat (first | exact mem_here | apply mem_next | apply mem_past)) (by rfl) ?_ | refine vops_loadM tyOk rfl rfl rfl (by repeat (first | exact mem_here | apply mem_next | apply mem_past)) (by exact ints_get0 (by omega)) ?_ | refine vops_loadNM tyOk rfl rfl rfl (by repeat (first | exact mem_here | apply mem_next | apply mem_past)) (by first | rfl | (rw [ints_length]; first | assumption | omega | (rw [ints_length]; first | assumption | omega | simp [*])) | simp [*]) ?_ | refine vops_storeIM tyOk rfl rfl rfl rfl (by repeat (first | exact upd_here | apply upd_next | apply upd_past)) (by omega) ?_ | refine vops_storeM tyOk rfl rfl rfl rfl rfl (by repeat (first | exact upd_here | apply upd_next | apply upd_past)) (by simp) ?_ | refine vops_storeAM tyOk rfl rfl rfl (by first | rfl | (rw [ints_length]; first | assumption | omega | (rw [ints_length]; first | assumption | omega | simp [*])) | simp [*]) (by first | exact ints_one | simp [Value.oneCell']) (by repeat (first | exact upd_here | apply upd_next | apply upd_past)) (by first | rfl | (rw [ints_length]; first | assumption | omega | (rw [ints_length]; first | assumption | omega | simp [*])) | simp [*]) ?_ | refine vops_build2 rfl rfl (by kernel_rfl) ?_ | refine vops_buildZ tyOk rfl (by kernel_rfl) ?_ | refine vops_slice tyOk rfl rfl rfl rfl rfl (by omega) ?_)
      have hst := chainGo_next hl14 hx (fun h => h.elim hxa hxl)
      have hll : (l ++ [x]).length = l.length + 1 := by simp
      refine ⟨15 - (l ++ [x]).length, by omega, new' ++ [(bq, ⟨ints (r ++ q), 25, 28, none⟩)], (by repeat (first | exact ole_nil | exact ole_refl | (apply ole_cons; (repeat (first | exact pm1_here | apply pm1_next | apply pm1_past))) | (apply ole_app; (repeat (first | exact pm_here | exact pm_last | apply pm_next | apply pm_past))))), l ++ [x], 1 - T, 1 - c, p', cap', new', hCh.snoc hr hq hx hxa hxl, rfl, by rw [hgo, hst], by omega, by omega, rfl, rfl, rfl, ?_, ?_, rfl⟩
      · rw [hll]; rfl
      · rw [hll]; exact NewI.snoc hN' rfl
  · refine vops_litR2 tyOk rfl rfl (List.cons_ne_nil _ _) rfl rfl hrl hql rfl (fun bq hbq => ?_)
    repeat' (first | refine vd_q tyOk rfl (by first | trivial | rfl) rfl (by kernel_rfl) (by kernel_rfl) ?_ | refine vd_p tyOk rfl (by first | trivial | rfl) rfl (by kernel_rfl) (by kernel_rfl) (by (try simp only [inR]); omega) ?_ | refine vd_skipT rfl rfl (by kernel_rfl) (by kernel_rfl) ?_ | refine vd_skipF rfl rfl (by kernel_rfl) (by kernel_rfl) ?_ | refine vd_skipU rfl rfl (by kernel_rfl) (by kernel_rfl) ?_ | refine vops_nil ?_ | refine vd_nil (by kernel_rfl) ?_ | refine ⟨fun _ _ _ h => h, ?_⟩ | refine ⟨fun _ _ _ h => List.mem_cons_of_mem _ h, ?_⟩ | refine ⟨fun _ _ _ h => List.mem_append_right _ h, ?_⟩ | refine vops_q tyOk rfl ?_ | refine vd_load tyOk rfl (by first | trivial | rfl) rfl rfl rfl (by kernel_rfl) (by kernel_rfl) (by kernel_rfl) (sees_mem (by repeat (first | exact mem_here | apply mem_next | apply mem_past)) (by rfl)) (by repeat (first | exact sub_hereL | exact sub_refl | apply sub_cons | apply sub_app)) ?_ | refine vd_load tyOk rfl (by first | trivial | rfl) rfl rfl rfl (by kernel_rfl) (by kernel_rfl) (by kernel_rfl) (sees_mem (k := ⟨ints _, _, _, none⟩) (by repeat (first | exact mem_here | apply mem_next | apply mem_past)) (by exact ints_get0 (by omega))) (by repeat (first | exact sub_hereL | exact sub_refl | apply sub_cons | apply sub_app)) ?_ | refine vd_loadNM tyOk rfl (by first | trivial | rfl) rfl rfl rfl (by repeat (first | exact mem_here | apply mem_next | apply mem_past)) (by first | rfl | (rw [ints_length]; first | assumption | omega | (rw [ints_length]; first | assumption | omega | simp [*])) | simp [*]) (by kernel_rfl) (by kernel_rfl) (by kernel_rfl) (by repeat (first | exact sub_hereL | exact sub_refl | apply sub_cons | apply sub_app)) ?_ | refine vd_build2 rfl (by first | trivial | rfl) rfl rfl (by kernel_rfl) (by kernel_rfl) (by kernel_rfl) ?_ | refine vd_slice tyOk rfl (by first | trivial | rfl) rfl rfl rfl rfl rfl (by kernel_rfl) (by kernel_rfl) (by omega) ?_ | refine ⟨fun h => Bool.noConfusion (show false = true from h), ?_⟩ | refine ⟨fun _ p hp _ => (show Go.VL.Sub _ _ from (by repeat (first | exact sub_hereL | exact sub_refl | apply sub_cons | apply sub_app))) p hp, ?_⟩ | refine vops_litI [_] tyOk rfl rfl (List.cons_ne_nil _ _) (by rfl) rfl (by omega) (by omega) (fun bt hbt => ?_) | refine vops_loadM tyOk rfl rfl rfl (by repeat (first | exact mem_here | apply mem_next | apply mem_past)) (by rfl) ?_ | refine vops_loadM tyOk rfl rfl rfl (by repeat (first | exact mem_here | apply mem_next | apply mem_past)) (by exact ints_get0 (by omega)) ?_ | refine vops_loadNM tyOk rfl rfl rfl (by repeat (first | exact mem_here | apply mem_next | apply mem_past)) (by first | rfl | (rw [ints_length]; first | assumption | omega | (rw [ints_length]; first | assumption | omega | simp [*])) | simp [*]) ?_ | refine vops_storeIM tyOk rfl rfl rfl rfl (by repeat (first | exact upd_here | apply upd_next | apply upd_past)) (by omega) ?_ | refine vops_storeM tyOk rfl rfl rfl rfl rfl (by repeat (first | exact upd_here | apply upd_next | apply upd_past)) (by simp) ?_ | refine vops_storeAM tyOk rfl rfl rfl (by first | rfl | (rw [ints_length]; first | assumption | omega | (rw [ints_length]; first | assumption | omega | simp [*])) | simp [*]) (by first | exact ints_one | simp [Value.oneCell']) (by repeat (first | exact upd_here | apply upd_next | apply upd_past)) (by first | rfl | (rw [ints_length]; first | assumption | omega | (rw [ints_length]; first | assumption | omega | simp [*])) | simp [*]) ?_ | refine vops_build2 rfl rfl (by kernel_rfl) ?_ | refine vops_buildZ tyOk rfl (by kernel_rfl) ?_ | refine vops_slice tyOk rfl rfl rfl rfl rfl (by omega) ?_ | refine vd_one rfl (by kernel_rfl) (by kernel_rfl) rfl ?_ | refine vd_oneG rfl (by kernel_rfl) (by kernel_rfl) rfl ?_ | (refine vd_gsplit rfl rfl rfl ?_; (fail_if_success (with_reducible (first | refine bs_true ?_ | refine bs_false ?_))); with_reducible refine bs_dec (fun _ => ?_) (fun _ => ?_)) <;> try (exfalso; omega) | (refine vd_gsplit rfl rfl rfl ?_; (fail_if_success (with_reducible (first | refine bs_true ?_ | refine bs_false ?_))); with_reducible refine bs_ndec (fun _ => ?_) (fun _ => ?_)) <;> try (exfalso; omega) | (refine vd_gsplit rfl rfl rfl ?_; (fail_if_success (with_reducible (first | refine bs_true ?_ | refine bs_false ?_))); with_reducible refine bs_nany (fun _ => ?_) (fun _ => ?_)) <;> try (exfalso; omega) | (refine vd_gsplit rfl rfl rfl ?_; (fail_if_success (with_reducible (first | refine bs_true ?_ | refine bs_false ?_))); with_reducible refine bs_any (fun _ => ?_) (fun _ => ?_)) <;> try (exfalso; omega))
    repeat (first | refine vops_q tyOk rfl ?_ | refine vops_nil ?_ | refine vw_seq ?_ | refine vw_region (by kernel_rfl) ?_ | refine vops_guardT rfl rfl ?_ | refine vops_guardF rfl rfl ?_ | refine vops_guardU rfl rfl ?_ | with_reducible refine bs_nbeq rfl ?_ | with_reducible refine bs_true ?_ | with_reducible refine bs_false ?_ | with_reducible refine bs_ntrue ?_ | with_reducible refine bs_nfalse ?_ | refine vops_p tyOk rfl (by (try simp only [inR]); omega) ?_ | refine vw_cond rfl ?_ | refine vw_skip ?_ | refine vw_block ?_ | refine vw_ret ?_ | refine vw_exit ?_ | refine vops_loadM tyOk rfl rfl rfl (by repeat (first | exact mem_here | apply mem_next | apply mem_past)) (by rfl) ?_ | refine vops_loadM tyOk rfl rfl rfl (by repeat (first | exact mem_here | apply mem_next | apply mem_past)) (by exact ints_get0 (by omega)) ?_ | refine vops_loadNM tyOk rfl rfl rfl (by repeat (first | exact mem_here | apply mem_next | apply mem_past)) (by first | rfl | (rw [ints_length]; first | assumption | omega | (rw [ints_length]; first | assumption | omega | simp [*])) | simp [*]) ?_ | refine vops_storeIM tyOk rfl rfl rfl rfl (by repeat (first | exact upd_here | apply upd_next | apply upd_past)) (by omega) ?_ | refine vops_storeM tyOk rfl rfl rfl rfl rfl (by repeat (first | exact upd_here | apply upd_next | apply upd_past)) (by simp) ?_ | refine vops_storeAM tyOk rfl rfl rfl (by first | rfl | (rw [ints_length]; first | assumption | omega | (rw [ints_length]; first | assumption | omega | simp [*])) | simp [*]) (by first | exact ints_one | simp [Value.oneCell']) (by repeat (first | exact upd_here | apply upd_next | apply upd_past)) (by first | rfl | (rw [ints_length]; first | assumption | omega | (rw [ints_length]; first | assumption | omega | simp [*])) | simp [*]) ?_ | refine vops_build2 rfl rfl (by kernel_rfl) ?_ | refine vops_buildZ tyOk rfl (by kernel_rfl) ?_ | refine vops_slice tyOk rfl rfl rfl rfl rfl (by omega) ?_)
    refine vw_loopW (fun m f own => ∃ (l : List Int) (T : Nat) (c : Int) (p : Option Addr) (cp : Nat) (new : Own), Ch n r q a l ∧ m = 15 - l.length ∧ chain r q a = chainGo r q a (16 - l.length) l ∧ c = T ∧ T = (l.length - 1) % 2 ∧ f 13 = .int .i64 c ∧ f 3 = .int .i64 a ∧ f 12 = .slice (some ⟨bq, 0, none⟩) 2 2 ∧ f 11 = .slice p l.length cp ∧ NewI 2 l (.slice p l.length cp) new ∧
        own = new ++ [(bq, ⟨ints (r ++ q), 25, 28, none⟩)]) 14
      ⟨[(bt, ⟨ints [a], 2, 1 * 1, none⟩)] ++ [(bq, ⟨ints (r ++ q), 25, 28, none⟩)], (by repeat (first | exact ole_nil | exact ole_refl | (apply ole_cons; (repeat (first | exact pm1_here | apply pm1_next | apply pm1_past))) | (apply ole_app; (repeat (first | exact pm_here | exact pm_last | apply pm_next | apply pm_past))))), [a], 0, 0, some ⟨bt, 0, none⟩, 1, [(bt, ⟨ints [a], 2, 1 * 1, none⟩)], Ch.one (by omega) (by omega), rfl, rfl, rfl, rfl, rfl, rfl, rfl, rfl, NewI.lit (l := [a]) rfl (Nat.le_refl _) (by simp [maxLen]), rfl⟩ ?_
    rintro m f own ⟨l, T, c, p, cp, new, hCh, rfl, hgo, hcT, hT, h13, h3, h12, h11, hN, rfl⟩
    rw [upd_of h13, upd_of h3, upd_of h12, upd_of h11]
    have hl14 := hCh.length_le hn14
    have hl0 := hCh.ne
    have hlast := hCh.last
    have hmv := mv_ok hr hq (l.length - 1) hlast.1 hlast.2
    obtain ⟨x, hx⟩ : ∃ x, x = mv r q (l.length - 1) (l.getD (l.length - 1) 0) := ⟨_, rfl⟩
    rw [← hx] at hmv
    obtain ⟨bn, rfl, rfl, hc1, hc2, hl1⟩ := NewF.blk (NewI.f hN) hl0
    have hcell : (ints l)[0 + ((l.length : Int) - 1).toNat]? = some (.int .i64 (l.getD (l.length - 1) 0)) := by
      rw [show 0 + ((l.length : Int) - 1).toNat = l.length - 1 by omega]; exact ints_get (by omega)
    have hcell2 : ∀ z, z = 0 + c.toNat * 14 + (l.getD (l.length - 1) 0).toNat → (ints (r ++ q))[z]? = some (.int .i64 x) := fun z hz =>
      two_cell hrl hql (t := l.length - 1) (x := l.getD (l.length - 1) 0) hx hlast.1 (by omega) (by rw [hz, ← hT, hcT]; simp)
    have hT2 : c = 0 ∨ c = 1 := by omega
    repeat (first | refine vops_q tyOk rfl ?_ | refine vops_nil ?_ | refine vw_seq ?_ | refine vw_region (by kernel_rfl) ?_ | refine vops_guardT rfl rfl ?_ | refine vops_guardF rfl rfl ?_ | refine vops_guardU rfl rfl ?_ | with_reducible refine bs_nbeq rfl ?_ | with_reducible refine bs_true ?_ | with_reducible refine bs_false ?_ | with_reducible refine bs_ntrue ?_ | with_reducible refine bs_nfalse ?_ | refine vops_p tyOk rfl (by (try simp only [inR]); omega) ?_ | refine vw_cond rfl ?_ | refine vw_skip ?_ | refine vw_block ?_ | refine vw_ret ?_ | refine vw_exit ?_ | refine vops_loadM tyOk rfl rfl rfl (by repeat (first | exact mem_here | apply mem_next | apply mem_past)) (by exact hcell) ?_ | refine vops_loadM tyOk rfl rfl rfl (by repeat (first | exact mem_here | apply mem_next | apply mem_past)) (by exact hcell2 _ rfl) ?_ | refine vops_loadM tyOk rfl rfl rfl (by repeat (first | exact mem_here | apply mem_next | apply mem_past)) (by rfl) ?_ | refine vops_loadM tyOk rfl rfl rfl (by repeat (first | exact mem_here | apply mem_next | apply mem_past)) (by exact ints_get0 (by omega)) ?_ | refine vops_loadNM tyOk rfl rfl rfl (by repeat (first | exact mem_here | apply mem_next | apply mem_past)) (by first | rfl | (rw [ints_length]; first | assumption | omega | (rw [ints_length]; first | assumption | omega | simp [*])) | simp [*]) ?_ | refine vops_storeIM tyOk rfl rfl rfl rfl (by repeat (first | exact upd_here | apply upd_next | apply upd_past)) (by omega) ?_ | refine vops_storeM tyOk rfl rfl rfl rfl rfl (by repeat (first | exact upd_here | apply upd_next | apply upd_past)) (by simp) ?_ | refine vops_storeAM tyOk rfl rfl rfl (by first | rfl | (rw [ints_length]; first | assumption | omega | (rw [ints_length]; first | assumption | omega | simp [*])) | simp [*]) (by first | exact ints_one | simp [Value.oneCell']) (by repeat (first | exact upd_here | apply upd_next | apply upd_past)) (by first | rfl | (rw [ints_length]; first | assumption | omega | (rw [ints_length]; first | assumption | omega | simp [*])) | simp [*]) ?_ | refine vops_build2 rfl rfl (by kernel_rfl) ?_ | refine vops_buildZ tyOk rfl (by kernel_rfl) ?_ | refine vops_slice tyOk rfl rfl rfl rfl rfl (by omega) ?_)
    refine bs_dec (fun hxa => ?_) (fun hxa => ?_)
    · repeat (first | refine vops_q tyOk rfl ?_ | refine vops_nil ?_ | refine vw_seq ?_ | refine vw_region (by kernel_rfl) ?_ | refine vops_guardT rfl rfl ?_ | refine vops_guardF rfl rfl ?_ | refine vops_guardU rfl rfl ?_ | with_reducible refine bs_nbeq rfl ?_ | with_reducible refine bs_true ?_ | with_reducible refine bs_false ?_ | with_reducible refine bs_ntrue ?_ | with_reducible refine bs_nfalse ?_ | refine vops_p tyOk rfl (by (try simp only [inR]); omega) ?_ | refine vw_cond rfl ?_ | refine vw_skip ?_ | refine vw_block ?_ | refine vw_ret ?_ | refine vw_exit ?_ | refine vops_loadM tyOk rfl rfl rfl (by repeat (first | exact mem_here | apply mem_next | apply mem_past)) (by rfl) ?_ | refine vops_loadM tyOk rfl rfl rfl (by repeat (first | exact mem_here | apply mem_next | apply mem_past)) (by exact ints_get0 (by omega)) ?_ | refine vops_loadNM tyOk rfl rfl rfl (by repeat (first | exact mem_here | apply mem_next | apply mem_past)) (by first | rfl | (rw [ints_length]; first | assumption | omega | (rw [ints_length]; first | assumption | omega | simp [*])) | simp [*]) ?_ | refine vops_storeIM tyOk rfl rfl rfl rfl (by repeat (first | exact upd_here | apply upd_next | apply upd_past)) (by omega) ?_ | refine vops_storeM tyOk rfl rfl rfl rfl rfl (by repeat (first | exact upd_here | apply upd_next | apply upd_past)) (by simp) ?_ | refine vops_storeAM tyOk rfl rfl rfl (by first | rfl | (rw [ints_length]; first | assumption | omega | (rw [ints_length]; first | assumption | omega | simp [*])) | simp [*]) (by first | exact ints_one | simp [Value.oneCell']) (by repeat (first | exact upd_here | apply upd_next | apply upd_past)) (by first | rfl | (rw [ints_length]; first | assumption | omega | (rw [ints_length]; first | assumption | omega | simp [*])) | simp [*]) ?_ | refine vops_build2 rfl rfl (by kernel_rfl) ?_ | refine vops_buildZ tyOk rfl (by kernel_rfl) ?_ | refine vops_slice tyOk rfl rfl rfl rfl rfl (by omega) ?_)
      exact pairI_ok rfl rfl rfl hN (by repeat (first | exact sub_hereL | exact sub_refl | apply sub_cons | apply sub_app)) (by rw [hgood, hgo, chainGo_stop hl14 hx (.inl hxa)])
    repeat (first | refine vops_q tyOk rfl ?_ | refine vops_nil ?_ | refine vw_seq ?_ | refine vw_region (by kernel_rfl) ?_ | refine vops_guardT rfl rfl ?_ | refine vops_guardF rfl rfl ?_ | refine vops_guardU rfl rfl ?_ | with_reducible refine bs_nbeq rfl ?_ | with_reducible refine bs_true ?_ | with_reducible refine bs_false ?_ | with_reducible refine bs_ntrue ?_ | with_reducible refine bs_nfalse ?_ | refine vops_p tyOk rfl (by (try simp only [inR]); omega) ?_ | refine vw_cond rfl ?_ | refine vw_skip ?_ | refine vw_block ?_ | refine vw_ret ?_ | refine vw_exit ?_ | refine vops_loadM tyOk rfl rfl rfl (by repeat (first | exact mem_here | apply mem_next | apply mem_past)) (by rfl) ?_ | refine vops_loadM tyOk rfl rfl rfl (by repeat (first | exact mem_here | apply mem_next | apply mem_past)) (by exact ints_get0 (by omega)) ?_ | refine vops_loadNM tyOk rfl rfl rfl (by repeat (first | exact mem_here | apply mem_next | apply mem_past)) (by first | rfl | (rw [ints_length]; first | assumption | omega | (rw [ints_length]; first | assumption | omega | simp [*])) | simp [*]) ?_ | refine vops_storeIM tyOk rfl rfl rfl rfl (by repeat (first | exact upd_here | apply upd_next | apply upd_past)) (by omega) ?_ | refine vops_storeM tyOk rfl rfl rfl rfl rfl (by repeat (first | exact upd_here | apply upd_next | apply upd_past)) (by simp) ?_ | refine vops_storeAM tyOk rfl rfl rfl (by first | rfl | (rw [ints_length]; first | assumption | omega | (rw [ints_length]; first | assumption | omega | simp [*])) | simp [*]) (by first | exact ints_one | simp [Value.oneCell']) (by repeat (first | exact upd_here | apply upd_next | apply upd_past)) (by first | rfl | (rw [ints_length]; first | assumption | omega | (rw [ints_length]; first | assumption | omega | simp [*])) | simp [*]) ?_ | refine vops_build2 rfl rfl (by kernel_rfl) ?_ | refine vops_buildZ tyOk rfl (by kernel_rfl) ?_ | refine vops_slice tyOk rfl rfl rfl rfl rfl (by omega) ?_)
    refine bs_dec (fun hxl => ?_) (fun hxl => ?_)
    · repeat (first | refine vops_q tyOk rfl ?_ | refine vops_nil ?_ | refine vw_seq ?_ | refine vw_region (by kernel_rfl) ?_ | refine vops_guardT rfl rfl ?_ | refine vops_guardF rfl rfl ?_ | refine vops_guardU rfl rfl ?_ | with_reducible refine bs_nbeq rfl ?_ | with_reducible refine bs_true ?_ | with_reducible refine bs_false ?_ | with_reducible refine bs_ntrue ?_ | with_reducible refine bs_nfalse ?_ | refine vops_p tyOk rfl (by (try simp only [inR]); omega) ?_ | refine vw_cond rfl ?_ | refine vw_skip ?_ | refine vw_block ?_ | refine vw_ret ?_ | refine vw_exit ?_ | refine vops_loadM tyOk rfl rfl rfl (by repeat (first | exact mem_here | apply mem_next | apply mem_past)) (by rfl) ?_ | refine vops_loadM tyOk rfl rfl rfl (by repeat (first | exact mem_here | apply mem_next | apply mem_past)) (by exact ints_get0 (by omega)) ?_ | refine vops_loadNM tyOk rfl rfl rfl (by repeat (first | exact mem_here | apply mem_next | apply mem_past)) (by first | rfl | (rw [ints_length]; first | assumption | omega | (rw [ints_length]; first | assumption | omega | simp [*])) | simp [*]) ?_ | refine vops_storeIM tyOk rfl rfl rfl rfl (by repeat (first | exact upd_here | apply upd_next | apply upd_past)) (by omega) ?_ | refine vops_storeM tyOk rfl rfl rfl rfl rfl (by repeat (first | exact upd_here | apply upd_next | apply upd_past)) (by simp) ?_ | refine vops_storeAM tyOk rfl rfl rfl (by first | rfl | (rw [ints_length]; first | assumption | omega | (rw [ints_length]; first | assumption | omega | simp [*])) | simp [*]) (by first | exact ints_one | simp [Value.oneCell']) (by repeat (first | exact upd_here | apply upd_next | apply upd_past)) (by first | rfl | (rw [ints_length]; first | assumption | omega | (rw [ints_length]; first | assumption | omega | simp [*])) | simp [*]) ?_ | refine vops_build2 rfl rfl (by kernel_rfl) ?_ | refine vops_buildZ tyOk rfl (by kernel_rfl) ?_ | refine vops_slice tyOk rfl rfl rfl rfl rfl (by omega) ?_)
      exact pairI_ok rfl rfl rfl hN (by repeat (first | exact sub_hereL | exact sub_refl | apply sub_cons | apply sub_app)) (by rw [hgood, hgo, chainGo_stop hl14 hx (.inr hxl)])
    · repeat (first | refine vops_q tyOk rfl ?_ | refine vops_nil ?_ | refine vw_seq ?_ | refine vw_region (by kernel_rfl) ?_ | refine vops_guardT rfl rfl ?_ | refine vops_guardF rfl rfl ?_ | refine vops_guardU rfl rfl ?_ | with_reducible refine bs_nbeq rfl ?_ | with_reducible refine bs_true ?_ | with_reducible refine bs_false ?_ | with_reducible refine bs_ntrue ?_ | with_reducible refine bs_nfalse ?_ | refine vops_p tyOk rfl (by (try simp only [inR]); omega) ?_ | refine vw_cond rfl ?_ | refine vw_skip ?_ | refine vw_block ?_ | refine vw_ret ?_ | refine vw_exit ?_ | refine vops_litI [_] tyOk rfl rfl (List.cons_ne_nil _ _) (by rfl) rfl (by omega) (by omega) (fun bt hbt => ?_) | refine vops_append1 (k := 1) tyOk rfl rfl (List.cons_ne_nil _ _) rfl rfl (by decide) rfl hN (by repeat (first | exact pm_here | exact pm_last | apply pm_next | apply pm_past)) rfl (by repeat (first | exact mem_here | apply mem_next | apply mem_past)) rfl (by omega) (fun p' cap' new' hN' => ?_) | refine vops_loadM tyOk rfl rfl rfl (by repeat (first | exact mem_here | apply mem_next | apply mem_past)) (by rfl) ?_ | refine vops_loadM tyOk rfl rfl rfl (by repeat (first | exact mem_here | apply mem_next | apply mem_past)) (by exact ints_get0 (by omega)) ?_ | refine vops_loadNM tyOk rfl rfl rfl (by repeat (first | exact mem_here | apply mem_next | apply mem_past)) (by first | rfl | (rw [ints_length]; first | assumption | omega | (rw [ints_length]; first | assumption | omega | simp [*])) | simp [*]) ?_ | refine vops_storeIM tyOk rfl rfl rfl rfl (by repeat (first | exact upd_here | apply upd_next | apply upd_past)) (by omega) ?_ | refine vops_storeM tyOk rfl rfl rfl rfl rfl (by repeat (first | exact upd_here | apply upd_next | apply upd_past)) (by simp) ?_ | refine vops_storeAM tyOk rfl rfl rfl (by first | rfl | (rw [ints_length]; first | assumption | omega | (rw [ints_length]; first | assumption | omega | simp [*])) | simp [*]) (by first | exact ints_one | simp [Value.oneCell']) (by repeat (first | exact upd_here | apply upd_next | apply upd_past)) (by first | rfl | (rw [ints_length]; first | assumption | omega | (rw [ints_length]; first | assumption | omega | simp [*])) | simp [*]) ?_ | refine vops_build2 rfl rfl (by kernel_rfl) ?_ | refine vops_buildZ tyOk rfl (by kernel_rfl) ?_ | refine vops_slice tyOk rfl rfl rfl rfl rfl (by omega) ?_)
      have hst := chainGo_next hl14 hx (fun h => h.elim hxa hxl)
      have hll : (l ++ [x]).length = l.length + 1 := by simp
      refine ⟨15 - (l ++ [x]).length, by omega, new' ++ [(bq, ⟨ints (r ++ q), 25, 28, none⟩)], (by repeat (first | exact ole_nil | exact ole_refl | (apply ole_cons; (repeat (first | exact pm1_here | apply pm1_next | apply pm1_past))) | (apply ole_app; (repeat (first | exact pm_here | exact pm_last | apply pm_next | apply pm_past))))), l ++ [x], 1 - T, 1 - c, p', cap', new', hCh.snoc hr hq hx hxa hxl, rfl, by rw [hgo, hst], by omega, by omega, rfl, rfl, rfl, ?_, ?_, rfl⟩
      · rw [hll]; rfl
      · rw [hll]; exact NewI.snoc hN' rfl
end Go.Proofs.Ytbnanjkhpeneeaa

/-! What two rounds join. -/
namespace Go.Proofs.Ytbnanjkhpeneeaa
open Go.VL
attribute [local irreducible] VWr VOps VD Calls

/-- The chain is at its end. -/
def Ends (r q : List Int) (a : Int) (l : List Int) : Prop := mv r q (l.length - 1) (l.getD (l.length - 1) 0) = a ∨ mv r q (l.length - 1) (l.getD (l.length - 1) 0) = l.getD (l.length - 1) 0
theorem chainGo_ends {n : Int} {r q : List Int} {a : Int} (hr : IsRd n r) (hq : IsRd n q) : ∀ (f : Nat) (l : List Int), Ch n r q a l → l.length + f = 16 → Ends r q a (chainGo r q a f l)
  | 0, l, h, hf => by have := h.length_le hr.2.1; omega
  | f + 1, l, h, hf => by
    unfold chainGo
    split
    · rename_i hc; exact hc
    · rename_i hc
      refine chainGo_ends hr hq f _ (h.snoc hr hq rfl (fun e => hc (.inl e)) (fun e => hc (.inr e))) ?_
      rw [List.length_append]; simp; omega
theorem chain_ends {n : Int} {r q : List Int} {a : Int} (hr : IsRd n r) (hq : IsRd n q) (h0 : 0 ≤ a) (h1 : a < n) : Ends r q a (chain r q a) := chainGo_ends hr hq 15 [a] (Ch.one h0 h1) rfl
/-- A set of teams that joins do not leave. -/
def Closed (n : Int) (r q : List Int) (S : Int → Prop) : Prop := ∀ x, 0 ≤ x → x < n → S x → S (r.getD x.toNat 0) ∧ S (q.getD x.toNat 0)
theorem mv_even {r q : List Int} {t : Nat} {x : Int} (h : t % 2 = 0) : mv r q t x = r.getD x.toNat 0 := by unfold mv cur; rw [if_pos h]
theorem mv_odd {r q : List Int} {t : Nat} {x : Int} (h : ¬ t % 2 = 0) : mv r q t x = q.getD x.toNat 0 := by unfold mv cur; rw [if_neg h]
theorem mv_swap (r q : List Int) (t : Nat) (x : Int) : mv q r t x = mv r q (t + 1) x := by
  by_cases h : t % 2 = 0
  · rw [mv_even h, mv_odd (by omega)]
  · rw [mv_odd h, mv_even (by omega)]
/-- Both neighbours of what stands in a chain, but for the first one, are in the chain. -/
theorem Ch.near {n : Int} {r q : List Int} (hr : IsRd n r) (hq : IsRd n q) {a : Int} {l : List Int} (h : Ch n r q a l) (he : Ends r q a l) {i : Nat} (hi : i < l.length) :
    mv r q i (l.getD i 0) ∈ l ∧ (0 < i → mv r q (i + 1) (l.getD i 0) ∈ l) := by
  have ha : a ∈ l := by rw [← h.first]; exact getD_mem h.ne
  constructor
  · by_cases hl : i + 1 < l.length
    · rw [← h.step i hl]; exact getD_mem hl
    · have e : i = l.length - 1 := by omega
      subst e
      rcases he with he | he
      · rw [he]; exact ha
      · rw [he]; exact getD_mem hi
  · intro h0
    have h1 := h.step (i - 1) (by omega)
    rw [show i - 1 + 1 = i by omega] at h1
    have hb := h.inn _ (getD_mem (show i - 1 < l.length by omega))
    have h3 := (mv_ok hr hq (i - 1) hb.1 hb.2).2.2
    rw [← h1] at h3
    have : mv r q (i + 1) (l.getD i 0) = mv r q (i - 1) (l.getD i 0) := by unfold mv; rw [cur_par (show (i + 1) % 2 = (i - 1) % 2 by omega)]
    rw [this, h3]; exact getD_mem (by omega)
/-- The teams to which joins lead from a. -/
def InComp (r q : List Int) (a x : Int) : Prop := x ∈ chain r q a ∨ x ∈ chain q r a
instance (r q : List Int) (a x : Int) : Decidable (InComp r q a x) := by unfold InComp; infer_instance
theorem InComp.self {n : Int} {r q : List Int} {a : Int} (hr : IsRd n r) (hq : IsRd n q) (h0 : 0 ≤ a) (h1 : a < n) : InComp r q a a := by
  have h := chain_ch hr hq h0 h1
  exact .inl (by have := getD_mem h.ne; rwa [h.first] at this)
theorem InComp.range {n : Int} {r q : List Int} {a x : Int} (hr : IsRd n r) (hq : IsRd n q) (h0 : 0 ≤ a) (h1 : a < n) (h : InComp r q a x) : 0 ≤ x ∧ x < n := by
  rcases h with h | h
  · exact (chain_ch hr hq h0 h1).inn x h
  · exact (chain_ch hq hr h0 h1).inn x h
theorem mem_at {l : List Int} {x : Int} (h : x ∈ l) : ∃ i, i < l.length ∧ l.getD i 0 = x := by
  obtain ⟨i, hi⟩ := List.mem_iff_getElem?.1 h
  exact ⟨i, (List.getElem?_eq_some_iff.1 hi).1, by rw [List.getD_eq_getElem?_getD, hi]; rfl⟩
theorem comp_half {n : Int} {r q : List Int} {a : Int} (hr : IsRd n r) (hq : IsRd n q) (h0 : 0 ≤ a) (h1 : a < n) {x : Int} (hx : x ∈ chain r q a) (hxa : x ≠ a) : r.getD x.toNat 0 ∈ chain r q a ∧ q.getD x.toNat 0 ∈ chain r q a := by
  have h := chain_ch hr hq h0 h1
  have he := chain_ends hr hq h0 h1
  obtain ⟨i, hi, rfl⟩ := mem_at hx
  have hi0 : 0 < i := by
    rcases Nat.eq_zero_or_pos i with e | e
    · subst e; exact absurd h.first hxa
    · exact e
  obtain ⟨k1, k2⟩ := h.near hr hq he hi
  have k2 := k2 hi0
  by_cases hp : i % 2 = 0
  · rw [mv_even hp] at k1; rw [mv_odd (by omega)] at k2; exact ⟨k1, k2⟩
  · rw [mv_odd hp] at k1; rw [mv_even (by omega)] at k2; exact ⟨k2, k1⟩
theorem comp_first {n : Int} {r q : List Int} {a : Int} (hr : IsRd n r) (hq : IsRd n q) (h0 : 0 ≤ a) (h1 : a < n) : r.getD a.toNat 0 ∈ chain r q a := by
  have h := chain_ch hr hq h0 h1
  have he := chain_ends hr hq h0 h1
  have k1 := (h.near hr hq he h.ne).1
  rw [h.first, mv_even rfl] at k1
  exact k1
theorem comp_closed {n : Int} {r q : List Int} {a : Int} (hr : IsRd n r) (hq : IsRd n q) (h0 : 0 ≤ a) (h1 : a < n) : Closed n r q (InComp r q a) := by
  intro x _ _ hx
  by_cases hxa : x = a
  · subst hxa
    exact ⟨.inl (comp_first hr hq h0 h1), .inr (comp_first hq hr h0 h1)⟩
  · rcases hx with hx | hx
    · have := comp_half hr hq h0 h1 hx hxa; exact ⟨.inl this.1, .inl this.2⟩
    · have := comp_half hq hr h0 h1 hx hxa; exact ⟨.inr this.2, .inr this.1⟩
theorem Ch.least {n : Int} {r q : List Int} {a : Int} {l : List Int} (h : Ch n r q a l) {S : Int → Prop} (hS : Closed n r q S) (ha : S a) : ∀ i, i < l.length → S (l.getD i 0)
  | 0, _ => by rw [h.first]; exact ha
  | i + 1, hi => by
    have ih := Ch.least h hS ha i (by omega)
    have hb := h.inn _ (getD_mem (show i < l.length by omega))
    have := hS _ hb.1 hb.2 ih
    rw [h.step i hi]
    by_cases hp : i % 2 = 0
    · rw [mv_even hp]; exact this.1
    · rw [mv_odd hp]; exact this.2
theorem comp_least {n : Int} {r q : List Int} {a : Int} (hr : IsRd n r) (hq : IsRd n q) (h0 : 0 ≤ a) (h1 : a < n) {S : Int → Prop} (hS : Closed n r q S) (ha : S a) {x : Int} (hx : InComp r q a x) : S x := by
  rcases hx with hx | hx
  · obtain ⟨i, hi, rfl⟩ := mem_at hx
    exact (chain_ch hr hq h0 h1).least hS ha i hi
  · obtain ⟨i, hi, rfl⟩ := mem_at hx
    exact (chain_ch hq hr h0 h1).least (fun x a b c => (hS x a b c).symm) ha i hi
theorem Closed.back {n : Int} {r q : List Int} (hr : IsRd n r) (hq : IsRd n q) {S : Int → Prop} (hS : Closed n r q S) {x : Int} (h0 : 0 ≤ x) (h1 : x < n) : (S (r.getD x.toNat 0) → S x) ∧ (S (q.getD x.toNat 0) → S x) := by
  have a1 := mv_ok hr hq 0 h0 h1
  have a2 := mv_ok hr hq 1 h0 h1
  rw [mv_even rfl] at a1
  rw [mv_odd (by decide)] at a2
  constructor
  · intro h
    have := (hS _ a1.1 a1.2.1 h).1
    rw [mv_even rfl] at a1
    rwa [a1.2.2] at this
  · intro h
    have := (hS _ a2.1 a2.2.1 h).2
    rw [mv_odd (by decide)] at a2
    rwa [a2.2.2] at this

/-! sorted lists -/
theorem asc_ext : ∀ {l m : List Int}, l.Pairwise (· < ·) → m.Pairwise (· < ·) → (∀ x, x ∈ l ↔ x ∈ m) → l = m
  | [], [], _, _, _ => rfl
  | [], y :: m, _, _, h => by have := (h y).2 (by simp); simp at this
  | x :: l, [], _, _, h => by have := (h x).1 (by simp); simp at this
  | x :: l, y :: m, hl, hm, h => by
    have hl' := List.pairwise_cons.1 hl
    have hm' := List.pairwise_cons.1 hm
    have hxy : x = y := by
      have h1 := (h x).1 (by simp)
      have h2 := (h y).2 (by simp)
      rcases List.mem_cons.1 h1 with e | e
      · exact e
      · rcases List.mem_cons.1 h2 with e2 | e2
        · exact e2.symm
        · have := hl'.1 y e2
          have := hm'.1 x e
          omega
    subst hxy
    rw [asc_ext hl'.2 hm'.2 fun z => ?_]
    constructor
    · intro hz
      rcases List.mem_cons.1 ((h z).1 (by simp [hz])) with e | e
      · subst e; have := hl'.1 z hz; omega
      · exact e
    · intro hz
      rcases List.mem_cons.1 ((h z).2 (by simp [hz])) with e | e
      · subst e; have := hm'.1 z hz; omega
      · exact e
theorem range_asc (n : Nat) : ((List.range n).map fun (i : Nat) => (i : Int)).Pairwise (· < ·) := by
  rw [List.pairwise_map]
  exact List.pairwise_lt_range.imp fun h => by omega
/-- The component of a, ascending. -/
def compOf (n : Int) (r q : List Int) (a : Int) : List Int := ((List.range n.toNat).map fun (i : Nat) => (i : Int)).filter fun x => decide (InComp r q a x)
theorem compOf_asc (n : Int) (r q : List Int) (a : Int) : (compOf n r q a).Pairwise (· < ·) := (range_asc _).filter _
theorem mem_compOf {n : Int} {r q : List Int} {a : Int} (hr : IsRd n r) (hq : IsRd n q) (h0 : 0 ≤ a) (h1 : a < n) {x : Int} : x ∈ compOf n r q a ↔ InComp r q a x := by
  unfold compOf
  rw [List.mem_filter, decide_eq_true_eq]
  refine ⟨fun h => h.2, fun h => ⟨?_, h⟩⟩
  have := InComp.range hr hq h0 h1 h
  exact List.mem_map.2 ⟨x.toNat, List.mem_range.2 (by omega), by omega⟩
theorem compOf_length (n : Int) (r q : List Int) (a : Int) : (compOf n r q a).length ≤ n.toNat := by
  have := List.length_filter_le (fun x => decide (InComp r q a x)) ((List.range n.toNat).map fun (i : Nat) => (i : Int))
  simpa [compOf] using this
/-- The components, as far as the team i. -/
def comps (n : Int) (r q : List Int) : Nat → List (List Int)
  | 0 => []
  | i + 1 => if ∃ c ∈ comps n r q i, (i : Int) ∈ c then comps n r q i else comps n r q i ++ [compOf n r q i]
theorem comps_length (n : Int) (r q : List Int) : ∀ i, (comps n r q i).length ≤ i
  | 0 => Nat.le_refl _
  | i + 1 => by
    have := comps_length n r q i
    unfold comps
    split
    · omega
    · rw [List.length_append]; simp; omega
theorem comps_mem {n : Int} {r q : List Int} : ∀ {i : Nat} {c : List Int}, c ∈ comps n r q i → ∃ a : Nat, a < i ∧ c = compOf n r q a
  | 0, c, h => by simp [comps] at h
  | i + 1, c, h => by
    unfold comps at h
    split at h
    · obtain ⟨a, h1, h2⟩ := comps_mem h; exact ⟨a, by omega, h2⟩
    · rcases List.mem_append.1 h with h | h
      · obtain ⟨a, h1, h2⟩ := comps_mem h; exact ⟨a, by omega, h2⟩
      · exact ⟨i, by omega, by simpa using h⟩
/-- What the components so far have. -/
def Met (n : Int) (r q : List Int) (i : Nat) (x : Int) : Prop := ∃ c ∈ comps n r q i, x ∈ c
theorem met_closed {n : Int} {r q : List Int} (hr : IsRd n r) (hq : IsRd n q) {i : Nat} (hi : (i : Int) ≤ n) : Closed n r q (Met n r q i) := by
  intro x h0 h1 ⟨c, hc, hx⟩
  obtain ⟨a, ha, rfl⟩ := comps_mem hc
  have hx' := (mem_compOf hr hq (a := a) (by omega) (by omega)).1 hx
  have := comp_closed hr hq (a := a) (by omega) (by omega) x h0 h1 hx'
  exact ⟨⟨_, hc, (mem_compOf hr hq (by omega) (by omega)).2 this.1⟩, ⟨_, hc, (mem_compOf hr hq (by omega) (by omega)).2 this.2⟩⟩
end Go.Proofs.Ytbnanjkhpeneeaa

