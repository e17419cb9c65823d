import Derived.Test.YtabccmngdhgdfaaP13
import Derived.Test.YtabccmngdhgdfaaP3
import Derived.Test.YtabccmngdhgdfaaVLLol
import Derived.Test.YtabccmngdhgdfaaVLArr
import Derived.Test.YtabccmngdhgdfaaP21
import Derived.Shelf.SlGeneric
import Derived.Ground.SlgnProg
import Derived.Shelf.SortG.Plain
import Derived.Shelf.SortG.SortNone
import Derived.Shelf.SlicesG.CompactI
import Derived.Shelf.SlicesG.Turned
import Derived.Test.YtabccmngdhgdfaaTab
import Derived.Sort.Grow
import Derived.Lib.RowBridge
import Derived.Scope
import Derived.Test.YtabccmngdhgdfaaP28
import Derived.Test.YtabccmngdhgdfaaVLAlloc
/- Parts of the proof, one after another. No conditions of their own. -/
/- A part of the proof: P30. No conditions of its own. -/
namespace Go.Proofs.Ytabccmngdhgdfaa
open Go.VL
attribute [local irreducible] VWr VOps VD Calls

/-- The round whose turn it is, and the other one. -/
def cur (r q : List Int) (t : Nat) : List Int := if t % 2 = 0 then r else q
def oth (r q : List Int) (t : Nat) : List Int := if t % 2 = 0 then q else r
theorem cur_next (r q : List Int) (t : Nat) : cur r q (t + 1) = oth r q t := by
  unfold cur oth; by_cases h : t % 2 = 0
  · rw [if_pos h, if_neg (by omega)]
  · rw [if_neg h, if_pos (by omega)]
theorem oth_next (r q : List Int) (t : Nat) : oth r q (t + 1) = cur r q t := by
  unfold cur oth; by_cases h : t % 2 = 0
  · rw [if_pos h, if_neg (by omega)]
  · rw [if_neg h, if_pos (by omega)]
theorem cur_par {r q : List Int} {t s : Nat} (h : t % 2 = s % 2) : cur r q t = cur r q s := by unfold cur; rw [h]
theorem cur_length {r q : List Int} (hr : r.length = 14) (hq : q.length = 14) (t : Nat) : (cur r q t).length = 14 := by unfold cur; split <;> assumption
theorem oth_length {r q : List Int} (hr : r.length = 14) (hq : q.length = 14) (t : Nat) : (oth r q t).length = 14 := by unfold oth; split <;> assumption
def mv (r q : List Int) (t : Nat) (x : Int) : Int := (cur r q t).getD x.toNat 0
theorem mv_ok {n : Int} {r q : List Int} (hr : IsRd n r) (hq : IsRd n q) (t : Nat) {x : Int} (h0 : 0 ≤ x) (h1 : x < n) : 0 ≤ mv r q t x ∧ mv r q t x < n ∧ mv r q t (mv r q t x) = x := by
  have hc : IsRd n (cur r q t) := by unfold cur; split <;> assumption
  have h14 := hc.2.1
  have := (hc.2.2 x.toNat (by omega)).2 (by omega)
  unfold mv
  refine ⟨this.1, by omega, ?_⟩
  rw [this.2.2]; omega
/-- A chain of a, as far as it has come. -/
structure Ch (n : Int) (r q : List Int) (a : Int) (l : List Int) : Prop where
  ne : 0 < l.length
  first : l.getD 0 0 = a
  inn : ∀ x ∈ l, 0 ≤ x ∧ x < n
  step : ∀ i, i + 1 < l.length → l.getD (i + 1) 0 = mv r q i (l.getD i 0)
  nodup : l.Nodup
theorem getD_mem {l : List Int} {i : Nat} (h : i < l.length) : l.getD i 0 ∈ l := by
  rw [List.getD_eq_getElem?_getD, List.getElem?_eq_getElem h]; exact List.getElem_mem _
theorem getD_inj {l : List Int} (hn : l.Nodup) {i j : Nat} (hi : i < l.length) (hj : j < l.length) (h : l.getD i 0 = l.getD j 0) : i = j := by
  refine (List.getElem?_inj hi hn).1 ?_
  rw [List.getD_eq_getElem?_getD, List.getD_eq_getElem?_getD, List.getElem?_eq_getElem hi, List.getElem?_eq_getElem hj] at h
  rw [List.getElem?_eq_getElem hi, List.getElem?_eq_getElem hj]
  exact congrArg some h
theorem Ch.last {n : Int} {r q : List Int} {a : Int} {l : List Int} (h : Ch n r q a l) : 0 ≤ l.getD (l.length - 1) 0 ∧ l.getD (l.length - 1) 0 < n := h.inn _ (getD_mem (by have := h.ne; omega))
theorem getD_app {l : List Int} {x : Int} {i : Nat} (h : i < l.length) : (l ++ [x]).getD i 0 = l.getD i 0 := by
  rw [List.getD_eq_getElem?_getD, List.getElem?_append_left h, ← List.getD_eq_getElem?_getD]
theorem getD_end {l : List Int} {x : Int} {i : Nat} (h : i = l.length) : (l ++ [x]).getD i 0 = x := by
  subst h; rw [List.getD_eq_getElem?_getD, List.getElem?_append_right (Nat.le_refl _), Nat.sub_self]; rfl
theorem Ch.snoc {n : Int} {r q : List Int} (hr : IsRd n r) (hq : IsRd n q) {a x : Int} {l : List Int} (h : Ch n r q a l) (hx : x = mv r q (l.length - 1) (l.getD (l.length - 1) 0)) (hxa : x ≠ a) (hxl : x ≠ l.getD (l.length - 1) 0) : Ch n r q a (l ++ [x]) := by
  have hne := h.ne
  have hlast := h.last
  have hmv := mv_ok hr hq (l.length - 1) hlast.1 hlast.2
  have hnot : x ∉ l := fun hm => by
    obtain ⟨k, hk⟩ := List.mem_iff_getElem?.1 hm
    have hkl := (List.getElem?_eq_some_iff.1 hk).1
    have hkd : l.getD k 0 = x := by rw [List.getD_eq_getElem?_getD, hk]; rfl
    have hk0 : k ≠ 0 := fun e => hxa (by rw [← hkd, e, h.first])
    have hkm : k ≠ l.length - 1 := fun e => hxl (by rw [← hkd, e])
    have hback : mv r q (l.length - 1) x = l.getD (l.length - 1) 0 := by rw [hx]; exact hmv.2.2
    by_cases hp : (l.length - 1) % 2 = k % 2
    · have h1 := h.step k (by omega)
      have h2 : mv r q k (l.getD k 0) = l.getD (l.length - 1) 0 := by rw [hkd, ← hback]; unfold mv; rw [cur_par hp]
      have := getD_inj h.nodup (show k + 1 < l.length by omega) (show l.length - 1 < l.length by omega) (h1.trans h2)
      omega
    · have h1 := h.step (k - 1) (by omega)
      rw [show k - 1 + 1 = k by omega] at h1
      have hb := h.inn _ (getD_mem (show k - 1 < l.length by omega))
      have h3 := (mv_ok hr hq (k - 1) hb.1 hb.2).2.2
      rw [← h1, hkd] at h3
      have h4 : mv r q (k - 1) x = l.getD (l.length - 1) 0 := by rw [← hback]; unfold mv; rw [cur_par (show (k - 1) % 2 = (l.length - 1) % 2 by omega)]
      have := getD_inj h.nodup (show k - 1 < l.length by omega) (show l.length - 1 < l.length by omega) (h3.symm.trans h4)
      omega
  refine ⟨by simp, by rw [getD_app hne]; exact h.first, fun y hy => ?_, fun i hi => ?_, ?_⟩
  · rcases List.mem_append.1 hy with hy | hy
    · exact h.inn y hy
    · have : y = x := by simpa using hy
      rw [this, hx]; exact ⟨hmv.1, hmv.2.1⟩
  · rw [List.length_append] at hi
    simp only [List.length_cons, List.length_nil] at hi
    by_cases hil : i + 1 < l.length
    · rw [getD_app hil, getD_app (by omega)]; exact h.step i hil
    · rw [getD_end (by omega), getD_app (by omega), hx]
      rw [show l.length - 1 = i by omega]
  · rw [List.nodup_append]
    refine ⟨h.nodup, by simp, fun y hy z hz e => ?_⟩
    have : z = x := by simpa using hz
    subst this; subst e; exact hnot hy
theorem pigeon : ∀ (n : Nat) (l : List Int), l.Nodup → (∀ x ∈ l, 0 ≤ x ∧ x < (n : Int)) → l.length ≤ n
  | 0, l, _, h => by
    match l, h with
    | [], _ => exact Nat.le_refl _
    | x :: l, h => have := h x (by simp); omega
  | n + 1, l, hn, h => by
    by_cases hm : (n : Int) ∈ l
    · have h1 := pigeon n (l.erase (n : Int)) (hn.erase _) (fun x hx => by
        have hx2 := (hn.mem_erase_iff).1 hx
        have := h x hx2.2
        have hne := hx2.1
        omega)
      rw [List.length_erase_of_mem hm] at h1
      omega
    · have := pigeon n l hn (fun x hx => by
        have h1 := h x hx
        have h2 : x ≠ n := fun e => hm (e ▸ hx)
        omega)
      omega
theorem Ch.length_le {n : Int} {r q : List Int} {a : Int} {l : List Int} (h : Ch n r q a l) (hn : n ≤ 14) : l.length ≤ 14 := by
  have := pigeon n.toNat l h.nodup (fun x hx => by have := h.inn x hx; omega)
  omega
def chainGo (r q : List Int) (a : Int) : Nat → List Int → List Int
  | 0, l => l
  | f + 1, l => if mv r q (l.length - 1) (l.getD (l.length - 1) 0) = a ∨ mv r q (l.length - 1) (l.getD (l.length - 1) 0) = l.getD (l.length - 1) 0 then l else chainGo r q a f (l ++ [mv r q (l.length - 1) (l.getD (l.length - 1) 0)])
/-- The chain of a. -/
def chain (r q : List Int) (a : Int) : List Int := chainGo r q a 15 [a]
theorem chainGo_stop {r q : List Int} {a x : Int} {l : List Int} (hl : l.length ≤ 14) (hx : x = mv r q (l.length - 1) (l.getD (l.length - 1) 0)) (h : x = a ∨ x = l.getD (l.length - 1) 0) : chainGo r q a (16 - l.length) l = l := by
  rw [show 16 - l.length = (15 - l.length) + 1 by omega, chainGo, ← hx, if_pos h]
theorem chainGo_next {r q : List Int} {a x : Int} {l : List Int} (hl : l.length ≤ 14) (hx : x = mv r q (l.length - 1) (l.getD (l.length - 1) 0)) (h : ¬ (x = a ∨ x = l.getD (l.length - 1) 0)) : chainGo r q a (16 - l.length) l = chainGo r q a (16 - (l ++ [x]).length) (l ++ [x]) := by
  rw [show 16 - l.length = (15 - l.length) + 1 by omega, chainGo, ← hx, if_neg h]
  congr 1
  rw [List.length_append]; simp
theorem Ch.one {n : Int} {r q : List Int} {a : Int} (h0 : 0 ≤ a) (h1 : a < n) : Ch n r q a [a] := ⟨by simp, rfl, fun x hx => by
  have : x = a := by simpa using hx
  subst this; exact ⟨h0, h1⟩, fun i hi => by simp at hi, by simp⟩
theorem chainGo_ch {n : Int} {r q : List Int} {a : Int} (hr : IsRd n r) (hq : IsRd n q) : ∀ (f : Nat) (l : List Int), Ch n r q a l → Ch n r q a (chainGo r q a f l)
  | 0, l, h => h
  | f + 1, l, h => by
    unfold chainGo
    split
    · exact h
    · rename_i hc
      exact chainGo_ch hr hq f _ (h.snoc hr hq rfl (fun e => hc (.inl e)) (fun e => hc (.inr e)))
theorem chain_ch {n : Int} {r q : List Int} {a : Int} (hr : IsRd n r) (hq : IsRd n q) (h0 : 0 ≤ a) (h1 : a < n) : Ch n r q a (chain r q a) := chainGo_ch hr hq _ _ (Ch.one h0 h1)

set_option maxHeartbeats 2000000 in
set_option maxRecDepth 100000 in
theorem c_chainOf (n : Int) (r q : List Int) (a : Int) (hr : IsRd n r) (hq : IsRd n q) (h0 : 0 ≤ a) (h1 : a < n) (hrl : r.length = 14) (hql : q.length = 14) (w : World) :
    Calls Try.prog 88 [.agg (ints r).toArray, .agg (ints q).toArray, .int .i64 a].toArray w (Res w (NewI 2 (chain r q a))) := by
  have hn14 := hr.2.1
  refine calls_of_vw Try.func88 rfl Try.ntmps88 (by simp) ?_
  refine vw_seq (vw_region (by kernel_rfl) (vops_box (ints r) rfl (fun b3 hb3 => ?_)))
  refine vops_box (ints q) rfl (fun b4 hb4 => ?_)
  repeat (first | refine vops_q tyOk rfl ?_ | refine vops_nil ?_ | refine vw_seq ?_ | refine vw_region (by kernel_rfl) ?_ | refine vops_guardT rfl rfl ?_ | refine vops_guardF rfl rfl ?_ | refine vops_guardU rfl rfl ?_ | with_reducible refine bs_nbeq rfl ?_ | with_reducible refine bs_true ?_ | with_reducible refine bs_false ?_ | with_reducible refine bs_ntrue ?_ | with_reducible refine bs_nfalse ?_ | refine vops_p tyOk rfl (by (try simp only [inR]); omega) ?_ | refine vw_cond rfl ?_ | refine vw_skip ?_ | refine vw_block ?_ | refine vw_ret ?_ | refine vw_exit ?_ | refine vops_litI [_] tyOk rfl rfl (List.cons_ne_nil _ _) (by rfl) rfl (by omega) (by omega) (fun bt hbt => ?_) | refine vops_loadM tyOk rfl rfl rfl (by repeat (first | exact mem_here | apply mem_next | apply mem_past)) (by rfl) ?_ | refine vops_loadM tyOk rfl rfl rfl (by repeat (first | exact mem_here | apply mem_next | apply mem_past)) (by exact ints_get0 (by omega)) ?_ | refine vops_loadNM tyOk rfl rfl rfl (by repeat (first | exact mem_here | apply mem_next | apply mem_past)) (by first | rfl | (rw [ints_length]; first | assumption | omega | (rw [ints_length]; first | assumption | omega | simp [*])) | simp [*]) ?_ | refine vops_storeIM tyOk rfl rfl rfl rfl (by repeat (first | exact upd_here | apply upd_next | apply upd_past)) (by omega) ?_ | refine vops_storeM tyOk rfl rfl rfl rfl rfl (by repeat (first | exact upd_here | apply upd_next | apply upd_past)) (by simp) ?_ | refine vops_storeAM tyOk rfl rfl rfl (by first | rfl | (rw [ints_length]; first | assumption | omega | (rw [ints_length]; first | assumption | omega | simp [*])) | simp [*]) (by first | exact ints_one | simp [Value.oneCell']) (by repeat (first | exact upd_here | apply upd_next | apply upd_past)) (by first | rfl | (rw [ints_length]; first | assumption | omega | (rw [ints_length]; first | assumption | omega | simp [*])) | simp [*]) ?_ | refine vops_build2 rfl rfl (by kernel_rfl) ?_ | refine vops_buildZ tyOk rfl (by kernel_rfl) ?_ | refine vops_slice tyOk rfl rfl rfl rfl rfl (by omega) ?_)
  refine vw_loopW (fun m f own => ∃ (l R Q : List Int) (x : Int) (p : Option Addr) (cp : Nat) (new : Own), Ch n r q a l ∧ m = 15 - l.length ∧ chain r q a = chainGo r q a (16 - l.length) l ∧ R = cur r q (l.length - 1) ∧ Q = oth r q (l.length - 1) ∧ x = mv r q (l.length - 1) (l.getD (l.length - 1) 0) ∧
      f 8 = .int .i64 x ∧ f 2 = .int .i64 a ∧ f 3 = .pointer (some ⟨b3, 0, none⟩) ∧ f 4 = .pointer (some ⟨b4, 0, none⟩) ∧ f 7 = .slice p l.length cp ∧ NewI 2 l (.slice p l.length cp) new ∧
      own = new ++ [(b4, ⟨ints Q, 25, 14, none⟩), (b3, ⟨ints R, 25, 14, none⟩)]) 14
    ⟨_, ole_refl, [a], r, q, r.getD a.toNat 0, _, _, [_], Ch.one h0 h1, rfl, rfl, rfl, rfl, rfl, rfl, rfl, rfl, rfl, rfl, NewI.lit (l := [a]) rfl (Nat.le_refl _) (by simp [maxLen]), by rw [ints_length, ints_length, hrl, hql]; rfl⟩ ?_
  rintro m f own ⟨l, R, Q, x, p, cp, new, hCh, rfl, hgo, hR, hQ, hx, h8, h2, h3, h4, h7, hN, rfl⟩
  rw [upd_of h8, upd_of h2, upd_of h3, upd_of h4, upd_of h7]
  have hl14 := hCh.length_le hn14
  have hl0 := hCh.ne
  have hlast := hCh.last
  have hmv := mv_ok hr hq (l.length - 1) hlast.1 hlast.2
  rw [← hx] at hmv
  obtain ⟨bn, rfl, rfl, hc1, hc2, hl1⟩ := NewF.blk (NewI.f hN) hl0
  have hRl : R.length = 14 := by rw [hR]; exact cur_length hrl hql _
  have hQl : Q.length = 14 := by rw [hQ]; exact oth_length hrl hql _
  have hlen : ((l.length : Int) - 1).toNat = l.length - 1 := by omega
  have hcell : (ints l)[0 + ((l.length : Int) - 1).toNat]? = some (.int .i64 (l.getD (l.length - 1) 0)) := by
    rw [show 0 + ((l.length : Int) - 1).toNat = l.length - 1 by omega]; exact ints_get (by omega)
  repeat (first | refine vops_q tyOk rfl ?_ | refine vops_nil ?_ | refine vw_seq ?_ | refine vw_region (by kernel_rfl) ?_ | refine vops_guardT rfl rfl ?_ | refine vops_guardF rfl rfl ?_ | refine vops_guardU rfl rfl ?_ | with_reducible refine bs_nbeq rfl ?_ | with_reducible refine bs_true ?_ | with_reducible refine bs_false ?_ | with_reducible refine bs_ntrue ?_ | with_reducible refine bs_nfalse ?_ | refine vops_p tyOk rfl (by (try simp only [inR]); omega) ?_ | refine vw_cond rfl ?_ | refine vw_skip ?_ | refine vw_block ?_ | refine vw_ret ?_ | refine vw_exit ?_ | refine vops_loadM tyOk rfl rfl rfl (by repeat (first | exact mem_here | apply mem_next | apply mem_past)) (by rfl) ?_ | refine vops_loadM tyOk rfl rfl rfl (by repeat (first | exact mem_here | apply mem_next | apply mem_past)) (by exact ints_get0 (by omega)) ?_ | refine vops_loadNM tyOk rfl rfl rfl (by repeat (first | exact mem_here | apply mem_next | apply mem_past)) (by first | rfl | (rw [ints_length]; first | assumption | omega | (rw [ints_length]; first | assumption | omega | simp [*])) | simp [*]) ?_ | refine vops_storeIM tyOk rfl rfl rfl rfl (by repeat (first | exact upd_here | apply upd_next | apply upd_past)) (by omega) ?_ | refine vops_storeM tyOk rfl rfl rfl rfl rfl (by repeat (first | exact upd_here | apply upd_next | apply upd_past)) (by simp) ?_ | refine vops_storeAM tyOk rfl rfl rfl (by first | rfl | (rw [ints_length]; first | assumption | omega | (rw [ints_length]; first | assumption | omega | simp [*])) | simp [*]) (by first | exact ints_one | simp [Value.oneCell']) (by repeat (first | exact upd_here | apply upd_next | apply upd_past)) (by first | rfl | (rw [ints_length]; first | assumption | omega | (rw [ints_length]; first | assumption | omega | simp [*])) | simp [*]) ?_ | refine vops_build2 rfl rfl (by kernel_rfl) ?_ | refine vops_buildZ tyOk rfl (by kernel_rfl) ?_ | refine vops_slice tyOk rfl rfl rfl rfl rfl (by omega) ?_)
  refine bs_ndec2 (fun hxa => ?_) (fun hxa => ?_)
  · repeat (first | refine vops_q tyOk rfl ?_ | refine vops_nil ?_ | refine vw_seq ?_ | refine vw_region (by kernel_rfl) ?_ | refine vops_guardT rfl rfl ?_ | refine vops_guardF rfl rfl ?_ | refine vops_guardU rfl rfl ?_ | with_reducible refine bs_nbeq rfl ?_ | with_reducible refine bs_true ?_ | with_reducible refine bs_false ?_ | with_reducible refine bs_ntrue ?_ | with_reducible refine bs_nfalse ?_ | refine vops_p tyOk rfl (by (try simp only [inR]); omega) ?_ | refine vw_cond rfl ?_ | refine vw_skip ?_ | refine vw_block ?_ | refine vw_ret ?_ | refine vw_exit ?_ | refine vops_loadM tyOk rfl rfl rfl (by repeat (first | exact mem_here | apply mem_next | apply mem_past)) (by exact hcell) ?_ | refine vops_loadM tyOk rfl rfl rfl (by repeat (first | exact mem_here | apply mem_next | apply mem_past)) (by rfl) ?_ | refine vops_loadM tyOk rfl rfl rfl (by repeat (first | exact mem_here | apply mem_next | apply mem_past)) (by exact ints_get0 (by omega)) ?_ | refine vops_loadNM tyOk rfl rfl rfl (by repeat (first | exact mem_here | apply mem_next | apply mem_past)) (by first | rfl | (rw [ints_length]; first | assumption | omega | (rw [ints_length]; first | assumption | omega | simp [*])) | simp [*]) ?_ | refine vops_storeIM tyOk rfl rfl rfl rfl (by repeat (first | exact upd_here | apply upd_next | apply upd_past)) (by omega) ?_ | refine vops_storeM tyOk rfl rfl rfl rfl rfl (by repeat (first | exact upd_here | apply upd_next | apply upd_past)) (by simp) ?_ | refine vops_storeAM tyOk rfl rfl rfl (by first | rfl | (rw [ints_length]; first | assumption | omega | (rw [ints_length]; first | assumption | omega | simp [*])) | simp [*]) (by first | exact ints_one | simp [Value.oneCell']) (by repeat (first | exact upd_here | apply upd_next | apply upd_past)) (by first | rfl | (rw [ints_length]; first | assumption | omega | (rw [ints_length]; first | assumption | omega | simp [*])) | simp [*]) ?_ | refine vops_build2 rfl rfl (by kernel_rfl) ?_ | refine vops_buildZ tyOk rfl (by kernel_rfl) ?_ | refine vops_slice tyOk rfl rfl rfl rfl rfl (by omega) ?_)
    refine bs_ndec2 (fun hxl => ?_) (fun hxl => ?_)
    · repeat (first | refine vops_q tyOk rfl ?_ | refine vops_nil ?_ | refine vw_seq ?_ | refine vw_region (by kernel_rfl) ?_ | refine vops_guardT rfl rfl ?_ | refine vops_guardF rfl rfl ?_ | refine vops_guardU rfl rfl ?_ | with_reducible refine bs_nbeq rfl ?_ | with_reducible refine bs_true ?_ | with_reducible refine bs_false ?_ | with_reducible refine bs_ntrue ?_ | with_reducible refine bs_nfalse ?_ | refine vops_p tyOk rfl (by (try simp only [inR]); omega) ?_ | refine vw_cond rfl ?_ | refine vw_skip ?_ | refine vw_block ?_ | refine vw_ret ?_ | refine vw_exit ?_ | refine vops_litI [_] tyOk rfl rfl (List.cons_ne_nil _ _) (by rfl) rfl (by omega) (by omega) (fun bt hbt => ?_) | refine vops_append1 (k := 1) tyOk rfl rfl (List.cons_ne_nil _ _) rfl rfl (by decide) rfl hN (by repeat (first | exact pm_here | exact pm_last | apply pm_next | apply pm_past)) rfl (by repeat (first | exact mem_here | apply mem_next | apply mem_past)) rfl (by omega) (fun p' cap' new' hN' => ?_) | refine vops_loadM tyOk rfl rfl rfl (by repeat (first | exact mem_here | apply mem_next | apply mem_past)) (by rfl) ?_ | refine vops_loadM tyOk rfl rfl rfl (by repeat (first | exact mem_here | apply mem_next | apply mem_past)) (by exact ints_get0 (by omega)) ?_ | refine vops_loadNM tyOk rfl rfl rfl (by repeat (first | exact mem_here | apply mem_next | apply mem_past)) (by first | rfl | (rw [ints_length]; first | assumption | omega | (rw [ints_length]; first | assumption | omega | simp [*])) | simp [*]) ?_ | refine vops_storeIM tyOk rfl rfl rfl rfl (by repeat (first | exact upd_here | apply upd_next | apply upd_past)) (by omega) ?_ | refine vops_storeM tyOk rfl rfl rfl rfl rfl (by repeat (first | exact upd_here | apply upd_next | apply upd_past)) (by simp) ?_ | refine vops_storeAM tyOk rfl rfl rfl (by first | rfl | (rw [ints_length]; first | assumption | omega | (rw [ints_length]; first | assumption | omega | simp [*])) | simp [*]) (by first | exact ints_one | simp [Value.oneCell']) (by repeat (first | exact upd_here | apply upd_next | apply upd_past)) (by first | rfl | (rw [ints_length]; first | assumption | omega | (rw [ints_length]; first | assumption | omega | simp [*])) | simp [*]) ?_ | refine vops_build2 rfl rfl (by kernel_rfl) ?_ | refine vops_buildZ tyOk rfl (by kernel_rfl) ?_ | refine vops_slice tyOk rfl rfl rfl rfl rfl (by omega) ?_)
      have hst := chainGo_next hl14 hx (fun h => h.elim hxa hxl)
      have hll : (l ++ [x]).length = l.length + 1 := by simp
      refine ⟨15 - (l ++ [x]).length, by omega, new' ++ [(b4, ⟨ints R, 25, 14, none⟩), (b3, ⟨ints Q, 25, 14, none⟩)], (by repeat (first | exact ole_nil | exact ole_refl | (apply ole_cons; (repeat (first | exact pm1_here | apply pm1_next | apply pm1_past))) | (apply ole_app; (repeat (first | exact pm_here | exact pm_last | apply pm_next | apply pm_past))))), l ++ [x], Q, R, Q.getD x.toNat 0, p', cap', new', hCh.snoc hr hq hx hxa hxl, rfl, by rw [hgo, hst], ?_, ?_, ?_, rfl, rfl, rfl, rfl, ?_, ?_, rfl⟩
      · rw [hQ, hll, ← cur_next, show l.length - 1 + 1 = l.length + 1 - 1 by omega]
      · rw [hR, hll, ← oth_next, show l.length - 1 + 1 = l.length + 1 - 1 by omega]
      · rw [hll, getD_end (by omega)]
        unfold mv
        rw [show l.length + 1 - 1 = l.length - 1 + 1 by omega, cur_next, ← hQ]
      · rw [hll]; rfl
      · rw [hll]; exact NewI.snoc hN' rfl
    · repeat (first | refine vops_q tyOk rfl ?_ | refine vops_nil ?_ | refine vw_seq ?_ | refine vw_region (by kernel_rfl) ?_ | refine vops_guardT rfl rfl ?_ | refine vops_guardF rfl rfl ?_ | refine vops_guardU rfl rfl ?_ | with_reducible refine bs_nbeq rfl ?_ | with_reducible refine bs_true ?_ | with_reducible refine bs_false ?_ | with_reducible refine bs_ntrue ?_ | with_reducible refine bs_nfalse ?_ | refine vops_p tyOk rfl (by (try simp only [inR]); omega) ?_ | refine vw_cond rfl ?_ | refine vw_skip ?_ | refine vw_block ?_ | refine vw_ret ?_ | refine vw_exit ?_ | refine vops_loadM tyOk rfl rfl rfl (by repeat (first | exact mem_here | apply mem_next | apply mem_past)) (by rfl) ?_ | refine vops_loadM tyOk rfl rfl rfl (by repeat (first | exact mem_here | apply mem_next | apply mem_past)) (by exact ints_get0 (by omega)) ?_ | refine vops_loadNM tyOk rfl rfl rfl (by repeat (first | exact mem_here | apply mem_next | apply mem_past)) (by first | rfl | (rw [ints_length]; first | assumption | omega | (rw [ints_length]; first | assumption | omega | simp [*])) | simp [*]) ?_ | refine vops_storeIM tyOk rfl rfl rfl rfl (by repeat (first | exact upd_here | apply upd_next | apply upd_past)) (by omega) ?_ | refine vops_storeM tyOk rfl rfl rfl rfl rfl (by repeat (first | exact upd_here | apply upd_next | apply upd_past)) (by simp) ?_ | refine vops_storeAM tyOk rfl rfl rfl (by first | rfl | (rw [ints_length]; first | assumption | omega | (rw [ints_length]; first | assumption | omega | simp [*])) | simp [*]) (by first | exact ints_one | simp [Value.oneCell']) (by repeat (first | exact upd_here | apply upd_next | apply upd_past)) (by first | rfl | (rw [ints_length]; first | assumption | omega | (rw [ints_length]; first | assumption | omega | simp [*])) | simp [*]) ?_ | refine vops_build2 rfl rfl (by kernel_rfl) ?_ | refine vops_buildZ tyOk rfl (by kernel_rfl) ?_ | refine vops_slice tyOk rfl rfl rfl rfl rfl (by omega) ?_)
      refine out1 rfl rfl (SlAt.nodup hN) (by repeat (first | exact sub_hereL | exact sub_refl | apply sub_cons | apply sub_app)) ?_
      rw [hgo, chainGo_stop hl14 hx (.inr hxl)]; exact hN
  · repeat (first | refine vops_q tyOk rfl ?_ | refine vops_nil ?_ | refine vw_seq ?_ | refine vw_region (by kernel_rfl) ?_ | refine vops_guardT rfl rfl ?_ | refine vops_guardF rfl rfl ?_ | refine vops_guardU rfl rfl ?_ | with_reducible refine bs_nbeq rfl ?_ | with_reducible refine bs_true ?_ | with_reducible refine bs_false ?_ | with_reducible refine bs_ntrue ?_ | with_reducible refine bs_nfalse ?_ | refine vops_p tyOk rfl (by (try simp only [inR]); omega) ?_ | refine vw_cond rfl ?_ | refine vw_skip ?_ | refine vw_block ?_ | refine vw_ret ?_ | refine vw_exit ?_ | refine vops_loadM tyOk rfl rfl rfl (by repeat (first | exact mem_here | apply mem_next | apply mem_past)) (by rfl) ?_ | refine vops_loadM tyOk rfl rfl rfl (by repeat (first | exact mem_here | apply mem_next | apply mem_past)) (by exact ints_get0 (by omega)) ?_ | refine vops_loadNM tyOk rfl rfl rfl (by repeat (first | exact mem_here | apply mem_next | apply mem_past)) (by first | rfl | (rw [ints_length]; first | assumption | omega | (rw [ints_length]; first | assumption | omega | simp [*])) | simp [*]) ?_ | refine vops_storeIM tyOk rfl rfl rfl rfl (by repeat (first | exact upd_here | apply upd_next | apply upd_past)) (by omega) ?_ | refine vops_storeM tyOk rfl rfl rfl rfl rfl (by repeat (first | exact upd_here | apply upd_next | apply upd_past)) (by simp) ?_ | refine vops_storeAM tyOk rfl rfl rfl (by first | rfl | (rw [ints_length]; first | assumption | omega | (rw [ints_length]; first | assumption | omega | simp [*])) | simp [*]) (by first | exact ints_one | simp [Value.oneCell']) (by repeat (first | exact upd_here | apply upd_next | apply upd_past)) (by first | rfl | (rw [ints_length]; first | assumption | omega | (rw [ints_length]; first | assumption | omega | simp [*])) | simp [*]) ?_ | refine vops_build2 rfl rfl (by kernel_rfl) ?_ | refine vops_buildZ tyOk rfl (by kernel_rfl) ?_ | refine vops_slice tyOk rfl rfl rfl rfl rfl (by omega) ?_)
    refine out1 rfl rfl (SlAt.nodup hN) (by repeat (first | exact sub_hereL | exact sub_refl | apply sub_cons | apply sub_app)) ?_
    rw [hgo, chainGo_stop hl14 hx (.inl hxa)]; exact hN
end Go.Proofs.Ytabccmngdhgdfaa

/- A part of the proof: P31. No conditions of its own. -/
namespace Go.Proofs.Ytabccmngdhgdfaa
open Go.VL
attribute [local irreducible] VWr VOps VD Calls

open Classical in
noncomputable def roundsCode (n : Int) (rs : List (List Int)) : Int := if (2 ≤ n ∧ n ≤ 14) ∧ ∀ r ∈ rs, IsRd n r then 0 else 2
set_option maxHeartbeats 1000000 in
set_option maxRecDepth 100000 in
theorem c_l02Rounds (n : Int) (v : Value) (rs : List (List Int)) (w : World) (hv : RdS w v rs) (hr : ∀ r ∈ rs, r.length = 14) (hl : rs.length ≤ 1048576) :
    Calls Try.prog 83 [.int .i64 n, v].toArray w (Res w (Is (.int .i64 (roundsCode n rs)))) := by
  obtain ⟨a, cap, rfl⟩ := hv.len
  refine calls_of_vw Try.func83 rfl Try.ntmps83 (by simp) ?_
  repeat (first | refine vops_q tyOk rfl ?_ | refine vops_nil ?_ | refine vw_seq ?_ | refine vw_region (by kernel_rfl) ?_ | refine vops_guardT rfl rfl ?_ | refine vops_guardF rfl rfl ?_ | refine vops_guardU rfl rfl ?_ | with_reducible refine bs_nbeq rfl ?_ | with_reducible refine bs_true ?_ | with_reducible refine bs_false ?_ | with_reducible refine bs_ntrue ?_ | with_reducible refine bs_nfalse ?_ | refine vops_p tyOk rfl (by (try simp only [inR]); omega) ?_ | refine vw_cond rfl ?_ | refine vw_skip ?_ | refine vw_block ?_ | refine vw_ret ?_ | refine vw_exit ?_ | (apply vops_callp ent89 rfl; (intro w _; exact c_l01In _ _ _ w)) | refine vops_loadM tyOk rfl rfl rfl (by repeat (first | exact mem_here | apply mem_next | apply mem_past)) (by rfl) ?_ | refine vops_loadM tyOk rfl rfl rfl (by repeat (first | exact mem_here | apply mem_next | apply mem_past)) (by exact ints_get0 (by omega)) ?_ | refine vops_loadNM tyOk rfl rfl rfl (by repeat (first | exact mem_here | apply mem_next | apply mem_past)) (by first | rfl | (rw [ints_length]; first | assumption | omega | (rw [ints_length]; first | assumption | omega | simp [*])) | simp [*]) ?_ | refine vops_storeIM tyOk rfl rfl rfl rfl (by repeat (first | exact upd_here | apply upd_next | apply upd_past)) (by omega) ?_ | refine vops_storeM tyOk rfl rfl rfl rfl rfl (by repeat (first | exact upd_here | apply upd_next | apply upd_past)) (by simp) ?_ | refine vops_storeAM tyOk rfl rfl rfl (by first | rfl | (rw [ints_length]; first | assumption | omega | (rw [ints_length]; first | assumption | omega | simp [*])) | simp [*]) (by first | exact ints_one | simp [Value.oneCell']) (by repeat (first | exact upd_here | apply upd_next | apply upd_past)) (by first | rfl | (rw [ints_length]; first | assumption | omega | (rw [ints_length]; first | assumption | omega | simp [*])) | simp [*]) ?_ | refine vops_build2 rfl rfl (by kernel_rfl) ?_ | refine vops_buildZ tyOk rfl (by kernel_rfl) ?_ | refine vops_slice tyOk rfl rfl rfl rfl rfl (by omega) ?_)
  refine bs_ndec2 (fun h => ?_) (fun h => ?_)
  · repeat (first | refine vops_q tyOk rfl ?_ | refine vops_nil ?_ | refine vw_seq ?_ | refine vw_region (by kernel_rfl) ?_ | refine vops_guardT rfl rfl ?_ | refine vops_guardF rfl rfl ?_ | refine vops_guardU rfl rfl ?_ | with_reducible refine bs_nbeq rfl ?_ | with_reducible refine bs_true ?_ | with_reducible refine bs_false ?_ | with_reducible refine bs_ntrue ?_ | with_reducible refine bs_nfalse ?_ | refine vops_p tyOk rfl (by (try simp only [inR]); omega) ?_ | refine vw_cond rfl ?_ | refine vw_skip ?_ | refine vw_block ?_ | refine vw_ret ?_ | refine vw_exit ?_ | refine vops_loadM tyOk rfl rfl rfl (by repeat (first | exact mem_here | apply mem_next | apply mem_past)) (by rfl) ?_ | refine vops_loadM tyOk rfl rfl rfl (by repeat (first | exact mem_here | apply mem_next | apply mem_past)) (by exact ints_get0 (by omega)) ?_ | refine vops_loadNM tyOk rfl rfl rfl (by repeat (first | exact mem_here | apply mem_next | apply mem_past)) (by first | rfl | (rw [ints_length]; first | assumption | omega | (rw [ints_length]; first | assumption | omega | simp [*])) | simp [*]) ?_ | refine vops_storeIM tyOk rfl rfl rfl rfl (by repeat (first | exact upd_here | apply upd_next | apply upd_past)) (by omega) ?_ | refine vops_storeM tyOk rfl rfl rfl rfl rfl (by repeat (first | exact upd_here | apply upd_next | apply upd_past)) (by simp) ?_ | refine vops_storeAM tyOk rfl rfl rfl (by first | rfl | (rw [ints_length]; first | assumption | omega | (rw [ints_length]; first | assumption | omega | simp [*])) | simp [*]) (by first | exact ints_one | simp [Value.oneCell']) (by repeat (first | exact upd_here | apply upd_next | apply upd_past)) (by first | rfl | (rw [ints_length]; first | assumption | omega | (rw [ints_length]; first | assumption | omega | simp [*])) | simp [*]) ?_ | refine vops_build2 rfl rfl (by kernel_rfl) ?_ | refine vops_buildZ tyOk rfl (by kernel_rfl) ?_ | refine vops_slice tyOk rfl rfl rfl rfl rfl (by omega) ?_)
    exact rv_int rfl rfl (by rw [roundsCode, if_neg fun hh => h hh.1])
  repeat (first | refine vops_q tyOk rfl ?_ | refine vops_nil ?_ | refine vw_seq ?_ | refine vw_region (by kernel_rfl) ?_ | refine vops_guardT rfl rfl ?_ | refine vops_guardF rfl rfl ?_ | refine vops_guardU rfl rfl ?_ | with_reducible refine bs_nbeq rfl ?_ | with_reducible refine bs_true ?_ | with_reducible refine bs_false ?_ | with_reducible refine bs_ntrue ?_ | with_reducible refine bs_nfalse ?_ | refine vops_p tyOk rfl (by (try simp only [inR]); omega) ?_ | refine vw_cond rfl ?_ | refine vw_skip ?_ | refine vw_block ?_ | refine vw_ret ?_ | refine vw_exit ?_ | refine vops_loadM tyOk rfl rfl rfl (by repeat (first | exact mem_here | apply mem_next | apply mem_past)) (by rfl) ?_ | refine vops_loadM tyOk rfl rfl rfl (by repeat (first | exact mem_here | apply mem_next | apply mem_past)) (by exact ints_get0 (by omega)) ?_ | refine vops_loadNM tyOk rfl rfl rfl (by repeat (first | exact mem_here | apply mem_next | apply mem_past)) (by first | rfl | (rw [ints_length]; first | assumption | omega | (rw [ints_length]; first | assumption | omega | simp [*])) | simp [*]) ?_ | refine vops_storeIM tyOk rfl rfl rfl rfl (by repeat (first | exact upd_here | apply upd_next | apply upd_past)) (by omega) ?_ | refine vops_storeM tyOk rfl rfl rfl rfl rfl (by repeat (first | exact upd_here | apply upd_next | apply upd_past)) (by simp) ?_ | refine vops_storeAM tyOk rfl rfl rfl (by first | rfl | (rw [ints_length]; first | assumption | omega | (rw [ints_length]; first | assumption | omega | simp [*])) | simp [*]) (by first | exact ints_one | simp [Value.oneCell']) (by repeat (first | exact upd_here | apply upd_next | apply upd_past)) (by first | rfl | (rw [ints_length]; first | assumption | omega | (rw [ints_length]; first | assumption | omega | simp [*])) | simp [*]) ?_ | refine vops_build2 rfl rfl (by kernel_rfl) ?_ | refine vops_buildZ tyOk rfl (by kernel_rfl) ?_ | refine vops_slice tyOk rfl rfl rfl rfl rfl (by omega) ?_)
  refine vw_loop (fun m f own => ∃ i : Nat, i ≤ rs.length ∧ m = rs.length - i ∧ f 5 = .int .i64 i ∧ f 0 = .int .i64 n ∧ f 1 = .slice a rs.length cap ∧ own = [] ∧ ∀ (j : Nat) (r : List Int), j < i → rs[j]? = some r → IsRd n r) rs.length
    ⟨0, by omega, by omega, rfl, rfl, rfl, rfl, fun j r hj => by omega⟩ ?_
  rintro m f own ⟨i, hi, rfl, h5, h0, h1, rfl, hall⟩
  rw [upd_of h5, upd_of h0, upd_of h1]
  repeat (first | refine vops_q tyOk rfl ?_ | refine vops_nil ?_ | refine vw_seq ?_ | refine vw_region (by kernel_rfl) ?_ | refine vops_guardT rfl rfl ?_ | refine vops_guardF rfl rfl ?_ | refine vops_guardU rfl rfl ?_ | with_reducible refine bs_nbeq rfl ?_ | with_reducible refine bs_true ?_ | with_reducible refine bs_false ?_ | with_reducible refine bs_ntrue ?_ | with_reducible refine bs_nfalse ?_ | refine vops_p tyOk rfl (by (try simp only [inR]); omega) ?_ | refine vw_cond rfl ?_ | refine vw_skip ?_ | refine vw_block ?_ | refine vw_ret ?_ | refine vw_exit ?_ | refine vops_loadM tyOk rfl rfl rfl (by repeat (first | exact mem_here | apply mem_next | apply mem_past)) (by rfl) ?_ | refine vops_loadM tyOk rfl rfl rfl (by repeat (first | exact mem_here | apply mem_next | apply mem_past)) (by exact ints_get0 (by omega)) ?_ | refine vops_loadNM tyOk rfl rfl rfl (by repeat (first | exact mem_here | apply mem_next | apply mem_past)) (by first | rfl | (rw [ints_length]; first | assumption | omega | (rw [ints_length]; first | assumption | omega | simp [*])) | simp [*]) ?_ | refine vops_storeIM tyOk rfl rfl rfl rfl (by repeat (first | exact upd_here | apply upd_next | apply upd_past)) (by omega) ?_ | refine vops_storeM tyOk rfl rfl rfl rfl rfl (by repeat (first | exact upd_here | apply upd_next | apply upd_past)) (by simp) ?_ | refine vops_storeAM tyOk rfl rfl rfl (by first | rfl | (rw [ints_length]; first | assumption | omega | (rw [ints_length]; first | assumption | omega | simp [*])) | simp [*]) (by first | exact ints_one | simp [Value.oneCell']) (by repeat (first | exact upd_here | apply upd_next | apply upd_past)) (by first | rfl | (rw [ints_length]; first | assumption | omega | (rw [ints_length]; first | assumption | omega | simp [*])) | simp [*]) ?_ | refine vops_build2 rfl rfl (by kernel_rfl) ?_ | refine vops_buildZ tyOk rfl (by kernel_rfl) ?_ | refine vops_slice tyOk rfl rfl rfl rfl rfl (by omega) ?_)
  refine bs_dec (fun h4 => ?_) (fun h4 => ?_)
  · obtain ⟨r, hri⟩ : ∃ r, rs[i]? = some r := ⟨_, List.getElem?_eq_getElem (by omega)⟩
    have hrl := hr r (List.mem_of_getElem? hri)
    obtain ⟨b2, o, cap', he, hrow⟩ := hv.row hr hri
    cases he
    repeat (first | refine vops_q tyOk rfl ?_ | refine vops_nil ?_ | refine vw_seq ?_ | refine vw_region (by kernel_rfl) ?_ | refine vops_guardT rfl rfl ?_ | refine vops_guardF rfl rfl ?_ | refine vops_guardU rfl rfl ?_ | with_reducible refine bs_nbeq rfl ?_ | with_reducible refine bs_true ?_ | with_reducible refine bs_false ?_ | with_reducible refine bs_ntrue ?_ | with_reducible refine bs_nfalse ?_ | refine vops_p tyOk rfl (by (try simp only [inR]); omega) ?_ | refine vw_cond rfl ?_ | refine vw_skip ?_ | refine vw_block ?_ | refine vw_ret ?_ | refine vw_exit ?_ | refine vops_loadN tyOk (ints r) rfl rfl rfl (by rw [ints_length, hrl]) (fun j x hx => sees_old (hrow j x hx) (by simp)) ?_ | (apply vops_callp ent122 rfl; (intro w _; exact c_l01Round _ _ hrl w)) | refine vops_loadM tyOk rfl rfl rfl (by repeat (first | exact mem_here | apply mem_next | apply mem_past)) (by rfl) ?_ | refine vops_loadM tyOk rfl rfl rfl (by repeat (first | exact mem_here | apply mem_next | apply mem_past)) (by exact ints_get0 (by omega)) ?_ | refine vops_loadNM tyOk rfl rfl rfl (by repeat (first | exact mem_here | apply mem_next | apply mem_past)) (by first | rfl | (rw [ints_length]; first | assumption | omega | (rw [ints_length]; first | assumption | omega | simp [*])) | simp [*]) ?_ | refine vops_storeIM tyOk rfl rfl rfl rfl (by repeat (first | exact upd_here | apply upd_next | apply upd_past)) (by omega) ?_ | refine vops_storeM tyOk rfl rfl rfl rfl rfl (by repeat (first | exact upd_here | apply upd_next | apply upd_past)) (by simp) ?_ | refine vops_storeAM tyOk rfl rfl rfl (by first | rfl | (rw [ints_length]; first | assumption | omega | (rw [ints_length]; first | assumption | omega | simp [*])) | simp [*]) (by first | exact ints_one | simp [Value.oneCell']) (by repeat (first | exact upd_here | apply upd_next | apply upd_past)) (by first | rfl | (rw [ints_length]; first | assumption | omega | (rw [ints_length]; first | assumption | omega | simp [*])) | simp [*]) ?_ | refine vops_build2 rfl rfl (by kernel_rfl) ?_ | refine vops_buildZ tyOk rfl (by kernel_rfl) ?_ | refine vops_slice tyOk rfl rfl rfl rfl rfl (by omega) ?_)
    refine bs_ndec2 (fun h6 => ?_) (fun h6 => ?_)
    · repeat (first | refine vops_q tyOk rfl ?_ | refine vops_nil ?_ | refine vw_seq ?_ | refine vw_region (by kernel_rfl) ?_ | refine vops_guardT rfl rfl ?_ | refine vops_guardF rfl rfl ?_ | refine vops_guardU rfl rfl ?_ | with_reducible refine bs_nbeq rfl ?_ | with_reducible refine bs_true ?_ | with_reducible refine bs_false ?_ | with_reducible refine bs_ntrue ?_ | with_reducible refine bs_nfalse ?_ | refine vops_p tyOk rfl (by (try simp only [inR]); omega) ?_ | refine vw_cond rfl ?_ | refine vw_skip ?_ | refine vw_block ?_ | refine vw_ret ?_ | refine vw_exit ?_ | refine vops_loadM tyOk rfl rfl rfl (by repeat (first | exact mem_here | apply mem_next | apply mem_past)) (by rfl) ?_ | refine vops_loadM tyOk rfl rfl rfl (by repeat (first | exact mem_here | apply mem_next | apply mem_past)) (by exact ints_get0 (by omega)) ?_ | refine vops_loadNM tyOk rfl rfl rfl (by repeat (first | exact mem_here | apply mem_next | apply mem_past)) (by first | rfl | (rw [ints_length]; first | assumption | omega | (rw [ints_length]; first | assumption | omega | simp [*])) | simp [*]) ?_ | refine vops_storeIM tyOk rfl rfl rfl rfl (by repeat (first | exact upd_here | apply upd_next | apply upd_past)) (by omega) ?_ | refine vops_storeM tyOk rfl rfl rfl rfl rfl (by repeat (first | exact upd_here | apply upd_next | apply upd_past)) (by simp) ?_ | refine vops_storeAM tyOk rfl rfl rfl (by first | rfl | (rw [ints_length]; first | assumption | omega | (rw [ints_length]; first | assumption | omega | simp [*])) | simp [*]) (by first | exact ints_one | simp [Value.oneCell']) (by repeat (first | exact upd_here | apply upd_next | apply upd_past)) (by first | rfl | (rw [ints_length]; first | assumption | omega | (rw [ints_length]; first | assumption | omega | simp [*])) | simp [*]) ?_ | refine vops_build2 rfl rfl (by kernel_rfl) ?_ | refine vops_buildZ tyOk rfl (by kernel_rfl) ?_ | refine vops_slice tyOk rfl rfl rfl rfl rfl (by omega) ?_)
      exact rv_int rfl rfl (by rw [roundsCode, if_neg fun hh => h6 (hh.2 r (List.mem_of_getElem? hri))])
    repeat (first | refine vops_q tyOk rfl ?_ | refine vops_nil ?_ | refine vw_seq ?_ | refine vw_region (by kernel_rfl) ?_ | refine vops_guardT rfl rfl ?_ | refine vops_guardF rfl rfl ?_ | refine vops_guardU rfl rfl ?_ | with_reducible refine bs_nbeq rfl ?_ | with_reducible refine bs_true ?_ | with_reducible refine bs_false ?_ | with_reducible refine bs_ntrue ?_ | with_reducible refine bs_nfalse ?_ | refine vops_p tyOk rfl (by (try simp only [inR]); omega) ?_ | refine vw_cond rfl ?_ | refine vw_skip ?_ | refine vw_block ?_ | refine vw_ret ?_ | refine vw_exit ?_ | refine vops_loadM tyOk rfl rfl rfl (by repeat (first | exact mem_here | apply mem_next | apply mem_past)) (by rfl) ?_ | refine vops_loadM tyOk rfl rfl rfl (by repeat (first | exact mem_here | apply mem_next | apply mem_past)) (by exact ints_get0 (by omega)) ?_ | refine vops_loadNM tyOk rfl rfl rfl (by repeat (first | exact mem_here | apply mem_next | apply mem_past)) (by first | rfl | (rw [ints_length]; first | assumption | omega | (rw [ints_length]; first | assumption | omega | simp [*])) | simp [*]) ?_ | refine vops_storeIM tyOk rfl rfl rfl rfl (by repeat (first | exact upd_here | apply upd_next | apply upd_past)) (by omega) ?_ | refine vops_storeM tyOk rfl rfl rfl rfl rfl (by repeat (first | exact upd_here | apply upd_next | apply upd_past)) (by simp) ?_ | refine vops_storeAM tyOk rfl rfl rfl (by first | rfl | (rw [ints_length]; first | assumption | omega | (rw [ints_length]; first | assumption | omega | simp [*])) | simp [*]) (by first | exact ints_one | simp [Value.oneCell']) (by repeat (first | exact upd_here | apply upd_next | apply upd_past)) (by first | rfl | (rw [ints_length]; first | assumption | omega | (rw [ints_length]; first | assumption | omega | simp [*])) | simp [*]) ?_ | refine vops_build2 rfl rfl (by kernel_rfl) ?_ | refine vops_buildZ tyOk rfl (by kernel_rfl) ?_ | refine vops_slice tyOk rfl rfl rfl rfl rfl (by omega) ?_)
    refine ⟨rs.length - (i + 1), by omega, i + 1, by omega, rfl, rfl, rfl, rfl, rfl, fun j r' hj hr' => ?_⟩
    by_cases hji : j = i
    · subst hji; obtain rfl : r = r' := Option.some.inj (hri.symm.trans hr'); exact h6
    · exact hall j r' (by omega) hr'
  · repeat (first | refine vops_q tyOk rfl ?_ | refine vops_nil ?_ | refine vw_seq ?_ | refine vw_region (by kernel_rfl) ?_ | refine vops_guardT rfl rfl ?_ | refine vops_guardF rfl rfl ?_ | refine vops_guardU rfl rfl ?_ | with_reducible refine bs_nbeq rfl ?_ | with_reducible refine bs_true ?_ | with_reducible refine bs_false ?_ | with_reducible refine bs_ntrue ?_ | with_reducible refine bs_nfalse ?_ | refine vops_p tyOk rfl (by (try simp only [inR]); omega) ?_ | refine vw_cond rfl ?_ | refine vw_skip ?_ | refine vw_block ?_ | refine vw_ret ?_ | refine vw_exit ?_ | refine vops_loadM tyOk rfl rfl rfl (by repeat (first | exact mem_here | apply mem_next | apply mem_past)) (by rfl) ?_ | refine vops_loadM tyOk rfl rfl rfl (by repeat (first | exact mem_here | apply mem_next | apply mem_past)) (by exact ints_get0 (by omega)) ?_ | refine vops_loadNM tyOk rfl rfl rfl (by repeat (first | exact mem_here | apply mem_next | apply mem_past)) (by first | rfl | (rw [ints_length]; first | assumption | omega | (rw [ints_length]; first | assumption | omega | simp [*])) | simp [*]) ?_ | refine vops_storeIM tyOk rfl rfl rfl rfl (by repeat (first | exact upd_here | apply upd_next | apply upd_past)) (by omega) ?_ | refine vops_storeM tyOk rfl rfl rfl rfl rfl (by repeat (first | exact upd_here | apply upd_next | apply upd_past)) (by simp) ?_ | refine vops_storeAM tyOk rfl rfl rfl (by first | rfl | (rw [ints_length]; first | assumption | omega | (rw [ints_length]; first | assumption | omega | simp [*])) | simp [*]) (by first | exact ints_one | simp [Value.oneCell']) (by repeat (first | exact upd_here | apply upd_next | apply upd_past)) (by first | rfl | (rw [ints_length]; first | assumption | omega | (rw [ints_length]; first | assumption | omega | simp [*])) | simp [*]) ?_ | refine vops_build2 rfl rfl (by kernel_rfl) ?_ | refine vops_buildZ tyOk rfl (by kernel_rfl) ?_ | refine vops_slice tyOk rfl rfl rfl rfl rfl (by omega) ?_)
    have hA : ∀ r ∈ rs, IsRd n r := fun r hr => by
      obtain ⟨j, hj⟩ := List.mem_iff_getElem?.1 hr
      exact hall j r (by have := (List.getElem?_eq_some_iff.1 hj).1; omega) hj
    exact rv_int rfl rfl (by rw [roundsCode, if_pos ⟨h, hA⟩])

open Classical in
noncomputable def chainFrom (n : Int) (r q : List Int) (a : Int) : List Int × Int := if IsRd n r ∧ IsRd n q ∧ 0 ≤ a ∧ a < n then (chain r q a, 0) else ([], 2)
theorem chainFrom_len (n : Int) (r q : List Int) (a : Int) : (chainFrom n r q a).1.length ≤ 1048576 := by
  unfold chainFrom
  split
  · rename_i h
    have := (chain_ch h.1 h.2.1 h.2.2.1 h.2.2.2).length_le h.1.2.1
    show (chain r q a).length ≤ _
    omega
  · simp

open Classical in
set_option maxHeartbeats 1000000 in
set_option maxRecDepth 100000 in
theorem c_impl_ChainFrom (n : Int) (r q : List Int) (a : Int) (hrl : r.length = 14) (hql : q.length = 14) (w : World) :
    Calls Try.prog 28 [.int .i64 n, .agg (ints r).toArray, .agg (ints q).toArray, .int .i64 a].toArray w (Res w (PairI 2 (chainFrom n r q a))) := by
  refine calls_of_vw Try.func28 rfl Try.ntmps28 (by simp) ?_
  refine vw_seq (vw_region (by kernel_rfl) (vops_box (ints r) rfl (fun b5 hb5 => ?_)))
  refine vops_box (ints q) rfl (fun b6 hb6 => ?_)
  by_cases h : IsRd n r ∧ IsRd n q ∧ 0 ≤ a ∧ a < n
  · have hT1 : ∀ w', Calls Try.prog 81 [.int .i64 n, .agg (ints r).toArray].toArray w' (Res w' (Is (.bool true))) := fun w' => by
      have := c_IsRound n r hrl w'; rwa [decide_eq_true h.1] at this
    have hT2 : ∀ w', Calls Try.prog 81 [.int .i64 n, .agg (ints q).toArray].toArray w' (Res w' (Is (.bool true))) := fun w' => by
      have := c_IsRound n q hql w'; rwa [decide_eq_true h.2.1] at this
    have hT3 : ∀ w', Calls Try.prog 87 [.int .i64 a, .int .i64 n].toArray w' (Res w' (Is (.bool true))) := fun w' => by
      have := c_isBelow a n w'; rwa [decide_eq_true h.2.2] at this
    repeat (first | refine vops_q tyOk rfl ?_ | refine vops_nil ?_ | refine vw_seq ?_ | refine vw_region (by kernel_rfl) ?_ | refine vops_guardT rfl rfl ?_ | refine vops_guardF rfl rfl ?_ | refine vops_guardU rfl rfl ?_ | with_reducible refine bs_nbeq rfl ?_ | with_reducible refine bs_true ?_ | with_reducible refine bs_false ?_ | with_reducible refine bs_ntrue ?_ | with_reducible refine bs_nfalse ?_ | refine vops_p tyOk rfl (by (try simp only [inR]); omega) ?_ | refine vw_cond rfl ?_ | refine vw_skip ?_ | refine vw_block ?_ | refine vw_ret ?_ | refine vw_exit ?_ | refine vops_loadNM tyOk rfl rfl rfl (by repeat (first | exact mem_here | apply mem_next | apply mem_past)) (by rw [ints_length]; first | exact hrl | exact hql) ?_ | (apply vops_callp ent81 rfl; (intro w' hg; exact hT1 w')) | (apply vops_callp ent81 rfl; (intro w' hg; exact hT2 w')) | (apply vops_callp ent87 rfl; (intro w' hg; exact hT3 w')) | (apply vops_call ent88 rfl; (intro w' hg; exact c_chainOf n r q a h.1 h.2.1 h.2.2.1 h.2.2.2 hrl hql w'); (intro _ newN hN; obtain ⟨pN, cN, rfl⟩ := SlAt.form hN)) | refine vops_loadM tyOk rfl rfl rfl (by repeat (first | exact mem_here | apply mem_next | apply mem_past)) (by rfl) ?_ | refine vops_loadM tyOk rfl rfl rfl (by repeat (first | exact mem_here | apply mem_next | apply mem_past)) (by exact ints_get0 (by omega)) ?_ | refine vops_loadNM tyOk rfl rfl rfl (by repeat (first | exact mem_here | apply mem_next | apply mem_past)) (by first | rfl | (rw [ints_length]; first | assumption | omega | (rw [ints_length]; first | assumption | omega | simp [*])) | simp [*]) ?_ | refine vops_storeIM tyOk rfl rfl rfl rfl (by repeat (first | exact upd_here | apply upd_next | apply upd_past)) (by omega) ?_ | refine vops_storeM tyOk rfl rfl rfl rfl rfl (by repeat (first | exact upd_here | apply upd_next | apply upd_past)) (by simp) ?_ | refine vops_storeAM tyOk rfl rfl rfl (by first | rfl | (rw [ints_length]; first | assumption | omega | (rw [ints_length]; first | assumption | omega | simp [*])) | simp [*]) (by first | exact ints_one | simp [Value.oneCell']) (by repeat (first | exact upd_here | apply upd_next | apply upd_past)) (by first | rfl | (rw [ints_length]; first | assumption | omega | (rw [ints_length]; first | assumption | omega | simp [*])) | simp [*]) ?_ | refine vops_build2 rfl rfl (by kernel_rfl) ?_ | refine vops_buildZ tyOk rfl (by kernel_rfl) ?_ | refine vops_slice tyOk rfl rfl rfl rfl rfl (by omega) ?_)
    exact pairI_ok rfl rfl rfl hN (by repeat (first | exact sub_hereL | exact sub_refl | apply sub_cons | apply sub_app)) (by rw [chainFrom, if_pos h])
  · have he : chainFrom n r q a = ([], 2) := by rw [chainFrom, if_neg h]
    repeat' (first | refine vops_q tyOk rfl ?_ | refine vops_nil ?_ | refine vw_seq ?_ | refine vw_region (by kernel_rfl) ?_ | refine vops_guardT rfl rfl ?_ | refine vops_guardF rfl rfl ?_ | refine vops_guardU rfl rfl ?_ | with_reducible refine bs_nbeq rfl ?_ | with_reducible refine bs_true ?_ | with_reducible refine bs_false ?_ | with_reducible refine bs_ntrue ?_ | with_reducible refine bs_nfalse ?_ | refine vops_p tyOk rfl (by (try simp only [inR]); omega) ?_ | refine vw_cond rfl ?_ | refine vw_skip ?_ | refine vw_block ?_ | refine vw_ret ?_ | refine vw_exit ?_ | (with_reducible refine bs_dec (fun _ => ?_) (fun _ => ?_)) <;> try (exfalso; omega) | (with_reducible refine bs_ndec (fun _ => ?_) (fun _ => ?_)) <;> try (exfalso; omega) | with_reducible refine bs_nany (fun _ => ?_) (fun _ => ?_) | with_reducible refine bs_any (fun _ => ?_) (fun _ => ?_) | refine vops_loadNM tyOk rfl rfl rfl (by repeat (first | exact mem_here | apply mem_next | apply mem_past)) (by rw [ints_length]; first | exact hrl | exact hql) ?_ | (apply vops_callp ent81 rfl; (intro w _; exact c_IsRound _ _ hrl w)) | (apply vops_callp ent81 rfl; (intro w _; exact c_IsRound _ _ hql w)) | (apply vops_callp ent87 rfl; (intro w _; exact c_isBelow _ _ w)) | refine vops_loadM tyOk rfl rfl rfl (by repeat (first | exact mem_here | apply mem_next | apply mem_past)) (by rfl) ?_ | refine vops_loadM tyOk rfl rfl rfl (by repeat (first | exact mem_here | apply mem_next | apply mem_past)) (by exact ints_get0 (by omega)) ?_ | refine vops_loadNM tyOk rfl rfl rfl (by repeat (first | exact mem_here | apply mem_next | apply mem_past)) (by first | rfl | (rw [ints_length]; first | assumption | omega | (rw [ints_length]; first | assumption | omega | simp [*])) | simp [*]) ?_ | refine vops_storeIM tyOk rfl rfl rfl rfl (by repeat (first | exact upd_here | apply upd_next | apply upd_past)) (by omega) ?_ | refine vops_storeM tyOk rfl rfl rfl rfl rfl (by repeat (first | exact upd_here | apply upd_next | apply upd_past)) (by simp) ?_ | refine vops_storeAM tyOk rfl rfl rfl (by first | rfl | (rw [ints_length]; first | assumption | omega | (rw [ints_length]; first | assumption | omega | simp [*])) | simp [*]) (by first | exact ints_one | simp [Value.oneCell']) (by repeat (first | exact upd_here | apply upd_next | apply upd_past)) (by first | rfl | (rw [ints_length]; first | assumption | omega | (rw [ints_length]; first | assumption | omega | simp [*])) | simp [*]) ?_ | refine vops_build2 rfl rfl (by kernel_rfl) ?_ | refine vops_buildZ tyOk rfl (by kernel_rfl) ?_ | refine vops_slice tyOk rfl rfl rfl rfl rfl (by omega) ?_)
    all_goals first
      | exact pairI_err rfl rfl rfl he
      | (exfalso; apply h; refine ⟨by assumption, by assumption, ?_⟩; assumption)

theorem vops_litR2 {P : Program} {T : Nat → Option TI} {Γ : Ctx} {ops : Array Oper} {Q : (Nat → Value) → Own → Prop} {rest : List Oper} {f : Nat → Value} {own : Own} {ty : TypeId} {pos : String} {aft : Array Edge} (hT : Go.VL.TyOk P T) {d t e a b : Nat} {z : List Value} {ei : TI} {x y : Operand} {r q : List Int}
    (ht : T t = some ⟨.slice e, a, b, z⟩) (he : T e = some ei) (hz : ei.zero ≠ []) (hx : ev f x = .agg (ints r).toArray) (hy : ev f y = .agg (ints q).toArray) (hr : r.length = 14) (hq : q.length = 14) (hk : ei.size = 14)
    (kk : ∀ b, b ∉ ids own → VOps P Γ ops Q rest (upd f d (.slice (some ⟨b, 0, none⟩) 2 2)) ((b, ⟨ints (r ++ q), e, 28, none⟩) :: own)) :
    VOps P Γ ops Q (⟨some d, .buildSlice t 2 #[(0, x), (1, y)], ty, pos, aft, none⟩ :: rest) f own := by
  have := vops_buildS (P := P) (Γ := Γ) (ops := ops) (Q := Q) (rest := rest) (f := f) (own := own) (ty := ty) (pos := pos) (aft := aft) (ps := [(0, x), (1, y)]) (n := 2) (d := d) [.agg (ints r).toArray, .agg (ints q).toArray] (ints (r ++ q)) hT ht he hz (by rw [← hx, ← hy]; rfl) rfl (by omega) (by omega) (by omega) (fun v hv => by
    rcases List.mem_cons.1 hv with rfl | hv
    · simp [Value.cells, ints_length, hr, hk]
    · have : v = .agg (ints q).toArray := by simpa using hv
      subst this; simp [Value.cells, ints_length, hq, hk]) (by simp [Value.cells, ints])
  rw [hk] at this
  exact this kk
theorem rds_two {Γ : Ctx} {own : Own} {w : World} {b e n cap : Nat} {r q : List Int} (hm : (b, (⟨ints (r ++ q), e, n, none⟩ : Blk)) ∈ own) (hg : Go.VL.Good Γ own w) : RdS w (.slice (some ⟨b, 0, none⟩) 2 cap) [r, q] :=
  .inr ⟨b, 0, cap, rfl, fun j x hx => by rw [Nat.zero_add]; exact cell_of_blk hg.ok hm (by simpa using hx)⟩
theorem two_cell {r q : List Int} (hr : r.length = 14) (hq : q.length = 14) {t z : Nat} {x : Int} {u : Int} (hu : u = (cur r q t).getD x.toNat 0) (h0 : 0 ≤ x) (h1 : x < 14) (hz : z = (t % 2) * 14 + x.toNat) : (ints (r ++ q))[z]? = some (.int .i64 u) := by
  subst hz; subst hu
  rw [ints_get (by rw [List.length_append]; omega)]
  unfold cur
  by_cases h : t % 2 = 0
  · rw [if_pos h, h, Nat.zero_mul, Nat.zero_add]
    rw [List.getD_eq_getElem?_getD, List.getElem?_append_left (by omega), ← List.getD_eq_getElem?_getD]
  · rw [if_neg h, show t % 2 = 1 by omega]
    rw [List.getD_eq_getElem?_getD, List.getElem?_append_right (by omega), ← List.getD_eq_getElem?_getD, hr]
    congr 3; omega
end Go.Proofs.Ytabccmngdhgdfaa

/- A part of the proof: P32. No conditions of its own. -/
namespace Go.Proofs.Ytabccmngdhgdfaa
open Go.VL
attribute [local irreducible] VWr VOps VD Calls

open Classical in
set_option maxHeartbeats 2000000 in
set_option maxRecDepth 100000 in
theorem c_spec_ChainFrom (n : Int) (r q : List Int) (a : Int) (hrl : r.length = 14) (hql : q.length = 14) (w : World) :
    Calls Try.prog 29 [.int .i64 n, .agg (ints r).toArray, .agg (ints q).toArray, .int .i64 a].toArray w (Res w (PairI 2 (chainFrom n r q a))) := by
  refine calls_of_vw Try.func29 rfl Try.ntmps29 (by simp) ?_
  refine vw_seq (vw_region (by kernel_rfl) (vops_box (ints r) rfl (fun b5 hb5 => ?_)))
  refine vops_box (ints q) rfl (fun b6 hb6 => ?_)
  by_cases h12 : (2 ≤ n ∧ n ≤ 14) ∧ ∀ r' ∈ [r, q], IsRd n r'
  case neg =>
    have he : chainFrom n r q a = ([], 2) := by rw [chainFrom, if_neg fun hh => h12 ⟨⟨hh.1.1, hh.1.2.1⟩, fun r' hr' => by
      rcases List.mem_cons.1 hr' with rfl | hr'
      · exact hh.1
      · have : r' = q := by simpa using hr'
        rw [this]; exact hh.2.1⟩]
    have hC : ∀ w' v, RdS w' v [r, q] → Calls Try.prog 83 [.int .i64 n, v].toArray w' (Res w' (Is (.int .i64 2))) := fun w' v hv => by
      have := c_l02Rounds n v [r, q] w' hv (by simp [hrl, hql]) (by simp); rwa [roundsCode, if_neg h12] at this
    repeat (first | refine vops_q tyOk rfl ?_ | refine vops_nil ?_ | refine vw_seq ?_ | refine vw_region (by kernel_rfl) ?_ | refine vops_guardT rfl rfl ?_ | refine vops_guardF rfl rfl ?_ | refine vops_guardU rfl rfl ?_ | with_reducible refine bs_nbeq rfl ?_ | with_reducible refine bs_true ?_ | with_reducible refine bs_false ?_ | with_reducible refine bs_ntrue ?_ | with_reducible refine bs_nfalse ?_ | refine vops_p tyOk rfl (by (try simp only [inR]); omega) ?_ | refine vw_cond rfl ?_ | refine vw_skip ?_ | refine vw_block ?_ | refine vw_ret ?_ | refine vw_exit ?_ | refine vops_loadNM tyOk rfl rfl rfl (by repeat (first | exact mem_here | apply mem_next | apply mem_past)) (by rw [ints_length]; first | exact hrl | exact hql) ?_ | refine vops_litR2 tyOk rfl rfl (List.cons_ne_nil _ _) rfl rfl hrl hql rfl (fun bq hbq => ?_) | (apply vops_callp ent83 rfl; (intro w' hg; exact hC w' _ (rds_two (by repeat (first | exact mem_here | apply mem_next | apply mem_past)) hg))) | refine bs_dec (fun _ => ?_) (fun hh => absurd rfl hh) | refine bs_dec (fun hh => absurd hh (by decide)) (fun _ => ?_) | refine bs_ndec2 (fun hh => absurd rfl hh) (fun _ => ?_) | refine bs_ndec2 (fun _ => ?_) (fun hh => absurd hh (by decide)) | refine vops_loadM tyOk rfl rfl rfl (by repeat (first | exact mem_here | apply mem_next | apply mem_past)) (by rfl) ?_ | refine vops_loadM tyOk rfl rfl rfl (by repeat (first | exact mem_here | apply mem_next | apply mem_past)) (by exact ints_get0 (by omega)) ?_ | refine vops_loadNM tyOk rfl rfl rfl (by repeat (first | exact mem_here | apply mem_next | apply mem_past)) (by first | rfl | (rw [ints_length]; first | assumption | omega | (rw [ints_length]; first | assumption | omega | simp [*])) | simp [*]) ?_ | refine vops_storeIM tyOk rfl rfl rfl rfl (by repeat (first | exact upd_here | apply upd_next | apply upd_past)) (by omega) ?_ | refine vops_storeM tyOk rfl rfl rfl rfl rfl (by repeat (first | exact upd_here | apply upd_next | apply upd_past)) (by simp) ?_ | refine vops_storeAM tyOk rfl rfl rfl (by first | rfl | (rw [ints_length]; first | assumption | omega | (rw [ints_length]; first | assumption | omega | simp [*])) | simp [*]) (by first | exact ints_one | simp [Value.oneCell']) (by repeat (first | exact upd_here | apply upd_next | apply upd_past)) (by first | rfl | (rw [ints_length]; first | assumption | omega | (rw [ints_length]; first | assumption | omega | simp [*])) | simp [*]) ?_ | refine vops_build2 rfl rfl (by kernel_rfl) ?_ | refine vops_buildZ tyOk rfl (by kernel_rfl) ?_ | refine vops_slice tyOk rfl rfl rfl rfl rfl (by omega) ?_)
    exact pairI_err rfl rfl rfl he
  have hr : IsRd n r := h12.2 r (by simp)
  have hq : IsRd n q := h12.2 q (by simp)
  have hn14 := hr.2.1
  have hC : ∀ w' v, RdS w' v [r, q] → Calls Try.prog 83 [.int .i64 n, v].toArray w' (Res w' (Is (.int .i64 0))) := fun w' v hv => by
    have := c_l02Rounds n v [r, q] w' hv (by simp [hrl, hql]) (by simp); rwa [roundsCode, if_pos h12] at this
  by_cases hab : 0 ≤ a ∧ a ≤ n - 1
  case neg =>
    have he : chainFrom n r q a = ([], 2) := by rw [chainFrom, if_neg fun hh => hab (by omega)]
    have hI : ∀ w', Calls Try.prog 89 [.int .i64 a, .int .i64 0, .int .i64 (n - 1)].toArray w' (Res w' (Is (.bool false))) := fun w' => by
      have := c_l01In a 0 (n - 1) w'; rwa [decide_eq_false hab] at this
    repeat (first | refine vops_q tyOk rfl ?_ | refine vops_nil ?_ | refine vw_seq ?_ | refine vw_region (by kernel_rfl) ?_ | refine vops_guardT rfl rfl ?_ | refine vops_guardF rfl rfl ?_ | refine vops_guardU rfl rfl ?_ | with_reducible refine bs_nbeq rfl ?_ | with_reducible refine bs_true ?_ | with_reducible refine bs_false ?_ | with_reducible refine bs_ntrue ?_ | with_reducible refine bs_nfalse ?_ | refine vops_p tyOk rfl (by (try simp only [inR]); omega) ?_ | refine vw_cond rfl ?_ | refine vw_skip ?_ | refine vw_block ?_ | refine vw_ret ?_ | refine vw_exit ?_ | refine vops_loadNM tyOk rfl rfl rfl (by repeat (first | exact mem_here | apply mem_next | apply mem_past)) (by rw [ints_length]; first | exact hrl | exact hql) ?_ | refine vops_litR2 tyOk rfl rfl (List.cons_ne_nil _ _) rfl rfl hrl hql rfl (fun bq hbq => ?_) | (apply vops_callp ent83 rfl; (intro w' hg; exact hC w' _ (rds_two (by repeat (first | exact mem_here | apply mem_next | apply mem_past)) hg))) | (apply vops_callp ent89 rfl; (intro w' hg; exact hI w')) | refine bs_dec (fun _ => ?_) (fun hh => absurd rfl hh) | refine bs_dec (fun hh => absurd hh (by decide)) (fun _ => ?_) | refine bs_ndec2 (fun hh => absurd rfl hh) (fun _ => ?_) | refine bs_ndec2 (fun _ => ?_) (fun hh => absurd hh (by decide)) | refine vops_loadM tyOk rfl rfl rfl (by repeat (first | exact mem_here | apply mem_next | apply mem_past)) (by rfl) ?_ | refine vops_loadM tyOk rfl rfl rfl (by repeat (first | exact mem_here | apply mem_next | apply mem_past)) (by exact ints_get0 (by omega)) ?_ | refine vops_loadNM tyOk rfl rfl rfl (by repeat (first | exact mem_here | apply mem_next | apply mem_past)) (by first | rfl | (rw [ints_length]; first | assumption | omega | (rw [ints_length]; first | assumption | omega | simp [*])) | simp [*]) ?_ | refine vops_storeIM tyOk rfl rfl rfl rfl (by repeat (first | exact upd_here | apply upd_next | apply upd_past)) (by omega) ?_ | refine vops_storeM tyOk rfl rfl rfl rfl rfl (by repeat (first | exact upd_here | apply upd_next | apply upd_past)) (by simp) ?_ | refine vops_storeAM tyOk rfl rfl rfl (by first | rfl | (rw [ints_length]; first | assumption | omega | (rw [ints_length]; first | assumption | omega | simp [*])) | simp [*]) (by first | exact ints_one | simp [Value.oneCell']) (by repeat (first | exact upd_here | apply upd_next | apply upd_past)) (by first | rfl | (rw [ints_length]; first | assumption | omega | (rw [ints_length]; first | assumption | omega | simp [*])) | simp [*]) ?_ | refine vops_build2 rfl rfl (by kernel_rfl) ?_ | refine vops_buildZ tyOk rfl (by kernel_rfl) ?_ | refine vops_slice tyOk rfl rfl rfl rfl rfl (by omega) ?_)
    exact pairI_err rfl rfl rfl he
  have hI : ∀ w', Calls Try.prog 89 [.int .i64 a, .int .i64 0, .int .i64 (n - 1)].toArray w' (Res w' (Is (.bool true))) := fun w' => by
    have := c_l01In a 0 (n - 1) w'; rwa [decide_eq_true hab] at this
  have hgood : chainFrom n r q a = (chain r q a, 0) := by rw [chainFrom, if_pos ⟨hr, hq, by omega⟩]
  repeat (first | refine vops_q tyOk rfl ?_ | refine vops_nil ?_ | refine vw_seq ?_ | refine vw_region (by kernel_rfl) ?_ | refine vops_guardT rfl rfl ?_ | refine vops_guardF rfl rfl ?_ | refine vops_guardU rfl rfl ?_ | with_reducible refine bs_nbeq rfl ?_ | with_reducible refine bs_true ?_ | with_reducible refine bs_false ?_ | with_reducible refine bs_ntrue ?_ | with_reducible refine bs_nfalse ?_ | refine vops_p tyOk rfl (by (try simp only [inR]); omega) ?_ | refine vw_cond rfl ?_ | refine vw_skip ?_ | refine vw_block ?_ | refine vw_ret ?_ | refine vw_exit ?_ | refine vops_loadNM tyOk rfl rfl rfl (by repeat (first | exact mem_here | apply mem_next | apply mem_past)) (by rw [ints_length]; first | exact hrl | exact hql) ?_ | refine vops_litR2 tyOk rfl rfl (List.cons_ne_nil _ _) rfl rfl hrl hql rfl (fun bq hbq => ?_) | (apply vops_callp ent83 rfl; (intro w' hg; exact hC w' _ (rds_two (by repeat (first | exact mem_here | apply mem_next | apply mem_past)) hg))) | (apply vops_callp ent89 rfl; (intro w' hg; exact hI w')) | refine bs_dec (fun _ => ?_) (fun hh => absurd rfl hh) | refine bs_dec (fun hh => absurd hh (by decide)) (fun _ => ?_) | refine bs_ndec2 (fun hh => absurd rfl hh) (fun _ => ?_) | refine bs_ndec2 (fun _ => ?_) (fun hh => absurd hh (by decide)) | refine vops_loadM tyOk rfl rfl rfl (by repeat (first | exact mem_here | apply mem_next | apply mem_past)) (by rfl) ?_ | refine vops_loadM tyOk rfl rfl rfl (by repeat (first | exact mem_here | apply mem_next | apply mem_past)) (by exact ints_get0 (by omega)) ?_ | refine vops_loadNM tyOk rfl rfl rfl (by repeat (first | exact mem_here | apply mem_next | apply mem_past)) (by first | rfl | (rw [ints_length]; first | assumption | omega | (rw [ints_length]; first | assumption | omega | simp [*])) | simp [*]) ?_ | refine vops_storeIM tyOk rfl rfl rfl rfl (by repeat (first | exact upd_here | apply upd_next | apply upd_past)) (by omega) ?_ | refine vops_storeM tyOk rfl rfl rfl rfl rfl (by repeat (first | exact upd_here | apply upd_next | apply upd_past)) (by simp) ?_ | refine vops_storeAM tyOk rfl rfl rfl (by first | rfl | (rw [ints_length]; first | assumption | omega | (rw [ints_length]; first | assumption | omega | simp [*])) | simp [*]) (by first | exact ints_one | simp [Value.oneCell']) (by repeat (first | exact upd_here | apply upd_next | apply upd_past)) (by first | rfl | (rw [ints_length]; first | assumption | omega | (rw [ints_length]; first | assumption | omega | simp [*])) | simp [*]) ?_ | refine vops_build2 rfl rfl (by kernel_rfl) ?_ | refine vops_buildZ tyOk rfl (by kernel_rfl) ?_ | refine vops_slice tyOk rfl rfl rfl rfl rfl (by omega) ?_)
  refine vw_draw [0, 2, 3, 1, 5, 4, 6] (by kernel_rfl) (by kernel_rfl) (by kernel_rfl) rfl ?_
  iterate 3 (first | refine vd_q tyOk rfl (by first | trivial | rfl) rfl (by kernel_rfl) (by kernel_rfl) ?_ | refine vd_p tyOk rfl (by first | trivial | rfl) rfl (by kernel_rfl) (by kernel_rfl) (by (try simp only [inR]); omega) ?_ | refine vd_skipT rfl rfl (by kernel_rfl) (by kernel_rfl) ?_ | refine vd_skipF rfl rfl (by kernel_rfl) (by kernel_rfl) ?_ | refine vd_skipU rfl rfl (by kernel_rfl) (by kernel_rfl) ?_ | refine vops_nil ?_ | refine vd_nil (by kernel_rfl) ?_ | refine ⟨fun _ _ _ h => h, ?_⟩ | refine ⟨fun _ _ _ h => List.mem_cons_of_mem _ h, ?_⟩ | refine ⟨fun _ _ _ h => List.mem_append_right _ h, ?_⟩ | refine vops_q tyOk rfl ?_ | refine vd_load tyOk rfl (by first | trivial | rfl) rfl rfl rfl (by kernel_rfl) (by kernel_rfl) (by kernel_rfl) (sees_mem (by repeat (first | exact mem_here | apply mem_next | apply mem_past)) (by rfl)) (by repeat (first | exact sub_hereL | exact sub_refl | apply sub_cons | apply sub_app)) ?_ | refine vd_load tyOk rfl (by first | trivial | rfl) rfl rfl rfl (by kernel_rfl) (by kernel_rfl) (by kernel_rfl) (sees_mem (k := ⟨ints _, _, _, none⟩) (by repeat (first | exact mem_here | apply mem_next | apply mem_past)) (by exact ints_get0 (by omega))) (by repeat (first | exact sub_hereL | exact sub_refl | apply sub_cons | apply sub_app)) ?_ | refine vd_loadNM tyOk rfl (by first | trivial | rfl) rfl rfl rfl (by repeat (first | exact mem_here | apply mem_next | apply mem_past)) (by first | rfl | (rw [ints_length]; first | assumption | omega | (rw [ints_length]; first | assumption | omega | simp [*])) | simp [*]) (by kernel_rfl) (by kernel_rfl) (by kernel_rfl) (by repeat (first | exact sub_hereL | exact sub_refl | apply sub_cons | apply sub_app)) ?_ | refine vd_build2 rfl (by first | trivial | rfl) rfl rfl (by kernel_rfl) (by kernel_rfl) (by kernel_rfl) ?_ | refine vd_slice tyOk rfl (by first | trivial | rfl) rfl rfl rfl rfl rfl (by kernel_rfl) (by kernel_rfl) (by omega) ?_ | refine ⟨fun h => Bool.noConfusion (show false = true from h), ?_⟩ | refine ⟨fun _ p hp _ => (show Go.VL.Sub _ _ from (by repeat (first | exact sub_hereL | exact sub_refl | apply sub_cons | apply sub_app))) p hp, ?_⟩ | refine vd_loadNM tyOk rfl (by first | trivial | rfl) rfl rfl rfl (by repeat (first | exact mem_here | apply mem_next | apply mem_past)) (by rw [ints_length]; first | exact hrl | exact hql) (by kernel_rfl) (by kernel_rfl) (by kernel_rfl) (by repeat (first | exact sub_hereL | exact sub_refl | apply sub_cons | apply sub_app)) ?_ | refine vops_loadM tyOk rfl rfl rfl (by repeat (first | exact mem_here | apply mem_next | apply mem_past)) (by rfl) ?_ | refine vops_loadM tyOk rfl rfl rfl (by repeat (first | exact mem_here | apply mem_next | apply mem_past)) (by exact ints_get0 (by omega)) ?_ | refine vops_loadNM tyOk rfl rfl rfl (by repeat (first | exact mem_here | apply mem_next | apply mem_past)) (by first | rfl | (rw [ints_length]; first | assumption | omega | (rw [ints_length]; first | assumption | omega | simp [*])) | simp [*]) ?_ | refine vops_storeIM tyOk rfl rfl rfl rfl (by repeat (first | exact upd_here | apply upd_next | apply upd_past)) (by omega) ?_ | refine vops_storeM tyOk rfl rfl rfl rfl rfl (by repeat (first | exact upd_here | apply upd_next | apply upd_past)) (by simp) ?_ | refine vops_storeAM tyOk rfl rfl rfl (by first | rfl | (rw [ints_length]; first | assumption | omega | (rw [ints_length]; first | assumption | omega | simp [*])) | simp [*]) (by first | exact ints_one | simp [Value.oneCell']) (by repeat (first | exact upd_here | apply upd_next | apply upd_past)) (by first | rfl | (rw [ints_length]; first | assumption | omega | (rw [ints_length]; first | assumption | omega | simp [*])) | simp [*]) ?_ | refine vops_build2 rfl rfl (by kernel_rfl) ?_ | refine vops_buildZ tyOk rfl (by kernel_rfl) ?_ | refine vops_slice tyOk rfl rfl rfl rfl rfl (by omega) ?_ | refine vd_one rfl (by kernel_rfl) (by kernel_rfl) rfl ?_ | refine vd_oneG rfl (by kernel_rfl) (by kernel_rfl) rfl ?_ | (refine vd_gsplit rfl rfl rfl ?_; (fail_if_success (with_reducible (first | refine bs_true ?_ | refine bs_false ?_))); with_reducible refine bs_dec (fun _ => ?_) (fun _ => ?_)) <;> try (exfalso; omega) | (refine vd_gsplit rfl rfl rfl ?_; (fail_if_success (with_reducible (first | refine bs_true ?_ | refine bs_false ?_))); with_reducible refine bs_ndec (fun _ => ?_) (fun _ => ?_)) <;> try (exfalso; omega) | (refine vd_gsplit rfl rfl rfl ?_; (fail_if_success (with_reducible (first | refine bs_true ?_ | refine bs_false ?_))); with_reducible refine bs_nany (fun _ => ?_) (fun _ => ?_)) <;> try (exfalso; omega) | (refine vd_gsplit rfl rfl rfl ?_; (fail_if_success (with_reducible (first | refine bs_true ?_ | refine bs_false ?_))); with_reducible refine bs_any (fun _ => ?_) (fun _ => ?_)) <;> try (exfalso; omega))
  refine vd_two (j := 4) [5, 4, 6] [1, 5, 6] rfl rfl (by kernel_rfl) rfl rfl rfl rfl ?_ ?_
  · refine vops_litI [_] tyOk rfl rfl (List.cons_ne_nil _ _) (by rfl) rfl (by omega) (by omega) (fun bt hbt => ?_)
    repeat' (first | refine vd_q tyOk rfl (by first | trivial | rfl) rfl (by kernel_rfl) (by kernel_rfl) ?_ | refine vd_p tyOk rfl (by first | trivial | rfl) rfl (by kernel_rfl) (by kernel_rfl) (by (try simp only [inR]); omega) ?_ | refine vd_skipT rfl rfl (by kernel_rfl) (by kernel_rfl) ?_ | refine vd_skipF rfl rfl (by kernel_rfl) (by kernel_rfl) ?_ | refine vd_skipU rfl rfl (by kernel_rfl) (by kernel_rfl) ?_ | refine vops_nil ?_ | refine vd_nil (by kernel_rfl) ?_ | refine ⟨fun _ _ _ h => h, ?_⟩ | refine ⟨fun _ _ _ h => List.mem_cons_of_mem _ h, ?_⟩ | refine ⟨fun _ _ _ h => List.mem_append_right _ h, ?_⟩ | refine vops_q tyOk rfl ?_ | refine vd_load tyOk rfl (by first | trivial | rfl) rfl rfl rfl (by kernel_rfl) (by kernel_rfl) (by kernel_rfl) (sees_mem (by repeat (first | exact mem_here | apply mem_next | apply mem_past)) (by rfl)) (by repeat (first | exact sub_hereL | exact sub_refl | apply sub_cons | apply sub_app)) ?_ | refine vd_load tyOk rfl (by first | trivial | rfl) rfl rfl rfl (by kernel_rfl) (by kernel_rfl) (by kernel_rfl) (sees_mem (k := ⟨ints _, _, _, none⟩) (by repeat (first | exact mem_here | apply mem_next | apply mem_past)) (by exact ints_get0 (by omega))) (by repeat (first | exact sub_hereL | exact sub_refl | apply sub_cons | apply sub_app)) ?_ | refine vd_loadNM tyOk rfl (by first | trivial | rfl) rfl rfl rfl (by repeat (first | exact mem_here | apply mem_next | apply mem_past)) (by first | rfl | (rw [ints_length]; first | assumption | omega | (rw [ints_length]; first | assumption | omega | simp [*])) | simp [*]) (by kernel_rfl) (by kernel_rfl) (by kernel_rfl) (by repeat (first | exact sub_hereL | exact sub_refl | apply sub_cons | apply sub_app)) ?_ | refine vd_build2 rfl (by first | trivial | rfl) rfl rfl (by kernel_rfl) (by kernel_rfl) (by kernel_rfl) ?_ | refine vd_slice tyOk rfl (by first | trivial | rfl) rfl rfl rfl rfl rfl (by kernel_rfl) (by kernel_rfl) (by omega) ?_ | refine ⟨fun h => Bool.noConfusion (show false = true from h), ?_⟩ | refine ⟨fun _ p hp _ => (show Go.VL.Sub _ _ from (by repeat (first | exact sub_hereL | exact sub_refl | apply sub_cons | apply sub_app))) p hp, ?_⟩ | refine vops_litR2 tyOk rfl rfl (List.cons_ne_nil _ _) rfl rfl hrl hql rfl (fun bq hbq => ?_) | refine vops_loadM tyOk rfl rfl rfl (by repeat (first | exact mem_here | apply mem_next | apply mem_past)) (by rfl) ?_ | refine vops_loadM tyOk rfl rfl rfl (by repeat (first | exact mem_here | apply mem_next | apply mem_past)) (by exact ints_get0 (by omega)) ?_ | refine vops_loadNM tyOk rfl rfl rfl (by repeat (first | exact mem_here | apply mem_next | apply mem_past)) (by first | rfl | (rw [ints_length]; first | assumption | omega | (rw [ints_length]; first | assumption | omega | simp [*])) | simp [*]) ?_ | refine vops_storeIM tyOk rfl rfl rfl rfl (by repeat (first | exact upd_here | apply upd_next | apply upd_past)) (by omega) ?_ | refine vops_storeM tyOk rfl rfl rfl rfl rfl (by repeat (first | exact upd_here | apply upd_next | apply upd_past)) (by simp) ?_ | refine vops_storeAM tyOk rfl rfl rfl (by first | rfl | (rw [ints_length]; first | assumption | omega | (rw [ints_length]; first | assumption | omega | simp [*])) | simp [*]) (by first | exact ints_one | simp [Value.oneCell']) (by repeat (first | exact upd_here | apply upd_next | apply upd_past)) (by first | rfl | (rw [ints_length]; first | assumption | omega | (rw [ints_length]; first | assumption | omega | simp [*])) | simp [*]) ?_ | refine vops_build2 rfl rfl (by kernel_rfl) ?_ | refine vops_buildZ tyOk rfl (by kernel_rfl) ?_ | refine vops_slice tyOk rfl rfl rfl rfl rfl (by omega) ?_ | refine vd_one rfl (by kernel_rfl) (by kernel_rfl) rfl ?_ | refine vd_oneG rfl (by kernel_rfl) (by kernel_rfl) rfl ?_ | (refine vd_gsplit rfl rfl rfl ?_; (fail_if_success (with_reducible (first | refine bs_true ?_ | refine bs_false ?_))); with_reducible refine bs_dec (fun _ => ?_) (fun _ => ?_)) <;> try (exfalso; omega) | (refine vd_gsplit rfl rfl rfl ?_; (fail_if_success (with_reducible (first | refine bs_true ?_ | refine bs_false ?_))); with_reducible refine bs_ndec (fun _ => ?_) (fun _ => ?_)) <;> try (exfalso; omega) | (refine vd_gsplit rfl rfl rfl ?_; (fail_if_success (with_reducible (first | refine bs_true ?_ | refine bs_false ?_))); with_reducible refine bs_nany (fun _ => ?_) (fun _ => ?_)) <;> try (exfalso; omega) | (refine vd_gsplit rfl rfl rfl ?_; (fail_if_success (with_reducible (first | refine bs_true ?_ | refine bs_false ?_))); with_reducible refine bs_any (fun _ => ?_) (fun _ => ?_)) <;> try (exfalso; omega))
    repeat (first | refine vops_q tyOk rfl ?_ | refine vops_nil ?_ | refine vw_seq ?_ | refine vw_region (by kernel_rfl) ?_ | refine vops_guardT rfl rfl ?_ | refine vops_guardF rfl rfl ?_ | refine vops_guardU rfl rfl ?_ | with_reducible refine bs_nbeq rfl ?_ | with_reducible refine bs_true ?_ | with_reducible refine bs_false ?_ | with_reducible refine bs_ntrue ?_ | with_reducible refine bs_nfalse ?_ | refine vops_p tyOk rfl (by (try simp only [inR]); omega) ?_ | refine vw_cond rfl ?_ | refine vw_skip ?_ | refine vw_block ?_ | refine vw_ret ?_ | refine vw_exit ?_ | refine vops_loadM tyOk rfl rfl rfl (by repeat (first | exact mem_here | apply mem_next | apply mem_past)) (by rfl) ?_ | refine vops_loadM tyOk rfl rfl rfl (by repeat (first | exact mem_here | apply mem_next | apply mem_past)) (by exact ints_get0 (by omega)) ?_ | refine vops_loadNM tyOk rfl rfl rfl (by repeat (first | exact mem_here | apply mem_next | apply mem_past)) (by first | rfl | (rw [ints_length]; first | assumption | omega | (rw [ints_length]; first | assumption | omega | simp [*])) | simp [*]) ?_ | refine vops_storeIM tyOk rfl rfl rfl rfl (by repeat (first | exact upd_here | apply upd_next | apply upd_past)) (by omega) ?_ | refine vops_storeM tyOk rfl rfl rfl rfl rfl (by repeat (first | exact upd_here | apply upd_next | apply upd_past)) (by simp) ?_ | refine vops_storeAM tyOk rfl rfl rfl (by first | rfl | (rw [ints_length]; first | assumption | omega | (rw [ints_length]; first | assumption | omega | simp [*])) | simp [*]) (by first | exact ints_one | simp [Value.oneCell']) (by repeat (first | exact upd_here | apply upd_next | apply upd_past)) (by first | rfl | (rw [ints_length]; first | assumption | omega | (rw [ints_length]; first | assumption | omega | simp [*])) | simp [*]) ?_ | refine vops_build2 rfl rfl (by kernel_rfl) ?_ | refine vops_buildZ tyOk rfl (by kernel_rfl) ?_ | refine vops_slice tyOk rfl rfl rfl rfl rfl (by omega) ?_)
    refine vw_loopW (fun m f own => ∃ (l : List Int) (T : Nat) (c : Int) (p : Option Addr) (cp : Nat) (new : Own), Ch n r q a l ∧ m = 15 - l.length ∧ chain r q a = chainGo r q a (16 - l.length) l ∧ c = T ∧ T = (l.length - 1) % 2 ∧ f 13 = .int .i64 c ∧ f 3 = .int .i64 a ∧ f 12 = .slice (some ⟨bq, 0, none⟩) 2 2 ∧ f 11 = .slice p l.length cp ∧ NewI 2 l (.slice p l.length cp) new ∧
        own = new ++ [(bq, ⟨ints (r ++ q), 25, 28, none⟩)]) 14
      ⟨[(bt, ⟨ints [a], 2, 1 * 1, none⟩)] ++ [(bq, ⟨ints (r ++ q), 25, 28, none⟩)], (by repeat (first | exact ole_nil | exact ole_refl | (apply ole_cons; (repeat (first | exact pm1_here | apply pm1_next | apply pm1_past))) | (apply ole_app; (repeat (first | exact pm_here | exact pm_last | apply pm_next | apply pm_past))))), [a], 0, 0, some ⟨bt, 0, none⟩, 1, [(bt, ⟨ints [a], 2, 1 * 1, none⟩)], Ch.one (by omega) (by omega), rfl, rfl, rfl, rfl, rfl, rfl, rfl, rfl, NewI.lit (l := [a]) rfl (Nat.le_refl _) (by simp [maxLen]), rfl⟩ ?_
    rintro m f own ⟨l, T, c, p, cp, new, hCh, rfl, hgo, hcT, hT, h13, h3, h12, h11, hN, rfl⟩
    rw [upd_of h13, upd_of h3, upd_of h12, upd_of h11]
    have hl14 := hCh.length_le hn14
    have hl0 := hCh.ne
    have hlast := hCh.last
    have hmv := mv_ok hr hq (l.length - 1) hlast.1 hlast.2
    obtain ⟨x, hx⟩ : ∃ x, x = mv r q (l.length - 1) (l.getD (l.length - 1) 0) := ⟨_, rfl⟩
    rw [← hx] at hmv
    obtain ⟨bn, rfl, rfl, hc1, hc2, hl1⟩ := NewF.blk (NewI.f hN) hl0
    have hcell : (ints l)[0 + ((l.length : Int) - 1).toNat]? = some (.int .i64 (l.getD (l.length - 1) 0)) := by
      rw [show 0 + ((l.length : Int) - 1).toNat = l.length - 1 by omega]; exact ints_get (by omega)
    have hcell2 : ∀ z, z = 0 + c.toNat * 14 + (l.getD (l.length - 1) 0).toNat → (ints (r ++ q))[z]? = some (.int .i64 x) := fun z hz =>
      two_cell hrl hql (t := l.length - 1) (x := l.getD (l.length - 1) 0) hx hlast.1 (by omega) (by rw [hz, ← hT, hcT]; simp)
    have hT2 : c = 0 ∨ c = 1 := by omega
    repeat (first | refine vops_q tyOk rfl ?_ | refine vops_nil ?_ | refine vw_seq ?_ | refine vw_region (by kernel_rfl) ?_ | refine vops_guardT rfl rfl ?_ | refine vops_guardF rfl rfl ?_ | refine vops_guardU rfl rfl ?_ | with_reducible refine bs_nbeq rfl ?_ | with_reducible refine bs_true ?_ | with_reducible refine bs_false ?_ | with_reducible refine bs_ntrue ?_ | with_reducible refine bs_nfalse ?_ | refine vops_p tyOk rfl (by (try simp only [inR]); omega) ?_ | refine vw_cond rfl ?_ | refine vw_skip ?_ | refine vw_block ?_ | refine vw_ret ?_ | refine vw_exit ?_ | refine vops_loadM tyOk rfl rfl rfl (by repeat (first | exact mem_here | apply mem_next | apply mem_past)) (by exact hcell) ?_ | refine vops_loadM tyOk rfl rfl rfl (by repeat (first | exact mem_here | apply mem_next | apply mem_past)) (by exact hcell2 _ rfl) ?_ | refine vops_loadM tyOk rfl rfl rfl (by repeat (first | exact mem_here | apply mem_next | apply mem_past)) (by rfl) ?_ | refine vops_loadM tyOk rfl rfl rfl (by repeat (first | exact mem_here | apply mem_next | apply mem_past)) (by exact ints_get0 (by omega)) ?_ | refine vops_loadNM tyOk rfl rfl rfl (by repeat (first | exact mem_here | apply mem_next | apply mem_past)) (by first | rfl | (rw [ints_length]; first | assumption | omega | (rw [ints_length]; first | assumption | omega | simp [*])) | simp [*]) ?_ | refine vops_storeIM tyOk rfl rfl rfl rfl (by repeat (first | exact upd_here | apply upd_next | apply upd_past)) (by omega) ?_ | refine vops_storeM tyOk rfl rfl rfl rfl rfl (by repeat (first | exact upd_here | apply upd_next | apply upd_past)) (by simp) ?_ | refine vops_storeAM tyOk rfl rfl rfl (by first | rfl | (rw [ints_length]; first | assumption | omega | (rw [ints_length]; first | assumption | omega | simp [*])) | simp [*]) (by first | exact ints_one | simp [Value.oneCell']) (by repeat (first | exact upd_here | apply upd_next | apply upd_past)) (by first | rfl | (rw [ints_length]; first | assumption | omega | (rw [ints_length]; first | assumption | omega | simp [*])) | simp [*]) ?_ | refine vops_build2 rfl rfl (by kernel_rfl) ?_ | refine vops_buildZ tyOk rfl (by kernel_rfl) ?_ | refine vops_slice tyOk rfl rfl rfl rfl rfl (by omega) ?_)
    refine bs_dec (fun hxa => ?_) (fun hxa => ?_)
    · repeat (first | refine vops_q tyOk rfl ?_ | refine vops_nil ?_ | refine vw_seq ?_ | refine vw_region (by kernel_rfl) ?_ | refine vops_guardT rfl rfl ?_ | refine vops_guardF rfl rfl ?_ | refine vops_guardU rfl rfl ?_ | with_reducible refine bs_nbeq rfl ?_ | with_reducible refine bs_true ?_ | with_reducible refine bs_false ?_ | with_reducible refine bs_ntrue ?_ | with_reducible refine bs_nfalse ?_ | refine vops_p tyOk rfl (by (try simp only [inR]); omega) ?_ | refine vw_cond rfl ?_ | refine vw_skip ?_ | refine vw_block ?_ | refine vw_ret ?_ | refine vw_exit ?_ | refine vops_loadM tyOk rfl rfl rfl (by repeat (first | exact mem_here | apply mem_next | apply mem_past)) (by rfl) ?_ | refine vops_loadM tyOk rfl rfl rfl (by repeat (first | exact mem_here | apply mem_next | apply mem_past)) (by exact ints_get0 (by omega)) ?_ | refine vops_loadNM tyOk rfl rfl rfl (by repeat (first | exact mem_here | apply mem_next | apply mem_past)) (by first | rfl | (rw [ints_length]; first | assumption | omega | (rw [ints_length]; first | assumption | omega | simp [*])) | simp [*]) ?_ | refine vops_storeIM tyOk rfl rfl rfl rfl (by repeat (first | exact upd_here | apply upd_next | apply upd_past)) (by omega) ?_ | refine vops_storeM tyOk rfl rfl rfl rfl rfl (by repeat (first | exact upd_here | apply upd_next | apply upd_past)) (by simp) ?_ | refine vops_storeAM tyOk rfl rfl rfl (by first | rfl | (rw [ints_length]; first | assumption | omega | (rw [ints_length]; first | assumption | omega | simp [*])) | simp [*]) (by first | exact ints_one | simp [Value.oneCell']) (by repeat (first | exact upd_here | apply upd_next | apply upd_past)) (by first | rfl | (rw [ints_length]; first | assumption | omega | (rw [ints_length]; first | assumption | omega | simp [*])) | simp [*]) ?_ | refine vops_build2 rfl rfl (by kernel_rfl) ?_ | refine vops_buildZ tyOk rfl (by kernel_rfl) ?_ | refine vops_slice tyOk rfl rfl rfl rfl rfl (by omega) ?_)
      exact pairI_ok rfl rfl rfl hN (by repeat (first | exact sub_hereL | exact sub_refl | apply sub_cons | apply sub_app)) (by rw [hgood, hgo, chainGo_stop hl14 hx (.inl hxa)])
    repeat (first | refine vops_q tyOk rfl ?_ | refine vops_nil ?_ | refine vw_seq ?_ | refine vw_region (by kernel_rfl) ?_ | refine vops_guardT rfl rfl ?_ | refine vops_guardF rfl rfl ?_ | refine vops_guardU rfl rfl ?_ | with_reducible refine bs_nbeq rfl ?_ | with_reducible refine bs_true ?_ | with_reducible refine bs_false ?_ | with_reducible refine bs_ntrue ?_ | with_reducible refine bs_nfalse ?_ | refine vops_p tyOk rfl (by (try simp only [inR]); omega) ?_ | refine vw_cond rfl ?_ | refine vw_skip ?_ | refine vw_block ?_ | refine vw_ret ?_ | refine vw_exit ?_ | refine vops_loadM tyOk rfl rfl rfl (by repeat (first | exact mem_here | apply mem_next | apply mem_past)) (by rfl) ?_ | refine vops_loadM tyOk rfl rfl rfl (by repeat (first | exact mem_here | apply mem_next | apply mem_past)) (by exact ints_get0 (by omega)) ?_ | refine vops_loadNM tyOk rfl rfl rfl (by repeat (first | exact mem_here | apply mem_next | apply mem_past)) (by first | rfl | (rw [ints_length]; first | assumption | omega | (rw [ints_length]; first | assumption | omega | simp [*])) | simp [*]) ?_ | refine vops_storeIM tyOk rfl rfl rfl rfl (by repeat (first | exact upd_here | apply upd_next | apply upd_past)) (by omega) ?_ | refine vops_storeM tyOk rfl rfl rfl rfl rfl (by repeat (first | exact upd_here | apply upd_next | apply upd_past)) (by simp) ?_ | refine vops_storeAM tyOk rfl rfl rfl (by first | rfl | (rw [ints_length]; first | assumption | omega | (rw [ints_length]; first | assumption | omega | simp [*])) | simp [*]) (by first | exact ints_one | simp [Value.oneCell']) (by repeat (first | exact upd_here | apply upd_next | apply upd_past)) (by first | rfl | (rw [ints_length]; first | assumption | omega | (rw [ints_length]; first | assumption | omega | simp [*])) | simp [*]) ?_ | refine vops_build2 rfl rfl (by kernel_rfl) ?_ | refine vops_buildZ tyOk rfl (by kernel_rfl) ?_ | refine vops_slice tyOk rfl rfl rfl rfl rfl (by omega) ?_)
    refine bs_dec (fun hxl => ?_) (fun hxl => ?_)
    · repeat (first | refine vops_q tyOk rfl ?_ | refine vops_nil ?_ | refine vw_seq ?_ | refine vw_region (by kernel_rfl) ?_ | refine vops_guardT rfl rfl ?_ | refine vops_guardF rfl rfl ?_ | refine vops_guardU rfl rfl ?_ | with_reducible refine bs_nbeq rfl ?_ | with_reducible refine bs_true ?_ | with_reducible refine bs_false ?_ | with_reducible refine bs_ntrue ?_ | with_reducible refine bs_nfalse ?_ | refine vops_p tyOk rfl (by (try simp only [inR]); omega) ?_ | refine vw_cond rfl ?_ | refine vw_skip ?_ | refine vw_block ?_ | refine vw_ret ?_ | refine vw_exit ?_ | refine vops_loadM tyOk rfl rfl rfl (by repeat (first | exact mem_here | apply mem_next | apply mem_past)) (by rfl) ?_ | refine vops_loadM tyOk rfl rfl rfl (by repeat (first | exact mem_here | apply mem_next | apply mem_past)) (by exact ints_get0 (by omega)) ?_ | refine vops_loadNM tyOk rfl rfl rfl (by repeat (first | exact mem_here | apply mem_next | apply mem_past)) (by first | rfl | (rw [ints_length]; first | assumption | omega | (rw [ints_length]; first | assumption | omega | simp [*])) | simp [*]) ?_ | refine vops_storeIM tyOk rfl rfl rfl rfl (by repeat (first | exact upd_here | apply upd_next | apply upd_past)) (by omega) ?_ | refine vops_storeM tyOk rfl rfl rfl rfl rfl (by repeat (first | exact upd_here | apply upd_next | apply upd_past)) (by simp) ?_ | refine vops_storeAM tyOk rfl rfl rfl (by first | rfl | (rw [ints_length]; first | assumption | omega | (rw [ints_length]; first | assumption | omega | simp [*])) | simp [*]) (by first | exact ints_one | simp [Value.oneCell']) (by repeat (first | exact upd_here | apply upd_next | apply upd_past)) (by first | rfl | (rw [ints_length]; first | assumption | omega | (rw [ints_length]; first | assumption | omega | simp [*])) | simp [*]) ?_ | refine vops_build2 rfl rfl (by kernel_rfl) ?_ | refine vops_buildZ tyOk rfl (by kernel_rfl) ?_ | refine vops_slice tyOk rfl rfl rfl rfl rfl (by omega) ?_)
      exact pairI_ok rfl rfl rfl hN (by repeat (first | exact sub_hereL | exact sub_refl | apply sub_cons | apply sub_app)) (by rw [hgood, hgo, chainGo_stop hl14 hx (.inr hxl)])
    · repeat (first | refine vops_q tyOk rfl ?_ | refine vops_nil ?_ | refine vw_seq ?_ | refine vw_region (by kernel_rfl) ?_ | refine vops_guardT rfl rfl ?_ | refine vops_guardF rfl rfl ?_ | refine vops_guardU rfl rfl ?_ | with_reducible refine bs_nbeq rfl ?_ | with_reducible refine bs_true ?_ | with_reducible refine bs_false ?_ | with_reducible refine bs_ntrue ?_ | with_reducible refine bs_nfalse ?_ | refine vops_p tyOk rfl (by (try simp only [inR]); omega) ?_ | refine vw_cond rfl ?_ | refine vw_skip ?_ | refine vw_block ?_ | refine vw_ret ?_ | refine vw_exit ?_ | refine vops_litI [_] tyOk rfl rfl (List.cons_ne_nil _ _) (by rfl) rfl (by omega) (by omega) (fun bt hbt => ?_) | refine vops_append1 (k := 1) tyOk rfl rfl (List.cons_ne_nil _ _) rfl rfl (by decide) rfl hN (by repeat (first | exact pm_here | exact pm_last | apply pm_next | apply pm_past)) rfl (by repeat (first | exact mem_here | apply mem_next | apply mem_past)) rfl (by omega) (fun p' cap' new' hN' => ?_) | refine vops_loadM tyOk rfl rfl rfl (by repeat (first | exact mem_here | apply mem_next | apply mem_past)) (by rfl) ?_ | refine vops_loadM tyOk rfl rfl rfl (by repeat (first | exact mem_here | apply mem_next | apply mem_past)) (by exact ints_get0 (by omega)) ?_ | refine vops_loadNM tyOk rfl rfl rfl (by repeat (first | exact mem_here | apply mem_next | apply mem_past)) (by first | rfl | (rw [ints_length]; first | assumption | omega | (rw [ints_length]; first | assumption | omega | simp [*])) | simp [*]) ?_ | refine vops_storeIM tyOk rfl rfl rfl rfl (by repeat (first | exact upd_here | apply upd_next | apply upd_past)) (by omega) ?_ | refine vops_storeM tyOk rfl rfl rfl rfl rfl (by repeat (first | exact upd_here | apply upd_next | apply upd_past)) (by simp) ?_ | refine vops_storeAM tyOk rfl rfl rfl (by first | rfl | (rw [ints_length]; first | assumption | omega | (rw [ints_length]; first | assumption | omega | simp [*])) | simp [*]) (by first | exact ints_one | simp [Value.oneCell']) (by repeat (first | exact upd_here | apply upd_next | apply upd_past)) (by first | rfl | (rw [ints_length]; first | assumption | omega | (rw [ints_length]; first | assumption | omega | simp [*])) | simp [*]) ?_ | refine vops_build2 rfl rfl (by kernel_rfl) ?_ | refine vops_buildZ tyOk rfl (by kernel_rfl) ?_ | refine vops_slice tyOk rfl rfl rfl rfl rfl (by omega) ?_)
      have hst := chainGo_next hl14 hx (fun h => h.elim hxa hxl)
      have hll : (l ++ [x]).length = l.length + 1 := by simp
      refine ⟨15 - (l ++ [x]).length, by omega, new' ++ [(bq, ⟨ints (r ++ q), 25, 28, none⟩)], (by repeat (first | exact ole_nil | exact ole_refl | (apply ole_cons; (repeat (first | exact pm1_here | apply pm1_next | apply pm1_past))) | (apply ole_app; (repeat (first | exact pm_here | exact pm_last | apply pm_next | apply pm_past))))), l ++ [x], 1 - T, 1 - c, p', cap', new', hCh.snoc hr hq hx hxa hxl, rfl, by rw [hgo, hst], by omega, by omega, rfl, rfl, rfl, ?_, ?_, rfl⟩
      · rw [hll]; rfl
      · rw [hll]; exact NewI.snoc hN' rfl
  · refine vops_litR2 tyOk rfl rfl (List.cons_ne_nil _ _) rfl rfl hrl hql rfl (fun bq hbq => ?_)
    repeat' (first | refine vd_q tyOk rfl (by first | trivial | rfl) rfl (by kernel_rfl) (by kernel_rfl) ?_ | refine vd_p tyOk rfl (by first | trivial | rfl) rfl (by kernel_rfl) (by kernel_rfl) (by (try simp only [inR]); omega) ?_ | refine vd_skipT rfl rfl (by kernel_rfl) (by kernel_rfl) ?_ | refine vd_skipF rfl rfl (by kernel_rfl) (by kernel_rfl) ?_ | refine vd_skipU rfl rfl (by kernel_rfl) (by kernel_rfl) ?_ | refine vops_nil ?_ | refine vd_nil (by kernel_rfl) ?_ | refine ⟨fun _ _ _ h => h, ?_⟩ | refine ⟨fun _ _ _ h => List.mem_cons_of_mem _ h, ?_⟩ | refine ⟨fun _ _ _ h => List.mem_append_right _ h, ?_⟩ | refine vops_q tyOk rfl ?_ | refine vd_load tyOk rfl (by first | trivial | rfl) rfl rfl rfl (by kernel_rfl) (by kernel_rfl) (by kernel_rfl) (sees_mem (by repeat (first | exact mem_here | apply mem_next | apply mem_past)) (by rfl)) (by repeat (first | exact sub_hereL | exact sub_refl | apply sub_cons | apply sub_app)) ?_ | refine vd_load tyOk rfl (by first | trivial | rfl) rfl rfl rfl (by kernel_rfl) (by kernel_rfl) (by kernel_rfl) (sees_mem (k := ⟨ints _, _, _, none⟩) (by repeat (first | exact mem_here | apply mem_next | apply mem_past)) (by exact ints_get0 (by omega))) (by repeat (first | exact sub_hereL | exact sub_refl | apply sub_cons | apply sub_app)) ?_ | refine vd_loadNM tyOk rfl (by first | trivial | rfl) rfl rfl rfl (by repeat (first | exact mem_here | apply mem_next | apply mem_past)) (by first | rfl | (rw [ints_length]; first | assumption | omega | (rw [ints_length]; first | assumption | omega | simp [*])) | simp [*]) (by kernel_rfl) (by kernel_rfl) (by kernel_rfl) (by repeat (first | exact sub_hereL | exact sub_refl | apply sub_cons | apply sub_app)) ?_ | refine vd_build2 rfl (by first | trivial | rfl) rfl rfl (by kernel_rfl) (by kernel_rfl) (by kernel_rfl) ?_ | refine vd_slice tyOk rfl (by first | trivial | rfl) rfl rfl rfl rfl rfl (by kernel_rfl) (by kernel_rfl) (by omega) ?_ | refine ⟨fun h => Bool.noConfusion (show false = true from h), ?_⟩ | refine ⟨fun _ p hp _ => (show Go.VL.Sub _ _ from (by repeat (first | exact sub_hereL | exact sub_refl | apply sub_cons | apply sub_app))) p hp, ?_⟩ | refine vops_litI [_] tyOk rfl rfl (List.cons_ne_nil _ _) (by rfl) rfl (by omega) (by omega) (fun bt hbt => ?_) | refine vops_loadM tyOk rfl rfl rfl (by repeat (first | exact mem_here | apply mem_next | apply mem_past)) (by rfl) ?_ | refine vops_loadM tyOk rfl rfl rfl (by repeat (first | exact mem_here | apply mem_next | apply mem_past)) (by exact ints_get0 (by omega)) ?_ | refine vops_loadNM tyOk rfl rfl rfl (by repeat (first | exact mem_here | apply mem_next | apply mem_past)) (by first | rfl | (rw [ints_length]; first | assumption | omega | (rw [ints_length]; first | assumption | omega | simp [*])) | simp [*]) ?_ | refine vops_storeIM tyOk rfl rfl rfl rfl (by repeat (first | exact upd_here | apply upd_next | apply upd_past)) (by omega) ?_ | refine vops_storeM tyOk rfl rfl rfl rfl rfl (by repeat (first | exact upd_here | apply upd_next | apply upd_past)) (by simp) ?_ | refine vops_storeAM tyOk rfl rfl rfl (by first | rfl | (rw [ints_length]; first | assumption | omega | (rw [ints_length]; first | assumption | omega | simp [*])) | simp [*]) (by first | exact ints_one | simp [Value.oneCell']) (by repeat (first | exact upd_here | apply upd_next | apply upd_past)) (by first | rfl | (rw [ints_length]; first | assumption | omega | (rw [ints_length]; first | assumption | omega | simp [*])) | simp [*]) ?_ | refine vops_build2 rfl rfl (by kernel_rfl) ?_ | refine vops_buildZ tyOk rfl (by kernel_rfl) ?_ | refine vops_slice tyOk rfl rfl rfl rfl rfl (by omega) ?_ | refine vd_one rfl (by kernel_rfl) (by kernel_rfl) rfl ?_ | refine vd_oneG rfl (by kernel_rfl) (by kernel_rfl) rfl ?_ | (refine vd_gsplit rfl rfl rfl ?_; (fail_if_success (with_reducible (first | refine bs_true ?_ | refine bs_false ?_))); with_reducible refine bs_dec (fun _ => ?_) (fun _ => ?_)) <;> try (exfalso; omega) | (refine vd_gsplit rfl rfl rfl ?_; (fail_if_success (with_reducible (first | refine bs_true ?_ | refine bs_false ?_))); with_reducible refine bs_ndec (fun _ => ?_) (fun _ => ?_)) <;> try (exfalso; omega) | (refine vd_gsplit rfl rfl rfl ?_; (fail_if_success (with_reducible (first | refine bs_true ?_ | refine bs_false ?_))); with_reducible refine bs_nany (fun _ => ?_) (fun _ => ?_)) <;> try (exfalso; omega) | (refine vd_gsplit rfl rfl rfl ?_; (fail_if_success (with_reducible (first | refine bs_true ?_ | refine bs_false ?_))); with_reducible refine bs_any (fun _ => ?_) (fun _ => ?_)) <;> try (exfalso; omega))
    repeat (first | refine vops_q tyOk rfl ?_ | refine vops_nil ?_ | refine vw_seq ?_ | refine vw_region (by kernel_rfl) ?_ | refine vops_guardT rfl rfl ?_ | refine vops_guardF rfl rfl ?_ | refine vops_guardU rfl rfl ?_ | with_reducible refine bs_nbeq rfl ?_ | with_reducible refine bs_true ?_ | with_reducible refine bs_false ?_ | with_reducible refine bs_ntrue ?_ | with_reducible refine bs_nfalse ?_ | refine vops_p tyOk rfl (by (try simp only [inR]); omega) ?_ | refine vw_cond rfl ?_ | refine vw_skip ?_ | refine vw_block ?_ | refine vw_ret ?_ | refine vw_exit ?_ | refine vops_loadM tyOk rfl rfl rfl (by repeat (first | exact mem_here | apply mem_next | apply mem_past)) (by rfl) ?_ | refine vops_loadM tyOk rfl rfl rfl (by repeat (first | exact mem_here | apply mem_next | apply mem_past)) (by exact ints_get0 (by omega)) ?_ | refine vops_loadNM tyOk rfl rfl rfl (by repeat (first | exact mem_here | apply mem_next | apply mem_past)) (by first | rfl | (rw [ints_length]; first | assumption | omega | (rw [ints_length]; first | assumption | omega | simp [*])) | simp [*]) ?_ | refine vops_storeIM tyOk rfl rfl rfl rfl (by repeat (first | exact upd_here | apply upd_next | apply upd_past)) (by omega) ?_ | refine vops_storeM tyOk rfl rfl rfl rfl rfl (by repeat (first | exact upd_here | apply upd_next | apply upd_past)) (by simp) ?_ | refine vops_storeAM tyOk rfl rfl rfl (by first | rfl | (rw [ints_length]; first | assumption | omega | (rw [ints_length]; first | assumption | omega | simp [*])) | simp [*]) (by first | exact ints_one | simp [Value.oneCell']) (by repeat (first | exact upd_here | apply upd_next | apply upd_past)) (by first | rfl | (rw [ints_length]; first | assumption | omega | (rw [ints_length]; first | assumption | omega | simp [*])) | simp [*]) ?_ | refine vops_build2 rfl rfl (by kernel_rfl) ?_ | refine vops_buildZ tyOk rfl (by kernel_rfl) ?_ | refine vops_slice tyOk rfl rfl rfl rfl rfl (by omega) ?_)
    refine vw_loopW (fun m f own => ∃ (l : List Int) (T : Nat) (c : Int) (p : Option Addr) (cp : Nat) (new : Own), Ch n r q a l ∧ m = 15 - l.length ∧ chain r q a = chainGo r q a (16 - l.length) l ∧ c = T ∧ T = (l.length - 1) % 2 ∧ f 13 = .int .i64 c ∧ f 3 = .int .i64 a ∧ f 12 = .slice (some ⟨bq, 0, none⟩) 2 2 ∧ f 11 = .slice p l.length cp ∧ NewI 2 l (.slice p l.length cp) new ∧
        own = new ++ [(bq, ⟨ints (r ++ q), 25, 28, none⟩)]) 14
      ⟨[(bt, ⟨ints [a], 2, 1 * 1, none⟩)] ++ [(bq, ⟨ints (r ++ q), 25, 28, none⟩)], (by repeat (first | exact ole_nil | exact ole_refl | (apply ole_cons; (repeat (first | exact pm1_here | apply pm1_next | apply pm1_past))) | (apply ole_app; (repeat (first | exact pm_here | exact pm_last | apply pm_next | apply pm_past))))), [a], 0, 0, some ⟨bt, 0, none⟩, 1, [(bt, ⟨ints [a], 2, 1 * 1, none⟩)], Ch.one (by omega) (by omega), rfl, rfl, rfl, rfl, rfl, rfl, rfl, rfl, NewI.lit (l := [a]) rfl (Nat.le_refl _) (by simp [maxLen]), rfl⟩ ?_
    rintro m f own ⟨l, T, c, p, cp, new, hCh, rfl, hgo, hcT, hT, h13, h3, h12, h11, hN, rfl⟩
    rw [upd_of h13, upd_of h3, upd_of h12, upd_of h11]
    have hl14 := hCh.length_le hn14
    have hl0 := hCh.ne
    have hlast := hCh.last
    have hmv := mv_ok hr hq (l.length - 1) hlast.1 hlast.2
    obtain ⟨x, hx⟩ : ∃ x, x = mv r q (l.length - 1) (l.getD (l.length - 1) 0) := ⟨_, rfl⟩
    rw [← hx] at hmv
    obtain ⟨bn, rfl, rfl, hc1, hc2, hl1⟩ := NewF.blk (NewI.f hN) hl0
    have hcell : (ints l)[0 + ((l.length : Int) - 1).toNat]? = some (.int .i64 (l.getD (l.length - 1) 0)) := by
      rw [show 0 + ((l.length : Int) - 1).toNat = l.length - 1 by omega]; exact ints_get (by omega)
    have hcell2 : ∀ z, z = 0 + c.toNat * 14 + (l.getD (l.length - 1) 0).toNat → (ints (r ++ q))[z]? = some (.int .i64 x) := fun z hz =>
      two_cell hrl hql (t := l.length - 1) (x := l.getD (l.length - 1) 0) hx hlast.1 (by omega) (by rw [hz, ← hT, hcT]; simp)
    have hT2 : c = 0 ∨ c = 1 := by omega
    repeat (first | refine vops_q tyOk rfl ?_ | refine vops_nil ?_ | refine vw_seq ?_ | refine vw_region (by kernel_rfl) ?_ | refine vops_guardT rfl rfl ?_ | refine vops_guardF rfl rfl ?_ | refine vops_guardU rfl rfl ?_ | with_reducible refine bs_nbeq rfl ?_ | with_reducible refine bs_true ?_ | with_reducible refine bs_false ?_ | with_reducible refine bs_ntrue ?_ | with_reducible refine bs_nfalse ?_ | refine vops_p tyOk rfl (by (try simp only [inR]); omega) ?_ | refine vw_cond rfl ?_ | refine vw_skip ?_ | refine vw_block ?_ | refine vw_ret ?_ | refine vw_exit ?_ | refine vops_loadM tyOk rfl rfl rfl (by repeat (first | exact mem_here | apply mem_next | apply mem_past)) (by exact hcell) ?_ | refine vops_loadM tyOk rfl rfl rfl (by repeat (first | exact mem_here | apply mem_next | apply mem_past)) (by exact hcell2 _ rfl) ?_ | refine vops_loadM tyOk rfl rfl rfl (by repeat (first | exact mem_here | apply mem_next | apply mem_past)) (by rfl) ?_ | refine vops_loadM tyOk rfl rfl rfl (by repeat (first | exact mem_here | apply mem_next | apply mem_past)) (by exact ints_get0 (by omega)) ?_ | refine vops_loadNM tyOk rfl rfl rfl (by repeat (first | exact mem_here | apply mem_next | apply mem_past)) (by first | rfl | (rw [ints_length]; first | assumption | omega | (rw [ints_length]; first | assumption | omega | simp [*])) | simp [*]) ?_ | refine vops_storeIM tyOk rfl rfl rfl rfl (by repeat (first | exact upd_here | apply upd_next | apply upd_past)) (by omega) ?_ | refine vops_storeM tyOk rfl rfl rfl rfl rfl (by repeat (first | exact upd_here | apply upd_next | apply upd_past)) (by simp) ?_ | refine vops_storeAM tyOk rfl rfl rfl (by first | rfl | (rw [ints_length]; first | assumption | omega | (rw [ints_length]; first | assumption | omega | simp [*])) | simp [*]) (by first | exact ints_one | simp [Value.oneCell']) (by repeat (first | exact upd_here | apply upd_next | apply upd_past)) (by first | rfl | (rw [ints_length]; first | assumption | omega | (rw [ints_length]; first | assumption | omega | simp [*])) | simp [*]) ?_ | refine vops_build2 rfl rfl (by kernel_rfl) ?_ | refine vops_buildZ tyOk rfl (by kernel_rfl) ?_ | refine vops_slice tyOk rfl rfl rfl rfl rfl (by omega) ?_)
    refine bs_dec (fun hxa => ?_) (fun hxa => ?_)
    · repeat (first | refine vops_q tyOk rfl ?_ | refine vops_nil ?_ | refine vw_seq ?_ | refine vw_region (by kernel_rfl) ?_ | refine vops_guardT rfl rfl ?_ | refine vops_guardF rfl rfl ?_ | refine vops_guardU rfl rfl ?_ | with_reducible refine bs_nbeq rfl ?_ | with_reducible refine bs_true ?_ | with_reducible refine bs_false ?_ | with_reducible refine bs_ntrue ?_ | with_reducible refine bs_nfalse ?_ | refine vops_p tyOk rfl (by (try simp only [inR]); omega) ?_ | refine vw_cond rfl ?_ | refine vw_skip ?_ | refine vw_block ?_ | refine vw_ret ?_ | refine vw_exit ?_ | refine vops_loadM tyOk rfl rfl rfl (by repeat (first | exact mem_here | apply mem_next | apply mem_past)) (by rfl) ?_ | refine vops_loadM tyOk rfl rfl rfl (by repeat (first | exact mem_here | apply mem_next | apply mem_past)) (by exact ints_get0 (by omega)) ?_ | refine vops_loadNM tyOk rfl rfl rfl (by repeat (first | exact mem_here | apply mem_next | apply mem_past)) (by first | rfl | (rw [ints_length]; first | assumption | omega | (rw [ints_length]; first | assumption | omega | simp [*])) | simp [*]) ?_ | refine vops_storeIM tyOk rfl rfl rfl rfl (by repeat (first | exact upd_here | apply upd_next | apply upd_past)) (by omega) ?_ | refine vops_storeM tyOk rfl rfl rfl rfl rfl (by repeat (first | exact upd_here | apply upd_next | apply upd_past)) (by simp) ?_ | refine vops_storeAM tyOk rfl rfl rfl (by first | rfl | (rw [ints_length]; first | assumption | omega | (rw [ints_length]; first | assumption | omega | simp [*])) | simp [*]) (by first | exact ints_one | simp [Value.oneCell']) (by repeat (first | exact upd_here | apply upd_next | apply upd_past)) (by first | rfl | (rw [ints_length]; first | assumption | omega | (rw [ints_length]; first | assumption | omega | simp [*])) | simp [*]) ?_ | refine vops_build2 rfl rfl (by kernel_rfl) ?_ | refine vops_buildZ tyOk rfl (by kernel_rfl) ?_ | refine vops_slice tyOk rfl rfl rfl rfl rfl (by omega) ?_)
      exact pairI_ok rfl rfl rfl hN (by repeat (first | exact sub_hereL | exact sub_refl | apply sub_cons | apply sub_app)) (by rw [hgood, hgo, chainGo_stop hl14 hx (.inl hxa)])
    repeat (first | refine vops_q tyOk rfl ?_ | refine vops_nil ?_ | refine vw_seq ?_ | refine vw_region (by kernel_rfl) ?_ | refine vops_guardT rfl rfl ?_ | refine vops_guardF rfl rfl ?_ | refine vops_guardU rfl rfl ?_ | with_reducible refine bs_nbeq rfl ?_ | with_reducible refine bs_true ?_ | with_reducible refine bs_false ?_ | with_reducible refine bs_ntrue ?_ | with_reducible refine bs_nfalse ?_ | refine vops_p tyOk rfl (by (try simp only [inR]); omega) ?_ | refine vw_cond rfl ?_ | refine vw_skip ?_ | refine vw_block ?_ | refine vw_ret ?_ | refine vw_exit ?_ | refine vops_loadM tyOk rfl rfl rfl (by repeat (first | exact mem_here | apply mem_next | apply mem_past)) (by rfl) ?_ | refine vops_loadM tyOk rfl rfl rfl (by repeat (first | exact mem_here | apply mem_next | apply mem_past)) (by exact ints_get0 (by omega)) ?_ | refine vops_loadNM tyOk rfl rfl rfl (by repeat (first | exact mem_here | apply mem_next | apply mem_past)) (by first | rfl | (rw [ints_length]; first | assumption | omega | (rw [ints_length]; first | assumption | omega | simp [*])) | simp [*]) ?_ | refine vops_storeIM tyOk rfl rfl rfl rfl (by repeat (first | exact upd_here | apply upd_next | apply upd_past)) (by omega) ?_ | refine vops_storeM tyOk rfl rfl rfl rfl rfl (by repeat (first | exact upd_here | apply upd_next | apply upd_past)) (by simp) ?_ | refine vops_storeAM tyOk rfl rfl rfl (by first | rfl | (rw [ints_length]; first | assumption | omega | (rw [ints_length]; first | assumption | omega | simp [*])) | simp [*]) (by first | exact ints_one | simp [Value.oneCell']) (by repeat (first | exact upd_here | apply upd_next | apply upd_past)) (by first | rfl | (rw [ints_length]; first | assumption | omega | (rw [ints_length]; first | assumption | omega | simp [*])) | simp [*]) ?_ | refine vops_build2 rfl rfl (by kernel_rfl) ?_ | refine vops_buildZ tyOk rfl (by kernel_rfl) ?_ | refine vops_slice tyOk rfl rfl rfl rfl rfl (by omega) ?_)
    refine bs_dec (fun hxl => ?_) (fun hxl => ?_)
    · repeat (first | refine vops_q tyOk rfl ?_ | refine vops_nil ?_ | refine vw_seq ?_ | refine vw_region (by kernel_rfl) ?_ | refine vops_guardT rfl rfl ?_ | refine vops_guardF rfl rfl ?_ | refine vops_guardU rfl rfl ?_ | with_reducible refine bs_nbeq rfl ?_ | with_reducible refine bs_true ?_ | with_reducible refine bs_false ?_ | with_reducible refine bs_ntrue ?_ | with_reducible refine bs_nfalse ?_ | refine vops_p tyOk rfl (by (try simp only [inR]); omega) ?_ | refine vw_cond rfl ?_ | refine vw_skip ?_ | refine vw_block ?_ | refine vw_ret ?_ | refine vw_exit ?_ | refine vops_loadM tyOk rfl rfl rfl (by repeat (first | exact mem_here | apply mem_next | apply mem_past)) (by rfl) ?_ | refine vops_loadM tyOk rfl rfl rfl (by repeat (first | exact mem_here | apply mem_next | apply mem_past)) (by exact ints_get0 (by omega)) ?_ | refine vops_loadNM tyOk rfl rfl rfl (by repeat (first | exact mem_here | apply mem_next | apply mem_past)) (by first | rfl | (rw [ints_length]; first | assumption | omega | (rw [ints_length]; first | assumption | omega | simp [*])) | simp [*]) ?_ | refine vops_storeIM tyOk rfl rfl rfl rfl (by repeat (first | exact upd_here | apply upd_next | apply upd_past)) (by omega) ?_ | refine vops_storeM tyOk rfl rfl rfl rfl rfl (by repeat (first | exact upd_here | apply upd_next | apply upd_past)) (by simp) ?_ | refine vops_storeAM tyOk rfl rfl rfl (by first | rfl | (rw [ints_length]; first | assumption | omega | (rw [ints_length]; first | assumption | omega | simp [*])) | simp [*]) (by first | exact ints_one | simp [Value.oneCell']) (by repeat (first | exact upd_here | apply upd_next | apply upd_past)) (by first | rfl | (rw [ints_length]; first | assumption | omega | (rw [ints_length]; first | assumption | omega | simp [*])) | simp [*]) ?_ | refine vops_build2 rfl rfl (by kernel_rfl) ?_ | refine vops_buildZ tyOk rfl (by kernel_rfl) ?_ | refine vops_slice tyOk rfl rfl rfl rfl rfl (by omega) ?_)
      exact pairI_ok rfl rfl rfl hN (by repeat (first | exact sub_hereL | exact sub_refl | apply sub_cons | apply sub_app)) (by rw [hgood, hgo, chainGo_stop hl14 hx (.inr hxl)])
    · repeat (first | refine vops_q tyOk rfl ?_ | refine vops_nil ?_ | refine vw_seq ?_ | refine vw_region (by kernel_rfl) ?_ | refine vops_guardT rfl rfl ?_ | refine vops_guardF rfl rfl ?_ | refine vops_guardU rfl rfl ?_ | with_reducible refine bs_nbeq rfl ?_ | with_reducible refine bs_true ?_ | with_reducible refine bs_false ?_ | with_reducible refine bs_ntrue ?_ | with_reducible refine bs_nfalse ?_ | refine vops_p tyOk rfl (by (try simp only [inR]); omega) ?_ | refine vw_cond rfl ?_ | refine vw_skip ?_ | refine vw_block ?_ | refine vw_ret ?_ | refine vw_exit ?_ | refine vops_litI [_] tyOk rfl rfl (List.cons_ne_nil _ _) (by rfl) rfl (by omega) (by omega) (fun bt hbt => ?_) | refine vops_append1 (k := 1) tyOk rfl rfl (List.cons_ne_nil _ _) rfl rfl (by decide) rfl hN (by repeat (first | exact pm_here | exact pm_last | apply pm_next | apply pm_past)) rfl (by repeat (first | exact mem_here | apply mem_next | apply mem_past)) rfl (by omega) (fun p' cap' new' hN' => ?_) | refine vops_loadM tyOk rfl rfl rfl (by repeat (first | exact mem_here | apply mem_next | apply mem_past)) (by rfl) ?_ | refine vops_loadM tyOk rfl rfl rfl (by repeat (first | exact mem_here | apply mem_next | apply mem_past)) (by exact ints_get0 (by omega)) ?_ | refine vops_loadNM tyOk rfl rfl rfl (by repeat (first | exact mem_here | apply mem_next | apply mem_past)) (by first | rfl | (rw [ints_length]; first | assumption | omega | (rw [ints_length]; first | assumption | omega | simp [*])) | simp [*]) ?_ | refine vops_storeIM tyOk rfl rfl rfl rfl (by repeat (first | exact upd_here | apply upd_next | apply upd_past)) (by omega) ?_ | refine vops_storeM tyOk rfl rfl rfl rfl rfl (by repeat (first | exact upd_here | apply upd_next | apply upd_past)) (by simp) ?_ | refine vops_storeAM tyOk rfl rfl rfl (by first | rfl | (rw [ints_length]; first | assumption | omega | (rw [ints_length]; first | assumption | omega | simp [*])) | simp [*]) (by first | exact ints_one | simp [Value.oneCell']) (by repeat (first | exact upd_here | apply upd_next | apply upd_past)) (by first | rfl | (rw [ints_length]; first | assumption | omega | (rw [ints_length]; first | assumption | omega | simp [*])) | simp [*]) ?_ | refine vops_build2 rfl rfl (by kernel_rfl) ?_ | refine vops_buildZ tyOk rfl (by kernel_rfl) ?_ | refine vops_slice tyOk rfl rfl rfl rfl rfl (by omega) ?_)
      have hst := chainGo_next hl14 hx (fun h => h.elim hxa hxl)
      have hll : (l ++ [x]).length = l.length + 1 := by simp
      refine ⟨15 - (l ++ [x]).length, by omega, new' ++ [(bq, ⟨ints (r ++ q), 25, 28, none⟩)], (by repeat (first | exact ole_nil | exact ole_refl | (apply ole_cons; (repeat (first | exact pm1_here | apply pm1_next | apply pm1_past))) | (apply ole_app; (repeat (first | exact pm_here | exact pm_last | apply pm_next | apply pm_past))))), l ++ [x], 1 - T, 1 - c, p', cap', new', hCh.snoc hr hq hx hxa hxl, rfl, by rw [hgo, hst], by omega, by omega, rfl, rfl, rfl, ?_, ?_, rfl⟩
      · rw [hll]; rfl
      · rw [hll]; exact NewI.snoc hN' rfl
end Go.Proofs.Ytabccmngdhgdfaa

/-! What two rounds join. -/
namespace Go.Proofs.Ytabccmngdhgdfaa
open Go.VL
attribute [local irreducible] VWr VOps VD Calls

/-- The chain is at its end. -/
def Ends (r q : List Int) (a : Int) (l : List Int) : Prop := mv r q (l.length - 1) (l.getD (l.length - 1) 0) = a ∨ mv r q (l.length - 1) (l.getD (l.length - 1) 0) = l.getD (l.length - 1) 0
theorem chainGo_ends {n : Int} {r q : List Int} {a : Int} (hr : IsRd n r) (hq : IsRd n q) : ∀ (f : Nat) (l : List Int), Ch n r q a l → l.length + f = 16 → Ends r q a (chainGo r q a f l)
  | 0, l, h, hf => by have := h.length_le hr.2.1; omega
  | f + 1, l, h, hf => by
    unfold chainGo
    split
    · rename_i hc; exact hc
    · rename_i hc
      refine chainGo_ends hr hq f _ (h.snoc hr hq rfl (fun e => hc (.inl e)) (fun e => hc (.inr e))) ?_
      rw [List.length_append]; simp; omega
theorem chain_ends {n : Int} {r q : List Int} {a : Int} (hr : IsRd n r) (hq : IsRd n q) (h0 : 0 ≤ a) (h1 : a < n) : Ends r q a (chain r q a) := chainGo_ends hr hq 15 [a] (Ch.one h0 h1) rfl
/-- A set of teams that joins do not leave. -/
def Closed (n : Int) (r q : List Int) (S : Int → Prop) : Prop := ∀ x, 0 ≤ x → x < n → S x → S (r.getD x.toNat 0) ∧ S (q.getD x.toNat 0)
theorem mv_even {r q : List Int} {t : Nat} {x : Int} (h : t % 2 = 0) : mv r q t x = r.getD x.toNat 0 := by unfold mv cur; rw [if_pos h]
theorem mv_odd {r q : List Int} {t : Nat} {x : Int} (h : ¬ t % 2 = 0) : mv r q t x = q.getD x.toNat 0 := by unfold mv cur; rw [if_neg h]
theorem mv_swap (r q : List Int) (t : Nat) (x : Int) : mv q r t x = mv r q (t + 1) x := by
  by_cases h : t % 2 = 0
  · rw [mv_even h, mv_odd (by omega)]
  · rw [mv_odd h, mv_even (by omega)]
/-- Both neighbours of what stands in a chain, but for the first one, are in the chain. -/
theorem Ch.near {n : Int} {r q : List Int} (hr : IsRd n r) (hq : IsRd n q) {a : Int} {l : List Int} (h : Ch n r q a l) (he : Ends r q a l) {i : Nat} (hi : i < l.length) :
    mv r q i (l.getD i 0) ∈ l ∧ (0 < i → mv r q (i + 1) (l.getD i 0) ∈ l) := by
  have ha : a ∈ l := by rw [← h.first]; exact getD_mem h.ne
  constructor
  · by_cases hl : i + 1 < l.length
    · rw [← h.step i hl]; exact getD_mem hl
    · have e : i = l.length - 1 := by omega
      subst e
      rcases he with he | he
      · rw [he]; exact ha
      · rw [he]; exact getD_mem hi
  · intro h0
    have h1 := h.step (i - 1) (by omega)
    rw [show i - 1 + 1 = i by omega] at h1
    have hb := h.inn _ (getD_mem (show i - 1 < l.length by omega))
    have h3 := (mv_ok hr hq (i - 1) hb.1 hb.2).2.2
    rw [← h1] at h3
    have : mv r q (i + 1) (l.getD i 0) = mv r q (i - 1) (l.getD i 0) := by unfold mv; rw [cur_par (show (i + 1) % 2 = (i - 1) % 2 by omega)]
    rw [this, h3]; exact getD_mem (by omega)
/-- The teams to which joins lead from a. -/
def InComp (r q : List Int) (a x : Int) : Prop := x ∈ chain r q a ∨ x ∈ chain q r a
instance (r q : List Int) (a x : Int) : Decidable (InComp r q a x) := by unfold InComp; infer_instance
theorem InComp.self {n : Int} {r q : List Int} {a : Int} (hr : IsRd n r) (hq : IsRd n q) (h0 : 0 ≤ a) (h1 : a < n) : InComp r q a a := by
  have h := chain_ch hr hq h0 h1
  exact .inl (by have := getD_mem h.ne; rwa [h.first] at this)
theorem InComp.range {n : Int} {r q : List Int} {a x : Int} (hr : IsRd n r) (hq : IsRd n q) (h0 : 0 ≤ a) (h1 : a < n) (h : InComp r q a x) : 0 ≤ x ∧ x < n := by
  rcases h with h | h
  · exact (chain_ch hr hq h0 h1).inn x h
  · exact (chain_ch hq hr h0 h1).inn x h
theorem mem_at {l : List Int} {x : Int} (h : x ∈ l) : ∃ i, i < l.length ∧ l.getD i 0 = x := by
  obtain ⟨i, hi⟩ := List.mem_iff_getElem?.1 h
  exact ⟨i, (List.getElem?_eq_some_iff.1 hi).1, by rw [List.getD_eq_getElem?_getD, hi]; rfl⟩
theorem comp_half {n : Int} {r q : List Int} {a : Int} (hr : IsRd n r) (hq : IsRd n q) (h0 : 0 ≤ a) (h1 : a < n) {x : Int} (hx : x ∈ chain r q a) (hxa : x ≠ a) : r.getD x.toNat 0 ∈ chain r q a ∧ q.getD x.toNat 0 ∈ chain r q a := by
  have h := chain_ch hr hq h0 h1
  have he := chain_ends hr hq h0 h1
  obtain ⟨i, hi, rfl⟩ := mem_at hx
  have hi0 : 0 < i := by
    rcases Nat.eq_zero_or_pos i with e | e
    · subst e; exact absurd h.first hxa
    · exact e
  obtain ⟨k1, k2⟩ := h.near hr hq he hi
  have k2 := k2 hi0
  by_cases hp : i % 2 = 0
  · rw [mv_even hp] at k1; rw [mv_odd (by omega)] at k2; exact ⟨k1, k2⟩
  · rw [mv_odd hp] at k1; rw [mv_even (by omega)] at k2; exact ⟨k2, k1⟩
theorem comp_first {n : Int} {r q : List Int} {a : Int} (hr : IsRd n r) (hq : IsRd n q) (h0 : 0 ≤ a) (h1 : a < n) : r.getD a.toNat 0 ∈ chain r q a := by
  have h := chain_ch hr hq h0 h1
  have he := chain_ends hr hq h0 h1
  have k1 := (h.near hr hq he h.ne).1
  rw [h.first, mv_even rfl] at k1
  exact k1
theorem comp_closed {n : Int} {r q : List Int} {a : Int} (hr : IsRd n r) (hq : IsRd n q) (h0 : 0 ≤ a) (h1 : a < n) : Closed n r q (InComp r q a) := by
  intro x _ _ hx
  by_cases hxa : x = a
  · subst hxa
    exact ⟨.inl (comp_first hr hq h0 h1), .inr (comp_first hq hr h0 h1)⟩
  · rcases hx with hx | hx
    · have := comp_half hr hq h0 h1 hx hxa; exact ⟨.inl this.1, .inl this.2⟩
    · have := comp_half hq hr h0 h1 hx hxa; exact ⟨.inr this.2, .inr this.1⟩
theorem Ch.least {n : Int} {r q : List Int} {a : Int} {l : List Int} (h : Ch n r q a l) {S : Int → Prop} (hS : Closed n r q S) (ha : S a) : ∀ i, i < l.length → S (l.getD i 0)
  | 0, _ => by rw [h.first]; exact ha
  | i + 1, hi => by
    have ih := Ch.least h hS ha i (by omega)
    have hb := h.inn _ (getD_mem (show i < l.length by omega))
    have := hS _ hb.1 hb.2 ih
    rw [h.step i hi]
    by_cases hp : i % 2 = 0
    · rw [mv_even hp]; exact this.1
    · rw [mv_odd hp]; exact this.2
theorem comp_least {n : Int} {r q : List Int} {a : Int} (hr : IsRd n r) (hq : IsRd n q) (h0 : 0 ≤ a) (h1 : a < n) {S : Int → Prop} (hS : Closed n r q S) (ha : S a) {x : Int} (hx : InComp r q a x) : S x := by
  rcases hx with hx | hx
  · obtain ⟨i, hi, rfl⟩ := mem_at hx
    exact (chain_ch hr hq h0 h1).least hS ha i hi
  · obtain ⟨i, hi, rfl⟩ := mem_at hx
    exact (chain_ch hq hr h0 h1).least (fun x a b c => (hS x a b c).symm) ha i hi
theorem Closed.back {n : Int} {r q : List Int} (hr : IsRd n r) (hq : IsRd n q) {S : Int → Prop} (hS : Closed n r q S) {x : Int} (h0 : 0 ≤ x) (h1 : x < n) : (S (r.getD x.toNat 0) → S x) ∧ (S (q.getD x.toNat 0) → S x) := by
  have a1 := mv_ok hr hq 0 h0 h1
  have a2 := mv_ok hr hq 1 h0 h1
  rw [mv_even rfl] at a1
  rw [mv_odd (by decide)] at a2
  constructor
  · intro h
    have := (hS _ a1.1 a1.2.1 h).1
    rw [mv_even rfl] at a1
    rwa [a1.2.2] at this
  · intro h
    have := (hS _ a2.1 a2.2.1 h).2
    rw [mv_odd (by decide)] at a2
    rwa [a2.2.2] at this

/-! sorted lists -/
theorem asc_ext : ∀ {l m : List Int}, l.Pairwise (· < ·) → m.Pairwise (· < ·) → (∀ x, x ∈ l ↔ x ∈ m) → l = m
  | [], [], _, _, _ => rfl
  | [], y :: m, _, _, h => by have := (h y).2 (by simp); simp at this
  | x :: l, [], _, _, h => by have := (h x).1 (by simp); simp at this
  | x :: l, y :: m, hl, hm, h => by
    have hl' := List.pairwise_cons.1 hl
    have hm' := List.pairwise_cons.1 hm
    have hxy : x = y := by
      have h1 := (h x).1 (by simp)
      have h2 := (h y).2 (by simp)
      rcases List.mem_cons.1 h1 with e | e
      · exact e
      · rcases List.mem_cons.1 h2 with e2 | e2
        · exact e2.symm
        · have := hl'.1 y e2
          have := hm'.1 x e
          omega
    subst hxy
    rw [asc_ext hl'.2 hm'.2 fun z => ?_]
    constructor
    · intro hz
      rcases List.mem_cons.1 ((h z).1 (by simp [hz])) with e | e
      · subst e; have := hl'.1 z hz; omega
      · exact e
    · intro hz
      rcases List.mem_cons.1 ((h z).2 (by simp [hz])) with e | e
      · subst e; have := hm'.1 z hz; omega
      · exact e
theorem range_asc (n : Nat) : ((List.range n).map fun (i : Nat) => (i : Int)).Pairwise (· < ·) := by
  rw [List.pairwise_map]
  exact List.pairwise_lt_range.imp fun h => by omega
/-- The component of a, ascending. -/
def compOf (n : Int) (r q : List Int) (a : Int) : List Int := ((List.range n.toNat).map fun (i : Nat) => (i : Int)).filter fun x => decide (InComp r q a x)
theorem compOf_asc (n : Int) (r q : List Int) (a : Int) : (compOf n r q a).Pairwise (· < ·) := (range_asc _).filter _
theorem mem_compOf {n : Int} {r q : List Int} {a : Int} (hr : IsRd n r) (hq : IsRd n q) (h0 : 0 ≤ a) (h1 : a < n) {x : Int} : x ∈ compOf n r q a ↔ InComp r q a x := by
  unfold compOf
  rw [List.mem_filter, decide_eq_true_eq]
  refine ⟨fun h => h.2, fun h => ⟨?_, h⟩⟩
  have := InComp.range hr hq h0 h1 h
  exact List.mem_map.2 ⟨x.toNat, List.mem_range.2 (by omega), by omega⟩
theorem compOf_length (n : Int) (r q : List Int) (a : Int) : (compOf n r q a).length ≤ n.toNat := by
  have := List.length_filter_le (fun x => decide (InComp r q a x)) ((List.range n.toNat).map fun (i : Nat) => (i : Int))
  simpa [compOf] using this
/-- The components, as far as the team i. -/
def comps (n : Int) (r q : List Int) : Nat → List (List Int)
  | 0 => []
  | i + 1 => if ∃ c ∈ comps n r q i, (i : Int) ∈ c then comps n r q i else comps n r q i ++ [compOf n r q i]
theorem comps_length (n : Int) (r q : List Int) : ∀ i, (comps n r q i).length ≤ i
  | 0 => Nat.le_refl _
  | i + 1 => by
    have := comps_length n r q i
    unfold comps
    split
    · omega
    · rw [List.length_append]; simp; omega
theorem comps_mem {n : Int} {r q : List Int} : ∀ {i : Nat} {c : List Int}, c ∈ comps n r q i → ∃ a : Nat, a < i ∧ c = compOf n r q a
  | 0, c, h => by simp [comps] at h
  | i + 1, c, h => by
    unfold comps at h
    split at h
    · obtain ⟨a, h1, h2⟩ := comps_mem h; exact ⟨a, by omega, h2⟩
    · rcases List.mem_append.1 h with h | h
      · obtain ⟨a, h1, h2⟩ := comps_mem h; exact ⟨a, by omega, h2⟩
      · exact ⟨i, by omega, by simpa using h⟩
/-- What the components so far have. -/
def Met (n : Int) (r q : List Int) (i : Nat) (x : Int) : Prop := ∃ c ∈ comps n r q i, x ∈ c
theorem met_closed {n : Int} {r q : List Int} (hr : IsRd n r) (hq : IsRd n q) {i : Nat} (hi : (i : Int) ≤ n) : Closed n r q (Met n r q i) := by
  intro x h0 h1 ⟨c, hc, hx⟩
  obtain ⟨a, ha, rfl⟩ := comps_mem hc
  have hx' := (mem_compOf hr hq (a := a) (by omega) (by omega)).1 hx
  have := comp_closed hr hq (a := a) (by omega) (by omega) x h0 h1 hx'
  exact ⟨⟨_, hc, (mem_compOf hr hq (by omega) (by omega)).2 this.1⟩, ⟨_, hc, (mem_compOf hr hq (by omega) (by omega)).2 this.2⟩⟩
end Go.Proofs.Ytabccmngdhgdfaa

/- A part of the proof: P34. No conditions of its own. -/
namespace Go.Proofs.Ytabccmngdhgdfaa
open Go.VL
attribute [local irreducible] VWr VOps VD Calls

set_option maxRecDepth 100000 in
theorem c_l01Own (v : Value) (l : List Int) (w : World) (hv : RdI w v l) (hl : l.length ≤ 1048576) : Calls Try.prog 144 [v].toArray w (Res w (NewI 2 l)) := by
  obtain ⟨a, cap, rfl⟩ := hv.len
  refine calls_of_vw Try.func144 rfl Try.ntmps144 (by simp) ?_
  repeat (first | refine vops_q tyOk rfl ?_ | refine vops_nil ?_ | refine vw_seq ?_ | refine vw_region (by kernel_rfl) ?_ | refine vops_guardT rfl rfl ?_ | refine vops_guardF rfl rfl ?_ | refine vops_guardU rfl rfl ?_ | with_reducible refine bs_nbeq rfl ?_ | with_reducible refine bs_true ?_ | with_reducible refine bs_false ?_ | with_reducible refine bs_ntrue ?_ | with_reducible refine bs_nfalse ?_ | refine vops_p tyOk rfl (by (try simp only [inR]); omega) ?_ | refine vw_cond rfl ?_ | refine vw_skip ?_ | refine vw_block ?_ | refine vw_ret ?_ | refine vw_exit ?_ | refine vops_loadM tyOk rfl rfl rfl (by repeat (first | exact mem_here | apply mem_next | apply mem_past)) (by rfl) ?_ | refine vops_loadM tyOk rfl rfl rfl (by repeat (first | exact mem_here | apply mem_next | apply mem_past)) (by exact ints_get0 (by omega)) ?_ | refine vops_loadNM tyOk rfl rfl rfl (by repeat (first | exact mem_here | apply mem_next | apply mem_past)) (by first | rfl | (rw [ints_length]; first | assumption | omega | (rw [ints_length]; first | assumption | omega | simp [*])) | simp [*]) ?_ | refine vops_storeIM tyOk rfl rfl rfl rfl (by repeat (first | exact upd_here | apply upd_next | apply upd_past)) (by omega) ?_ | refine vops_storeM tyOk rfl rfl rfl rfl rfl (by repeat (first | exact upd_here | apply upd_next | apply upd_past)) (by simp) ?_ | refine vops_storeAM tyOk rfl rfl rfl (by first | rfl | (rw [ints_length]; first | assumption | omega | (rw [ints_length]; first | assumption | omega | simp [*])) | simp [*]) (by first | exact ints_one | simp [Value.oneCell']) (by repeat (first | exact upd_here | apply upd_next | apply upd_past)) (by first | rfl | (rw [ints_length]; first | assumption | omega | (rw [ints_length]; first | assumption | omega | simp [*])) | simp [*]) ?_ | refine vops_build2 rfl rfl (by kernel_rfl) ?_ | refine vops_buildZ tyOk rfl (by kernel_rfl) ?_ | refine vops_slice tyOk rfl rfl rfl rfl rfl (by omega) ?_)
  refine vops_build0 tyOk rfl rfl (fun be hbe => ?_)
  repeat (first | refine vops_q tyOk rfl ?_ | refine vops_nil ?_ | refine vw_seq ?_ | refine vw_region (by kernel_rfl) ?_ | refine vops_guardT rfl rfl ?_ | refine vops_guardF rfl rfl ?_ | refine vops_guardU rfl rfl ?_ | with_reducible refine bs_nbeq rfl ?_ | with_reducible refine bs_true ?_ | with_reducible refine bs_false ?_ | with_reducible refine bs_ntrue ?_ | with_reducible refine bs_nfalse ?_ | refine vops_p tyOk rfl (by (try simp only [inR]); omega) ?_ | refine vw_cond rfl ?_ | refine vw_skip ?_ | refine vw_block ?_ | refine vw_ret ?_ | refine vw_exit ?_ | refine vops_loadM tyOk rfl rfl rfl (by repeat (first | exact mem_here | apply mem_next | apply mem_past)) (by rfl) ?_ | refine vops_loadM tyOk rfl rfl rfl (by repeat (first | exact mem_here | apply mem_next | apply mem_past)) (by exact ints_get0 (by omega)) ?_ | refine vops_loadNM tyOk rfl rfl rfl (by repeat (first | exact mem_here | apply mem_next | apply mem_past)) (by first | rfl | (rw [ints_length]; first | assumption | omega | (rw [ints_length]; first | assumption | omega | simp [*])) | simp [*]) ?_ | refine vops_storeIM tyOk rfl rfl rfl rfl (by repeat (first | exact upd_here | apply upd_next | apply upd_past)) (by omega) ?_ | refine vops_storeM tyOk rfl rfl rfl rfl rfl (by repeat (first | exact upd_here | apply upd_next | apply upd_past)) (by simp) ?_ | refine vops_storeAM tyOk rfl rfl rfl (by first | rfl | (rw [ints_length]; first | assumption | omega | (rw [ints_length]; first | assumption | omega | simp [*])) | simp [*]) (by first | exact ints_one | simp [Value.oneCell']) (by repeat (first | exact upd_here | apply upd_next | apply upd_past)) (by first | rfl | (rw [ints_length]; first | assumption | omega | (rw [ints_length]; first | assumption | omega | simp [*])) | simp [*]) ?_ | refine vops_build2 rfl rfl (by kernel_rfl) ?_ | refine vops_buildZ tyOk rfl (by kernel_rfl) ?_ | refine vops_slice tyOk rfl rfl rfl rfl rfl (by omega) ?_)
  refine vops_appendL (k := 1) (q := []) (q2 := l) tyOk rfl rfl (List.cons_ne_nil _ _) rfl rfl (by decide) rfl NewF.empty (by repeat (first | exact pm_here | exact pm_last | apply pm_next | apply pm_past)) rfl (fun w' hg => rdI_F (hv.same hg.fr)) (by omega) (fun p' cap' new' hN' => ?_)
  repeat (first | refine vops_q tyOk rfl ?_ | refine vops_nil ?_ | refine vw_seq ?_ | refine vw_region (by kernel_rfl) ?_ | refine vops_guardT rfl rfl ?_ | refine vops_guardF rfl rfl ?_ | refine vops_guardU rfl rfl ?_ | with_reducible refine bs_nbeq rfl ?_ | with_reducible refine bs_true ?_ | with_reducible refine bs_false ?_ | with_reducible refine bs_ntrue ?_ | with_reducible refine bs_nfalse ?_ | refine vops_p tyOk rfl (by (try simp only [inR]); omega) ?_ | refine vw_cond rfl ?_ | refine vw_skip ?_ | refine vw_block ?_ | refine vw_ret ?_ | refine vw_exit ?_ | refine vops_loadM tyOk rfl rfl rfl (by repeat (first | exact mem_here | apply mem_next | apply mem_past)) (by rfl) ?_ | refine vops_loadM tyOk rfl rfl rfl (by repeat (first | exact mem_here | apply mem_next | apply mem_past)) (by exact ints_get0 (by omega)) ?_ | refine vops_loadNM tyOk rfl rfl rfl (by repeat (first | exact mem_here | apply mem_next | apply mem_past)) (by first | rfl | (rw [ints_length]; first | assumption | omega | (rw [ints_length]; first | assumption | omega | simp [*])) | simp [*]) ?_ | refine vops_storeIM tyOk rfl rfl rfl rfl (by repeat (first | exact upd_here | apply upd_next | apply upd_past)) (by omega) ?_ | refine vops_storeM tyOk rfl rfl rfl rfl rfl (by repeat (first | exact upd_here | apply upd_next | apply upd_past)) (by simp) ?_ | refine vops_storeAM tyOk rfl rfl rfl (by first | rfl | (rw [ints_length]; first | assumption | omega | (rw [ints_length]; first | assumption | omega | simp [*])) | simp [*]) (by first | exact ints_one | simp [Value.oneCell']) (by repeat (first | exact upd_here | apply upd_next | apply upd_past)) (by first | rfl | (rw [ints_length]; first | assumption | omega | (rw [ints_length]; first | assumption | omega | simp [*])) | simp [*]) ?_ | refine vops_build2 rfl rfl (by kernel_rfl) ?_ | refine vops_buildZ tyOk rfl (by kernel_rfl) ?_ | refine vops_slice tyOk rfl rfl rfl rfl rfl (by omega) ?_)
  refine out1 rfl rfl (SlAt.nodup hN') (by repeat (first | exact sub_hereL | exact sub_refl | apply sub_cons | apply sub_app)) ?_
  have e : NewF 2 1 l.length l (.slice p' (0 + l.length) cap') new' := by
    have := hN'
    rw [Nat.zero_add] at this ⊢
    exact this
  exact e

theorem getD_set (l : List Int) (i j : Nat) (v : Int) : (l.set i v).getD j 0 = if i = j ∧ i < l.length then v else l.getD j 0 := by
  rw [List.getD_eq_getElem?_getD, List.getD_eq_getElem?_getD, List.getElem?_set]
  by_cases h : i = j
  · subst h
    by_cases hl : i < l.length
    · rw [if_pos rfl, if_pos hl, if_pos ⟨rfl, hl⟩]; rfl
    · rw [if_pos rfl, if_neg hl, if_neg fun h => hl h.2, List.getElem?_eq_none (by omega)]
  · rw [if_neg h, if_neg fun hh => h hh.1]
/-- Two neighbours, changed. -/
def swp (m : List Int) (k : Nat) : List Int := (m.set (k + 1) (m.getD k 0)).set k (m.getD (k + 1) 0)
theorem swp_length (m : List Int) (k : Nat) : (swp m k).length = m.length := by simp [swp]
theorem swp_perm {m : List Int} {k : Nat} (h : k + 1 < m.length) : (swp m k).Perm m := by
  have h1 : m = m.take k ++ m.getD k 0 :: m.getD (k + 1) 0 :: m.drop (k + 2) := by
    conv => lhs; rw [← List.take_append_drop k m]
    congr 1
    rw [List.drop_eq_getElem_cons (by omega), List.drop_eq_getElem_cons h]
    simp [List.getD_eq_getElem?_getD, List.getElem?_eq_getElem h, List.getElem?_eq_getElem (show k < m.length by omega)]
  have hk : (m.take k).length = k := by rw [List.length_take]; omega
  obtain ⟨x, hx⟩ : ∃ x, x = m.getD k 0 := ⟨_, rfl⟩
  obtain ⟨y, hy⟩ : ∃ y, y = m.getD (k + 1) 0 := ⟨_, rfl⟩
  have h2 : swp m k = m.take k ++ y :: x :: m.drop (k + 2) := by
    unfold swp
    rw [← hx, ← hy]
    rw [← hx, ← hy] at h1
    generalize m.take k = A at *
    generalize m.drop (k + 2) = B at *
    subst h1
    rw [List.set_append_right _ _ (by omega), hk, show k + 1 - k = 1 by omega, List.set_append_right _ _ (by omega), hk, Nat.sub_self]; rfl
  rw [h2]
  conv => rhs; rw [h1, ← hx, ← hy]
  exact (List.Perm.swap x y _).append_left _
/-- Sorted as far as i, but for what stands at k. -/
def Srt (m : List Int) (i k : Nat) : Prop := ∀ j j', j < j' → j' ≤ i → j' ≠ k → m.getD j 0 ≤ m.getD j' 0
theorem swp_get {m : List Int} {k : Nat} (h : k + 1 < m.length) (x : Nat) : (swp m k).getD x 0 = if x = k then m.getD (k + 1) 0 else if x = k + 1 then m.getD k 0 else m.getD x 0 := by
  unfold swp
  rw [getD_set, getD_set, List.length_set]
  by_cases h1 : x = k
  · rw [if_pos h1, if_pos ⟨h1.symm, by omega⟩]
  · rw [if_neg h1, if_neg fun hh => h1 hh.1.symm]
    by_cases h2 : x = k + 1
    · rw [if_pos h2, if_pos ⟨h2.symm, h⟩]
    · rw [if_neg h2, if_neg fun hh => h2 hh.1.symm]
theorem srt_step {m : List Int} {i k : Nat} (hk : k + 1 ≤ i) (hi : i < m.length) (h : Srt m i (k + 1)) (hgt : m.getD (k + 1) 0 < m.getD k 0) : Srt (swp m k) i k := by
  intro j j' h1 h2 h3
  have g : ∀ a b, a < b → b ≤ i → b ≠ k + 1 → m.getD a 0 ≤ m.getD b 0 := h
  rw [swp_get (by omega), swp_get (by omega)]
  by_cases a1 : j' = k + 1
  · subst a1
    rw [if_neg (show ¬ k + 1 = k by omega), if_pos rfl]
    by_cases a2 : j = k
    · rw [if_pos a2]; omega
    · rw [if_neg a2, if_neg (show ¬ j = k + 1 by omega)]; exact g j k (by omega) (by omega) (by omega)
  · rw [if_neg h3, if_neg a1]
    by_cases a2 : j = k
    · rw [if_pos a2]; exact g (k + 1) j' (by omega) h2 a1
    · rw [if_neg a2]
      by_cases a3 : j = k + 1
      · rw [if_pos a3]; exact g k j' (by omega) h2 a1
      · rw [if_neg a3]; exact g j j' h1 h2 a1
theorem srt_done {m : List Int} {i k : Nat} (h : Srt m i k) (hk : k = 0 ∨ m.getD (k - 1) 0 ≤ m.getD k 0) : ∀ j j', j < j' → j' ≤ i → m.getD j 0 ≤ m.getD j' 0 := by
  intro j j' h1 h2
  by_cases e : j' = k
  · subst e
    rcases hk with hk | hk
    · omega
    · by_cases e2 : j = j' - 1
      · subst e2; exact hk
      · have := h j (j' - 1) (by omega) (by omega) (by omega); omega
  · exact h j j' h1 h2 e
theorem pairwise_of {m : List Int} (h : ∀ j j', j < j' → j' < m.length → m.getD j 0 ≤ m.getD j' 0) : m.Pairwise (· ≤ ·) := by
  rw [List.pairwise_iff_getElem]
  intro i j hi hj hij
  have := h i j hij hj
  simpa [List.getD_eq_getElem?_getD, List.getElem?_eq_getElem hi, List.getElem?_eq_getElem hj] using this
/-- A new list that is l in order. -/
def SortedI (l : List Int) (v : Value) (new : Own) : Prop := ∃ m p cap, m.Perm l ∧ m.Pairwise (· ≤ ·) ∧ v = .slice p m.length cap ∧ NewI 2 m v new

set_option maxHeartbeats 2000000 in
set_option maxRecDepth 100000 in
theorem c_l02Sorted (v : Value) (l : List Int) (w : World) (hv : RdI w v l) (hl : l.length ≤ 1048576) : Calls Try.prog 135 [v].toArray w (Res w (SortedI l)) := by
  obtain ⟨a, cap, rfl⟩ := hv.len
  refine calls_of_vw Try.func135 rfl Try.ntmps135 (by simp) ?_
  repeat (first | refine vops_q tyOk rfl ?_ | refine vops_nil ?_ | refine vw_seq ?_ | refine vw_region (by kernel_rfl) ?_ | refine vops_guardT rfl rfl ?_ | refine vops_guardF rfl rfl ?_ | refine vops_guardU rfl rfl ?_ | with_reducible refine bs_nbeq rfl ?_ | with_reducible refine bs_true ?_ | with_reducible refine bs_false ?_ | with_reducible refine bs_ntrue ?_ | with_reducible refine bs_nfalse ?_ | refine vops_p tyOk rfl (by (try simp only [inR]); omega) ?_ | refine vw_cond rfl ?_ | refine vw_skip ?_ | refine vw_block ?_ | refine vw_ret ?_ | refine vw_exit ?_ | (apply vops_call ent144 rfl; (intro w' hg; exact c_l01Own _ l w' (hv.same hg.fr) hl); (intro _ newN hN; obtain ⟨pN, cN, rfl⟩ := SlAt.form hN)) | refine vops_loadM tyOk rfl rfl rfl (by repeat (first | exact mem_here | apply mem_next | apply mem_past)) (by rfl) ?_ | refine vops_loadM tyOk rfl rfl rfl (by repeat (first | exact mem_here | apply mem_next | apply mem_past)) (by exact ints_get0 (by omega)) ?_ | refine vops_loadNM tyOk rfl rfl rfl (by repeat (first | exact mem_here | apply mem_next | apply mem_past)) (by first | rfl | (rw [ints_length]; first | assumption | omega | (rw [ints_length]; first | assumption | omega | simp [*])) | simp [*]) ?_ | refine vops_storeIM tyOk rfl rfl rfl rfl (by repeat (first | exact upd_here | apply upd_next | apply upd_past)) (by omega) ?_ | refine vops_storeM tyOk rfl rfl rfl rfl rfl (by repeat (first | exact upd_here | apply upd_next | apply upd_past)) (by simp) ?_ | refine vops_storeAM tyOk rfl rfl rfl (by first | rfl | (rw [ints_length]; first | assumption | omega | (rw [ints_length]; first | assumption | omega | simp [*])) | simp [*]) (by first | exact ints_one | simp [Value.oneCell']) (by repeat (first | exact upd_here | apply upd_next | apply upd_past)) (by first | rfl | (rw [ints_length]; first | assumption | omega | (rw [ints_length]; first | assumption | omega | simp [*])) | simp [*]) ?_ | refine vops_build2 rfl rfl (by kernel_rfl) ?_ | refine vops_buildZ tyOk rfl (by kernel_rfl) ?_ | refine vops_slice tyOk rfl rfl rfl rfl rfl (by omega) ?_)
  have hN0 : NewI 2 l (.slice pN l.length cN) newN := hN
  refine vw_loopW (fun m f own => ∃ (i : Nat) (s : List Int) (new : Own), 1 ≤ i ∧ m = l.length + 1 - i ∧ s.Perm l ∧ (∀ j j', j < j' → j' < i → j' < s.length → s.getD j 0 ≤ s.getD j' 0) ∧ f 4 = .int .i64 i ∧ f 3 = .slice pN l.length cN ∧ NewF 2 1 l.length s (.slice pN l.length cN) new ∧ (i = 1 ∨ i ≤ l.length) ∧ own = new) l.length
    ⟨newN, ole_perm (by simp), 1, l, newN, by omega, by omega, List.Perm.refl _, fun j j' h1 h2 h3 => by omega, rfl, rfl, NewI.f hN0, .inl rfl, rfl⟩ ?_
  rintro m f own ⟨i, s, new, hi1, rfl, hp, hs, h4, h3, hF, hil, rfl⟩
  rw [upd_of h4, upd_of h3]
  have hsl := hp.length_eq
  repeat (first | refine vops_q tyOk rfl ?_ | refine vops_nil ?_ | refine vw_seq ?_ | refine vw_region (by kernel_rfl) ?_ | refine vops_guardT rfl rfl ?_ | refine vops_guardF rfl rfl ?_ | refine vops_guardU rfl rfl ?_ | with_reducible refine bs_nbeq rfl ?_ | with_reducible refine bs_true ?_ | with_reducible refine bs_false ?_ | with_reducible refine bs_ntrue ?_ | with_reducible refine bs_nfalse ?_ | refine vops_p tyOk rfl (by (try simp only [inR]); omega) ?_ | refine vw_cond rfl ?_ | refine vw_skip ?_ | refine vw_block ?_ | refine vw_ret ?_ | refine vw_exit ?_ | refine vops_loadM tyOk rfl rfl rfl (by repeat (first | exact mem_here | apply mem_next | apply mem_past)) (by rfl) ?_ | refine vops_loadM tyOk rfl rfl rfl (by repeat (first | exact mem_here | apply mem_next | apply mem_past)) (by exact ints_get0 (by omega)) ?_ | refine vops_loadNM tyOk rfl rfl rfl (by repeat (first | exact mem_here | apply mem_next | apply mem_past)) (by first | rfl | (rw [ints_length]; first | assumption | omega | (rw [ints_length]; first | assumption | omega | simp [*])) | simp [*]) ?_ | refine vops_storeIM tyOk rfl rfl rfl rfl (by repeat (first | exact upd_here | apply upd_next | apply upd_past)) (by omega) ?_ | refine vops_storeM tyOk rfl rfl rfl rfl rfl (by repeat (first | exact upd_here | apply upd_next | apply upd_past)) (by simp) ?_ | refine vops_storeAM tyOk rfl rfl rfl (by first | rfl | (rw [ints_length]; first | assumption | omega | (rw [ints_length]; first | assumption | omega | simp [*])) | simp [*]) (by first | exact ints_one | simp [Value.oneCell']) (by repeat (first | exact upd_here | apply upd_next | apply upd_past)) (by first | rfl | (rw [ints_length]; first | assumption | omega | (rw [ints_length]; first | assumption | omega | simp [*])) | simp [*]) ?_ | refine vops_build2 rfl rfl (by kernel_rfl) ?_ | refine vops_buildZ tyOk rfl (by kernel_rfl) ?_ | refine vops_slice tyOk rfl rfl rfl rfl rfl (by omega) ?_)
  refine bs_dec (fun hlt => ?_) (fun hlt => ?_)
  · obtain ⟨bn, rfl, rfl, hc1, hc2, hl1⟩ := hF.blk (by omega)
    repeat (first | refine vops_q tyOk rfl ?_ | refine vops_nil ?_ | refine vw_seq ?_ | refine vw_region (by kernel_rfl) ?_ | refine vops_guardT rfl rfl ?_ | refine vops_guardF rfl rfl ?_ | refine vops_guardU rfl rfl ?_ | with_reducible refine bs_nbeq rfl ?_ | with_reducible refine bs_true ?_ | with_reducible refine bs_false ?_ | with_reducible refine bs_ntrue ?_ | with_reducible refine bs_nfalse ?_ | refine vops_p tyOk rfl (by (try simp only [inR]); omega) ?_ | refine vw_cond rfl ?_ | refine vw_skip ?_ | refine vw_block ?_ | refine vw_ret ?_ | refine vw_exit ?_ | refine vops_loadM tyOk rfl rfl rfl (by repeat (first | exact mem_here | apply mem_next | apply mem_past)) (by rfl) ?_ | refine vops_loadM tyOk rfl rfl rfl (by repeat (first | exact mem_here | apply mem_next | apply mem_past)) (by exact ints_get0 (by omega)) ?_ | refine vops_loadNM tyOk rfl rfl rfl (by repeat (first | exact mem_here | apply mem_next | apply mem_past)) (by first | rfl | (rw [ints_length]; first | assumption | omega | (rw [ints_length]; first | assumption | omega | simp [*])) | simp [*]) ?_ | refine vops_storeIM tyOk rfl rfl rfl rfl (by repeat (first | exact upd_here | apply upd_next | apply upd_past)) (by omega) ?_ | refine vops_storeM tyOk rfl rfl rfl rfl rfl (by repeat (first | exact upd_here | apply upd_next | apply upd_past)) (by simp) ?_ | refine vops_storeAM tyOk rfl rfl rfl (by first | rfl | (rw [ints_length]; first | assumption | omega | (rw [ints_length]; first | assumption | omega | simp [*])) | simp [*]) (by first | exact ints_one | simp [Value.oneCell']) (by repeat (first | exact upd_here | apply upd_next | apply upd_past)) (by first | rfl | (rw [ints_length]; first | assumption | omega | (rw [ints_length]; first | assumption | omega | simp [*])) | simp [*]) ?_ | refine vops_build2 rfl rfl (by kernel_rfl) ?_ | refine vops_buildZ tyOk rfl (by kernel_rfl) ?_ | refine vops_slice tyOk rfl rfl rfl rfl rfl (by omega) ?_)
    refine vw_loopW (fun m f own => ∃ (k : Nat) (s : List Int), m = 2 * k ∧ k ≤ i ∧ s.Perm l ∧ Srt s i k ∧ f 5 = .int .i64 k ∧ f 4 = .int .i64 i ∧ f 3 = .slice (some ⟨bn, 0, none⟩) l.length cN ∧ own = [(bn, ⟨ints s, 2, cN * 1, none⟩)]) (2 * i)
      ⟨_, ole_refl, i, s, rfl, Nat.le_refl _, hp, fun j j' h1 h2 h3 => hs j j' h1 (by omega) (by omega), rfl, rfl, rfl, rfl⟩ ?_
    rintro m f own ⟨k, s, rfl, hki, hp, hS, h5, h4, h3, rfl⟩
    rw [upd_of h5, upd_of h4, upd_of h3]
    have hsl := hp.length_eq
    repeat (first | refine vops_q tyOk rfl ?_ | refine vops_nil ?_ | refine vw_seq ?_ | refine vw_region (by kernel_rfl) ?_ | refine vops_guardT rfl rfl ?_ | refine vops_guardF rfl rfl ?_ | refine vops_guardU rfl rfl ?_ | with_reducible refine bs_nbeq rfl ?_ | with_reducible refine bs_true ?_ | with_reducible refine bs_false ?_ | with_reducible refine bs_ntrue ?_ | with_reducible refine bs_nfalse ?_ | refine vops_p tyOk rfl (by (try simp only [inR]); omega) ?_ | refine vw_cond rfl ?_ | refine vw_skip ?_ | refine vw_block ?_ | refine vw_ret ?_ | refine vw_exit ?_ | refine vops_loadM tyOk rfl rfl rfl (by repeat (first | exact mem_here | apply mem_next | apply mem_past)) (by rfl) ?_ | refine vops_loadM tyOk rfl rfl rfl (by repeat (first | exact mem_here | apply mem_next | apply mem_past)) (by exact ints_get0 (by omega)) ?_ | refine vops_loadNM tyOk rfl rfl rfl (by repeat (first | exact mem_here | apply mem_next | apply mem_past)) (by first | rfl | (rw [ints_length]; first | assumption | omega | (rw [ints_length]; first | assumption | omega | simp [*])) | simp [*]) ?_ | refine vops_storeIM tyOk rfl rfl rfl rfl (by repeat (first | exact upd_here | apply upd_next | apply upd_past)) (by omega) ?_ | refine vops_storeM tyOk rfl rfl rfl rfl rfl (by repeat (first | exact upd_here | apply upd_next | apply upd_past)) (by simp) ?_ | refine vops_storeAM tyOk rfl rfl rfl (by first | rfl | (rw [ints_length]; first | assumption | omega | (rw [ints_length]; first | assumption | omega | simp [*])) | simp [*]) (by first | exact ints_one | simp [Value.oneCell']) (by repeat (first | exact upd_here | apply upd_next | apply upd_past)) (by first | rfl | (rw [ints_length]; first | assumption | omega | (rw [ints_length]; first | assumption | omega | simp [*])) | simp [*]) ?_ | refine vops_build2 rfl rfl (by kernel_rfl) ?_ | refine vops_buildZ tyOk rfl (by kernel_rfl) ?_ | refine vops_slice tyOk rfl rfl rfl rfl rfl (by omega) ?_)
    have hil2 : i < l.length := by omega
    by_cases hk0 : k = 0
    · subst hk0
      refine vw_draw [0, 1, 2, 3, 4, 5, 6, 7, 8, 9, 10, 11, 12, 13] (by kernel_rfl) (by kernel_rfl) (by kernel_rfl) rfl ?_
      repeat' (first | refine vd_q tyOk rfl (by first | trivial | rfl) rfl (by kernel_rfl) (by kernel_rfl) ?_ | refine vd_p tyOk rfl (by first | trivial | rfl) rfl (by kernel_rfl) (by kernel_rfl) (by (try simp only [inR]); omega) ?_ | refine vd_skipT rfl rfl (by kernel_rfl) (by kernel_rfl) ?_ | refine vd_skipF rfl rfl (by kernel_rfl) (by kernel_rfl) ?_ | refine vd_skipU rfl rfl (by kernel_rfl) (by kernel_rfl) ?_ | refine vops_nil ?_ | refine vd_nil (by kernel_rfl) ?_ | refine ⟨fun _ _ _ h => h, ?_⟩ | refine ⟨fun _ _ _ h => List.mem_cons_of_mem _ h, ?_⟩ | refine ⟨fun _ _ _ h => List.mem_append_right _ h, ?_⟩ | refine vops_q tyOk rfl ?_ | refine vd_load tyOk rfl (by first | trivial | rfl) rfl rfl rfl (by kernel_rfl) (by kernel_rfl) (by kernel_rfl) (sees_mem (by repeat (first | exact mem_here | apply mem_next | apply mem_past)) (by rfl)) (by repeat (first | exact sub_hereL | exact sub_refl | apply sub_cons | apply sub_app)) ?_ | refine vd_load tyOk rfl (by first | trivial | rfl) rfl rfl rfl (by kernel_rfl) (by kernel_rfl) (by kernel_rfl) (sees_mem (k := ⟨ints _, _, _, none⟩) (by repeat (first | exact mem_here | apply mem_next | apply mem_past)) (by exact ints_get0 (by omega))) (by repeat (first | exact sub_hereL | exact sub_refl | apply sub_cons | apply sub_app)) ?_ | refine vd_loadNM tyOk rfl (by first | trivial | rfl) rfl rfl rfl (by repeat (first | exact mem_here | apply mem_next | apply mem_past)) (by first | rfl | (rw [ints_length]; first | assumption | omega | (rw [ints_length]; first | assumption | omega | simp [*])) | simp [*]) (by kernel_rfl) (by kernel_rfl) (by kernel_rfl) (by repeat (first | exact sub_hereL | exact sub_refl | apply sub_cons | apply sub_app)) ?_ | refine vd_build2 rfl (by first | trivial | rfl) rfl rfl (by kernel_rfl) (by kernel_rfl) (by kernel_rfl) ?_ | refine vd_slice tyOk rfl (by first | trivial | rfl) rfl rfl rfl rfl rfl (by kernel_rfl) (by kernel_rfl) (by omega) ?_ | refine ⟨fun h => Bool.noConfusion (show false = true from h), ?_⟩ | refine ⟨fun _ p hp _ => (show Go.VL.Sub _ _ from (by repeat (first | exact sub_hereL | exact sub_refl | apply sub_cons | apply sub_app))) p hp, ?_⟩ | refine vops_loadM tyOk rfl rfl rfl (by repeat (first | exact mem_here | apply mem_next | apply mem_past)) (by rfl) ?_ | refine vops_loadM tyOk rfl rfl rfl (by repeat (first | exact mem_here | apply mem_next | apply mem_past)) (by exact ints_get0 (by omega)) ?_ | refine vops_loadNM tyOk rfl rfl rfl (by repeat (first | exact mem_here | apply mem_next | apply mem_past)) (by first | rfl | (rw [ints_length]; first | assumption | omega | (rw [ints_length]; first | assumption | omega | simp [*])) | simp [*]) ?_ | refine vops_storeIM tyOk rfl rfl rfl rfl (by repeat (first | exact upd_here | apply upd_next | apply upd_past)) (by omega) ?_ | refine vops_storeM tyOk rfl rfl rfl rfl rfl (by repeat (first | exact upd_here | apply upd_next | apply upd_past)) (by simp) ?_ | refine vops_storeAM tyOk rfl rfl rfl (by first | rfl | (rw [ints_length]; first | assumption | omega | (rw [ints_length]; first | assumption | omega | simp [*])) | simp [*]) (by first | exact ints_one | simp [Value.oneCell']) (by repeat (first | exact upd_here | apply upd_next | apply upd_past)) (by first | rfl | (rw [ints_length]; first | assumption | omega | (rw [ints_length]; first | assumption | omega | simp [*])) | simp [*]) ?_ | refine vops_build2 rfl rfl (by kernel_rfl) ?_ | refine vops_buildZ tyOk rfl (by kernel_rfl) ?_ | refine vops_slice tyOk rfl rfl rfl rfl rfl (by omega) ?_ | refine vd_one rfl (by kernel_rfl) (by kernel_rfl) rfl ?_ | refine vd_oneG rfl (by kernel_rfl) (by kernel_rfl) rfl ?_ | (refine vd_gsplit rfl rfl rfl ?_; (fail_if_success (with_reducible (first | refine bs_true ?_ | refine bs_false ?_))); with_reducible refine bs_dec (fun _ => ?_) (fun _ => ?_)) <;> try (exfalso; omega) | (refine vd_gsplit rfl rfl rfl ?_; (fail_if_success (with_reducible (first | refine bs_true ?_ | refine bs_false ?_))); with_reducible refine bs_ndec (fun _ => ?_) (fun _ => ?_)) <;> try (exfalso; omega) | (refine vd_gsplit rfl rfl rfl ?_; (fail_if_success (with_reducible (first | refine bs_true ?_ | refine bs_false ?_))); with_reducible refine bs_nany (fun _ => ?_) (fun _ => ?_)) <;> try (exfalso; omega) | (refine vd_gsplit rfl rfl rfl ?_; (fail_if_success (with_reducible (first | refine bs_true ?_ | refine bs_false ?_))); with_reducible refine bs_any (fun _ => ?_) (fun _ => ?_)) <;> try (exfalso; omega))
      all_goals repeat (first | refine vops_q tyOk rfl ?_ | refine vops_nil ?_ | refine vw_seq ?_ | refine vw_region (by kernel_rfl) ?_ | refine vops_guardT rfl rfl ?_ | refine vops_guardF rfl rfl ?_ | refine vops_guardU rfl rfl ?_ | with_reducible refine bs_nbeq rfl ?_ | with_reducible refine bs_true ?_ | with_reducible refine bs_false ?_ | with_reducible refine bs_ntrue ?_ | with_reducible refine bs_nfalse ?_ | refine vops_p tyOk rfl (by (try simp only [inR]); omega) ?_ | refine vw_cond rfl ?_ | refine vw_skip ?_ | refine vw_block ?_ | refine vw_ret ?_ | refine vw_exit ?_ | refine vops_loadM tyOk rfl rfl rfl (by repeat (first | exact mem_here | apply mem_next | apply mem_past)) (by rfl) ?_ | refine vops_loadM tyOk rfl rfl rfl (by repeat (first | exact mem_here | apply mem_next | apply mem_past)) (by exact ints_get0 (by omega)) ?_ | refine vops_loadNM tyOk rfl rfl rfl (by repeat (first | exact mem_here | apply mem_next | apply mem_past)) (by first | rfl | (rw [ints_length]; first | assumption | omega | (rw [ints_length]; first | assumption | omega | simp [*])) | simp [*]) ?_ | refine vops_storeIM tyOk rfl rfl rfl rfl (by repeat (first | exact upd_here | apply upd_next | apply upd_past)) (by omega) ?_ | refine vops_storeM tyOk rfl rfl rfl rfl rfl (by repeat (first | exact upd_here | apply upd_next | apply upd_past)) (by simp) ?_ | refine vops_storeAM tyOk rfl rfl rfl (by first | rfl | (rw [ints_length]; first | assumption | omega | (rw [ints_length]; first | assumption | omega | simp [*])) | simp [*]) (by first | exact ints_one | simp [Value.oneCell']) (by repeat (first | exact upd_here | apply upd_next | apply upd_past)) (by first | rfl | (rw [ints_length]; first | assumption | omega | (rw [ints_length]; first | assumption | omega | simp [*])) | simp [*]) ?_ | refine vops_build2 rfl rfl (by kernel_rfl) ?_ | refine vops_buildZ tyOk rfl (by kernel_rfl) ?_ | refine vops_slice tyOk rfl rfl rfl rfl rfl (by omega) ?_)
      refine ⟨l.length + 1 - (i + 1), by omega, _, ole_refl, i + 1, s, _, by omega, rfl, hp, fun j j' h1 h2 h3 => srt_done hS (.inl rfl) j j' h1 (by omega), rfl, rfl, NewF.mk (by omega) hc1 hc2, .inr (by omega), rfl⟩
    · obtain ⟨z, rfl⟩ : ∃ z, k = z + 1 := ⟨k - 1, by omega⟩
      have c0 : (ints s)[0 + ((z + 1 : Nat) : Int).toNat]? = some (.int .i64 (s.getD (z + 1) 0)) := by
        rw [show 0 + ((z + 1 : Nat) : Int).toNat = z + 1 by omega]; exact ints_get (by omega)
      have c1 : (ints s)[0 + (((z + 1 : Nat) : Int) - 1).toNat]? = some (.int .i64 (s.getD z 0)) := by
        rw [show 0 + (((z + 1 : Nat) : Int) - 1).toNat = z by omega]; exact ints_get (by omega)
      have e1 : ((z + 1 : Nat) : Int).toNat = z + 1 := Int.toNat_natCast _
      have e2 : (((z + 1 : Nat) : Int) - 1).toNat = z := by omega
      refine vw_draw [0, 1, 2, 3, 4, 5, 6, 7, 8, 9, 10, 11, 12, 13] (by kernel_rfl) (by kernel_rfl) (by kernel_rfl) rfl ?_
      repeat' (first | refine vd_q tyOk rfl (by first | trivial | rfl) rfl (by kernel_rfl) (by kernel_rfl) ?_ | refine vd_p tyOk rfl (by first | trivial | rfl) rfl (by kernel_rfl) (by kernel_rfl) (by (try simp only [inR]); omega) ?_ | refine vd_skipT rfl rfl (by kernel_rfl) (by kernel_rfl) ?_ | refine vd_skipF rfl rfl (by kernel_rfl) (by kernel_rfl) ?_ | refine vd_skipU rfl rfl (by kernel_rfl) (by kernel_rfl) ?_ | refine vops_nil ?_ | refine vd_nil (by kernel_rfl) ?_ | refine ⟨fun _ _ _ h => h, ?_⟩ | refine ⟨fun _ _ _ h => List.mem_cons_of_mem _ h, ?_⟩ | refine ⟨fun _ _ _ h => List.mem_append_right _ h, ?_⟩ | refine vops_q tyOk rfl ?_ | refine vd_load tyOk rfl (by first | trivial | rfl) rfl rfl rfl (by kernel_rfl) (by kernel_rfl) (by kernel_rfl) (sees_mem (by repeat (first | exact mem_here | apply mem_next | apply mem_past)) (by rfl)) (by repeat (first | exact sub_hereL | exact sub_refl | apply sub_cons | apply sub_app)) ?_ | refine vd_load tyOk rfl (by first | trivial | rfl) rfl rfl rfl (by kernel_rfl) (by kernel_rfl) (by kernel_rfl) (sees_mem (k := ⟨ints _, _, _, none⟩) (by repeat (first | exact mem_here | apply mem_next | apply mem_past)) (by exact ints_get0 (by omega))) (by repeat (first | exact sub_hereL | exact sub_refl | apply sub_cons | apply sub_app)) ?_ | refine vd_loadNM tyOk rfl (by first | trivial | rfl) rfl rfl rfl (by repeat (first | exact mem_here | apply mem_next | apply mem_past)) (by first | rfl | (rw [ints_length]; first | assumption | omega | (rw [ints_length]; first | assumption | omega | simp [*])) | simp [*]) (by kernel_rfl) (by kernel_rfl) (by kernel_rfl) (by repeat (first | exact sub_hereL | exact sub_refl | apply sub_cons | apply sub_app)) ?_ | refine vd_build2 rfl (by first | trivial | rfl) rfl rfl (by kernel_rfl) (by kernel_rfl) (by kernel_rfl) ?_ | refine vd_slice tyOk rfl (by first | trivial | rfl) rfl rfl rfl rfl rfl (by kernel_rfl) (by kernel_rfl) (by omega) ?_ | refine ⟨fun h => Bool.noConfusion (show false = true from h), ?_⟩ | refine ⟨fun _ p hp _ => (show Go.VL.Sub _ _ from (by repeat (first | exact sub_hereL | exact sub_refl | apply sub_cons | apply sub_app))) p hp, ?_⟩ | refine vd_load tyOk rfl (by first | trivial | rfl) rfl rfl rfl (by kernel_rfl) (by kernel_rfl) (by kernel_rfl) (sees_mem (by repeat (first | exact mem_here | apply mem_next | apply mem_past)) (by exact c0)) (by repeat (first | exact sub_hereL | exact sub_refl | apply sub_cons | apply sub_app)) ?_ | refine vd_load tyOk rfl (by first | trivial | rfl) rfl rfl rfl (by kernel_rfl) (by kernel_rfl) (by kernel_rfl) (sees_mem (by repeat (first | exact mem_here | apply mem_next | apply mem_past)) (by exact c1)) (by repeat (first | exact sub_hereL | exact sub_refl | apply sub_cons | apply sub_app)) ?_ | refine vops_loadM tyOk rfl rfl rfl (by repeat (first | exact mem_here | apply mem_next | apply mem_past)) (by rfl) ?_ | refine vops_loadM tyOk rfl rfl rfl (by repeat (first | exact mem_here | apply mem_next | apply mem_past)) (by exact ints_get0 (by omega)) ?_ | refine vops_loadNM tyOk rfl rfl rfl (by repeat (first | exact mem_here | apply mem_next | apply mem_past)) (by first | rfl | (rw [ints_length]; first | assumption | omega | (rw [ints_length]; first | assumption | omega | simp [*])) | simp [*]) ?_ | refine vops_storeIM tyOk rfl rfl rfl rfl (by repeat (first | exact upd_here | apply upd_next | apply upd_past)) (by omega) ?_ | refine vops_storeM tyOk rfl rfl rfl rfl rfl (by repeat (first | exact upd_here | apply upd_next | apply upd_past)) (by simp) ?_ | refine vops_storeAM tyOk rfl rfl rfl (by first | rfl | (rw [ints_length]; first | assumption | omega | (rw [ints_length]; first | assumption | omega | simp [*])) | simp [*]) (by first | exact ints_one | simp [Value.oneCell']) (by repeat (first | exact upd_here | apply upd_next | apply upd_past)) (by first | rfl | (rw [ints_length]; first | assumption | omega | (rw [ints_length]; first | assumption | omega | simp [*])) | simp [*]) ?_ | refine vops_build2 rfl rfl (by kernel_rfl) ?_ | refine vops_buildZ tyOk rfl (by kernel_rfl) ?_ | refine vops_slice tyOk rfl rfl rfl rfl rfl (by omega) ?_ | refine vd_one rfl (by kernel_rfl) (by kernel_rfl) rfl ?_ | refine vd_oneG rfl (by kernel_rfl) (by kernel_rfl) rfl ?_ | (refine vd_gsplit rfl rfl rfl ?_; (fail_if_success (with_reducible (first | refine bs_true ?_ | refine bs_false ?_))); with_reducible refine bs_dec (fun _ => ?_) (fun _ => ?_)) <;> try (exfalso; omega) | (refine vd_gsplit rfl rfl rfl ?_; (fail_if_success (with_reducible (first | refine bs_true ?_ | refine bs_false ?_))); with_reducible refine bs_ndec (fun _ => ?_) (fun _ => ?_)) <;> try (exfalso; omega) | (refine vd_gsplit rfl rfl rfl ?_; (fail_if_success (with_reducible (first | refine bs_true ?_ | refine bs_false ?_))); with_reducible refine bs_nany (fun _ => ?_) (fun _ => ?_)) <;> try (exfalso; omega) | (refine vd_gsplit rfl rfl rfl ?_; (fail_if_success (with_reducible (first | refine bs_true ?_ | refine bs_false ?_))); with_reducible refine bs_any (fun _ => ?_) (fun _ => ?_)) <;> try (exfalso; omega))
      repeat (first | refine vops_q tyOk rfl ?_ | refine vops_nil ?_ | refine vw_seq ?_ | refine vw_region (by kernel_rfl) ?_ | refine vops_guardT rfl rfl ?_ | refine vops_guardF rfl rfl ?_ | refine vops_guardU rfl rfl ?_ | with_reducible refine bs_nbeq rfl ?_ | with_reducible refine bs_true ?_ | with_reducible refine bs_false ?_ | with_reducible refine bs_ntrue ?_ | with_reducible refine bs_nfalse ?_ | refine vops_p tyOk rfl (by (try simp only [inR]); omega) ?_ | refine vw_cond rfl ?_ | refine vw_skip ?_ | refine vw_block ?_ | refine vw_ret ?_ | refine vw_exit ?_ | refine vops_loadM tyOk rfl rfl rfl (by repeat (first | exact mem_here | apply mem_next | apply mem_past)) (by rfl) ?_ | refine vops_loadM tyOk rfl rfl rfl (by repeat (first | exact mem_here | apply mem_next | apply mem_past)) (by exact ints_get0 (by omega)) ?_ | refine vops_loadNM tyOk rfl rfl rfl (by repeat (first | exact mem_here | apply mem_next | apply mem_past)) (by first | rfl | (rw [ints_length]; first | assumption | omega | (rw [ints_length]; first | assumption | omega | simp [*])) | simp [*]) ?_ | refine vops_storeIM tyOk rfl rfl rfl rfl (by repeat (first | exact upd_here | apply upd_next | apply upd_past)) (by omega) ?_ | refine vops_storeM tyOk rfl rfl rfl rfl rfl (by repeat (first | exact upd_here | apply upd_next | apply upd_past)) (by simp) ?_ | refine vops_storeAM tyOk rfl rfl rfl (by first | rfl | (rw [ints_length]; first | assumption | omega | (rw [ints_length]; first | assumption | omega | simp [*])) | simp [*]) (by first | exact ints_one | simp [Value.oneCell']) (by repeat (first | exact upd_here | apply upd_next | apply upd_past)) (by first | rfl | (rw [ints_length]; first | assumption | omega | (rw [ints_length]; first | assumption | omega | simp [*])) | simp [*]) ?_ | refine vops_build2 rfl rfl (by kernel_rfl) ?_ | refine vops_buildZ tyOk rfl (by kernel_rfl) ?_ | refine vops_slice tyOk rfl rfl rfl rfl rfl (by omega) ?_)
      refine bs_dec (fun hgt => ?_) (fun hgt => ?_)
      · simp only [e1, e2] at hgt
        repeat (first | refine vops_q tyOk rfl ?_ | refine vops_nil ?_ | refine vw_seq ?_ | refine vw_region (by kernel_rfl) ?_ | refine vops_guardT rfl rfl ?_ | refine vops_guardF rfl rfl ?_ | refine vops_guardU rfl rfl ?_ | with_reducible refine bs_nbeq rfl ?_ | with_reducible refine bs_true ?_ | with_reducible refine bs_false ?_ | with_reducible refine bs_ntrue ?_ | with_reducible refine bs_nfalse ?_ | refine vops_p tyOk rfl (by (try simp only [inR]); omega) ?_ | refine vw_cond rfl ?_ | refine vw_skip ?_ | refine vw_block ?_ | refine vw_ret ?_ | refine vw_exit ?_ | refine vops_loadM tyOk rfl rfl rfl (by repeat (first | exact mem_here | apply mem_next | apply mem_past)) (by exact c0) ?_ | refine vops_loadM tyOk rfl rfl rfl (by repeat (first | exact mem_here | apply mem_next | apply mem_past)) (by exact c1) ?_ | refine vops_storeIM tyOk rfl rfl rfl rfl (by repeat (first | exact upd_here | apply upd_next | apply upd_past)) (by first | omega | (rw [List.length_set]; omega)) ?_ | refine vops_loadM tyOk rfl rfl rfl (by repeat (first | exact mem_here | apply mem_next | apply mem_past)) (by rfl) ?_ | refine vops_loadM tyOk rfl rfl rfl (by repeat (first | exact mem_here | apply mem_next | apply mem_past)) (by exact ints_get0 (by omega)) ?_ | refine vops_loadNM tyOk rfl rfl rfl (by repeat (first | exact mem_here | apply mem_next | apply mem_past)) (by first | rfl | (rw [ints_length]; first | assumption | omega | (rw [ints_length]; first | assumption | omega | simp [*])) | simp [*]) ?_ | refine vops_storeIM tyOk rfl rfl rfl rfl (by repeat (first | exact upd_here | apply upd_next | apply upd_past)) (by omega) ?_ | refine vops_storeM tyOk rfl rfl rfl rfl rfl (by repeat (first | exact upd_here | apply upd_next | apply upd_past)) (by simp) ?_ | refine vops_storeAM tyOk rfl rfl rfl (by first | rfl | (rw [ints_length]; first | assumption | omega | (rw [ints_length]; first | assumption | omega | simp [*])) | simp [*]) (by first | exact ints_one | simp [Value.oneCell']) (by repeat (first | exact upd_here | apply upd_next | apply upd_past)) (by first | rfl | (rw [ints_length]; first | assumption | omega | (rw [ints_length]; first | assumption | omega | simp [*])) | simp [*]) ?_ | refine vops_build2 rfl rfl (by kernel_rfl) ?_ | refine vops_buildZ tyOk rfl (by kernel_rfl) ?_ | refine vops_slice tyOk rfl rfl rfl rfl rfl (by omega) ?_)
        refine ⟨2 * z, by omega, _, ole_refl, z, swp s z, rfl, by omega, (swp_perm (by omega)).trans hp, srt_step (by omega) (by omega) hS (by omega), ?_, rfl, rfl, ?_⟩
        · show Value.int .i64 (((z + 1 : Nat) : Int) - 1) = _
          rw [show ((z + 1 : Nat) : Int) - 1 = z by omega]
        · simp only [e1, e2]; rfl
      · simp only [e1, e2] at hgt
        repeat (first | refine vops_q tyOk rfl ?_ | refine vops_nil ?_ | refine vw_seq ?_ | refine vw_region (by kernel_rfl) ?_ | refine vops_guardT rfl rfl ?_ | refine vops_guardF rfl rfl ?_ | refine vops_guardU rfl rfl ?_ | with_reducible refine bs_nbeq rfl ?_ | with_reducible refine bs_true ?_ | with_reducible refine bs_false ?_ | with_reducible refine bs_ntrue ?_ | with_reducible refine bs_nfalse ?_ | refine vops_p tyOk rfl (by (try simp only [inR]); omega) ?_ | refine vw_cond rfl ?_ | refine vw_skip ?_ | refine vw_block ?_ | refine vw_ret ?_ | refine vw_exit ?_ | refine vops_loadM tyOk rfl rfl rfl (by repeat (first | exact mem_here | apply mem_next | apply mem_past)) (by rfl) ?_ | refine vops_loadM tyOk rfl rfl rfl (by repeat (first | exact mem_here | apply mem_next | apply mem_past)) (by exact ints_get0 (by omega)) ?_ | refine vops_loadNM tyOk rfl rfl rfl (by repeat (first | exact mem_here | apply mem_next | apply mem_past)) (by first | rfl | (rw [ints_length]; first | assumption | omega | (rw [ints_length]; first | assumption | omega | simp [*])) | simp [*]) ?_ | refine vops_storeIM tyOk rfl rfl rfl rfl (by repeat (first | exact upd_here | apply upd_next | apply upd_past)) (by omega) ?_ | refine vops_storeM tyOk rfl rfl rfl rfl rfl (by repeat (first | exact upd_here | apply upd_next | apply upd_past)) (by simp) ?_ | refine vops_storeAM tyOk rfl rfl rfl (by first | rfl | (rw [ints_length]; first | assumption | omega | (rw [ints_length]; first | assumption | omega | simp [*])) | simp [*]) (by first | exact ints_one | simp [Value.oneCell']) (by repeat (first | exact upd_here | apply upd_next | apply upd_past)) (by first | rfl | (rw [ints_length]; first | assumption | omega | (rw [ints_length]; first | assumption | omega | simp [*])) | simp [*]) ?_ | refine vops_build2 rfl rfl (by kernel_rfl) ?_ | refine vops_buildZ tyOk rfl (by kernel_rfl) ?_ | refine vops_slice tyOk rfl rfl rfl rfl rfl (by omega) ?_)
        refine ⟨l.length + 1 - (i + 1), by omega, _, ole_refl, i + 1, s, _, by omega, rfl, hp, fun j j' h1 h2 h3 => srt_done hS (.inr (by simp only [Nat.add_sub_cancel]; omega)) j j' h1 (by omega), rfl, rfl, NewF.mk (by omega) hc1 hc2, .inr (by omega), rfl⟩
  · repeat (first | refine vops_q tyOk rfl ?_ | refine vops_nil ?_ | refine vw_seq ?_ | refine vw_region (by kernel_rfl) ?_ | refine vops_guardT rfl rfl ?_ | refine vops_guardF rfl rfl ?_ | refine vops_guardU rfl rfl ?_ | with_reducible refine bs_nbeq rfl ?_ | with_reducible refine bs_true ?_ | with_reducible refine bs_false ?_ | with_reducible refine bs_ntrue ?_ | with_reducible refine bs_nfalse ?_ | refine vops_p tyOk rfl (by (try simp only [inR]); omega) ?_ | refine vw_cond rfl ?_ | refine vw_skip ?_ | refine vw_block ?_ | refine vw_ret ?_ | refine vw_exit ?_ | refine vops_loadM tyOk rfl rfl rfl (by repeat (first | exact mem_here | apply mem_next | apply mem_past)) (by rfl) ?_ | refine vops_loadM tyOk rfl rfl rfl (by repeat (first | exact mem_here | apply mem_next | apply mem_past)) (by exact ints_get0 (by omega)) ?_ | refine vops_loadNM tyOk rfl rfl rfl (by repeat (first | exact mem_here | apply mem_next | apply mem_past)) (by first | rfl | (rw [ints_length]; first | assumption | omega | (rw [ints_length]; first | assumption | omega | simp [*])) | simp [*]) ?_ | refine vops_storeIM tyOk rfl rfl rfl rfl (by repeat (first | exact upd_here | apply upd_next | apply upd_past)) (by omega) ?_ | refine vops_storeM tyOk rfl rfl rfl rfl rfl (by repeat (first | exact upd_here | apply upd_next | apply upd_past)) (by simp) ?_ | refine vops_storeAM tyOk rfl rfl rfl (by first | rfl | (rw [ints_length]; first | assumption | omega | (rw [ints_length]; first | assumption | omega | simp [*])) | simp [*]) (by first | exact ints_one | simp [Value.oneCell']) (by repeat (first | exact upd_here | apply upd_next | apply upd_past)) (by first | rfl | (rw [ints_length]; first | assumption | omega | (rw [ints_length]; first | assumption | omega | simp [*])) | simp [*]) ?_ | refine vops_build2 rfl rfl (by kernel_rfl) ?_ | refine vops_buildZ tyOk rfl (by kernel_rfl) ?_ | refine vops_slice tyOk rfl rfl rfl rfl rfl (by omega) ?_)
    refine out1 rfl rfl (SlAt.nodup hF) (fun _ h => h) ⟨s, pN, cN, hp, pairwise_of fun j j' h1 h2 => hs j j' h1 (by omega) h2, by rw [hsl]; rfl, ?_⟩
    unfold NewI; rw [hsl]; exact hF
end Go.Proofs.Ytabccmngdhgdfaa

/- A part of the proof: P35. No conditions of its own. -/
namespace Go.Proofs
open Go.Shelf
shelf_lay_g SlLaysN.n53 Slgn 53 at Try 158 as Try.sortI
shelf_lay_g SlLaysN.n43 Slgn 43 at Try 159 as Try.compI
shelf_lay_g SlLaysN.n31 Slgn 31 at Try 133 as Try.contI
end Go.Proofs

/-! The library's sort and its like, over a list of numbers of one's own. -/
namespace Go.VL
open Go.RowKit

theorem toArray_get {l : List Int} {j : Nat} (h : j < l.length) : l.toArray[j]! = l.getD j 0 := by
  simp [List.getD_eq_getElem?_getD, h]
theorem holds_of_own {own : Own} {w : World} {b e cap : Nat} {l : List Int} (ho : OwnOk own w) (hm : (b, (⟨ints l, e, cap, none⟩ : Blk)) ∈ own) : Go.Sort.Holds (Value.int .i64) w b 0 l.toArray := by
  intro j hj
  have hj' : j < l.length := by simpa using hj
  obtain ⟨arr, h1, _, _⟩ := ho.row hm rfl
  refine ⟨?_, frozen_of_row w b (0 + j) arr e h1⟩
  rw [Nat.zero_add, toArray_get hj']
  exact cell_of_blk ho hm (ints_get hj')
theorem heap_putRow_same {w : World} {q b e : Nat} {d : Array Int} {arr : Array Value} (h : w.heap[b]? = some (.cells arr e (0, 0))) :
    (Go.Sort.putRow (Value.int .i64) (Go.Sort.ahead w q) b 0 d).heap[b]? = some (.cells (Go.Sort.putCells (Value.int .i64) 0 d arr) e (0, 0)) := by
  show (w.heap.modify b _)[b]? = _
  rw [Array.getElem?_modify, if_pos rfl, h]; rfl
theorem heap_putRow_other {w : World} {q b c : Nat} {d : Array Int} (h : c ≠ b) : (Go.Sort.putRow (Value.int .i64) (Go.Sort.ahead w q) b 0 d).heap[c]? = w.heap[c]? := by
  show (w.heap.modify b _)[c]? = _
  rw [Array.getElem?_modify, if_neg (Ne.symm h)]
/-- The list l becomes l', of the same length; new blocks may lie behind. -/
theorem resM_putRow {w : World} {b e cap q : Nat} {l l' : List Int} {v : Value} {os : Array Obj} (ho : OwnOk [(b, ⟨ints l, e, cap, none⟩)] w) (hl : l'.length = l.length) :
    ResM w [(b, ⟨ints l, e, cap, none⟩)] (fun u new => u = v ∧ new = [(b, ⟨ints l', e, cap, none⟩)]) (.returned v) (Go.Sort.grow (Go.Sort.putRow (Value.int .i64) (Go.Sort.ahead w q) b 0 l'.toArray) os) := by
  obtain ⟨arr, h1, h2, h3⟩ := ho.row List.mem_cons_self rfl
  have hlt : b < w.heap.size := (Array.getElem?_eq_some_iff.1 h1).1
  have hsz : (Go.Sort.putRow (Value.int .i64) (Go.Sort.ahead w q) b 0 l'.toArray).heap.size = w.heap.size := by rw [Go.Sort.size_putRow]; rfl
  refine ⟨v, [(b, ⟨ints l', e, cap, none⟩)], rfl, ⟨rfl, rfl, rfl, by rw [Go.Sort.size_grow, hsz]; omega, fun c hc hne => ?_⟩, ⟨by simp [ids], fun c k hk => ?_⟩, fun c hc => .inl hc, rfl, rfl⟩
  · have hcb : c ≠ b := by simpa [ids] using hne
    rw [Go.Sort.heap_grow_old _ _ (by rw [hsz]; exact hc), heap_putRow_other hcb]
  · have hk' : (c, k) = (b, (⟨ints l', e, cap, none⟩ : Blk)) := by simpa using hk
    cases hk'
    refine Blk.ofRow ⟨Go.Sort.putCells (Value.int .i64) 0 l'.toArray arr, ?_, by simp only [Go.Sort.putCells, Array.size_mapIdx]; exact h2, fun i u hu => ?_⟩
    · rw [Go.Sort.heap_grow_old _ _ (by rw [hsz]; exact hlt)]; exact heap_putRow_same h1
    · have hi : i < l'.length := by rw [← ints_length]; exact (List.getElem?_eq_some_iff.1 hu).1
      rw [ints_get hi] at hu
      cases hu
      have ha := h3 i _ (ints_get (by omega : i < l.length))
      simp only [Go.Sort.putCells, Array.getElem?_mapIdx, ha, Option.map_some]
      rw [if_pos ⟨Nat.zero_le _, by simpa using hi⟩, Nat.sub_zero, toArray_get hi]
end Go.VL

/- A part of the proof: P36. No conditions of its own. -/
namespace Go.Proofs.Ytabccmngdhgdfaa
open Go.VL
attribute [local irreducible] VWr VOps VD Calls

theorem c_sortI (b e cap : Nat) (l : List Int) (w : World) (ho : OwnOk [(b, (⟨ints l, e, cap, none⟩ : Blk))] w) (hl : l.length ≤ 1048576) (c : Nat) :
    Calls Try.prog 158 [.slice (some ⟨b, 0, none⟩) l.length c].toArray w (ResM w [(b, ⟨ints l, e, cap, none⟩)] (fun u new => u = .tuple #[] ∧ new = [(b, ⟨ints (l.mergeSort fun x y => decide (x ≤ y)), e, cap, none⟩)])) := by
  have hb : b < w.heap.size := ho.lt (ids_mem List.mem_cons_self)
  have h := AnyG.slices_Sort_int Try.sortI b 0 c l w (holds_of_own ho List.mem_cons_self) hb (by omega)
  refine Calls.mono (show Calls Try.prog 158 _ w _ from h) ?_
  rintro en w' ⟨rfl, n, os, rfl⟩
  exact resM_putRow ho (List.length_mergeSort _)
/-- What is left of a list in order is in order, no number twice, and has the same numbers. -/
theorem compact_sorted {zs : List Int} (hs : zs.Pairwise (· ≤ ·)) : (Lib.compact zs).Pairwise (· < ·) ∧ ∀ x, x ∈ Lib.compact zs ↔ x ∈ zs := by
  have hget : ∀ j, j < zs.length → zs.toArray[j]! = zs.getD j 0 := fun j hj => toArray_get hj
  have hle : ∀ i j, i < j → j < zs.length → zs.getD i 0 ≤ zs.getD j 0 := fun i j hij hj => by
    have := (List.pairwise_iff_getElem.1 hs) i j (by omega) hj hij
    simpa [List.getD_eq_getElem?_getD, List.getElem?_eq_getElem hj, List.getElem?_eq_getElem (show i < zs.length by omega)] using this
  have key : ∀ m, m ≤ zs.length → (Lib.compactUpTo zs.toArray m).Pairwise (· < ·) ∧ (∀ x ∈ Lib.compactUpTo zs.toArray m, ∃ j, j < m ∧ zs.getD j 0 = x) ∧ ∀ j, j < m → zs.getD j 0 ∈ Lib.compactUpTo zs.toArray m := by
    intro m
    induction m with
    | zero => intro _; exact ⟨by simp [Lib.compactUpTo], by simp [Lib.compactUpTo], fun j hj => by omega⟩
    | succ m ih =>
      intro hm
      obtain ⟨h1, h2, h3⟩ := ih (by omega)
      rw [Lib.compactUpTo_succ]
      by_cases hk : m = 0 ∨ zs.getD m 0 ≠ zs.getD (m - 1) 0
      · have hkeep : Lib.keeps zs.toArray m = true := by
          unfold Lib.keeps
          rw [hget m (by omega)]
          rcases hk with hk | hk
          · exact decide_eq_true (.inl hk)
          · exact decide_eq_true (.inr (by rw [hget (m - 1) (by omega)]; exact hk))
        rw [if_pos hkeep, hget m (by omega)]
        refine ⟨?_, fun x hx => ?_, fun j hj => ?_⟩
        · rw [List.pairwise_append]
          refine ⟨h1, by simp, fun x hx y hy => ?_⟩
          have : y = zs.getD m 0 := by simpa using hy
          subst this
          obtain ⟨j, hj, rfl⟩ := h2 x hx
          rcases hk with hk | hk
          · omega
          · have a1 := hle (m - 1) m (by omega) (by omega)
            by_cases e : j = m - 1
            · subst e; omega
            · have := hle j (m - 1) (by omega) (by omega); omega
        · rcases List.mem_append.1 hx with hx | hx
          · obtain ⟨j, hj, e⟩ := h2 x hx; exact ⟨j, by omega, e⟩
          · exact ⟨m, by omega, by have : x = zs.getD m 0 := by simpa using hx
                                   exact this.symm⟩
        · by_cases e : j = m
          · subst e; simp
          · exact List.mem_append_left _ (h3 j (by omega))
      · have hk2 : m ≠ 0 ∧ zs.getD m 0 = zs.getD (m - 1) 0 := by
          constructor
          · intro e; exact hk (.inl e)
          · by_cases e : zs.getD m 0 = zs.getD (m - 1) 0
            · exact e
            · exact absurd (.inr e) hk
        have hkeep : Lib.keeps zs.toArray m = false := by
          unfold Lib.keeps
          refine decide_eq_false fun h => ?_
          rcases h with h | h
          · exact hk2.1 h
          · rw [hget m (by omega), hget (m - 1) (by omega)] at h; exact h hk2.2
        rw [if_neg (by rw [hkeep]; decide), List.append_nil]
        refine ⟨h1, fun x hx => ?_, fun j hj => ?_⟩
        · obtain ⟨j, hj, e⟩ := h2 x hx; exact ⟨j, by omega, e⟩
        · by_cases e : j = m
          · subst e; rw [hk2.2]; exact h3 (j - 1) (by omega)
          · exact h3 j (by omega)
  obtain ⟨h1, h2, h3⟩ := key zs.length (Nat.le_refl _)
  refine ⟨h1, fun x => ⟨fun hx => ?_, fun hx => ?_⟩⟩
  · obtain ⟨j, hj, rfl⟩ := h2 x hx; exact getD_mem hj
  · obtain ⟨j, hj, rfl⟩ := mem_at hx; exact h3 j hj
theorem blk_prefix {b e n : Nat} {l m : List Int} {o : Option Obj} (h : Blk.at ⟨ints (l ++ m), e, n, none⟩ o) : Blk.at ⟨ints l, e, n, none⟩ o := by
  obtain ⟨arr, h1, h2, h3⟩ := h.toRow rfl
  have _ := b
  refine Blk.ofRow ⟨arr, h1, h2, fun i v hv => h3 i v ?_⟩
  have hi : i < l.length := by rw [← ints_length]; exact (List.getElem?_eq_some_iff.1 hv).1
  have : ints (l ++ m) = ints l ++ ints m := by simp [ints]
  show (ints (l ++ m))[i]? = some v
  rw [this, List.getElem?_append_left (by rw [ints_length]; exact hi)]; exact hv
theorem c_compactI (b e cap : Nat) (l : List Int) (w : World) (ho : OwnOk [(b, (⟨ints l, e, cap, none⟩ : Blk))] w) (hl : l.length ≤ 1048576) (c : Nat) (hc : l.length ≤ c) :
    Calls Try.prog 159 [.slice (some ⟨b, 0, none⟩) l.length c].toArray w (ResM w [(b, ⟨ints l, e, cap, none⟩)] (fun u new => u = .slice (some ⟨b, 0, none⟩) (Lib.compact l).length c ∧ new = [(b, ⟨ints (Lib.compact l), e, cap, none⟩)])) := by
  have h := AnyG.slices_Compact_int Try.compI b 0 c l w (holds_of_own ho List.mem_cons_self) (by omega) hc
  refine Calls.mono (show Calls Try.prog 159 _ w _ from h) ?_
  rintro en w' ⟨rfl, n, rfl⟩
  have := resM_putRow (q := n) (v := .slice (some ⟨b, 0, none⟩) (Lib.compact l).length c) (os := #[]) (l' := Lib.compact l ++ List.replicate (l.length - (Lib.compact l).length) 0) ho (by
    have : (Lib.compact l).length ≤ l.length := Lib.compact_length_le l
    simp; omega)
  rw [Go.Sort.grow_empty] at this
  obtain ⟨v, new, h1, h2, h3, h4, h5, h6⟩ := this
  cases h1; subst h6
  refine ⟨_, [(b, ⟨ints (Lib.compact l), e, cap, none⟩)], rfl, h2, ⟨by simp [ids], fun x k hk => ?_⟩, fun x hx => .inl hx, rfl, rfl⟩
  have hk' : (x, k) = (b, (⟨ints (Lib.compact l), e, cap, none⟩ : Blk)) := by simpa using hk
  cases hk'
  exact blk_prefix (b := b) (h3.blk b _ List.mem_cons_self)
theorem c_containsI (v : Value) (l : List Int) (x : Int) (w : World) (hv : RdI w v l) (hl : l.length ≤ 1048576) :
    Calls Try.prog 133 [v, .int .i64 x].toArray w (Res w (Is (.bool (decide (x ∈ l))))) := by
  rcases hv with ⟨a, cap, rfl, rfl⟩ | ⟨b, o, cap, rfl, hc⟩
  · have h := AnyG.slices_Contains_int_empty Try.contI a cap x w
    refine Calls.mono (show Calls Try.prog 133 _ w _ from h) ?_
    rintro en w' ⟨rfl, rfl⟩
    simpa using Res.pure (v := .bool false) (Fr.refl [] w')
  · have h := AnyG.slices_Contains_int Try.contI b o l.length cap l x w (Nat.le_refl _) (by omega) (fun j hj => hc j _ (ints_get hj))
    refine Calls.mono (show Calls Try.prog 133 _ w _ from h) ?_
    rintro en w' ⟨rfl, rfl⟩
    have := Res.pure (v := .bool (decide (x ∈ l))) (Fr.refl [] w')
    simpa using this
end Go.Proofs.Ytabccmngdhgdfaa

namespace Go.VL
/-- No jump leaves. -/
@[reducible] def NoGoto (Q : Post) : Post
  | .goto _, _, _ => False
  | e, f, own => Q e f own
/-- A scope through which the run goes without a jump. -/
theorem vw_scope {P : Program} {Γ : Ctx} {n : Nat} {c : Code} {Q : Post} {f : Nat → Value} {own : Own} (h : VW P Γ n c (NoGoto Q) f own) : VW P Γ n (.scope c) Q f own := by
  intro a w ha hg hm
  refine wpIn_wide.2 (wp_scope_straight (wp_mono (wpIn_wide.1 (h a w ha hg hm)) ?_))
  rintro e a' w' ⟨f', own', h1, h2, h3, h4⟩
  cases e with
  | goto l => exact h4.elim
  | _ => exact ⟨f', own', h1, h2, h3, h4⟩
end Go.VL

/- A part of the proof: P37. No conditions of its own. -/
namespace Go.Proofs.Ytabccmngdhgdfaa
open Go.VL
attribute [local irreducible] VWr VOps VD Calls

theorem sorted_le (l : List Int) : (l.mergeSort fun x y => decide (x ≤ y)).Pairwise (· ≤ ·) := by
  have h := List.pairwise_mergeSort (le := fun (x y : Int) => decide (x ≤ y)) (fun a b c h1 h2 => by simp only [decide_eq_true_eq] at *; omega) (fun a b => by simp only [Bool.or_eq_true, decide_eq_true_eq]; omega) l
  exact h.imp fun h => by simpa using h
theorem compOf_eq {n : Int} {r q : List Int} {a : Int} (hr : IsRd n r) (hq : IsRd n q) (h0 : 0 ≤ a) (h1 : a < n) : Lib.compact ((chain r q a ++ chain q r a).mergeSort fun x y => decide (x ≤ y)) = compOf n r q a := by
  obtain ⟨k1, k2⟩ := compact_sorted (sorted_le (chain r q a ++ chain q r a))
  refine asc_ext k1 (compOf_asc n r q a) fun x => ?_
  rw [k2, List.mem_mergeSort, List.mem_append, mem_compOf hr hq h0 h1]; rfl

set_option maxHeartbeats 2000000 in
set_option maxRecDepth 100000 in
theorem c_componentWith (n : Int) (r q : List Int) (a : Int) (hr : IsRd n r) (hq : IsRd n q) (h0 : 0 ≤ a) (h1 : a < n) (hrl : r.length = 14) (hql : q.length = 14) (w : World) :
    Calls Try.prog 134 [.agg (ints r).toArray, .agg (ints q).toArray, .int .i64 a].toArray w (Res w (NewI 2 (compOf n r q a))) := by
  have hn14 := hr.2.1
  have hA1 := chain_ch hr hq h0 h1
  have hB1 := chain_ch hq hr h0 h1
  have hAl := hA1.length_le hn14
  have hBl := hB1.length_le hn14
  have hA0 := hA1.ne
  refine calls_of_vw Try.func134 rfl Try.ntmps134 (by simp) ?_
  refine vw_seq (vw_region (by kernel_rfl) (vops_box (ints r) rfl (fun b3 hb3 => ?_)))
  refine vops_box (ints q) rfl (fun b4 hb4 => ?_)
  repeat (first | refine vops_q tyOk rfl ?_ | refine vops_nil ?_ | refine vw_seq ?_ | refine vw_region (by kernel_rfl) ?_ | refine vops_guardT rfl rfl ?_ | refine vops_guardF rfl rfl ?_ | refine vops_guardU rfl rfl ?_ | with_reducible refine bs_nbeq rfl ?_ | with_reducible refine bs_true ?_ | with_reducible refine bs_false ?_ | with_reducible refine bs_ntrue ?_ | with_reducible refine bs_nfalse ?_ | refine vops_p tyOk rfl (by (try simp only [inR]); omega) ?_ | refine vw_cond rfl ?_ | refine vw_skip ?_ | refine vw_block ?_ | refine vw_ret ?_ | refine vw_exit ?_ | refine vops_loadM tyOk rfl rfl rfl (by repeat (first | exact mem_here | apply mem_next | apply mem_past)) (by rfl) ?_ | refine vops_loadM tyOk rfl rfl rfl (by repeat (first | exact mem_here | apply mem_next | apply mem_past)) (by exact ints_get0 (by omega)) ?_ | refine vops_loadNM tyOk rfl rfl rfl (by repeat (first | exact mem_here | apply mem_next | apply mem_past)) (by first | rfl | (rw [ints_length]; first | assumption | omega | (rw [ints_length]; first | assumption | omega | simp [*])) | simp [*]) ?_ | refine vops_storeIM tyOk rfl rfl rfl rfl (by repeat (first | exact upd_here | apply upd_next | apply upd_past)) (by omega) ?_ | refine vops_storeM tyOk rfl rfl rfl rfl rfl (by repeat (first | exact upd_here | apply upd_next | apply upd_past)) (by simp) ?_ | refine vops_storeAM tyOk rfl rfl rfl (by first | rfl | (rw [ints_length]; first | assumption | omega | (rw [ints_length]; first | assumption | omega | simp [*])) | simp [*]) (by first | exact ints_one | simp [Value.oneCell']) (by repeat (first | exact upd_here | apply upd_next | apply upd_past)) (by first | rfl | (rw [ints_length]; first | assumption | omega | (rw [ints_length]; first | assumption | omega | simp [*])) | simp [*]) ?_ | refine vops_build2 rfl rfl (by kernel_rfl) ?_ | refine vops_buildZ tyOk rfl (by kernel_rfl) ?_ | refine vops_slice tyOk rfl rfl rfl rfl rfl (by omega) ?_)
  refine vw_draw [0, 1, 2, 4, 5, 6, 3, 7, 8, 9] (by kernel_rfl) (by kernel_rfl) (by kernel_rfl) rfl ?_
  repeat' (first | refine vd_q tyOk rfl (by first | trivial | rfl) rfl (by kernel_rfl) (by kernel_rfl) ?_ | refine vd_p tyOk rfl (by first | trivial | rfl) rfl (by kernel_rfl) (by kernel_rfl) (by (try simp only [inR]); omega) ?_ | refine vd_skipT rfl rfl (by kernel_rfl) (by kernel_rfl) ?_ | refine vd_skipF rfl rfl (by kernel_rfl) (by kernel_rfl) ?_ | refine vd_skipU rfl rfl (by kernel_rfl) (by kernel_rfl) ?_ | refine vops_nil ?_ | refine vd_nil (by kernel_rfl) ?_ | refine ⟨fun _ _ _ h => h, ?_⟩ | refine ⟨fun _ _ _ h => List.mem_cons_of_mem _ h, ?_⟩ | refine ⟨fun _ _ _ h => List.mem_append_right _ h, ?_⟩ | refine vops_q tyOk rfl ?_ | refine vd_load tyOk rfl (by first | trivial | rfl) rfl rfl rfl (by kernel_rfl) (by kernel_rfl) (by kernel_rfl) (sees_mem (by repeat (first | exact mem_here | apply mem_next | apply mem_past)) (by rfl)) (by repeat (first | exact sub_hereL | exact sub_refl | apply sub_cons | apply sub_app)) ?_ | refine vd_load tyOk rfl (by first | trivial | rfl) rfl rfl rfl (by kernel_rfl) (by kernel_rfl) (by kernel_rfl) (sees_mem (k := ⟨ints _, _, _, none⟩) (by repeat (first | exact mem_here | apply mem_next | apply mem_past)) (by exact ints_get0 (by omega))) (by repeat (first | exact sub_hereL | exact sub_refl | apply sub_cons | apply sub_app)) ?_ | refine vd_loadNM tyOk rfl (by first | trivial | rfl) rfl rfl rfl (by repeat (first | exact mem_here | apply mem_next | apply mem_past)) (by first | rfl | (rw [ints_length]; first | assumption | omega | (rw [ints_length]; first | assumption | omega | simp [*])) | simp [*]) (by kernel_rfl) (by kernel_rfl) (by kernel_rfl) (by repeat (first | exact sub_hereL | exact sub_refl | apply sub_cons | apply sub_app)) ?_ | refine vd_build2 rfl (by first | trivial | rfl) rfl rfl (by kernel_rfl) (by kernel_rfl) (by kernel_rfl) ?_ | refine vd_slice tyOk rfl (by first | trivial | rfl) rfl rfl rfl rfl rfl (by kernel_rfl) (by kernel_rfl) (by omega) ?_ | refine ⟨fun h => Bool.noConfusion (show false = true from h), ?_⟩ | refine ⟨fun _ p hp _ => (show Go.VL.Sub _ _ from (by repeat (first | exact sub_hereL | exact sub_refl | apply sub_cons | apply sub_app))) p hp, ?_⟩ | refine vd_loadNM tyOk rfl (by first | trivial | rfl) rfl rfl rfl (by repeat (first | exact mem_here | apply mem_next | apply mem_past)) (by rw [ints_length]; first | exact hrl | exact hql) (by kernel_rfl) (by kernel_rfl) (by kernel_rfl) (by repeat (first | exact sub_hereL | exact sub_refl | apply sub_cons | apply sub_app)) ?_ | (apply vops_call ent88 rfl; (intro w' hg; exact c_chainOf n r q a hr hq h0 h1 hrl hql w'); (intro _ newA hA; obtain ⟨pA, cA, rfl⟩ := SlAt.form hA)) | (apply vops_call ent88 rfl; (intro w' hg; exact c_chainOf n q r a hq hr h0 h1 hql hrl w'); (intro _ newB hB; obtain ⟨pB, cB, rfl⟩ := SlAt.form hB)) | refine vops_appendL (k := 1) (q := chain r q a) (q2 := chain q r a) tyOk rfl rfl (List.cons_ne_nil _ _) rfl rfl (by decide) rfl (NewI.f hA) (by repeat (first | exact pm_here | exact pm_last | apply pm_next | apply pm_past)) rfl (fun w' hg => rdI_F (NewI.rdG hB (by repeat (first | exact sub_hereL | exact sub_refl | apply sub_cons | apply sub_app)) hg)) (by omega) (fun p' cap' new' hN' => ?_) | refine vops_loadM tyOk rfl rfl rfl (by repeat (first | exact mem_here | apply mem_next | apply mem_past)) (by rfl) ?_ | refine vops_loadM tyOk rfl rfl rfl (by repeat (first | exact mem_here | apply mem_next | apply mem_past)) (by exact ints_get0 (by omega)) ?_ | refine vops_loadNM tyOk rfl rfl rfl (by repeat (first | exact mem_here | apply mem_next | apply mem_past)) (by first | rfl | (rw [ints_length]; first | assumption | omega | (rw [ints_length]; first | assumption | omega | simp [*])) | simp [*]) ?_ | refine vops_storeIM tyOk rfl rfl rfl rfl (by repeat (first | exact upd_here | apply upd_next | apply upd_past)) (by omega) ?_ | refine vops_storeM tyOk rfl rfl rfl rfl rfl (by repeat (first | exact upd_here | apply upd_next | apply upd_past)) (by simp) ?_ | refine vops_storeAM tyOk rfl rfl rfl (by first | rfl | (rw [ints_length]; first | assumption | omega | (rw [ints_length]; first | assumption | omega | simp [*])) | simp [*]) (by first | exact ints_one | simp [Value.oneCell']) (by repeat (first | exact upd_here | apply upd_next | apply upd_past)) (by first | rfl | (rw [ints_length]; first | assumption | omega | (rw [ints_length]; first | assumption | omega | simp [*])) | simp [*]) ?_ | refine vops_build2 rfl rfl (by kernel_rfl) ?_ | refine vops_buildZ tyOk rfl (by kernel_rfl) ?_ | refine vops_slice tyOk rfl rfl rfl rfl rfl (by omega) ?_ | refine vd_one rfl (by kernel_rfl) (by kernel_rfl) rfl ?_ | refine vd_oneG rfl (by kernel_rfl) (by kernel_rfl) rfl ?_ | (refine vd_gsplit rfl rfl rfl ?_; (fail_if_success (with_reducible (first | refine bs_true ?_ | refine bs_false ?_))); with_reducible refine bs_dec (fun _ => ?_) (fun _ => ?_)) <;> try (exfalso; omega) | (refine vd_gsplit rfl rfl rfl ?_; (fail_if_success (with_reducible (first | refine bs_true ?_ | refine bs_false ?_))); with_reducible refine bs_ndec (fun _ => ?_) (fun _ => ?_)) <;> try (exfalso; omega) | (refine vd_gsplit rfl rfl rfl ?_; (fail_if_success (with_reducible (first | refine bs_true ?_ | refine bs_false ?_))); with_reducible refine bs_nany (fun _ => ?_) (fun _ => ?_)) <;> try (exfalso; omega) | (refine vd_gsplit rfl rfl rfl ?_; (fail_if_success (with_reducible (first | refine bs_true ?_ | refine bs_false ?_))); with_reducible refine bs_any (fun _ => ?_) (fun _ => ?_)) <;> try (exfalso; omega))
  obtain ⟨b, rfl, rfl, hc1, hc2, hl⟩ := NewF.blk hN' (by omega)
  have hlA : (chain r q a ++ chain q r a).length = (chain r q a).length + (chain q r a).length := List.length_append
  have hlM := List.length_mergeSort (le := fun (x y : Int) => decide (x ≤ y)) (chain r q a ++ chain q r a)
  have hsort : ∀ w', OwnOk [(b, (⟨ints (chain r q a ++ chain q r a), 2, cap' * 1, none⟩ : Blk))] w' → Calls Try.prog 158 [.slice (some ⟨b, 0, none⟩) ((chain r q a).length + (chain q r a).length) cap'].toArray w' (ResM w' [(b, ⟨ints (chain r q a ++ chain q r a), 2, cap' * 1, none⟩)] (fun u new => u = .tuple #[] ∧ new = [(b, ⟨ints ((chain r q a ++ chain q r a).mergeSort fun x y => decide (x ≤ y)), 2, cap' * 1, none⟩)])) := fun w' ho => by
    have := c_sortI b 2 (cap' * 1) _ w' ho (by omega) cap'
    rwa [hlA] at this
  have hcomp : ∀ w', OwnOk [(b, (⟨ints ((chain r q a ++ chain q r a).mergeSort fun x y => decide (x ≤ y)), 2, cap' * 1, none⟩ : Blk))] w' → Calls Try.prog 159 [.slice (some ⟨b, 0, none⟩) ((chain r q a).length + (chain q r a).length) cap'].toArray w' (ResM w' [(b, ⟨ints ((chain r q a ++ chain q r a).mergeSort fun x y => decide (x ≤ y)), 2, cap' * 1, none⟩)] (fun u new => u = .slice (some ⟨b, 0, none⟩) (compOf n r q a).length cap' ∧ new = [(b, ⟨ints (compOf n r q a), 2, cap' * 1, none⟩)])) := fun w' ho => by
    have := c_compactI b 2 (cap' * 1) _ w' ho (by omega) cap' (by omega)
    rwa [hlM, hlA, compOf_eq hr hq h0 h1] at this
  repeat (first | refine vops_q tyOk rfl ?_ | refine vops_nil ?_ | refine vw_seq ?_ | refine vw_region (by kernel_rfl) ?_ | refine vops_guardT rfl rfl ?_ | refine vops_guardF rfl rfl ?_ | refine vops_guardU rfl rfl ?_ | with_reducible refine bs_nbeq rfl ?_ | with_reducible refine bs_true ?_ | with_reducible refine bs_false ?_ | with_reducible refine bs_ntrue ?_ | with_reducible refine bs_nfalse ?_ | refine vops_p tyOk rfl (by (try simp only [inR]); omega) ?_ | refine vw_cond rfl ?_ | refine vw_skip ?_ | refine vw_block ?_ | refine vw_ret ?_ | refine vw_exit ?_ | (apply vops_callM ent158 rfl; (case h => (intro w' hg; exact hsort w' (okS hg))); (case hp => (repeat (first | exact pm_here | exact pm_last | apply pm_next | apply pm_past))); (rintro _ newM ⟨rfl, rfl⟩)) | (apply vops_callM ent159 rfl; (case h => (intro w' hg; exact hcomp w' (okS hg))); (case hp => (repeat (first | exact pm_here | exact pm_last | apply pm_next | apply pm_past))); (rintro _ newM ⟨rfl, rfl⟩)) | refine vops_loadM tyOk rfl rfl rfl (by repeat (first | exact mem_here | apply mem_next | apply mem_past)) (by rfl) ?_ | refine vops_loadM tyOk rfl rfl rfl (by repeat (first | exact mem_here | apply mem_next | apply mem_past)) (by exact ints_get0 (by omega)) ?_ | refine vops_loadNM tyOk rfl rfl rfl (by repeat (first | exact mem_here | apply mem_next | apply mem_past)) (by first | rfl | (rw [ints_length]; first | assumption | omega | (rw [ints_length]; first | assumption | omega | simp [*])) | simp [*]) ?_ | refine vops_storeIM tyOk rfl rfl rfl rfl (by repeat (first | exact upd_here | apply upd_next | apply upd_past)) (by omega) ?_ | refine vops_storeM tyOk rfl rfl rfl rfl rfl (by repeat (first | exact upd_here | apply upd_next | apply upd_past)) (by simp) ?_ | refine vops_storeAM tyOk rfl rfl rfl (by first | rfl | (rw [ints_length]; first | assumption | omega | (rw [ints_length]; first | assumption | omega | simp [*])) | simp [*]) (by first | exact ints_one | simp [Value.oneCell']) (by repeat (first | exact upd_here | apply upd_next | apply upd_past)) (by first | rfl | (rw [ints_length]; first | assumption | omega | (rw [ints_length]; first | assumption | omega | simp [*])) | simp [*]) ?_ | refine vops_build2 rfl rfl (by kernel_rfl) ?_ | refine vops_buildZ tyOk rfl (by kernel_rfl) ?_ | refine vops_slice tyOk rfl rfl rfl rfl rfl (by omega) ?_)
  have hcl : (compOf n r q a).length ≤ cap' := by
    rw [← compOf_eq hr hq h0 h1]
    have := Lib.compact_length_le ((chain r q a ++ chain q r a).mergeSort fun x y => decide (x ≤ y))
    omega
  exact out1 rfl rfl (new := [(b, ⟨ints (compOf n r q a), 2, cap' * 1, none⟩)]) (by simp [ids]) (by repeat (first | exact sub_hereL | exact sub_refl | apply sub_cons | apply sub_app)) (NewI.lit rfl hcl hc2)
end Go.Proofs.Ytabccmngdhgdfaa

/- A part of the proof: P38. No conditions of its own. -/
namespace Go.Proofs.Ytabccmngdhgdfaa
open Go.VL
attribute [local irreducible] VWr VOps VD Calls

set_option maxHeartbeats 2000000 in
set_option maxRecDepth 100000 in
theorem c_joinedTeams (k : Nat) (r q : List Int) (hr : IsRd k r) (hq : IsRd k q) (hrl : r.length = 14) (hql : q.length = 14) (w : World) :
    Calls Try.prog 82 [.int .i64 k, .agg (ints r).toArray, .agg (ints q).toArray].toArray w (Res w (NewLL 32 2 (comps k r q k))) := by
  have hk14 := hr.2.1
  refine calls_of_vw Try.func82 rfl Try.ntmps82 (by simp) ?_
  refine vw_seq (vw_region (by kernel_rfl) (vops_box (ints r) rfl (fun b4 hb4 => ?_)))
  refine vops_box (ints q) rfl (fun b5 hb5 => ?_)
  repeat (first | refine vops_q tyOk rfl ?_ | refine vops_nil ?_ | refine vw_seq ?_ | refine vw_region (by kernel_rfl) ?_ | refine vops_guardT rfl rfl ?_ | refine vops_guardF rfl rfl ?_ | refine vops_guardU rfl rfl ?_ | with_reducible refine bs_nbeq rfl ?_ | with_reducible refine bs_true ?_ | with_reducible refine bs_false ?_ | with_reducible refine bs_ntrue ?_ | with_reducible refine bs_nfalse ?_ | refine vops_p tyOk rfl (by (try simp only [inR]); omega) ?_ | refine vw_cond rfl ?_ | refine vw_skip ?_ | refine vw_block ?_ | refine vw_ret ?_ | refine vw_exit ?_ | refine vops_loadM tyOk rfl rfl rfl (by repeat (first | exact mem_here | apply mem_next | apply mem_past)) (by rfl) ?_ | refine vops_loadM tyOk rfl rfl rfl (by repeat (first | exact mem_here | apply mem_next | apply mem_past)) (by exact ints_get0 (by omega)) ?_ | refine vops_loadNM tyOk rfl rfl rfl (by repeat (first | exact mem_here | apply mem_next | apply mem_past)) (by first | rfl | (rw [ints_length]; first | assumption | omega | (rw [ints_length]; first | assumption | omega | simp [*])) | simp [*]) ?_ | refine vops_storeIM tyOk rfl rfl rfl rfl (by repeat (first | exact upd_here | apply upd_next | apply upd_past)) (by omega) ?_ | refine vops_storeM tyOk rfl rfl rfl rfl rfl (by repeat (first | exact upd_here | apply upd_next | apply upd_past)) (by simp) ?_ | refine vops_storeAM tyOk rfl rfl rfl (by first | rfl | (rw [ints_length]; first | assumption | omega | (rw [ints_length]; first | assumption | omega | simp [*])) | simp [*]) (by first | exact ints_one | simp [Value.oneCell']) (by repeat (first | exact upd_here | apply upd_next | apply upd_past)) (by first | rfl | (rw [ints_length]; first | assumption | omega | (rw [ints_length]; first | assumption | omega | simp [*])) | simp [*]) ?_ | refine vops_build2 rfl rfl (by kernel_rfl) ?_ | refine vops_buildZ tyOk rfl (by kernel_rfl) ?_ | refine vops_slice tyOk rfl rfl rfl rfl rfl (by omega) ?_)
  refine vw_scope ?_
  repeat (first | refine vops_q tyOk rfl ?_ | refine vops_nil ?_ | refine vw_seq ?_ | refine vw_region (by kernel_rfl) ?_ | refine vops_guardT rfl rfl ?_ | refine vops_guardF rfl rfl ?_ | refine vops_guardU rfl rfl ?_ | with_reducible refine bs_nbeq rfl ?_ | with_reducible refine bs_true ?_ | with_reducible refine bs_false ?_ | with_reducible refine bs_ntrue ?_ | with_reducible refine bs_nfalse ?_ | refine vops_p tyOk rfl (by (try simp only [inR]); omega) ?_ | refine vw_cond rfl ?_ | refine vw_skip ?_ | refine vw_block ?_ | refine vw_ret ?_ | refine vw_exit ?_ | refine vw_label ?_ | refine vops_loadM tyOk rfl rfl rfl (by repeat (first | exact mem_here | apply mem_next | apply mem_past)) (by rfl) ?_ | refine vops_loadM tyOk rfl rfl rfl (by repeat (first | exact mem_here | apply mem_next | apply mem_past)) (by exact ints_get0 (by omega)) ?_ | refine vops_loadNM tyOk rfl rfl rfl (by repeat (first | exact mem_here | apply mem_next | apply mem_past)) (by first | rfl | (rw [ints_length]; first | assumption | omega | (rw [ints_length]; first | assumption | omega | simp [*])) | simp [*]) ?_ | refine vops_storeIM tyOk rfl rfl rfl rfl (by repeat (first | exact upd_here | apply upd_next | apply upd_past)) (by omega) ?_ | refine vops_storeM tyOk rfl rfl rfl rfl rfl (by repeat (first | exact upd_here | apply upd_next | apply upd_past)) (by simp) ?_ | refine vops_storeAM tyOk rfl rfl rfl (by first | rfl | (rw [ints_length]; first | assumption | omega | (rw [ints_length]; first | assumption | omega | simp [*])) | simp [*]) (by first | exact ints_one | simp [Value.oneCell']) (by repeat (first | exact upd_here | apply upd_next | apply upd_past)) (by first | rfl | (rw [ints_length]; first | assumption | omega | (rw [ints_length]; first | assumption | omega | simp [*])) | simp [*]) ?_ | refine vops_build2 rfl rfl (by kernel_rfl) ?_ | refine vops_buildZ tyOk rfl (by kernel_rfl) ?_ | refine vops_slice tyOk rfl rfl rfl rfl rfl (by omega) ?_)
  refine vw_loopW (fun m f own => ∃ (i : Nat) (p : Option Addr) (cp : Nat) (vm : List Value) (nm : List Own) (om : Own), i ≤ k ∧ m = k - i ∧ f 12 = .int .i64 i ∧ f 11 = .int .i64 k ∧ f 4 = .pointer (some ⟨b4, 0, none⟩) ∧ f 5 = .pointer (some ⟨b5, 0, none⟩) ∧ f 7 = .slice p (comps k r q i).length cp ∧
      Go.VL.RowsAt 2 (comps k r q i) vm nm ∧ SlAt 32 1 (.slice p (comps k r q i).length cp) (comps k r q i).length vm om [] ∧
      own = om ++ (nm.flatten ++ [(b5, ⟨ints q, 25, 14, none⟩), (b4, ⟨ints r, 25, 14, none⟩)])) k
    ⟨_, ole_refl, 0, none, 0, [], [], [], by omega, by omega, rfl, rfl, rfl, rfl, rfl, trivial, SlAt.nil, by rw [ints_length, ints_length, hrl, hql]; rfl⟩ ?_
  rintro m f own ⟨i, p, cp, vm, nm, om, hi, rfl, h12, h11, h4, h5, h7, hR, hO, rfl⟩
  rw [upd_of h12, upd_of h11, upd_of h4, upd_of h5, upd_of h7]
  have hcl := comps_length k r q i
  repeat (first | refine vops_q tyOk rfl ?_ | refine vops_nil ?_ | refine vw_seq ?_ | refine vw_region (by kernel_rfl) ?_ | refine vops_guardT rfl rfl ?_ | refine vops_guardF rfl rfl ?_ | refine vops_guardU rfl rfl ?_ | with_reducible refine bs_nbeq rfl ?_ | with_reducible refine bs_true ?_ | with_reducible refine bs_false ?_ | with_reducible refine bs_ntrue ?_ | with_reducible refine bs_nfalse ?_ | refine vops_p tyOk rfl (by (try simp only [inR]); omega) ?_ | refine vw_cond rfl ?_ | refine vw_skip ?_ | refine vw_block ?_ | refine vw_ret ?_ | refine vw_exit ?_ | refine vops_loadM tyOk rfl rfl rfl (by repeat (first | exact mem_here | apply mem_next | apply mem_past)) (by rfl) ?_ | refine vops_loadM tyOk rfl rfl rfl (by repeat (first | exact mem_here | apply mem_next | apply mem_past)) (by exact ints_get0 (by omega)) ?_ | refine vops_loadNM tyOk rfl rfl rfl (by repeat (first | exact mem_here | apply mem_next | apply mem_past)) (by first | rfl | (rw [ints_length]; first | assumption | omega | (rw [ints_length]; first | assumption | omega | simp [*])) | simp [*]) ?_ | refine vops_storeIM tyOk rfl rfl rfl rfl (by repeat (first | exact upd_here | apply upd_next | apply upd_past)) (by omega) ?_ | refine vops_storeM tyOk rfl rfl rfl rfl rfl (by repeat (first | exact upd_here | apply upd_next | apply upd_past)) (by simp) ?_ | refine vops_storeAM tyOk rfl rfl rfl (by first | rfl | (rw [ints_length]; first | assumption | omega | (rw [ints_length]; first | assumption | omega | simp [*])) | simp [*]) (by first | exact ints_one | simp [Value.oneCell']) (by repeat (first | exact upd_here | apply upd_next | apply upd_past)) (by first | rfl | (rw [ints_length]; first | assumption | omega | (rw [ints_length]; first | assumption | omega | simp [*])) | simp [*]) ?_ | refine vops_build2 rfl rfl (by kernel_rfl) ?_ | refine vops_buildZ tyOk rfl (by kernel_rfl) ?_ | refine vops_slice tyOk rfl rfl rfl rfl rfl (by omega) ?_)
  refine bs_dec (fun hlt => ?_) (fun hlt => ?_)
  · repeat (first | refine vops_q tyOk rfl ?_ | refine vops_nil ?_ | refine vw_seq ?_ | refine vw_region (by kernel_rfl) ?_ | refine vops_guardT rfl rfl ?_ | refine vops_guardF rfl rfl ?_ | refine vops_guardU rfl rfl ?_ | with_reducible refine bs_nbeq rfl ?_ | with_reducible refine bs_true ?_ | with_reducible refine bs_false ?_ | with_reducible refine bs_ntrue ?_ | with_reducible refine bs_nfalse ?_ | refine vops_p tyOk rfl (by (try simp only [inR]); omega) ?_ | refine vw_cond rfl ?_ | refine vw_skip ?_ | refine vw_block ?_ | refine vw_ret ?_ | refine vw_exit ?_ | refine vops_loadM tyOk rfl rfl rfl (by repeat (first | exact mem_here | apply mem_next | apply mem_past)) (by rfl) ?_ | refine vops_loadM tyOk rfl rfl rfl (by repeat (first | exact mem_here | apply mem_next | apply mem_past)) (by exact ints_get0 (by omega)) ?_ | refine vops_loadNM tyOk rfl rfl rfl (by repeat (first | exact mem_here | apply mem_next | apply mem_past)) (by first | rfl | (rw [ints_length]; first | assumption | omega | (rw [ints_length]; first | assumption | omega | simp [*])) | simp [*]) ?_ | refine vops_storeIM tyOk rfl rfl rfl rfl (by repeat (first | exact upd_here | apply upd_next | apply upd_past)) (by omega) ?_ | refine vops_storeM tyOk rfl rfl rfl rfl rfl (by repeat (first | exact upd_here | apply upd_next | apply upd_past)) (by simp) ?_ | refine vops_storeAM tyOk rfl rfl rfl (by first | rfl | (rw [ints_length]; first | assumption | omega | (rw [ints_length]; first | assumption | omega | simp [*])) | simp [*]) (by first | exact ints_one | simp [Value.oneCell']) (by repeat (first | exact upd_here | apply upd_next | apply upd_past)) (by first | rfl | (rw [ints_length]; first | assumption | omega | (rw [ints_length]; first | assumption | omega | simp [*])) | simp [*]) ?_ | refine vops_build2 rfl rfl (by kernel_rfl) ?_ | refine vops_buildZ tyOk rfl (by kernel_rfl) ?_ | refine vops_slice tyOk rfl rfl rfl rfl rfl (by omega) ?_)
    refine vw_loop (fun m f own => ∃ j : Nat, j ≤ (comps k r q i).length ∧ m = (comps k r q i).length - j ∧ f 17 = .int .i64 j ∧ f 16 = .int .i64 (comps k r q i).length ∧ f 15 = .slice p (comps k r q i).length cp ∧ f 8 = .int .i64 i ∧ f 12 = .int .i64 i ∧ f 11 = .int .i64 k ∧ f 4 = .pointer (some ⟨b4, 0, none⟩) ∧ f 5 = .pointer (some ⟨b5, 0, none⟩) ∧ f 7 = .slice p (comps k r q i).length cp ∧
        own = om ++ (nm.flatten ++ [(b5, ⟨ints q, 25, 14, none⟩), (b4, ⟨ints r, 25, 14, none⟩)]) ∧ ∀ (x : Nat) (c : List Int), x < j → (comps k r q i)[x]? = some c → (i : Int) ∉ c) (comps k r q i).length
      ⟨0, by omega, by omega, rfl, rfl, rfl, rfl, rfl, rfl, rfl, rfl, rfl, rfl, fun x c hx => by omega⟩ ?_
    rintro m f own ⟨j, hj, rfl, h17, h16, h15, h8, h12, h11, h4, h5, h7, rfl, hall⟩
    rw [upd_of h17, upd_of h16, upd_of h15, upd_of h8, upd_of h12, upd_of h11, upd_of h4, upd_of h5, upd_of h7]
    repeat (first | refine vops_q tyOk rfl ?_ | refine vops_nil ?_ | refine vw_seq ?_ | refine vw_region (by kernel_rfl) ?_ | refine vops_guardT rfl rfl ?_ | refine vops_guardF rfl rfl ?_ | refine vops_guardU rfl rfl ?_ | with_reducible refine bs_nbeq rfl ?_ | with_reducible refine bs_true ?_ | with_reducible refine bs_false ?_ | with_reducible refine bs_ntrue ?_ | with_reducible refine bs_nfalse ?_ | refine vops_p tyOk rfl (by (try simp only [inR]); omega) ?_ | refine vw_cond rfl ?_ | refine vw_skip ?_ | refine vw_block ?_ | refine vw_ret ?_ | refine vw_exit ?_ | refine vops_loadM tyOk rfl rfl rfl (by repeat (first | exact mem_here | apply mem_next | apply mem_past)) (by rfl) ?_ | refine vops_loadM tyOk rfl rfl rfl (by repeat (first | exact mem_here | apply mem_next | apply mem_past)) (by exact ints_get0 (by omega)) ?_ | refine vops_loadNM tyOk rfl rfl rfl (by repeat (first | exact mem_here | apply mem_next | apply mem_past)) (by first | rfl | (rw [ints_length]; first | assumption | omega | (rw [ints_length]; first | assumption | omega | simp [*])) | simp [*]) ?_ | refine vops_storeIM tyOk rfl rfl rfl rfl (by repeat (first | exact upd_here | apply upd_next | apply upd_past)) (by omega) ?_ | refine vops_storeM tyOk rfl rfl rfl rfl rfl (by repeat (first | exact upd_here | apply upd_next | apply upd_past)) (by simp) ?_ | refine vops_storeAM tyOk rfl rfl rfl (by first | rfl | (rw [ints_length]; first | assumption | omega | (rw [ints_length]; first | assumption | omega | simp [*])) | simp [*]) (by first | exact ints_one | simp [Value.oneCell']) (by repeat (first | exact upd_here | apply upd_next | apply upd_past)) (by first | rfl | (rw [ints_length]; first | assumption | omega | (rw [ints_length]; first | assumption | omega | simp [*])) | simp [*]) ?_ | refine vops_build2 rfl rfl (by kernel_rfl) ?_ | refine vops_buildZ tyOk rfl (by kernel_rfl) ?_ | refine vops_slice tyOk rfl rfl rfl rfl rfl (by omega) ?_)
    refine bs_dec (fun hlt2 => ?_) (fun hlt2 => ?_)
    · obtain ⟨c, hc⟩ : ∃ c, (comps k r q i)[j]? = some c := ⟨_, List.getElem?_eq_getElem (by omega)⟩
      obtain ⟨u, hu⟩ : ∃ u, vm[j]? = some u := ⟨_, List.getElem?_eq_getElem (by rw [hR.len.1]; omega)⟩
      obtain ⟨n, hn, hsn⟩ := hR.get hu hc
      obtain ⟨pu, cu, rfl⟩ := SlAt.form hn
      obtain ⟨bo, rfl, rfl⟩ := outer_blk hO (by omega)
      have hva := vals_get hu (show 0 + (j : Int).toNat = j by omega)
      obtain ⟨a', ha', hca⟩ := comps_mem (List.mem_of_getElem? hc)
      have hclen : c.length ≤ 14 := by
        rw [hca]
        have := compOf_length (k : Int) r q a'
        omega
      have hct : ∀ w', Go.VL.Good ⟨w, []⟩ ([(bo, (⟨vm, 32, cp * 1, none⟩ : Blk))] ++ (nm.flatten ++ [(b5, ⟨ints q, 25, 14, none⟩), (b4, ⟨ints r, 25, 14, none⟩)])) w' → Calls Try.prog 133 [.slice pu c.length cu, .int .i64 i].toArray w' (Res w' (Is (.bool (decide ((i : Int) ∈ c))))) := fun w' hg =>
        c_containsI _ c i w' (hn.rdG (fun x hx => List.mem_append_right _ (List.mem_append_left _ (hsn x hx))) hg) (by omega)
      repeat (first | refine vops_q tyOk rfl ?_ | refine vops_nil ?_ | refine vw_seq ?_ | refine vw_region (by kernel_rfl) ?_ | refine vops_guardT rfl rfl ?_ | refine vops_guardF rfl rfl ?_ | refine vops_guardU rfl rfl ?_ | with_reducible refine bs_nbeq rfl ?_ | with_reducible refine bs_true ?_ | with_reducible refine bs_false ?_ | with_reducible refine bs_ntrue ?_ | with_reducible refine bs_nfalse ?_ | refine vops_p tyOk rfl (by (try simp only [inR]); omega) ?_ | refine vw_cond rfl ?_ | refine vw_skip ?_ | refine vw_block ?_ | refine vw_ret ?_ | refine vw_exit ?_ | refine vops_loadM tyOk rfl rfl rfl List.mem_cons_self (by exact hva) ?_ | (apply vops_callp ent133 rfl; (intro w' hg; exact hct w' hg)) | refine vops_loadM tyOk rfl rfl rfl (by repeat (first | exact mem_here | apply mem_next | apply mem_past)) (by rfl) ?_ | refine vops_loadM tyOk rfl rfl rfl (by repeat (first | exact mem_here | apply mem_next | apply mem_past)) (by exact ints_get0 (by omega)) ?_ | refine vops_loadNM tyOk rfl rfl rfl (by repeat (first | exact mem_here | apply mem_next | apply mem_past)) (by first | rfl | (rw [ints_length]; first | assumption | omega | (rw [ints_length]; first | assumption | omega | simp [*])) | simp [*]) ?_ | refine vops_storeIM tyOk rfl rfl rfl rfl (by repeat (first | exact upd_here | apply upd_next | apply upd_past)) (by omega) ?_ | refine vops_storeM tyOk rfl rfl rfl rfl rfl (by repeat (first | exact upd_here | apply upd_next | apply upd_past)) (by simp) ?_ | refine vops_storeAM tyOk rfl rfl rfl (by first | rfl | (rw [ints_length]; first | assumption | omega | (rw [ints_length]; first | assumption | omega | simp [*])) | simp [*]) (by first | exact ints_one | simp [Value.oneCell']) (by repeat (first | exact upd_here | apply upd_next | apply upd_past)) (by first | rfl | (rw [ints_length]; first | assumption | omega | (rw [ints_length]; first | assumption | omega | simp [*])) | simp [*]) ?_ | refine vops_build2 rfl rfl (by kernel_rfl) ?_ | refine vops_buildZ tyOk rfl (by kernel_rfl) ?_ | refine vops_slice tyOk rfl rfl rfl rfl rfl (by omega) ?_)
      refine bs_dec (fun hin => ?_) (fun hin => ?_)
      · repeat (first | refine vops_q tyOk rfl ?_ | refine vops_nil ?_ | refine vw_seq ?_ | refine vw_region (by kernel_rfl) ?_ | refine vops_guardT rfl rfl ?_ | refine vops_guardF rfl rfl ?_ | refine vops_guardU rfl rfl ?_ | with_reducible refine bs_nbeq rfl ?_ | with_reducible refine bs_true ?_ | with_reducible refine bs_false ?_ | with_reducible refine bs_ntrue ?_ | with_reducible refine bs_nfalse ?_ | refine vops_p tyOk rfl (by (try simp only [inR]); omega) ?_ | refine vw_cond rfl ?_ | refine vw_skip ?_ | refine vw_block ?_ | refine vw_ret ?_ | refine vw_exit ?_ | refine vops_loadM tyOk rfl rfl rfl (by repeat (first | exact mem_here | apply mem_next | apply mem_past)) (by rfl) ?_ | refine vops_loadM tyOk rfl rfl rfl (by repeat (first | exact mem_here | apply mem_next | apply mem_past)) (by exact ints_get0 (by omega)) ?_ | refine vops_loadNM tyOk rfl rfl rfl (by repeat (first | exact mem_here | apply mem_next | apply mem_past)) (by first | rfl | (rw [ints_length]; first | assumption | omega | (rw [ints_length]; first | assumption | omega | simp [*])) | simp [*]) ?_ | refine vops_storeIM tyOk rfl rfl rfl rfl (by repeat (first | exact upd_here | apply upd_next | apply upd_past)) (by omega) ?_ | refine vops_storeM tyOk rfl rfl rfl rfl rfl (by repeat (first | exact upd_here | apply upd_next | apply upd_past)) (by simp) ?_ | refine vops_storeAM tyOk rfl rfl rfl (by first | rfl | (rw [ints_length]; first | assumption | omega | (rw [ints_length]; first | assumption | omega | simp [*])) | simp [*]) (by first | exact ints_one | simp [Value.oneCell']) (by repeat (first | exact upd_here | apply upd_next | apply upd_past)) (by first | rfl | (rw [ints_length]; first | assumption | omega | (rw [ints_length]; first | assumption | omega | simp [*])) | simp [*]) ?_ | refine vops_build2 rfl rfl (by kernel_rfl) ?_ | refine vops_buildZ tyOk rfl (by kernel_rfl) ?_ | refine vops_slice tyOk rfl rfl rfl rfl rfl (by omega) ?_)
        have hst : comps k r q (i + 1) = comps k r q i := by
          show (if _ then _ else _) = _
          rw [if_pos ⟨c, List.mem_of_getElem? hc, hin⟩]
        exact ⟨k - (i + 1), by omega, _, ole_refl, i + 1, _, cp, vm, nm, _, by omega, rfl, rfl, rfl, rfl, rfl, by rw [hst]; rfl, by rw [hst]; exact hR, by rw [hst]; exact hO, rfl⟩
      · repeat (first | refine vops_q tyOk rfl ?_ | refine vops_nil ?_ | refine vw_seq ?_ | refine vw_region (by kernel_rfl) ?_ | refine vops_guardT rfl rfl ?_ | refine vops_guardF rfl rfl ?_ | refine vops_guardU rfl rfl ?_ | with_reducible refine bs_nbeq rfl ?_ | with_reducible refine bs_true ?_ | with_reducible refine bs_false ?_ | with_reducible refine bs_ntrue ?_ | with_reducible refine bs_nfalse ?_ | refine vops_p tyOk rfl (by (try simp only [inR]); omega) ?_ | refine vw_cond rfl ?_ | refine vw_skip ?_ | refine vw_block ?_ | refine vw_ret ?_ | refine vw_exit ?_ | refine vops_loadM tyOk rfl rfl rfl (by repeat (first | exact mem_here | apply mem_next | apply mem_past)) (by rfl) ?_ | refine vops_loadM tyOk rfl rfl rfl (by repeat (first | exact mem_here | apply mem_next | apply mem_past)) (by exact ints_get0 (by omega)) ?_ | refine vops_loadNM tyOk rfl rfl rfl (by repeat (first | exact mem_here | apply mem_next | apply mem_past)) (by first | rfl | (rw [ints_length]; first | assumption | omega | (rw [ints_length]; first | assumption | omega | simp [*])) | simp [*]) ?_ | refine vops_storeIM tyOk rfl rfl rfl rfl (by repeat (first | exact upd_here | apply upd_next | apply upd_past)) (by omega) ?_ | refine vops_storeM tyOk rfl rfl rfl rfl rfl (by repeat (first | exact upd_here | apply upd_next | apply upd_past)) (by simp) ?_ | refine vops_storeAM tyOk rfl rfl rfl (by first | rfl | (rw [ints_length]; first | assumption | omega | (rw [ints_length]; first | assumption | omega | simp [*])) | simp [*]) (by first | exact ints_one | simp [Value.oneCell']) (by repeat (first | exact upd_here | apply upd_next | apply upd_past)) (by first | rfl | (rw [ints_length]; first | assumption | omega | (rw [ints_length]; first | assumption | omega | simp [*])) | simp [*]) ?_ | refine vops_build2 rfl rfl (by kernel_rfl) ?_ | refine vops_buildZ tyOk rfl (by kernel_rfl) ?_ | refine vops_slice tyOk rfl rfl rfl rfl rfl (by omega) ?_)
        refine ⟨(comps k r q i).length - (j + 1), by omega, j + 1, by omega, rfl, rfl, rfl, rfl, rfl, rfl, rfl, rfl, rfl, rfl, rfl, fun x c' hx hc' => ?_⟩
        by_cases hxj : x = j
        · subst hxj
          obtain rfl : c = c' := Option.some.inj (hc.symm.trans hc')
          exact hin
        · exact hall x c' (by omega) hc'
    · have hnot : ¬ ∃ c ∈ comps k r q i, (i : Int) ∈ c := by
        rintro ⟨c, hc, hin⟩
        obtain ⟨x, hx⟩ := List.mem_iff_getElem?.1 hc
        exact hall x c (by have := (List.getElem?_eq_some_iff.1 hx).1; omega) hx hin
      have hst : comps k r q (i + 1) = comps k r q i ++ [compOf k r q i] := by
        show (if _ then _ else _) = _
        rw [if_neg hnot]
      repeat (first | refine vops_q tyOk rfl ?_ | refine vops_nil ?_ | refine vw_seq ?_ | refine vw_region (by kernel_rfl) ?_ | refine vops_guardT rfl rfl ?_ | refine vops_guardF rfl rfl ?_ | refine vops_guardU rfl rfl ?_ | with_reducible refine bs_nbeq rfl ?_ | with_reducible refine bs_true ?_ | with_reducible refine bs_false ?_ | with_reducible refine bs_ntrue ?_ | with_reducible refine bs_nfalse ?_ | refine vops_p tyOk rfl (by (try simp only [inR]); omega) ?_ | refine vw_cond rfl ?_ | refine vw_skip ?_ | refine vw_block ?_ | refine vw_ret ?_ | refine vw_exit ?_ | refine vops_loadNM tyOk rfl rfl rfl (by repeat (first | exact mem_here | apply mem_next | apply mem_past)) (by rw [ints_length]; first | exact hrl | exact hql) ?_ | (apply vops_call ent134 rfl; (intro w' hg; exact c_componentWith k r q i hr hq (by omega) (by omega) hrl hql w'); (intro _ newC hC; obtain ⟨pC, cC, rfl⟩ := SlAt.form hC)) | refine vops_litV tyOk rfl rfl (List.cons_ne_nil _ _) rfl rfl rfl (fun bt hbt => ?_) | refine vops_appendV tyOk rfl rfl (List.cons_ne_nil _ _) rfl rfl (by decide) rfl hO (by repeat (first | exact pm_here | exact pm_last | apply pm_next | apply pm_past)) rfl (by repeat (first | exact mem_here | apply mem_next | apply mem_past)) rfl (by omega) (fun p' cap' outer' hO' => ?_) | refine vops_loadM tyOk rfl rfl rfl (by repeat (first | exact mem_here | apply mem_next | apply mem_past)) (by rfl) ?_ | refine vops_loadM tyOk rfl rfl rfl (by repeat (first | exact mem_here | apply mem_next | apply mem_past)) (by exact ints_get0 (by omega)) ?_ | refine vops_loadNM tyOk rfl rfl rfl (by repeat (first | exact mem_here | apply mem_next | apply mem_past)) (by first | rfl | (rw [ints_length]; first | assumption | omega | (rw [ints_length]; first | assumption | omega | simp [*])) | simp [*]) ?_ | refine vops_storeIM tyOk rfl rfl rfl rfl (by repeat (first | exact upd_here | apply upd_next | apply upd_past)) (by omega) ?_ | refine vops_storeM tyOk rfl rfl rfl rfl rfl (by repeat (first | exact upd_here | apply upd_next | apply upd_past)) (by simp) ?_ | refine vops_storeAM tyOk rfl rfl rfl (by first | rfl | (rw [ints_length]; first | assumption | omega | (rw [ints_length]; first | assumption | omega | simp [*])) | simp [*]) (by first | exact ints_one | simp [Value.oneCell']) (by repeat (first | exact upd_here | apply upd_next | apply upd_past)) (by first | rfl | (rw [ints_length]; first | assumption | omega | (rw [ints_length]; first | assumption | omega | simp [*])) | simp [*]) ?_ | refine vops_build2 rfl rfl (by kernel_rfl) ?_ | refine vops_buildZ tyOk rfl (by kernel_rfl) ?_ | refine vops_slice tyOk rfl rfl rfl rfl rfl (by omega) ?_)
      refine ⟨k - (i + 1), by omega, outer' ++ (nm.flatten ++ (newC ++ [(b5, ⟨ints q, 25, 14, none⟩), (b4, ⟨ints r, 25, 14, none⟩)])), (by repeat (first | exact ole_nil | exact ole_refl | (apply ole_cons; (repeat (first | exact pm1_here | apply pm1_next | apply pm1_past))) | (apply ole_app; (repeat (first | exact pm_here | exact pm_last | apply pm_next | apply pm_past))))), i + 1, p', cap', vm ++ [.slice pC (compOf k r q i).length cC], nm ++ [newC], outer', by omega, rfl, rfl, rfl, rfl, rfl, ?_, ?_, ?_, ?_⟩
      · rw [hst, List.length_append]; rfl
      · rw [hst]; exact RowsAt.snoc hC hR
      · rw [hst, List.length_append]; exact hO'
      · rw [flat_snoc, List.append_assoc nm.flatten]
  · obtain rfl : i = k := by omega
    refine vw_nodup (fun hnd => ?_)
    repeat (first | refine vops_q tyOk rfl ?_ | refine vops_nil ?_ | refine vw_seq ?_ | refine vw_region (by kernel_rfl) ?_ | refine vops_guardT rfl rfl ?_ | refine vops_guardF rfl rfl ?_ | refine vops_guardU rfl rfl ?_ | with_reducible refine bs_nbeq rfl ?_ | with_reducible refine bs_true ?_ | with_reducible refine bs_false ?_ | with_reducible refine bs_ntrue ?_ | with_reducible refine bs_nfalse ?_ | refine vops_p tyOk rfl (by (try simp only [inR]); omega) ?_ | refine vw_cond rfl ?_ | refine vw_skip ?_ | refine vw_block ?_ | refine vw_ret ?_ | refine vw_exit ?_ | refine vops_loadM tyOk rfl rfl rfl (by repeat (first | exact mem_here | apply mem_next | apply mem_past)) (by rfl) ?_ | refine vops_loadM tyOk rfl rfl rfl (by repeat (first | exact mem_here | apply mem_next | apply mem_past)) (by exact ints_get0 (by omega)) ?_ | refine vops_loadNM tyOk rfl rfl rfl (by repeat (first | exact mem_here | apply mem_next | apply mem_past)) (by first | rfl | (rw [ints_length]; first | assumption | omega | (rw [ints_length]; first | assumption | omega | simp [*])) | simp [*]) ?_ | refine vops_storeIM tyOk rfl rfl rfl rfl (by repeat (first | exact upd_here | apply upd_next | apply upd_past)) (by omega) ?_ | refine vops_storeM tyOk rfl rfl rfl rfl rfl (by repeat (first | exact upd_here | apply upd_next | apply upd_past)) (by simp) ?_ | refine vops_storeAM tyOk rfl rfl rfl (by first | rfl | (rw [ints_length]; first | assumption | omega | (rw [ints_length]; first | assumption | omega | simp [*])) | simp [*]) (by first | exact ints_one | simp [Value.oneCell']) (by repeat (first | exact upd_here | apply upd_next | apply upd_past)) (by first | rfl | (rw [ints_length]; first | assumption | omega | (rw [ints_length]; first | assumption | omega | simp [*])) | simp [*]) ?_ | refine vops_build2 rfl rfl (by kernel_rfl) ?_ | refine vops_buildZ tyOk rfl (by kernel_rfl) ?_ | refine vops_slice tyOk rfl rfl rfl rfl rfl (by omega) ?_)
    exact outLL rfl rfl hR hO rfl (nodup_sub hnd ((List.sublist_append_left _ _).append_left _)) (fun q hq => by rw [← List.append_assoc]; exact List.mem_append_left _ hq)
end Go.Proofs.Ytabccmngdhgdfaa

/-! A drawn region with an operation that makes a block and waits for little: it may come at any time. -/
namespace Go.VL
open Go.RowKit
section
variable {P : Program} {Γ : Ctx} {ops : Array Oper} {Q : (Nat → Value) → Own → Prop} {f : Nat → Value} {own : Own}
variable {T : Nat → Option TI}
/-- The waiting operation makes its block. -/
def OkS (P : Program) (Γ : Ctx) (oa : Oper) (t : Nat) (z : List Value) (F : Nat → Value) (f : Nat → Value) : Prop := ∀ (own : Own) (S : Value → Own → Prop), (∀ b, b ∉ ids own → S (F b) ((b, ⟨z, t, z.length, none⟩) :: own)) → Step P Γ oa f own S
theorem not_ready {ops : Array Oper} {listed : Array Bool} {i j : Nat} (h : i ∈ Region.ready .any ops listed) (hj : listed.getD j false = true) : j ≠ i := fun e => by
  subst e
  have h0 := (mem_ready.1 h).1
  by_cases hs : j < listed.size
  · simp [Array.getD, hs] at h0 hj; rw [h0] at hj; cases hj
  · simp [Array.getD, hs] at h0
/-- The allocation a (into d, of the type t) has not come yet. -/
def VEP (P : Program) (T : Nat → Option TI) (Γ : Ctx) (ops : Array Oper) (base : Own) (Q : (Nat → Value) → Own → Prop) (oa : Oper) (a d t : Nat) (z : List Value) (F : Nat → Value) : List Nat → Array Bool → (Nat → Value) → Own → Prop
  | [], _, _, _ => False
  | i :: L, listed, f, own => 
    OkS P Γ oa t z F f ∧ ((i = a ∧ Region.ready .any ops listed = [a] ∧ ∀ b, b ∉ ids own → VD P Γ ops base Q L (listed.setIfInBounds a true) (upd f d (F b)) ((b, ⟨z, t, z.length, none⟩) :: own)) ∨
    (Nat.beq i a = false ∧ L.isEmpty = false ∧ ∃ o, ops[i]? = some o ∧ (Region.ready .any ops listed).contains i = true ∧
    ((Region.free .any ops listed i = true ∧ ∃ v, QY P Γ ops [] o f v ∧ VEP P T Γ ops base Q oa a d t z F L (listed.setIfInBounds i true) (put f o.dst v) own) ∨
     (Region.free .any ops listed i = true ∧ freeK ops listed i = true ∧ Sub base own ∧ ∃ v, QY P Γ ops base o f v ∧ VEP P T Γ ops base Q oa a d t z F L (listed.setIfInBounds i true) (put f o.dst v) own) ∨
     (Region.ready .any ops (listed.setIfInBounds a true) = [i] ∧ (∀ oa, ops[a]? = some oa → o.apart ops oa = true) ∧ OpV P Γ ops o f own (fun v own' => (keepB o = true → ∀ p ∈ base, p ∈ own → p ∈ own') ∧ VEP P T Γ ops base Q oa a d t z F L (listed.setIfInBounds i true) (put f o.dst v) own')))))
theorem vep_early {base : Own} (hnd : (ids base).Nodup) (hsel : Region.noSelect ops = true) {a d t : Nat} {z : List Value} {F : Nat → Value} {op : Op} {ty : TypeId} {pos : String} {aft : Array Edge} (ha : ops[a]? = some ⟨some d, op, ty, pos, aft, none⟩) :
    ∀ (L : List Nat) (listed : Array Bool) (f : Nat → Value) (own : Own), listed.getD a true = false → (∀ e ∈ aft, Region.binds .any e = true → listed.getD e.on false = true) → VEP P T Γ ops base Q ⟨some d, op, ty, pos, aft, none⟩ a d t z F L listed f own →
      ∀ b own', b ∉ ids own → own'.Perm ((b, ⟨z, t, z.length, none⟩) :: own) → AnyV P Γ ops base (Up Q) (L.length - 1) (listed.setIfInBounds a true) (upd f d (F b)) own'
  | [], _, _, _, _, _, h => h.elim
  | i :: L, listed, f, own, hla, hft, h => by
    intro b own' hb hp
    obtain ⟨_, h⟩ := h
    rcases h with ⟨rfl, hr, k⟩ | ⟨hia, hL, o, ho, hr, h⟩
    · have h1 := anyV_of_vd hnd hsel L _ _ _ (k b hb)
      have h2 := anyV_mono (Q' := Up Q) (fun f own h => ⟨own, List.Perm.refl _, h⟩) _ _ _ _ h1
      exact anyV_perm _ _ _ _ _ hp h2
    · have hne : i ≠ a := fun e => by rw [e] at hia; simp at hia
      have hsp := Region.noSelect_spec hsel
      have hlen : (i :: L).length - 1 = (L.length - 1) + 1 := by
        cases L with
        | nil => cases hL
        | cons _ _ => simp
      have hla' : (listed.setIfInBounds i true).getD a true = false := by rw [getD_set_ne true hne]; exact hla
      have hri : i ∈ Region.ready .any ops (listed.setIfInBounds a true) := ready_mono (by simpa using hr) hne
      have hbt : (b, (⟨z, t, z.length, none⟩ : Blk)) ∈ own' := hp.mem_iff.2 List.mem_cons_self
      have hun : ∀ j, (listed.setIfInBounds a true).getD j true = false → listed.getD j true = false := fun j hj => by
        by_cases haj : a = j
        · rw [← haj]; exact hla
        · rwa [getD_set_ne true haj] at hj
      have _ := hbt
      rw [hlen]
      rcases h with ⟨hf, v, hy, hk⟩ | ⟨hf, hkp, hsb, v, hy, hk⟩ | ⟨hra, hap, hk⟩
      · have hpa := fun hno => Region.free_spec ho hf a _ ha (Ne.symm hne) hla hno
        obtain ⟨a1, a2, a3⟩ := Oper.apart_spec (hpa fun e he hbd => not_ready (by simpa using hr) (hft e he hbd))
        have hI := vep_early hnd hsel ha L _ _ _ hla' (fun e he hbd => getD_set_true (hft e he hbd)) hk b own' hb hp
        refine anyV_first (qb := []) (.inl rfl) hnd ho hsp _ _ _ _ (fun j oj hj hji hun' hno => ⟨Region.free_spec ho hf j oj hj hji (hun j hun') hno, .inl rfl⟩) hri (QY.put (hsp i o · · ho) (d := some d) a3 hy) (.inl rfl) ?_
        rw [set_comm] at hI
        rw [show upd (put f o.dst v) d (F b) = put (upd f d (F b)) o.dst v from (put_comm (f := f) (d := o.dst) (e := some d) v (F b) a2)] at hI
        exact hI
      · have hpa := fun hno => Region.free_spec ho hf a _ ha (Ne.symm hne) hla hno
        obtain ⟨a1, a2, a3⟩ := Oper.apart_spec (hpa fun e he hbd => not_ready (by simpa using hr) (hft e he hbd))
        have hI := vep_early hnd hsel ha L _ _ _ hla' (fun e he hbd => getD_set_true (hft e he hbd)) hk b own' hb hp
        have hsb' : Sub base own' := fun p hpb => hp.mem_iff.2 (List.mem_cons_of_mem _ (hsb p hpb))
        refine anyV_first (qb := base) (.inr rfl) hnd ho hsp _ _ _ _ (fun j oj hj hji hun' hno => ⟨Region.free_spec ho hf j oj hj hji (hun j hun') hno, .inr (freeK_spec hkp j oj hj hji (hun j hun') hno)⟩) hri (QY.put (hsp i o · · ho) (d := some d) a3 hy) (.inr hsb') ?_
        rw [set_comm] at hI
        rw [show upd (put f o.dst v) d (F b) = put (upd f d (F b)) o.dst v from (put_comm (f := f) (d := o.dst) (e := some d) v (F b) a2)] at hI
        exact hI
      · obtain ⟨a1, a2, a3⟩ := Oper.apart_spec (hap _ ha)
        refine ⟨fun h0 => (by rw [h0] at hra; cases hra), fun j hj oj hoj => ?_⟩
        rw [hra] at hj
        obtain rfl : j = i := by simpa using hj
        obtain rfl : o = oj := Option.some.inj (ho.symm.trans hoj)
        have h1 := OpV.put' (hsp j o · · ho) (d := some d) (v := F b) a3 hk
        have h2 := OpV.perm hp (h1.frame (x := (b, ⟨z, t, z.length, none⟩)) hb)
        refine h2.mono fun v o' hh => ?_
        have fin : ∀ own1 : Own, o'.Perm ((b, ⟨z, t, z.length, none⟩) :: own1) → b ∉ ids own1 → VEP P T Γ ops base Q ⟨some d, op, ty, pos, aft, none⟩ a d t z F L (listed.setIfInBounds j true) (put f o.dst v) own1 →
            AnyV P Γ ops base (Up Q) (L.length - 1) ((listed.setIfInBounds a true).setIfInBounds j true) (put (upd f d (F b)) o.dst v) o' := fun own1 hp1 hb1 hv1 => by
          have hI := vep_early hnd hsel ha L _ _ _ hla' (fun e he hbd => getD_set_true (hft e he hbd)) hv1 b o' hb1 hp1
          rw [set_comm] at hI
          rw [show upd (put f o.dst v) d (F b) = put (upd f d (F b)) o.dst v from (put_comm (f := f) (d := o.dst) (e := some d) v (F b) a2)] at hI
          exact hI
        rcases hh with ⟨own1, rfl, hb1, k1, k2⟩ | ⟨rfl, own1, he, hb1, k1, k2⟩
        · exact ⟨fun hkb p hpb hpo => by
            rcases List.mem_cons.1 (hp.mem_iff.1 hpo) with h | h
            · rw [h]; exact List.mem_cons_self
            · exact List.mem_cons_of_mem _ (k1 hkb p hpb h), fin own1 (List.Perm.refl _) hb1 k2⟩
        · exact ⟨fun _ p _ hpo => hpo, fin own1 (by rw [← he]; exact hp) hb1 k2⟩
theorem vep_late {base : Own} (hnd : (ids base).Nodup) (hsel : Region.noSelect ops = true) {a d t : Nat} {z : List Value} {F : Nat → Value} {op : Op} {ty : TypeId} {pos : String} {aft : Array Edge} (ha : ops[a]? = some ⟨some d, op, ty, pos, aft, none⟩) :
    ∀ (L : List Nat) (listed : Array Bool) (f : Nat → Value) (own : Own), listed.getD a true = false → (∀ e ∈ aft, Region.binds .any e = true → listed.getD e.on false = true) → VEP P T Γ ops base Q ⟨some d, op, ty, pos, aft, none⟩ a d t z F L listed f own → AnyV P Γ ops base (Up Q) L.length listed f own
  | [], _, _, _, _, _, h => h.elim
  | i :: L, listed, f, own, hla, hft, h => by
    have hE := vep_early hnd hsel ha (i :: L) listed f own hla hft h
    have hsp := Region.noSelect_spec hsel
    obtain ⟨hok, h⟩ := h
    have hall : OpV P Γ ops ⟨some d, op, ty, pos, aft, none⟩ f own (fun v own' => (keepB ⟨some d, op, ty, pos, aft, none⟩ = true → ∀ p ∈ base, p ∈ own → p ∈ own') ∧ AnyV P Γ ops base (Up Q) L.length (listed.setIfInBounds a true) (upd f d v) own') :=
      hok _ _ fun b hb => ⟨fun _ p _ hp => List.mem_cons_of_mem _ hp, hE b _ hb (List.Perm.refl _)⟩
    rcases h with ⟨rfl, hr, k⟩ | ⟨hia, hL, o, ho, hr, h⟩
    · refine ⟨fun h0 => (by rw [h0] at hr; cases hr), fun j hj oj hoj => ?_⟩
      rw [hr] at hj
      obtain rfl : j = i := by simpa using hj
      obtain rfl := Option.some.inj (ha.symm.trans hoj)
      exact hall
    · have hne : i ≠ a := fun e => by rw [e] at hia; simp at hia
      have hla' : (listed.setIfInBounds i true).getD a true = false := by rw [getD_set_ne true hne]; exact hla
      have hri : i ∈ Region.ready .any ops listed := by simpa using hr
      rcases h with ⟨hf, v, hy, hk⟩ | ⟨hf, hkp, hsb, v, hy, hk⟩ | ⟨hra, hap, hk⟩
      · exact anyV_first (qb := []) (.inl rfl) hnd ho hsp _ _ _ _ (fun j oj hj hji hun hno => ⟨Region.free_spec ho hf j oj hj hji hun hno, .inl rfl⟩) hri hy (.inl rfl) (vep_late hnd hsel ha L _ _ _ hla' (fun e he hbd => getD_set_true (hft e he hbd)) hk)
      · exact anyV_first (qb := base) (.inr rfl) hnd ho hsp _ _ _ _ (fun j oj hj hji hun hno => ⟨Region.free_spec ho hf j oj hj hji hun hno, .inr (freeK_spec hkp j oj hj hji hun hno)⟩) hri hy (.inr hsb) (vep_late hnd hsel ha L _ _ _ hla' (fun e he hbd => getD_set_true (hft e he hbd)) hk)
      · refine ⟨fun h0 => (by rw [h0] at hri; cases hri), fun j hj oj hoj => ?_⟩
        by_cases hja : j = a
        · subst hja
          obtain rfl := Option.some.inj (ha.symm.trans hoj)
          exact hall
        · have hj2 := ready_mono hj hja
          rw [hra] at hj2
          obtain rfl : j = i := by simpa using hj2
          obtain rfl : o = oj := Option.some.inj (ho.symm.trans hoj)
          exact hk.mono fun v own' ⟨k1, k2⟩ => ⟨k1, vep_late hnd hsel ha L _ _ _ hla' (fun e he hbd => getD_set_true (hft e he hbd)) k2⟩

variable {ow : Oper} {base : Own} {L : List Nat} {listed : Array Bool} {i d a dd tt : Nat} {zz : List Value} {FF : Nat → Value} {op : Op} {ty : TypeId} {pos : String} {aft : Array Edge} {g : Option (Nat × Bool)}
theorem ve_run (hok : OkS P Γ ow tt zz FF f) (ho : ops[i]? = some ⟨some d, op, ty, pos, aft, g⟩) {v : Value} (hg : GOn ops f g) (hia : Nat.beq i a = false) (hL : L.isEmpty = false) (h : ∀ w, (execOp (ev f) ⟨some d, op, ty, pos, aft, g⟩).run P w = .ok (.value v) w) (hr : (Region.ready .any ops listed).contains i = true) (hf : Region.free .any ops listed i = true)
    (k : VEP P T Γ ops base Q ow a dd tt zz FF L (listed.setIfInBounds i true) (upd f d v) own) : VEP P T Γ ops base Q ow a dd tt zz FF (i :: L) listed f own :=
  And.intro hok <| .inr ⟨hia, hL, _, ho, hr, .inl ⟨hf, v, qy_of_run hg fun w _ => h w, k⟩⟩
theorem ve_p (hok : OkS P Γ ow tt zz FF f) (hT : TyOk P T) (ho : ops[i]? = some ⟨some d, op, ty, pos, aft, g⟩) {c : Prop} {v : Value} (hg : GOn ops f g) (hia : Nat.beq i a = false) (hL : L.isEmpty = false) (h : aexec T f op = some (c, v)) (hr : (Region.ready .any ops listed).contains i = true) (hf : Region.free .any ops listed i = true) (hc : c)
    (k : VEP P T Γ ops base Q ow a dd tt zz FF L (listed.setIfInBounds i true) (upd f d v) own) : VEP P T Γ ops base Q ow a dd tt zz FF (i :: L) listed f own :=
  ve_run hok ho hg hia hL (fun w => aexec_sound hT h hc _ _ _ _ _ w) hr hf k
theorem ve_q (hok : OkS P Γ ow tt zz FF f) (hT : TyOk P T) (ho : ops[i]? = some ⟨some d, op, ty, pos, aft, g⟩) {v : Value} (hg : GOn ops f g) (hia : Nat.beq i a = false) (hL : L.isEmpty = false) (h : aexec T f op = some (True, v)) (hr : (Region.ready .any ops listed).contains i = true) (hf : Region.free .any ops listed i = true)
    (k : VEP P T Γ ops base Q ow a dd tt zz FF L (listed.setIfInBounds i true) (upd f d v) own) : VEP P T Γ ops base Q ow a dd tt zz FF (i :: L) listed f own := ve_p hok hT ho hg hia hL h hr hf trivial k
theorem ve_skip (hok : OkS P Γ ow tt zz FF f) {j : Nat} {want : Bool} {b : Option Bool} (ho : ops[i]? = some ⟨some d, op, ty, pos, aft, some (j, want)⟩) (hg : gval ops f j = b) (hb : b ≠ some want) (hia : Nat.beq i a = false) (hL : L.isEmpty = false) (hr : (Region.ready .any ops listed).contains i = true) (hf : Region.free .any ops listed i = true)
    (k : VEP P T Γ ops base Q ow a dd tt zz FF L (listed.setIfInBounds i true) (upd f d undef) own) : VEP P T Γ ops base Q ow a dd tt zz FF (i :: L) listed f own :=
  And.intro hok <| .inr ⟨hia, hL, _, ho, hr, .inl ⟨hf, undef, .inr ⟨by rw [hg]; exact hb, rfl⟩, k⟩⟩
theorem ve_skipT (hok : OkS P Γ ow tt zz FF f) {j : Nat} (ho : ops[i]? = some ⟨some d, op, ty, pos, aft, some (j, false)⟩) (hg : gval ops f j = some true) (hia : Nat.beq i a = false) (hL : L.isEmpty = false) (hr : (Region.ready .any ops listed).contains i = true) (hf : Region.free .any ops listed i = true)
    (k : VEP P T Γ ops base Q ow a dd tt zz FF L (listed.setIfInBounds i true) (upd f d undef) own) : VEP P T Γ ops base Q ow a dd tt zz FF (i :: L) listed f own := ve_skip hok ho hg (by simp) hia hL hr hf k
theorem ve_skipF (hok : OkS P Γ ow tt zz FF f) {j : Nat} (ho : ops[i]? = some ⟨some d, op, ty, pos, aft, some (j, true)⟩) (hg : gval ops f j = some false) (hia : Nat.beq i a = false) (hL : L.isEmpty = false) (hr : (Region.ready .any ops listed).contains i = true) (hf : Region.free .any ops listed i = true)
    (k : VEP P T Γ ops base Q ow a dd tt zz FF L (listed.setIfInBounds i true) (upd f d undef) own) : VEP P T Γ ops base Q ow a dd tt zz FF (i :: L) listed f own := ve_skip hok ho hg (by simp) hia hL hr hf k
theorem ve_skipU (hok : OkS P Γ ow tt zz FF f) {j : Nat} {want : Bool} (ho : ops[i]? = some ⟨some d, op, ty, pos, aft, some (j, want)⟩) (hg : gval ops f j = none) (hia : Nat.beq i a = false) (hL : L.isEmpty = false) (hr : (Region.ready .any ops listed).contains i = true) (hf : Region.free .any ops listed i = true)
    (k : VEP P T Γ ops base Q ow a dd tt zz FF L (listed.setIfInBounds i true) (upd f d undef) own) : VEP P T Γ ops base Q ow a dd tt zz FF (i :: L) listed f own := ve_skip hok ho hg (by simp) hia hL hr hf k
theorem ve_load (hok : OkS P Γ ow tt zz FF f) (hT : TyOk P T) {t : Nat} {x : Operand} {ti : TI} {b o : Nat} {v : Value} (ho : ops[i]? = some ⟨some d, .load t x, ty, pos, aft, g⟩) (hg : GOn ops f g) (hia : Nat.beq i a = false) (hL : L.isEmpty = false) (ht : T t = some ti) (hp : ti.plain = true) (hx : ev f x = .pointer (some ⟨b, o, none⟩))
    (hr : (Region.ready .any ops listed).contains i = true) (hf : Region.free .any ops listed i = true) (hk : freeK ops listed i = true) (hs : Sees Γ base b o v) (hsb : Sub base own)
    (k : VEP P T Γ ops base Q ow a dd tt zz FF L (listed.setIfInBounds i true) (upd f d v) own) : VEP P T Γ ops base Q ow a dd tt zz FF (i :: L) listed f own :=
  And.intro hok <| .inr ⟨hia, hL, _, ho, hr, .inr (.inl ⟨hf, hk, hsb, v, qy_of_run hg fun w hgd => by
    show ((Instr.loadAt t (ev f x) >>= fun v => pure (Next.value v)).run P w) = _
    have : (Instr.loadAt t (ev f x)).run P w = .ok v w := by
      rw [hx]
      show (loadVar t ⟨b, o, none⟩).run P w = _
      unfold loadVar
      rw [Sem.run_bind, isAgg_plain hT ht hp, Result.andThen_ok, if_neg (by simp), run_load, hs w hgd]
    rw [run_val, this]; rfl, k⟩)⟩
theorem ve_loadN (hok : OkS P Γ ow tt zz FF f) (hT : TyOk P T) {t : Nat} {x : Operand} {ti : TI} {b o : Nat} (cs : List Value) (ho : ops[i]? = some ⟨some d, .load t x, ty, pos, aft, g⟩) (hg : GOn ops f g) (hia : Nat.beq i a = false) (hL : L.isEmpty = false) (ht : T t = some ti) (hp : ti.isAgg = true) (hx : ev f x = .pointer (some ⟨b, o, none⟩)) (hn : cs.length = ti.size)
    (hr : (Region.ready .any ops listed).contains i = true) (hf : Region.free .any ops listed i = true) (hk : freeK ops listed i = true) (hs : SeesL Γ base b o cs) (hsb : Sub base own)
    (k : VEP P T Γ ops base Q ow a dd tt zz FF L (listed.setIfInBounds i true) (upd f d (.agg cs.toArray)) own) : VEP P T Γ ops base Q ow a dd tt zz FF (i :: L) listed f own :=
  And.intro hok <| .inr ⟨hia, hL, _, ho, hr, .inr (.inl ⟨hf, hk, hsb, _, qy_of_run hg fun w hgd => by
    show ((Instr.loadAt t (ev f x) >>= fun v => pure (Next.value v)).run P w) = _
    have : (Instr.loadAt t (ev f x)).run P w = .ok (.agg cs.toArray) w := by
      rw [hx]
      exact run_loadVarN hT cs ht hp hn hs hgd
    rw [run_val, this]; rfl, k⟩)⟩
theorem ve_loadNM (hok : OkS P Γ ow tt zz FF f) (hT : TyOk P T) {t : Nat} {x : Operand} {ti : TI} {b : Nat} {cs : List Value} {e n : Nat} (ho : ops[i]? = some ⟨some d, .load t x, ty, pos, aft, g⟩) (hg : GOn ops f g) (hia : Nat.beq i a = false) (hL : L.isEmpty = false) (ht : T t = some ti) (hp : ti.isAgg = true) (hx : ev f x = .pointer (some ⟨b, 0, none⟩))
    (hm : (b, (⟨cs, e, n, none⟩ : Blk)) ∈ base) (hn : cs.length = ti.size)
    (hr : (Region.ready .any ops listed).contains i = true) (hf : Region.free .any ops listed i = true) (hk : freeK ops listed i = true) (hsb : Sub base own)
    (k : VEP P T Γ ops base Q ow a dd tt zz FF L (listed.setIfInBounds i true) (upd f d (.agg cs.toArray)) own) : VEP P T Γ ops base Q ow a dd tt zz FF (i :: L) listed f own :=
  ve_loadN hok hT cs ho hg hia hL ht hp hx hn hr hf hk (fun j v hj => by rw [Nat.zero_add]; exact sees_mem hm hj) hsb k
theorem ve_build2 (hok : OkS P Γ ow tt zz FF f) {t : Nat} {x y : Operand} {v0 v1 : Value} (ho : ops[i]? = some ⟨some d, .build t #[(0, x), (1, y)], ty, pos, aft, g⟩) (hg : GOn ops f g) (hia : Nat.beq i a = false) (hL : L.isEmpty = false) (h0 : force (ev f x) = some v0) (h1 : force (ev f y) = some v1) (hb : P.built t [(0, v0), (1, v1)] = some #[v0, v1])
    (hr : (Region.ready .any ops listed).contains i = true) (hf : Region.free .any ops listed i = true) (k : VEP P T Γ ops base Q ow a dd tt zz FF L (listed.setIfInBounds i true) (upd f d (.agg #[v0, v1])) own) : VEP P T Γ ops base Q ow a dd tt zz FF (i :: L) listed f own :=
  ve_run hok ho hg hia hL (x_build2 h0 h1 hb) hr hf k
theorem ve_one (hok : OkS P Γ ow tt zz FF f) {o oa : Oper} (ho : ops[i]? = some o) (hia : Nat.beq i a = false) (hL : L.isEmpty = false) (hr : (Region.ready .any ops listed).contains i = true) (h1 : Region.ready .any ops (listed.setIfInBounds a true) = [i]) (hg : o.guard = none) (hoa : ops[a]? = some oa) (hap : o.apart ops oa = true)
    (h : VOps P Γ ops (fun f' own' => (keepB o = true → ∀ p ∈ base, p ∈ own → p ∈ own') ∧ VEP P T Γ ops base Q ow a dd tt zz FF L (listed.setIfInBounds i true) f' own') [o] f own) : VEP P T Γ ops base Q ow a dd tt zz FF (i :: L) listed f own := by
  refine And.intro hok <| .inr ⟨hia, hL, o, ho, hr, .inr (.inr ⟨h1, fun ob hob => by rw [hoa] at hob; cases hob; exact hap, ?_⟩)⟩
  unfold OpV
  simp only [hg]
  simp only [VOps, hg] at h
  exact h
theorem ve_alloc (hok : OkS P Γ ow tt zz FF f) {L : List Nat} (hr : Region.ready .any ops listed = [a]) (k : ∀ b, b ∉ ids own → VD P Γ ops base Q L (listed.setIfInBounds a true) (upd f dd (FF b)) ((b, ⟨zz, tt, zz.length, none⟩) :: own)) : VEP P T Γ ops base Q ow a dd tt zz FF (a :: L) listed f own :=
  And.intro hok <| .inl ⟨rfl, hr, k⟩
theorem ok_build0 (hT : TyOk P T) {d t e a b : Nat} {z : List Value} {ei : TI} {ty : TypeId} {pos : String} {aft : Array Edge} (ht : T t = some ⟨.slice e, a, b, z⟩) (he : T e = some ei) (f : Nat → Value) : OkS P Γ ⟨some d, .buildSlice t 0 #[], ty, pos, aft, none⟩ e [] (fun b => .slice (some ⟨b, 0, none⟩) 0 0) f := fun own S k => by
  have h : VOps P Γ #[] (fun f own => S (f d) own) [⟨some d, .buildSlice t 0 #[], ty, pos, aft, none⟩] f own := vops_build0 hT ht he fun b hb => by
    show S (upd f d _ d) _
    rw [show upd f d (.slice (some ⟨b, 0, none⟩) 0 0) d = .slice (some ⟨b, 0, none⟩) 0 0 by simp [upd]]
    exact k b hb
  simp only [VOps, put] at h
  refine Step.mono h fun v o hh => ?_
  simpa [upd] using hh
theorem ok_bools (hT : TyOk P T) {d t e a b : Nat} {z : List Value} {x y : Operand} {ei : TI} {kl kc : IntKind} {c : Int} {n : Nat} {ty : TypeId} {pos : String} {aft : Array Edge} (ht : T t = some ⟨.slice e, a, b, z⟩) (he : T e = some ei) (hz : ei.zero = [.bool false]) (hs : ei.size = 1) {f : Nat → Value}
    (hx : ev f x = .int kl c) (hy : ev f y = .int kc c) (hc : c = n) (hb : ei.bytes ≤ 1000) (hn : n ≤ 1073741824) : OkS P Γ ⟨some d, .makeSlice t x y, ty, pos, aft, none⟩ e (bools (List.replicate n false)) (fun b => .slice (some ⟨b, 0, none⟩) n n) f := fun own S k => by
  have h : VOps P Γ #[] (fun f own => S (f d) own) [⟨some d, .makeSlice t x y, ty, pos, aft, none⟩] f own := vops_makeBools hT ht he hz hs hx hy hc hb hn fun b hb => by
    show S (upd f d _ d) _
    rw [show upd f d (.slice (some ⟨b, 0, none⟩) n n) d = .slice (some ⟨b, 0, none⟩) n n by simp [upd]]
    have := k b hb
    rw [show (bools (List.replicate n false)).length = n by simp [bools]] at this
    exact this
  simp only [VOps, put] at h
  refine Step.mono h fun v o hh => ?_
  simpa [upd] using hh
/-- A drawn region: first the operations of L0, each of them free; then L, where the operation a waits. -/
def VPre (P : Program) (Γ : Ctx) (ops : Array Oper) (K : Array Bool → (Nat → Value) → Own → Prop) : List Nat → Array Bool → (Nat → Value) → Own → Prop
  | [], listed, f, own => K listed f own
  | i :: L, listed, f, own => ∃ o, ops[i]? = some o ∧ (Region.ready .any ops listed).contains i = true ∧ Region.free .any ops listed i = true ∧ ∃ v, QY P Γ ops [] o f v ∧ VPre P Γ ops K L (listed.setIfInBounds i true) (put f o.dst v) own
theorem anyV_of_pre {base : Own} (hnd : (ids base).Nodup) (hsel : Region.noSelect ops = true) {m : Nat} {K : Array Bool → (Nat → Value) → Own → Prop} (hK : ∀ listed f own, K listed f own → AnyV P Γ ops base Q m listed f own) :
    ∀ (L0 : List Nat) (listed : Array Bool) (f : Nat → Value) (own : Own), VPre P Γ ops K L0 listed f own → AnyV P Γ ops base Q (L0.length + m) listed f own
  | [], _, _, _, h => by simpa using hK _ _ _ h
  | i :: L, listed, f, own, h => by
    obtain ⟨o, ho, hr, hf, v, hy, hk⟩ := h
    have hsp := Region.noSelect_spec hsel
    have := anyV_of_pre hnd hsel hK L _ _ _ hk
    rw [show (i :: L).length + m = (L.length + m) + 1 by simp; omega]
    exact anyV_first (qb := []) (.inl rfl) hnd ho hsp _ _ _ _ (fun j oj hj hji hun hno => ⟨Region.free_spec ho hf j oj hj hji hun hno, .inl rfl⟩) (by simpa using hr) hy (.inl rfl) this
theorem vw_drawE {ro : Option Nat} {n : Nat} {id : Nat} {l : List Oper} {Q : Post} (base : Own) (L0 L : List Nat) (a d t : Nat) (z : List Value) (F : Nat → Value) {op : Op} {ty : TypeId} {pos : String} {aft : Array Edge} (ha : l.toArray[a]? = some ⟨some d, op, ty, pos, aft, none⟩)
    (hm : P.follows .mixedOrders = true) (hd : dstOk n l = true) (hsel : Region.noSelect l.toArray = true) (hL : L0.length + L.length = l.length) (hb : OLe base own)
    (h : VPre P Γ l.toArray (fun listed f own => listed.getD a true = false ∧ (aft.all fun e => !Region.binds .any e || listed.getD e.on false) = true ∧ VEP P T Γ l.toArray base (fun f own => Q .normal f own) ⟨some d, op, ty, pos, aft, none⟩ a d t z F L listed f own) L0 (Array.replicate l.length false) f own) : VWr ro P Γ n (.region id l.toArray true) Q f own := by
  intro ac w hac hg hmk
  have h1 := anyV_of_pre (Q := Up fun f own => Q .normal f own) (hb.nodup hg.ok.nodup) hsel (m := L.length) (fun listed f own hh => vep_late (T := T) (hb.nodup hg.ok.nodup) hsel ha L _ _ _ hh.1 (fun e he hbd => by
    have := Array.all_eq_true'.1 hh.2.1 e he
    rw [hbd] at this
    simpa using this) hh.2.2) L0 _ f own h
  refine wpIn_mono (Q := VQ ro Γ n (fun e f own => ∃ own' : Own, own.Perm own' ∧ Q e f own')) (wpIn_region_any hm ?_) ?_
  · have h2 := anyV_sound (ro := ro) (n := n) (Q := fun e f own => ∃ own' : Own, own.Perm own' ∧ Q e f own') (by simpa using hd) _ _ f own h1 ac { w with drawn := w.drawn + 1 } hac hg.drew hmk.drew
    rw [hL] at h2
    simpa using h2
  · rintro e a' w' ⟨f', own', h1, h2, hm', own'', h3, h4⟩
    exact ⟨f', own'', h1, h2.perm h3, hm'.sub (fun b hb => (h3.map Prod.fst).mem_iff.2 hb), h4⟩
theorem vpre_q (hT : TyOk P T) {K : Array Bool → (Nat → Value) → Own → Prop} {i d : Nat} {op : Op} {ty : TypeId} {pos : String} {aft : Array Edge} {g : Option (Nat × Bool)} {L : List Nat} {listed : Array Bool} (ho : ops[i]? = some ⟨some d, op, ty, pos, aft, g⟩) {v : Value} (hg : GOn ops f g) (h : aexec T f op = some (True, v)) (hr : (Region.ready .any ops listed).contains i = true) (hf : Region.free .any ops listed i = true)
    (k : VPre P Γ ops K L (listed.setIfInBounds i true) (upd f d v) own) : VPre P Γ ops K (i :: L) listed f own :=
  ⟨_, ho, hr, hf, v, qy_of_run hg fun w _ => aexec_sound hT h trivial _ _ _ _ _ w, k⟩
end
end Go.VL

