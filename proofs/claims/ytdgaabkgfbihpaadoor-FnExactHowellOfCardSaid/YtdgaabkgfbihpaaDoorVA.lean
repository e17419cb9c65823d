import Derived.Test.YtdgaabkgfbihpaaDoorSA
import Derived.Test.YtdgaabkgfbihpaaDoorVLGrp
import Derived.Test.YtdgaabkgfbihpaaDoorVLArr
/- Parts of the proof, one after another. No conditions of their own. -/
/- A part of the proof: V1. No conditions of its own. -/
namespace Go.Proofs.YtdgaabkgfbihpaaDoor
open Go.VL
attribute [local irreducible] VWr VOps VD Calls

set_option maxRecDepth 100000 in
theorem c_eqSeat (r : List Int) (hr : r.length = 3) (w : World) : Calls Tryd.prog 46 [.agg (ints r).toArray, .agg (ints r).toArray].toArray w (Res w (Is (.bool true))) := by
  refine calls_of_vw Tryd.func46 rfl Tryd.ntmps46 (by simp) ?_
  refine vw_seq (vw_region (by kernel_rfl) (vops_box (ints r) rfl (fun b2 hb2 => ?_)))
  refine vops_box (ints r) rfl (fun b3 hb3 => ?_)
  repeat (first | refine vops_q tyOk rfl ?_ | refine vops_nil ?_ | refine vw_seq ?_ | refine vw_region (by kernel_rfl) ?_ | refine vw_block ?_)
  refine vw_loop (fun m f own => ∃ a : Int, 0 ≤ a ∧ a ≤ 3 ∧ m = (3 - a).toNat ∧ f 5 = .int .i64 a ∧ f 2 = .pointer (some ⟨b2, 0, none⟩) ∧ f 3 = .pointer (some ⟨b3, 0, none⟩) ∧ own = [(b3, ⟨ints r, 49, 3, none⟩), (b2, ⟨ints r, 49, 3, none⟩)]) 3
    ⟨0, by omega, by omega, by omega, rfl, rfl, rfl, by rw [ints_length, hr]⟩ ?_
  rintro m f own ⟨a, ha0, ha1, rfl, h5, h2, h3, rfl⟩
  rw [upd_of h2, upd_of h3, upd_of h5]
  repeat (first | refine vops_q tyOk rfl ?_ | refine vops_nil ?_ | refine vw_seq ?_ | refine vw_region (by kernel_rfl) ?_ | refine vw_cond rfl ?_)
  refine bs_dec (fun h4 => ?_) (fun h4 => ?_)
  · repeat (first | refine vw_seq ?_ | refine vw_skip ?_ | refine vw_block ?_)
    refine vw_draw [0, 1, 2, 3, 4, 5, 6] (by kernel_rfl) (by kernel_rfl) (by kernel_rfl) rfl ?_
    repeat' (first | refine vd_q tyOk rfl (by first | trivial | rfl) rfl (by kernel_rfl) (by kernel_rfl) ?_ | refine vd_p tyOk rfl (by first | trivial | rfl) rfl (by kernel_rfl) (by kernel_rfl) (by (try simp only [inR]); omega) ?_ | refine vd_nil (by kernel_rfl) ?_ | refine vd_load tyOk rfl (by first | trivial | rfl) rfl rfl rfl (by kernel_rfl) (by kernel_rfl) (by kernel_rfl) (sees_at 1 rfl (ints_get0 (by omega))) (by first | exact sub_refl | exact sub_cons sub_refl | exact sub_app sub_refl) ?_ | refine vd_load tyOk rfl (by first | trivial | rfl) rfl rfl rfl (by kernel_rfl) (by kernel_rfl) (by kernel_rfl) (sees_at 0 rfl (ints_get0 (by omega))) (by first | exact sub_refl | exact sub_cons sub_refl | exact sub_app sub_refl) ?_)
    repeat (first | refine vw_cond rfl ?_)
    refine bs_ndec2 (fun h6 => absurd rfl h6) (fun _ => ?_)
    repeat (first | refine vops_q tyOk rfl ?_ | refine vops_nil ?_ | refine vw_region (by kernel_rfl) ?_ | refine vops_p tyOk rfl (by (try simp only [inR]); omega) ?_ | refine vw_skip ?_)
    exact ⟨(3 - (a + 1)).toNat, by omega, a + 1, by omega, by omega, rfl, rfl, rfl, rfl, rfl⟩
  · repeat (first | refine vops_q tyOk rfl ?_ | refine vops_nil ?_ | refine vw_seq ?_ | refine vw_region (by kernel_rfl) ?_ | refine vw_ret ?_ | refine vw_exit ?_)
    exact rv_bool rfl rfl rfl

/-- Three numbers of a list. -/
def tri (q : List Int) (i : Nat) : List Int := [q.getD (i * 3) 0, q.getD (i * 3 + 1) 0, q.getD (i * 3 + 2) 0]
theorem RdF.tri {w : World} {n : Nat} {v : Value} {q : List Int} (h : RdF w 3 n v q) {i : Nat} (hi : i < n) :
    ∃ b o cap, v = .slice (some ⟨b, o, none⟩) n cap ∧ ∀ j x, (ints (tri q i))[j]? = some x → w.cell? ⟨b, o + i * 3 + j, none⟩ = some x := by
  obtain ⟨b, o, cap, h1, h2, h3⟩ := h.at hi
  refine ⟨b, o, cap, h1, fun j x hx => ?_⟩
  match j, hx with
  | 0, hx => cases hx; rw [Nat.add_assoc]; exact h3 (i * 3 + 0) (by omega)
  | 1, hx => cases hx; rw [Nat.add_assoc]; exact h3 (i * 3 + 1) (by omega)
  | 2, hx => cases hx; rw [Nat.add_assoc]; exact h3 (i * 3 + 2) (by omega)

set_option maxRecDepth 100000 in
theorem c_eqSeatS (v u : Value) (n : Nat) (q : List Int) (w : World) (hv : RdF w 3 n v q) (hu : RdF w 3 n u q) (hl : n ≤ 1048576) :
    Calls Tryd.prog 35 [v, u].toArray w (Res w (Is (.bool true))) := by
  obtain ⟨a, cap, rfl⟩ := hv.len
  obtain ⟨a2, cap2, rfl⟩ := hu.len
  refine calls_of_vw Tryd.func35 rfl Tryd.ntmps35 (by simp) ?_
  repeat (first | refine vops_q tyOk rfl ?_ | refine vops_nil ?_ | refine vw_seq ?_ | refine vw_region (by kernel_rfl) ?_ | refine vw_cond rfl ?_)
  refine bs_ndec2 (fun h => absurd rfl h) (fun _ => ?_)
  repeat (first | refine vops_q tyOk rfl ?_ | refine vops_nil ?_ | refine vw_seq ?_ | refine vw_region (by kernel_rfl) ?_ | refine vw_skip ?_ | refine vw_block ?_)
  refine vw_loop (fun m f own => ∃ i : Nat, i ≤ n ∧ m = n - i ∧ f 5 = .int .i64 i ∧ f 0 = .slice a n cap ∧ f 1 = .slice a2 n cap2 ∧ own = []) n
    ⟨0, by omega, by omega, rfl, rfl, rfl, rfl⟩ ?_
  rintro m f own ⟨i, hi, rfl, h5, h0, h1, rfl⟩
  rw [upd_of h0, upd_of h1, upd_of h5]
  repeat (first | refine vops_q tyOk rfl ?_ | refine vops_nil ?_ | refine vw_seq ?_ | refine vw_region (by kernel_rfl) ?_ | refine vw_cond rfl ?_)
  refine bs_dec (fun h4 => ?_) (fun h4 => ?_)
  · obtain ⟨b, o, cap', he, hrow⟩ := RdF.tri hv (i := i) (by omega)
    cases he
    obtain ⟨b', o', cap'', he, hrow'⟩ := RdF.tri hu (i := i) (by omega)
    cases he
    have hrl : (tri q i).length = 3 := rfl
    generalize tri q i = r at *
    repeat (first | refine vw_seq ?_ | refine vw_skip ?_ | refine vw_block ?_)
    refine vw_draw [0, 1, 2, 3, 4, 5, 6, 7, 8, 9] (by kernel_rfl) (by kernel_rfl) (by kernel_rfl) rfl ?_
    repeat' (first | refine vd_q tyOk rfl (by first | trivial | rfl) rfl (by kernel_rfl) (by kernel_rfl) ?_ | refine vd_p tyOk rfl (by first | trivial | rfl) rfl (by kernel_rfl) (by kernel_rfl) (by (try simp only [inR]); omega) ?_ | refine vops_nil ?_ | refine vd_nil (by kernel_rfl) ?_ | refine ⟨fun _ _ _ h => h, ?_⟩ | refine vd_loadN tyOk (ints (r)) rfl (by first | trivial | rfl) rfl rfl rfl (by simp [ints_length, *]) (by kernel_rfl) (by kernel_rfl) (by kernel_rfl) (fun j x hx => sees_old (hrow j x hx) (by simp)) (by first | exact sub_refl | exact sub_cons sub_refl | exact sub_app sub_refl) ?_ | refine vd_loadN tyOk (ints (r)) rfl (by first | trivial | rfl) rfl rfl rfl (by simp [ints_length, *]) (by kernel_rfl) (by kernel_rfl) (by kernel_rfl) (fun j x hx => sees_old (hrow' j x hx) (by simp)) (by first | exact sub_refl | exact sub_cons sub_refl | exact sub_app sub_refl) ?_ | (apply vops_callp ent46 rfl; (intro w _; exact c_eqSeat _ hrl w)) | refine vd_one rfl (by kernel_rfl) (by kernel_rfl) rfl ?_)
    repeat (first | refine vops_q tyOk rfl ?_ | refine vops_nil ?_ | refine vw_region (by kernel_rfl) ?_ | with_reducible refine bs_ntrue ?_ | refine vops_p tyOk rfl (by (try simp only [inR]); omega) ?_ | refine vw_cond rfl ?_ | refine vw_skip ?_)
    exact ⟨n - (i + 1), by omega, i + 1, by omega, rfl, rfl, rfl, rfl, rfl⟩
  · repeat (first | refine vops_q tyOk rfl ?_ | refine vops_nil ?_ | refine vw_seq ?_ | refine vw_region (by kernel_rfl) ?_ | refine vw_ret ?_ | refine vw_exit ?_)
    exact rv_bool rfl rfl rfl

set_option maxRecDepth 100000 in
theorem c_markSeatS (v : Value) (n : Nat) (q : List Int) (k0 : Int) (new : Own) (w : World) (hN : NewF 49 3 n q v new) (ho : OwnOk new w) (hl : n ≤ 1048576) (h0 : 0 ≤ k0) (h1 : k0 ≤ 1099511627776) :
    Calls Tryd.prog 36 [v, .int .i64 k0].toArray w (ResM w new (Marked 49 3 n k0 v)) := by
  obtain ⟨p, cap, rfl⟩ := hN.form
  have hq : q.length = n * 3 := by have := hN.1; rwa [ints_length] at this
  refine calls_of_vwM Tryd.func36 rfl Tryd.ntmps36 (by simp) ho ?_
  repeat (first | refine vops_q tyOk rfl ?_ | refine vops_nil ?_ | refine vw_seq ?_ | refine vw_region (by kernel_rfl) ?_ | refine vw_block ?_)
  refine vw_loop (fun m f own => ∃ (i : Nat) (c : Int), i ≤ n ∧ m = n - i ∧ c = k0 + (i * 3 : Nat) ∧ f 5 = .int .i64 i ∧ f 1 = .int .i64 c ∧ f 0 = .slice p n cap ∧ NewF 49 3 n (markTo q k0 (i * 3)) (.slice p n cap) own) n
    ⟨0, k0, by omega, by omega, by omega, rfl, rfl, rfl, by rw [Nat.zero_mul, markTo_zero]; exact hN⟩ ?_
  rintro m f own ⟨i, c, hi, rfl, hcc, h5, h1', h0', hF⟩
  rw [upd_of h0', upd_of h1', upd_of h5]
  repeat (first | refine vops_q tyOk rfl ?_ | refine vops_nil ?_ | refine vw_seq ?_ | refine vw_region (by kernel_rfl) ?_ | refine vw_cond rfl ?_)
  refine bs_dec (fun h4 => ?_) (fun h4 => ?_)
  · obtain ⟨b, rfl, rfl, hc1, hc2, hml⟩ := hF.blk (by omega)
    repeat (first | refine vops_q tyOk rfl ?_ | refine vops_nil ?_ | refine vw_seq ?_ | refine vw_region (by kernel_rfl) ?_ | refine vw_skip ?_ | refine vw_block ?_)
    refine vw_loop (fun m f own => ∃ (j : Nat) (c : Int), j ≤ 3 ∧ m = 3 - j ∧ c = k0 + (i * 3 + j : Nat) ∧ f 6 = .int .i64 j ∧ f 5 = .int .i64 i ∧ f 1 = .int .i64 c ∧ f 0 = .slice (some ⟨b, 0, none⟩) n cap ∧ own = [(b, ⟨ints (markTo q k0 (i * 3 + j)), 49, cap * 3, none⟩)]) 3
      ⟨0, c, by omega, by omega, by omega, rfl, rfl, rfl, rfl, rfl⟩ ?_
    rintro m f own ⟨j, c', hj, rfl, hcc', h6, h5, h1', h0', rfl⟩
    rw [upd_of h0', upd_of h1', upd_of h5, upd_of h6]
    repeat (first | refine vops_q tyOk rfl ?_ | refine vops_nil ?_ | refine vw_seq ?_ | refine vw_region (by kernel_rfl) ?_ | refine vw_cond rfl ?_)
    refine bs_dec (fun h7 => ?_) (fun h7 => ?_)
    · have hml' : (markTo q k0 (i * 3 + j)).length = n * 3 := by rw [markTo_length (by omega)]; exact hq
      have hidx : 0 + (i : Int).toNat * 3 + (j : Int).toNat = 0 + (i * 3 + j) := by omega
      repeat (first | refine vops_q tyOk rfl ?_ | refine vops_nil ?_ | refine vw_seq ?_ | refine vw_region (by kernel_rfl) ?_ | refine vops_p tyOk rfl (by (try simp only [inR]); omega) ?_ | refine vw_skip ?_ | refine vw_block ?_ | refine vops_storeIM (o := i * 3 + j) tyOk rfl rfl (by exact congrArg (fun x => Value.pointer (some ⟨b, x, none⟩)) hidx) rfl (by repeat (first | exact upd_here | apply upd_next | apply upd_past)) (by omega) ?_)
      refine ⟨3 - (j + 1), by omega, j + 1, c' + 1, by omega, rfl, by omega, rfl, rfl, rfl, rfl, ?_⟩
      have : markTo q k0 (i * 3 + (j + 1)) = (markTo q k0 (i * 3 + j)).set (i * 3 + j) (k0 + (i * 3 + j : Nat)) := (markTo_step (t := i * 3 + j) (by omega)).symm
      rw [this, ← hcc']
    · obtain rfl : j = 3 := by omega
      repeat (first | refine vops_q tyOk rfl ?_ | refine vops_nil ?_ | refine vw_region (by kernel_rfl) ?_ | refine vops_p tyOk rfl (by (try simp only [inR]); omega) ?_ | refine vw_exit ?_)
      refine ⟨n - (i + 1), by omega, i + 1, c', by omega, rfl, by omega, rfl, rfl, rfl, ?_⟩
      rw [show (i + 1) * 3 = i * 3 + 3 by omega]
      exact NewF.mk (by rw [markTo_length (by omega)]; exact hq) hc1 hc2
  · obtain rfl : i = n := by omega
    repeat (first | refine vops_q tyOk rfl ?_ | refine vops_nil ?_ | refine vw_seq ?_ | refine vw_region (by kernel_rfl) ?_ | refine vw_ret ?_ | refine vw_exit ?_)
    refine out1 rfl rfl (new := own) (SlAt.nodup hF) (fun _ h => h) ⟨by show Value.int .i64 c = _; rw [hcc], ?_⟩
    rw [← markTo_all (q := q) hq]; exact hF

set_option maxRecDepth 100000 in
theorem c_heldSeatS (v : Value) (n : Nat) (k0 : Int) (w : World) (hv : RdF w 3 n v (iota k0 (n * 3))) (hl : n ≤ 1048576) (h0 : 0 ≤ k0) (h1 : k0 ≤ 1099511627776) :
    Calls Tryd.prog 37 [v, .int .i64 k0].toArray w (Res w (Is (.int .i64 (k0 + (n * 3 : Nat))))) := by
  obtain ⟨p, cap, rfl⟩ := hv.len
  refine calls_of_vw Tryd.func37 rfl Tryd.ntmps37 (by simp) ?_
  repeat (first | refine vops_q tyOk rfl ?_ | refine vops_nil ?_ | refine vw_seq ?_ | refine vw_region (by kernel_rfl) ?_ | refine vw_block ?_)
  refine vw_loop (fun m f own => ∃ (i : Nat) (c : Int), i ≤ n ∧ m = n - i ∧ c = k0 + (i * 3 : Nat) ∧ f 5 = .int .i64 i ∧ f 1 = .int .i64 c ∧ f 0 = .slice p n cap ∧ own = []) n
    ⟨0, k0, by omega, by omega, by omega, rfl, rfl, rfl, rfl⟩ ?_
  rintro m f own ⟨i, c, hi, rfl, hcc, h5, h1', h0', rfl⟩
  rw [upd_of h0', upd_of h1', upd_of h5]
  repeat (first | refine vops_q tyOk rfl ?_ | refine vops_nil ?_ | refine vw_seq ?_ | refine vw_region (by kernel_rfl) ?_ | refine vw_cond rfl ?_)
  refine bs_dec (fun h4 => ?_) (fun h4 => ?_)
  · obtain ⟨b, o, cap', he, hql, hcell⟩ := hv.at (i := i) (by omega)
    cases he
    repeat (first | refine vops_q tyOk rfl ?_ | refine vops_nil ?_ | refine vw_seq ?_ | refine vw_region (by kernel_rfl) ?_ | refine vw_skip ?_ | refine vw_block ?_)
    refine vw_loop (fun m f own => ∃ (j : Nat) (c : Int), j ≤ 3 ∧ m = 3 - j ∧ c = k0 + (i * 3 + j : Nat) ∧ f 6 = .int .i64 j ∧ f 5 = .int .i64 i ∧ f 1 = .int .i64 c ∧ f 0 = .slice (some ⟨b, o, none⟩) n cap ∧ own = []) 3
      ⟨0, c, by omega, by omega, by omega, rfl, rfl, rfl, rfl, rfl⟩ ?_
    rintro m f own ⟨j, c', hj, rfl, hcc', h6, h5, h1', h0', rfl⟩
    rw [upd_of h0', upd_of h1', upd_of h5, upd_of h6]
    repeat (first | refine vops_q tyOk rfl ?_ | refine vops_nil ?_ | refine vw_seq ?_ | refine vw_region (by kernel_rfl) ?_ | refine vw_cond rfl ?_)
    refine bs_dec (fun h7 => ?_) (fun h7 => ?_)
    · have hc := hcell (i * 3 + j) (by omega)
      rw [iota_get _ _ _ (by omega), ← hcc'] at hc
      have hidx : o + (i : Int).toNat * 3 + (j : Int).toNat = o + (i * 3 + j) := by omega
      repeat (first | refine vops_q tyOk rfl ?_ | refine vops_nil ?_ | refine vw_seq ?_ | refine vw_region (by kernel_rfl) ?_ | refine vops_p tyOk rfl (by (try simp only [inR]); omega) ?_ | refine vw_cond rfl ?_ | refine vw_skip ?_ | refine vw_block ?_ | refine vops_load (o := o + (i * 3 + j)) tyOk rfl rfl (by exact congrArg (fun x => Value.pointer (some ⟨b, x, none⟩)) hidx) (sees_old hc (by simp)) ?_)
      refine bs_ndec2 (fun h6 => absurd rfl h6) (fun _ => ?_)
      repeat (first | refine vops_q tyOk rfl ?_ | refine vops_nil ?_ | refine vw_region (by kernel_rfl) ?_ | refine vops_p tyOk rfl (by (try simp only [inR]); omega) ?_ | refine vw_skip ?_)
      exact ⟨3 - (j + 1), by omega, j + 1, c' + 1, by omega, rfl, by omega, rfl, rfl, rfl, rfl, rfl⟩
    · obtain rfl : j = 3 := by omega
      repeat (first | refine vops_q tyOk rfl ?_ | refine vops_nil ?_ | refine vw_region (by kernel_rfl) ?_ | refine vops_p tyOk rfl (by (try simp only [inR]); omega) ?_ | refine vw_exit ?_)
      exact ⟨n - (i + 1), by omega, i + 1, c', by omega, rfl, by omega, rfl, rfl, rfl, rfl⟩
  · obtain rfl : i = n := by omega
    repeat (first | refine vops_q tyOk rfl ?_ | refine vops_nil ?_ | refine vw_seq ?_ | refine vw_region (by kernel_rfl) ?_ | refine vw_ret ?_ | refine vw_exit ?_)
    exact rv_int rfl rfl hcc
end Go.Proofs.YtdgaabkgfbihpaaDoor

/- A part of the proof: V2. No conditions of its own. -/
namespace Go.Proofs.YtdgaabkgfbihpaaDoor
open Go.VL
attribute [local irreducible] VWr VOps VD Calls

/-- How many numbers. -/
def sumF : List (Nat × List Int) → Nat
  | [] => 0
  | x :: xs => x.1 * 3 + sumF xs
theorem sumF_snoc : ∀ (xs : List (Nat × List Int)) (x : Nat × List Int), sumF (xs ++ [x]) = sumF xs + x.1 * 3
  | [], x => by simp [sumF]
  | y :: xs, x => by simp only [List.cons_append, sumF, sumF_snoc xs x]; omega
/-- All numbered from k on. -/
def markFF (k : Int) : List (Nat × List Int) → List (Nat × List Int)
  | [] => []
  | x :: xs => (x.1, iota k (x.1 * 3)) :: markFF (k + (x.1 * 3 : Nat)) xs
theorem markFF_length : ∀ (k : Int) (xs : List (Nat × List Int)), (markFF k xs).length = xs.length
  | _, [] => rfl
  | k, x :: xs => by simp only [markFF, List.length_cons, markFF_length _ xs]
theorem markFF_snoc : ∀ (k : Int) (xs : List (Nat × List Int)) (x : Nat × List Int), markFF k (xs ++ [x]) = markFF k xs ++ [(x.1, iota (k + sumF xs) (x.1 * 3))]
  | k, [], x => by simp [markFF, sumF]
  | k, y :: xs, x => by
    simp only [List.cons_append, markFF, sumF, markFF_snoc _ xs x]
    rw [show k + ((y.1 * 3 : Nat) : Int) + (sumF xs : Int) = k + ((y.1 * 3 + sumF xs : Nat) : Int) by omega]
theorem markFF_get : ∀ (k : Int) (xs : List (Nat × List Int)) (i : Nat) (x : Nat × List Int), xs[i]? = some x → (markFF k xs)[i]? = some (x.1, iota (k + sumF (xs.take i)) (x.1 * 3))
  | k, [], i, x, h => by simp at h
  | k, y :: xs, 0, x, h => by
    have : y = x := by simpa using h
    subst this; simp [markFF, sumF]
  | k, y :: xs, i + 1, x, h => by
    have := markFF_get (k + (y.1 * 3 : Nat)) xs i x (by simpa using h)
    simp only [markFF, List.getElem?_cons_succ, List.take_succ_cons, sumF, this]
    congr 3; omega
theorem sumF_take_le : ∀ (xs : List (Nat × List Int)) (i : Nat), sumF (xs.take i) ≤ sumF xs
  | [], i => by simp [sumF]
  | x :: xs, 0 => by simp [sumF]
  | x :: xs, i + 1 => by simp only [List.take_succ_cons, sumF]; have := sumF_take_le xs i; omega
theorem sumF_mem : ∀ {xs : List (Nat × List Int)} {x : Nat × List Int}, x ∈ xs → x.1 * 3 ≤ sumF xs
  | y :: xs, x, h => by
    rcases List.mem_cons.1 h with rfl | h
    · simp only [sumF]; omega
    · have := sumF_mem h; simp only [sumF]; omega
/-- i rows numbered, the others as they were. -/
def mkToF (k : Int) (xs : List (Nat × List Int)) (i : Nat) : List (Nat × List Int) := markFF k (xs.take i) ++ xs.drop i
theorem mkToF_get {k : Int} {xs : List (Nat × List Int)} {i : Nat} {x : Nat × List Int} (h : xs[i]? = some x) : (mkToF k xs i)[i]? = some x := by
  have hlt := (List.getElem?_eq_some_iff.1 h).1
  unfold mkToF
  rw [List.getElem?_append_right (by rw [markFF_length, List.length_take]; omega), markFF_length, List.length_take, Nat.min_eq_left (by omega), Nat.sub_self, List.getElem?_drop]
  simpa using h
theorem mkToF_set {k : Int} {xs : List (Nat × List Int)} {i : Nat} {x : Nat × List Int} (h : xs[i]? = some x) : (mkToF k xs i).set i (x.1, iota (k + sumF (xs.take i)) (x.1 * 3)) = mkToF k xs (i + 1) := by
  have hlt := (List.getElem?_eq_some_iff.1 h).1
  have hl : (markFF k (xs.take i)).length = i := by rw [markFF_length, List.length_take]; omega
  have ht : xs.take (i + 1) = xs.take i ++ [x] := by rw [List.take_add_one, h]; rfl
  unfold mkToF
  rw [List.set_append_right _ _ (by omega), hl, Nat.sub_self, ht, markFF_snoc, List.append_assoc]
  congr 1
  have : xs.drop i = x :: xs.drop (i + 1) := by
    rw [List.drop_eq_getElem_cons hlt]
    have := List.getElem?_eq_getElem hlt
    rw [h] at this
    rw [Option.some.inj this]
  rw [this]; rfl
theorem mkToF_zero (k : Int) (xs : List (Nat × List Int)) : mkToF k xs 0 = xs := by simp [mkToF, markFF]
theorem mkToF_all (k : Int) (xs : List (Nat × List Int)) : mkToF k xs xs.length = markFF k xs := by simp [mkToF]
theorem sumF_step {xs : List (Nat × List Int)} {i : Nat} {x : Nat × List Int} (h : xs[i]? = some x) : sumF (xs.take (i + 1)) = sumF (xs.take i) + x.1 * 3 := by
  rw [List.take_add_one, h]; exact sumF_snoc _ _
def MarkedFF (eo ei : Nat) (xs : List (Nat × List Int)) (k0 : Int) (v : Value) (u : Value) (new : Own) : Prop := u = .int .i64 (k0 + sumF xs) ∧ NewFF eo ei 3 (markFF k0 xs) v new

set_option maxRecDepth 100000 in
theorem c_eqSeatSS (v u : Value) (xs : List (Nat × List Int)) (w : World) (hv : RdFF 3 w v xs) (hu : RdFF 3 w u xs) (hl : xs.length ≤ 1048576) (hll : ∀ x ∈ xs, x.1 ≤ 1048576) : Calls Tryd.prog 21 [v, u].toArray w (Res w (Is (.bool true))) := by
  obtain ⟨a, cap, rfl⟩ := hv.len
  obtain ⟨a2, cap2, rfl⟩ := hu.len
  refine calls_of_vw Tryd.func21 rfl Tryd.ntmps21 (by simp) ?_
  repeat (first | refine vops_q tyOk rfl ?_ | refine vops_nil ?_ | refine vw_seq ?_ | refine vw_region (by kernel_rfl) ?_ | refine vw_cond rfl ?_)
  refine bs_ndec2 (fun h => absurd rfl h) (fun _ => ?_)
  repeat (first | refine vops_q tyOk rfl ?_ | refine vops_nil ?_ | refine vw_seq ?_ | refine vw_region (by kernel_rfl) ?_ | refine vw_skip ?_ | refine vw_block ?_)
  refine vw_loop (fun m f own => ∃ i : Nat, i ≤ xs.length ∧ m = xs.length - i ∧ f 5 = .int .i64 i ∧ f 0 = .slice a xs.length cap ∧ f 1 = .slice a2 xs.length cap2 ∧ own = []) xs.length
    ⟨0, by omega, by omega, rfl, rfl, rfl, rfl⟩ ?_
  rintro m f own ⟨i, hi, rfl, h5, h0, h1, rfl⟩
  rw [upd_of h0, upd_of h1, upd_of h5]
  repeat (first | refine vops_q tyOk rfl ?_ | refine vops_nil ?_ | refine vw_seq ?_ | refine vw_region (by kernel_rfl) ?_ | refine vw_cond rfl ?_)
  refine bs_dec (fun h4 => ?_) (fun h4 => ?_)
  · obtain ⟨l, hli⟩ : ∃ l, xs[i]? = some l := ⟨_, List.getElem?_eq_getElem (by omega)⟩
    have hl2 := hll l (List.mem_of_getElem? hli)
    obtain ⟨b', o, cap', x, he, hcx, hx⟩ := hv.at hli
    cases he
    obtain ⟨b2, o2, cap3, y, he, hcy, hy⟩ := hu.at hli
    cases he
    obtain ⟨a3, c3, rfl⟩ := RdF.len hx
    obtain ⟨a4, c4, rfl⟩ := RdF.len hy
    have hy' := hy
    have hx' := hx
    repeat (first | refine vw_seq ?_ | refine vw_skip ?_ | refine vw_block ?_)
    refine vw_draw [0, 1, 2, 3, 4, 5, 6, 7, 8, 9] (by kernel_rfl) (by kernel_rfl) (by kernel_rfl) rfl ?_
    repeat' (first | refine vd_q tyOk rfl (by first | trivial | rfl) rfl (by kernel_rfl) (by kernel_rfl) ?_ | refine vd_p tyOk rfl (by first | trivial | rfl) rfl (by kernel_rfl) (by kernel_rfl) (by (try simp only [inR]); omega) ?_ | refine vops_nil ?_ | refine vd_nil (by kernel_rfl) ?_ | refine ⟨fun _ _ _ h => h, ?_⟩ | refine vd_load tyOk rfl (by first | trivial | rfl) rfl rfl rfl (by kernel_rfl) (by kernel_rfl) (by kernel_rfl) (sees_old hcx (by simp)) (by repeat (first | exact sub_hereL | exact sub_refl | apply sub_cons | apply sub_app)) ?_ | refine vd_load tyOk rfl (by first | trivial | rfl) rfl rfl rfl (by kernel_rfl) (by kernel_rfl) (by kernel_rfl) (sees_old hcy (by simp)) (by repeat (first | exact sub_hereL | exact sub_refl | apply sub_cons | apply sub_app)) ?_ | (apply vops_callp ent35 rfl; (intro w' hg; exact c_eqSeatS _ _ l.1 l.2 w' (RF.same hx' hg.fr) (RF.same hy' hg.fr) hl2)) | refine vd_one rfl (by kernel_rfl) (by kernel_rfl) rfl ?_)
    repeat (first | refine vops_q tyOk rfl ?_ | refine vops_nil ?_ | refine vw_region (by kernel_rfl) ?_ | with_reducible refine bs_ntrue ?_ | refine vops_p tyOk rfl (by (try simp only [inR]); omega) ?_ | refine vw_cond rfl ?_ | refine vw_skip ?_)
    exact ⟨xs.length - (i + 1), by omega, i + 1, by omega, rfl, rfl, rfl, rfl, rfl⟩
  · repeat (first | refine vops_q tyOk rfl ?_ | refine vops_nil ?_ | refine vw_seq ?_ | refine vw_region (by kernel_rfl) ?_ | refine vw_ret ?_ | refine vw_exit ?_)
    exact rv_bool rfl rfl rfl

set_option maxRecDepth 100000 in
theorem c_heldSeatSS (v : Value) (ls : List (Nat × List Int)) (k0 : Int) (w : World) (hv : RdFF 3 w v (markFF k0 ls)) (hl : ls.length ≤ 1048576) (hs : sumF ls ≤ 1048576) (h0 : 0 ≤ k0) (h1 : k0 ≤ 1073741824) :
    Calls Tryd.prog 23 [v, .int .i64 k0].toArray w (Res w (Is (.int .i64 (k0 + sumF ls)))) := by
  obtain ⟨a, cap, rfl⟩ := hv.len
  rw [markFF_length]
  refine calls_of_vw Tryd.func23 rfl Tryd.ntmps23 (by simp) ?_
  repeat (first | refine vops_q tyOk rfl ?_ | refine vops_nil ?_ | refine vw_seq ?_ | refine vw_region (by kernel_rfl) ?_ | refine vw_block ?_)
  refine vw_loop (fun m f own => ∃ (i : Nat) (c : Int), i ≤ ls.length ∧ m = ls.length - i ∧ c = k0 + sumF (ls.take i) ∧ f 5 = .int .i64 i ∧ f 1 = .int .i64 c ∧ f 0 = .slice a ls.length cap ∧ own = []) ls.length
    ⟨0, k0, by omega, by omega, by simp [sumF], rfl, rfl, rfl, rfl⟩ ?_
  rintro m f own ⟨i, c, hi, rfl, hcc, h5, h1', h0', rfl⟩
  rw [upd_of h0', upd_of h1', upd_of h5]
  repeat (first | refine vops_q tyOk rfl ?_ | refine vops_nil ?_ | refine vw_seq ?_ | refine vw_region (by kernel_rfl) ?_ | refine vw_cond rfl ?_)
  refine bs_dec (fun h4 => ?_) (fun h4 => ?_)
  · obtain ⟨l, hli⟩ : ∃ l, ls[i]? = some l := ⟨_, List.getElem?_eq_getElem (by omega)⟩
    obtain ⟨b, o, cap', u, he, hcu, hu⟩ := hv.at (markFF_get k0 ls i l hli)
    rw [markFF_length] at he
    cases he
    rw [← hcc] at hu
    have hlm := sumF_mem (List.mem_of_getElem? hli)
    have hst := sumF_step hli
    have hle := sumF_take_le ls i
    have hc : ∀ w', Fr [] w w' → Calls Tryd.prog 37 [u, .int .i64 c].toArray w' (Res w' (Is (.int .i64 (c + (l.1 * 3 : Nat))))) := fun w' hf =>
      c_heldSeatS u l.1 c w' (RF.same hu hf) (by omega) (by omega) (by omega)
    repeat (first | refine vops_q tyOk rfl ?_ | refine vops_nil ?_ | refine vw_seq ?_ | refine vw_region (by kernel_rfl) ?_ | refine vops_p tyOk rfl (by (try simp only [inR]); omega) ?_ | refine vw_cond rfl ?_ | refine vw_skip ?_ | refine vw_block ?_ | refine vops_load tyOk rfl rfl rfl (sees_old hcu (by simp)) ?_ | (apply vops_callp ent37 rfl; (intro w' hg; exact hc w' hg.fr)))
    refine bs_dec (fun h6 => by omega) (fun h6 => ?_)
    repeat (first | refine vops_q tyOk rfl ?_ | refine vops_nil ?_ | refine vw_region (by kernel_rfl) ?_ | refine vops_p tyOk rfl (by (try simp only [inR]); omega) ?_ | refine vw_skip ?_)
    refine ⟨ls.length - (i + 1), by omega, i + 1, c + (l.1 * 3 : Nat), by omega, rfl, by omega, rfl, rfl, rfl, rfl⟩
  · obtain rfl : i = ls.length := by omega
    repeat (first | refine vops_q tyOk rfl ?_ | refine vops_nil ?_ | refine vw_seq ?_ | refine vw_region (by kernel_rfl) ?_ | refine vw_ret ?_ | refine vw_exit ?_)
    exact rv_int rfl rfl (by rw [hcc, List.take_length])

set_option maxRecDepth 100000 in
theorem c_markSeatSS (v : Value) (ls : List (Nat × List Int)) (k0 : Int) (new : Own) (w : World) (hN : NewFF 50 49 3 ls v new) (ho : OwnOk new w) (hl : ls.length ≤ 1048576) (hs : sumF ls ≤ 1048576) (h0 : 0 ≤ k0) (h1 : k0 ≤ 1073741824) :
    Calls Tryd.prog 22 [v, .int .i64 k0].toArray w (ResM w new (MarkedFF 50 49 ls k0 v)) := by
  obtain ⟨vs, ns, outer, hR, hO, rfl⟩ := hN
  obtain ⟨p, cap, rfl⟩ := hO.form
  have hvl := hR.len.1
  refine calls_of_vwM Tryd.func22 rfl Tryd.ntmps22 (by simp) ho ?_
  repeat (first | refine vops_q tyOk rfl ?_ | refine vops_nil ?_ | refine vw_seq ?_ | refine vw_region (by kernel_rfl) ?_ | refine vw_block ?_)
  refine vw_loopW (fun m f own => ∃ (i : Nat) (c : Int) (ns : List Own), i ≤ ls.length ∧ m = ls.length - i ∧ c = k0 + sumF (ls.take i) ∧ f 5 = .int .i64 i ∧ f 1 = .int .i64 c ∧ f 0 = .slice p ls.length cap ∧ Go.VL.RowsG (NF 49 3) (mkToF k0 ls i) vs ns ∧ own = outer ++ ns.flatten) ls.length
    ⟨_, ole_refl, 0, k0, ns, by omega, by omega, by simp [sumF], rfl, rfl, rfl, by rw [mkToF_zero]; exact hR, rfl⟩ ?_
  rintro m f own ⟨i, c, ns, hi, rfl, hcc, h5, h1', h0', hR, rfl⟩
  rw [upd_of h0', upd_of h1', upd_of h5]
  repeat (first | refine vops_q tyOk rfl ?_ | refine vops_nil ?_ | refine vw_seq ?_ | refine vw_region (by kernel_rfl) ?_ | refine vw_cond rfl ?_)
  refine bs_dec (fun h4 => ?_) (fun h4 => ?_)
  · obtain ⟨l, hli⟩ : ∃ l, ls[i]? = some l := ⟨_, List.getElem?_eq_getElem (by omega)⟩
    have hlm := sumF_mem (List.mem_of_getElem? hli)
    have hst := sumF_step hli
    have hle := sumF_take_le ls i
    obtain ⟨u, n, ns1, ns2, hu, rfl, hn, hnext⟩ := Go.VL.RowsG.split hR (mkToF_get hli)
    obtain ⟨bo, e1, e2, hc1, hc2⟩ : ∃ bo, p = some ⟨bo, 0, none⟩ ∧ outer = [(bo, ⟨vs, 50, cap * 1, none⟩)] ∧ ls.length ≤ cap ∧ cap ≤ maxLen := by
      rcases hO.2 with ⟨_, h, _⟩ | ⟨bo, cap', h, h2, h3, h4⟩
      · omega
      · cases h; exact ⟨bo, rfl, h4, h2, h3⟩
    subst e1; subst e2
    obtain ⟨pu, cu, rfl⟩ := SlAt.form hn
    have hpm : ([(bo, (⟨vs, 50, cap * 1, none⟩ : Blk))] ++ (ns1 ++ n :: ns2).flatten).Perm (n ++ ((bo, ⟨vs, 50, cap * 1, none⟩) :: (ns1.flatten ++ ns2.flatten))) := by
      rw [List.flatten_append, List.flatten_cons]
      show ((bo, _) :: (ns1.flatten ++ (n ++ ns2.flatten))).Perm _
      refine (List.Perm.cons _ ?_).trans List.perm_middle.symm
      rw [← List.append_assoc, ← List.append_assoc]
      exact List.perm_append_comm.append_right _
    have hcell : vs[0 + (i : Int).toNat]? = some (.slice pu l.1 cu) := by rw [show 0 + (i : Int).toNat = i by omega]; exact hu
    repeat (first | refine vops_q tyOk rfl ?_ | refine vops_nil ?_ | refine vw_seq ?_ | refine vw_region (by kernel_rfl) ?_ | refine vops_p tyOk rfl (by (try simp only [inR]); omega) ?_ | refine vw_skip ?_ | refine vw_block ?_ | refine vops_loadM tyOk rfl rfl rfl (List.mem_cons_self) (by exact hcell) ?_ | (refine vops_callM ent36 rfl hpm (fun w' hg => c_markSeatS _ l.1 l.2 c n w' hn (okS hg) (by omega) (by omega) (by omega)) ?_; rintro _ newM ⟨rfl, hF⟩))
    refine ⟨ls.length - (i + 1), by omega, [(bo, ⟨vs, 50, cap * 1, none⟩)] ++ (ns1 ++ newM :: ns2).flatten, ?_, i + 1, c + (l.1 * 3 : Nat), ns1 ++ newM :: ns2, by omega, rfl, by omega, rfl, rfl, rfl, ?_, rfl⟩
    · rw [List.flatten_append, List.flatten_cons]
      refine ole_perm (List.Perm.symm ?_)
      show ((bo, _) :: (ns1.flatten ++ (newM ++ ns2.flatten))).Perm (newM ++ ((bo, _) :: (ns1.flatten ++ ns2.flatten)))
      refine (List.Perm.cons _ ?_).trans List.perm_middle.symm
      rw [← List.append_assoc, ← List.append_assoc]
      exact List.perm_append_comm.append_right _
    · rw [← mkToF_set hli, ← hcc]
      exact hnext _ _ hF
  · obtain rfl : i = ls.length := by omega
    refine vw_nodup (fun hnd => ?_)
    repeat (first | refine vops_q tyOk rfl ?_ | refine vops_nil ?_ | refine vw_seq ?_ | refine vw_region (by kernel_rfl) ?_ | refine vw_ret ?_ | refine vw_exit ?_)
    rw [mkToF_all] at hR
    refine out1 rfl rfl (new := outer ++ ns.flatten) hnd (fun _ h => h) ⟨by show Value.int .i64 c = _; rw [hcc, List.take_length], vs, ns, outer, hR, by rw [markFF_length]; exact hO, rfl⟩

/-- A movement of one's own. -/
def NewMv (P S : Int) (xs : List (Nat × List Int)) (v : Value) (new : Own) : Prop := ∃ u, v = .agg #[.int .i64 P, .int .i64 S, u] ∧ NewFF 50 49 3 xs u new
set_option maxRecDepth 100000 in
theorem c_eqMovement (P S : Int) (v u : Value) (xs : List (Nat × List Int)) (w : World) (hv : RdFF 3 w v xs) (hu : RdFF 3 w u xs) (hl : xs.length ≤ 1048576) (hll : ∀ x ∈ xs, x.1 ≤ 1048576) :
    Calls Tryd.prog 9 [.agg #[.int .i64 P, .int .i64 S, v], .agg #[.int .i64 P, .int .i64 S, u]].toArray w (Res w (Is (.bool true))) := by
  refine calls_of_vw Tryd.func9 rfl Tryd.ntmps9 (by simp) ?_
  refine vw_seq (vw_region (by kernel_rfl) (vops_box [.int .i64 P, .int .i64 S, v] rfl (fun b2 hb2 => ?_)))
  refine vops_box [.int .i64 P, .int .i64 S, u] rfl (fun b3 hb3 => ?_)
  repeat (first | refine vops_q tyOk rfl ?_ | refine vops_nil ?_ | refine vw_seq ?_ | refine vw_region (by kernel_rfl) ?_ | refine vw_cond rfl ?_ | ((show VOps _ _ _ _ (⟨some _, Go.Op.load _ _, _, _, _, none⟩ :: _) _ _); refine vops_loadM tyOk rfl rfl rfl (by repeat (first | exact mem_here | apply mem_next | apply mem_past)) (by rfl) ?_))
  refine bs_ndec2 (fun h => absurd rfl h) (fun _ => ?_)
  repeat (first | refine vops_q tyOk rfl ?_ | refine vops_nil ?_ | refine vw_seq ?_ | refine vw_region (by kernel_rfl) ?_ | refine vw_cond rfl ?_ | refine vw_skip ?_ | ((show VOps _ _ _ _ (⟨some _, Go.Op.load _ _, _, _, _, none⟩ :: _) _ _); refine vops_loadM tyOk rfl rfl rfl (by repeat (first | exact mem_here | apply mem_next | apply mem_past)) (by rfl) ?_))
  refine bs_ndec2 (fun h => absurd rfl h) (fun _ => ?_)
  repeat (first | refine vops_q tyOk rfl ?_ | refine vops_nil ?_ | refine vw_seq ?_ | refine vw_region (by kernel_rfl) ?_ | with_reducible refine bs_ntrue ?_ | refine vw_cond rfl ?_ | refine vw_skip ?_ | refine vw_ret ?_ | (apply vops_callp ent21 rfl; (intro w' hg; exact c_eqSeatSS _ _ xs w' (RdFF.same hv hg.fr) (RdFF.same hu hg.fr) hl hll)) | ((show VOps _ _ _ _ (⟨some _, Go.Op.load _ _, _, _, _, none⟩ :: _) _ _); refine vops_loadM tyOk rfl rfl rfl (by repeat (first | exact mem_here | apply mem_next | apply mem_past)) (by rfl) ?_))
  exact rv_bool rfl rfl rfl
set_option maxRecDepth 100000 in
theorem c_markMovement (P S : Int) (v : Value) (xs : List (Nat × List Int)) (k0 : Int) (new : Own) (w : World) (hN : NewFF 50 49 3 xs v new) (ho : OwnOk new w) (hl : xs.length ≤ 1048576) (hs : sumF xs ≤ 1048576) (h0 : 0 ≤ k0) (h1 : k0 ≤ 1073741824) :
    Calls Tryd.prog 14 [.agg #[.int .i64 P, .int .i64 S, v], .int .i64 k0].toArray w (ResM w new (MarkedFF 50 49 xs k0 v)) := by
  refine calls_of_vwM Tryd.func14 rfl Tryd.ntmps14 (by simp) ho ?_
  refine vw_seq (vw_region (by kernel_rfl) (vops_box [.int .i64 P, .int .i64 S, v] rfl (fun b0 hb0 => ?_)))
  repeat (first | refine vops_q tyOk rfl ?_ | refine vops_nil ?_ | refine vw_seq ?_ | refine vw_region (by kernel_rfl) ?_ | ((show VOps _ _ _ _ (⟨some _, Go.Op.load _ _, _, _, _, none⟩ :: _) _ _); refine vops_loadM tyOk rfl rfl rfl (by repeat (first | exact mem_here | apply mem_next | apply mem_past)) (by rfl) ?_))
  refine vops_callM ent22 rfl (own0 := new) (by repeat (first | exact pm_here | exact pm_last | apply pm_next | apply pm_past)) (fun w' hg => c_markSeatSS _ xs k0 new w' hN (okS hg) hl hs h0 h1) ?_
  rintro _ new' ⟨rfl, hN'⟩
  refine vops_nodup (fun hnd => ?_)
  repeat (first | refine vops_q tyOk rfl ?_ | refine vops_nil ?_ | refine vw_seq ?_ | refine vw_region (by kernel_rfl) ?_ | refine vw_ret ?_)
  exact out1 rfl rfl (new := new') (nodup_sub hnd (List.sublist_append_left _ _)) (by repeat (first | exact sub_hereL | exact sub_refl | apply sub_cons | apply sub_app)) ⟨rfl, hN'⟩
set_option maxRecDepth 100000 in
theorem c_heldMovement (P S : Int) (v : Value) (xs : List (Nat × List Int)) (k0 : Int) (w : World) (hv : RdFF 3 w v (markFF k0 xs)) (hl : xs.length ≤ 1048576) (hs : sumF xs ≤ 1048576) (h0 : 0 ≤ k0) (h1 : k0 ≤ 1073741824) :
    Calls Tryd.prog 15 [.agg #[.int .i64 P, .int .i64 S, v], .int .i64 k0].toArray w (Res w (Is (.int .i64 (k0 + sumF xs)))) := by
  refine calls_of_vw Tryd.func15 rfl Tryd.ntmps15 (by simp) ?_
  refine vw_seq (vw_region (by kernel_rfl) (vops_box [.int .i64 P, .int .i64 S, v] rfl (fun b0 hb0 => ?_)))
  repeat (first | refine vops_q tyOk rfl ?_ | refine vops_nil ?_ | refine vw_seq ?_ | refine vw_region (by kernel_rfl) ?_ | refine vw_cond rfl ?_ | (apply vops_callp ent23 rfl; (intro w' hg; exact c_heldSeatSS _ xs k0 w' (RdFF.same hv hg.fr) hl hs h0 h1)) | ((show VOps _ _ _ _ (⟨some _, Go.Op.load _ _, _, _, _, none⟩ :: _) _ _); refine vops_loadM tyOk rfl rfl rfl (by repeat (first | exact mem_here | apply mem_next | apply mem_past)) (by rfl) ?_))
  refine bs_dec (fun h => by omega) (fun h => ?_)
  repeat (first | refine vops_q tyOk rfl ?_ | refine vops_nil ?_ | refine vw_seq ?_ | refine vw_region (by kernel_rfl) ?_ | refine vw_skip ?_ | refine vw_ret ?_)
  exact rv_int rfl rfl rfl
end Go.Proofs.YtdgaabkgfbihpaaDoor

