import Derived.Test.YtlnohlomanapeaaCC
import Derived.Test.YtlnohlomanapeaaCA9
import Derived.Test.YtlnohlomanapeaaVLSum
import Derived.Test.YtlnohlomanapeaaVLA
import Derived.Test.YtlnohlomanapeaaVLCells
/- Parts of the proof, one after another. No conditions of their own. -/
/- A part of the proof: CA10. No conditions of its own. -/
namespace Go.Proofs.Ytlnohlomanapeaa
open Go.VL
attribute [local irreducible] VWr VOps VD Calls

/-- How often y stands behind x among the first t pairs of neighbours. -/
def nbC (r : List Int) : Nat → Nat → Nat → Int
  | 0, _, _ => 0
  | t + 1, x, y => nbC r t x y + if r.getD t 0 = (x : Int) ∧ r.getD (t + 1) 0 = (y : Int) then 1 else 0
/-- .. in the first i rows. -/
def besN (ls : List (List Int)) : Nat → Nat → Nat → Int
  | 0, _, _ => 0
  | i + 1, x, y => besN ls i x y + nbC (ls.getD i []) (ls.length - 1) x y
theorem nbC_le (r : List Int) (x y : Nat) : ∀ t, 0 ≤ nbC r t x y ∧ nbC r t x y ≤ t
  | 0 => by simp [nbC]
  | t + 1 => by
    have := nbC_le r x y t
    rw [nbC]; split <;> push_cast <;> omega
theorem nbC_mono (r : List Int) (x y : Nat) {t s : Nat} (h : t ≤ s) : nbC r t x y ≤ nbC r s x y := by
  induction s with
  | zero => obtain rfl : t = 0 := by omega
            exact Int.le_refl _
  | succ s ih =>
    by_cases e : t = s + 1
    · subst e; exact Int.le_refl _
    · have := ih (by omega)
      rw [nbC]; split <;> omega
theorem besN_le (ls : List (List Int)) (x y : Nat) : ∀ i, 0 ≤ besN ls i x y ∧ besN ls i x y ≤ ((i * ls.length : Nat) : Int)
  | 0 => by simp [besN]
  | i + 1 => by
    have h1 := besN_le ls x y i
    have h2 := nbC_le (ls.getD i []) x y (ls.length - 1)
    rw [besN, Nat.add_mul, Nat.one_mul]
    push_cast at *; omega
theorem besN_mono (ls : List (List Int)) (x y : Nat) {i j : Nat} (h : i ≤ j) : besN ls i x y ≤ besN ls j x y := by
  induction j with
  | zero => obtain rfl : i = 0 := by omega
            exact Int.le_refl _
  | succ j ih =>
    by_cases e : i = j + 1
    · subst e; exact Int.le_refl _
    · have := ih (by omega)
      have := nbC_le (ls.getD j []) x y (ls.length - 1)
      rw [besN]; omega
theorem besN_part (ls : List (List Int)) (x y : Nat) {i t : Nat} (hi : i < ls.length) (ht : t ≤ ls.length - 1) : besN ls i x y + nbC (ls.getD i []) t x y ≤ besN ls ls.length x y := by
  have h1 := besN_mono ls x y (show i + 1 ≤ ls.length by omega)
  have h2 := nbC_mono (ls.getD i []) x y ht
  rw [besN] at h1; omega
theorem nbC_out {r : List Int} {n : Nat} (hr : ∀ z ∈ r, 0 ≤ z ∧ z < n) {x y : Nat} (h : n ≤ x ∨ n ≤ y) : ∀ t, t + 1 ≤ r.length → nbC r t x y = 0
  | 0, _ => rfl
  | t + 1, ht => by
    rw [nbC, nbC_out hr h t (by omega), if_neg]; rfl
    rintro ⟨h1, h2⟩
    have a1 := hr _ (mem_getD (l := r) (i := t) (by omega))
    have a2 := hr _ (mem_getD (l := r) (i := t + 1) (by omega))
    omega
theorem rowN_lt {n : Nat} {l : List Int} (h : RowN n l) : ∀ z ∈ l, 0 ≤ z ∧ z < n := fun z hz => by have := h.2 z hz; omega
theorem besN_out {ls : List (List Int)} (hR : RowsN ls.length ls) {x y : Nat} (h : ls.length ≤ x ∨ ls.length ≤ y) : ∀ i, i ≤ ls.length → besN ls i x y = 0
  | 0, _ => rfl
  | i + 1, hi => by
    have hg : ls[i]? = some (ls.getD i []) := by rw [List.getD_eq_getElem?_getD, List.getElem?_eq_getElem (by omega)]; rfl
    have hr := hR.2.2.2 _ (List.mem_of_getElem? hg)
    have h1 := hR.1
    have h2 := hr.1
    rw [besN, besN_out hR h i (by omega), nbC_out (rowN_lt hr) h _ (by omega)]; rfl
theorem nbC_diag {r : List Int} (hn : r.Nodup) (x : Nat) : ∀ t, t + 1 ≤ r.length → nbC r t x x = 0
  | 0, _ => rfl
  | t + 1, ht => by
    rw [nbC, nbC_diag hn x t (by omega), if_neg]; rfl
    rintro ⟨h1, h2⟩
    have e : r[t]? = r[t + 1]? := by
      rw [List.getD_eq_getElem?_getD] at h1 h2
      rw [List.getElem?_eq_getElem (show t < r.length by omega)] at h1 ⊢
      rw [List.getElem?_eq_getElem (show t + 1 < r.length by omega)] at h2 ⊢
      simp only [Option.getD_some] at h1 h2
      rw [h1, h2]
    have := (List.getElem?_inj (show t < r.length by omega) hn).1 e
    omega
theorem besN_diag {ls : List (List Int)} (hR : RowsN ls.length ls) (hS : SqOk ls) (x : Nat) : ∀ i, i ≤ ls.length → besN ls i x x = 0
  | 0, _ => rfl
  | i + 1, hi => by
    have hg : ls[i]? = some (ls.getD i []) := by rw [List.getD_eq_getElem?_getD, List.getElem?_eq_getElem (by omega)]; rfl
    have hr := hR.2.2.2 _ (List.mem_of_getElem? hg)
    have h1 := hR.1
    have h2 := hr.1
    rw [besN, besN_diag hR hS x i (by omega), nbC_diag (hS i _ hg).1.2.2 x _ (by omega)]; rfl
theorem sum_nbC {r : List Int} {n : Nat} (hr : ∀ z ∈ r, 0 ≤ z ∧ z < n) : ∀ t, t + 1 ≤ r.length → sum2 n n (nbC r t) = t
  | 0, _ => sum2_zero fun _ _ _ _ => rfl
  | t + 1, ht => by
    have a1 := hr _ (mem_getD (l := r) (i := t) (by omega))
    have a2 := hr _ (mem_getD (l := r) (i := t + 1) (by omega))
    have e : sum2 n n (nbC r (t + 1)) = sum2 n n (nbC r t) + sum2 n n (fun x y => if r.getD t 0 = (x : Int) ∧ r.getD (t + 1) 0 = (y : Int) then 1 else 0) := by
      rw [← sum2_add]; rfl
    rw [e, sum_nbC hr t (by omega), sum2_one (i := (r.getD t 0).toNat) (j := (r.getD (t + 1) 0).toNat) (c := 1) (by omega) (by omega) (if_pos ⟨by omega, by omega⟩) (fun a b _ _ h => if_neg fun h2 => h ⟨by omega, by omega⟩)]
    push_cast; rfl
theorem sum_besN {ls : List (List Int)} (hR : RowsN ls.length ls) : ∀ i, i ≤ ls.length → sum2 ls.length ls.length (besN ls i) = (i : Int) * ((ls.length : Int) - 1)
  | 0, _ => by rw [sum2_zero (g := besN ls 0) fun _ _ _ _ => rfl]; simp
  | i + 1, hi => by
    have hg : ls[i]? = some (ls.getD i []) := by rw [List.getD_eq_getElem?_getD, List.getElem?_eq_getElem (by omega)]; rfl
    have hr := hR.2.2.2 _ (List.mem_of_getElem? hg)
    have h1 := hR.1
    have h2 := hr.1
    have e : sum2 ls.length ls.length (besN ls (i + 1)) = sum2 ls.length ls.length (besN ls i) + sum2 ls.length ls.length (nbC (ls.getD i []) (ls.length - 1)) := by
      rw [← sum2_add]; rfl
    rw [e, sum_besN hR i (by omega), sum_nbC (rowN_lt hr) _ (by omega)]
    push_cast
    rw [Int.add_mul]
    omega
/-- No pair more than once: each one once. -/
theorem rowC_of_le {ls : List (List Int)} (hR : RowsN ls.length ls) (hS : SqOk ls) (h : ∀ a b, a < ls.length → b < ls.length → besN ls ls.length a b ≤ 1) : BalM ls.length (besN ls ls.length) := by
  have hb : ∀ a b, a < ls.length → b < ls.length → 0 ≤ (if a = b then (0 : Int) else 1) - besN ls ls.length a b := fun a b ha hb => by
    by_cases e : a = b
    · subst e; rw [if_pos rfl, besN_diag hR hS a _ (Nat.le_refl _)]; omega
    · rw [if_neg e]; have := h a b ha hb; omega
  have h0 := sum2_eq_zero hb (by rw [sum2_sub, sum2_bal, sum_besN hR _ (Nat.le_refl _)]; omega)
  intro a b ha hb
  have := h0 a b ha hb
  omega
end Go.Proofs.Ytlnohlomanapeaa

/- A part of the proof: CA11. No conditions of its own. -/
namespace Go.Proofs.Ytlnohlomanapeaa
open Go.VL
attribute [local irreducible] VWr VOps VD Calls

set_option maxHeartbeats 4000000 in
set_option maxRecDepth 100000 in
theorem c_besideIn (v : Value) (ls : List (List Int)) (hR : RowsN ls.length ls) (w : World) (hv : RdII w v ls) :
    Calls Try.prog 121 [.int .i64 ls.length, v].toArray w (Res w (Is (mvM ls.length (besN ls ls.length)))) := by
  obtain ⟨a, cap, rfl⟩ := hv.len
  have h1 := hR.1
  have h14 := hR.2.1
  obtain ⟨n, hn⟩ : ∃ n, n = ls.length := ⟨_, rfl⟩
  refine calls_of_vw Try.func121 rfl Try.ntmps121 (by simp) ?_
  rw [← hn] at h1 h14 ⊢
  refine vw_seq (vw_region (by kernel_rfl) (vops_allocZ (ints (List.replicate 197 0)) tyOk rfl rfl (by simp [ints]) (fun bz hbz => ?_)))
  repeat (first | refine vops_q tyOk rfl ?_ | refine vops_nil ?_ | refine vw_seq ?_ | refine vw_region (by kernel_rfl) ?_ | refine vops_run (fun w => x_build (ints ((n : Int) :: List.replicate 196 0)).toArray rfl (by kernel_rfl) w) ?_)
  refine vops_allocZ (ints (List.replicate 197 0)) tyOk rfl rfl (by simp [ints]) (fun bm hbm => ?_)
  repeat (first | refine vops_q tyOk rfl ?_ | refine vops_nil ?_ | refine vw_seq ?_ | refine vw_region (by kernel_rfl) ?_ | refine vw_block ?_ | refine vops_storeAM tyOk rfl rfl rfl (by simp [ints]) ints_one (by repeat (first | exact upd_here | apply upd_next | apply upd_past)) (by simp [ints]) ?_)
  rw [show (n : Int) :: List.replicate 196 0 = matN n 14 14 (besN ls 0) from (matN_rep n 14 14).trans (matN_congr fun i j _ _ => rfl)]
  refine vw_loopW (fun y f own => ∃ i : Nat, i ≤ n ∧ y = n - i ∧ f 14 = .int .i64 i ∧ f 13 = .int .i64 n ∧ f 12 = .slice a n cap ∧ f 4 = .pointer (some ⟨bz, 0, none⟩) ∧ f 5 = .pointer (some ⟨bm, 0, none⟩) ∧
      own = [(bm, ⟨ints (matN n 14 14 (besN ls i)), 93, 197, none⟩), (bz, ⟨ints (List.replicate 197 0), 93, 197, none⟩)]) n
    ⟨_, ole_refl, 0, by omega, by omega, rfl, rfl, rfl, rfl, rfl, rfl⟩ ?_
  rintro y f own ⟨i, hi, rfl, h14', h13, h12, h4, h5, rfl⟩
  rw [upd_of h14', upd_of h13, upd_of h12, upd_of h4, upd_of h5]
  repeat (first | refine vops_q tyOk rfl ?_ | refine vops_nil ?_ | refine vw_seq ?_ | refine vw_region (by kernel_rfl) ?_ | refine vw_cond rfl ?_)
  refine bs_dec (fun hlt => ?_) (fun hlt => ?_)
  · have hin : i < ls.length := by omega
    obtain ⟨r, hri⟩ : ∃ r, ls[i]? = some r := ⟨_, List.getElem?_eq_getElem hin⟩
    have hgr : ls.getD i [] = r := by rw [List.getD_eq_getElem?_getD, hri]; rfl
    have hrow := hR.2.2.2 r (List.mem_of_getElem? hri)
    have hrl := hrow.1
    rw [← hn] at hrl hrow
    obtain ⟨b', o, cap', u, he, hcu, hu⟩ := hv.at hri
    rw [← hn] at he
    cases he
    obtain ⟨a2, cap2, rfl⟩ := hu.len
    repeat (first | refine vops_q tyOk rfl ?_ | refine vops_nil ?_ | refine vw_seq ?_ | refine vw_region (by kernel_rfl) ?_ | refine vops_p tyOk rfl (by (try simp only [inR]); omega) ?_ | refine vw_skip ?_ | refine vw_block ?_ | refine vops_load tyOk rfl rfl rfl (sees_old hcu (by simp)) ?_ | (apply vops_call ent170 rfl; (intro w' hg; exact c_neighbours a2 r.length cap2 w'); (rintro _ newN ⟨bn, rfl, rfl⟩)))
    have hit := it_nb a2 r.length cap2 r rfl (by omega) bn []
    rw [List.append_nil] at hit
    refine vw_rangeFuncG (ts := [20, 21]) (own0 := [(bm, ⟨ints (matN n 14 14 (besN ls i)), 93, 197, none⟩), (bz, ⟨ints (List.replicate 197 0), 93, 197, none⟩)]) (cap := NbB (.slice a2 r.length cap2) bn) rfl ent197 hit
      (fun w' own' hg => RdFW.subL (RdFW.later (W := []) (by omega) (rdFW_ints (n := r.length) hu rfl) hg))
      List.perm_append_comm (by simp) (fun x hx => by
        obtain ⟨q, _, rfl⟩ := List.mem_map.1 hx; rfl)
      (fun q own => own = [(bm, ⟨ints (matN n 14 14 fun x y => besN ls i x y + nbC r q x y), 93, 197, none⟩), (bz, ⟨ints (List.replicate 197 0), 93, 197, none⟩)])
      (fun _ _ => False) (by rw [matN_congr (g := fun x y => besN ls i x y + nbC r 0 x y) (g' := besN ls i) fun x y _ _ => Int.add_zero _]) ?_ ?_ (fun c o h => h.elim)
    · rintro l q x ownc w1 hx rfl hg1
      have hq : q + 1 < n := by have := (List.getElem?_eq_some_iff.1 hx).1; rw [nbP_length] at this; omega
      rw [nbP_get (by omega)] at hx
      obtain rfl : ints [r.getD q 0, r.getD (q + 1) 0] = x := Option.some.inj hx
      obtain ⟨e0, e1⟩ := hrow.2 _ (mem_getD (l := r) (i := q) (by omega))
      obtain ⟨e2, e3⟩ := hrow.2 _ (mem_getD (l := r) (i := q + 1) (by omega))
      obtain ⟨A, hA⟩ : ∃ A : Nat, r.getD q 0 = (A : Int) := ⟨(r.getD q 0).toNat, by omega⟩
      obtain ⟨B, hB⟩ : ∃ B : Nat, r.getD (q + 1) 0 = (B : Int) := ⟨(r.getD (q + 1) 0).toNat, by omega⟩
      have hG : ∀ x y, besN ls i x y + nbC r (q + 1) x y = (if x = A ∧ y = B then besN ls i A B + nbC r q A B + 1 else besN ls i x y + nbC r q x y) := fun x y => by
        rw [nbC, hA, hB]
        by_cases h : x = A ∧ y = B
        · obtain ⟨rfl, rfl⟩ := h
          rw [if_pos ⟨rfl, rfl⟩, if_pos ⟨rfl, rfl⟩]; omega
        · rw [if_neg h, if_neg fun h2 => h ⟨by omega, by omega⟩]; omega
      have b1 := besN_le ls A B i
      have b2 := nbC_le r A B q
      have b3 : i * ls.length ≤ 14 * 14 := Nat.mul_le_mul (by omega) (by omega)
      rw [hA, hB]
      rw [hA] at e0 e1
      rw [hB] at e2 e3
      have hnew : matN n 14 14 (fun x y => besN ls i x y + nbC r (q + 1) x y) = matN n 14 14 fun x y => if x = A ∧ y = B then besN ls i A B + nbC r q A B + 1 else besN ls i x y + nbC r q x y := matN_congr fun x y _ _ => hG x y
      obtain ⟨C, hC⟩ : ∃ C, C = besN ls i A B + nbC r q A B := ⟨_, rfl⟩
      have hcell : (ints (matN n 14 14 fun x y => besN ls i x y + nbC r q x y))[0 + 1 + (A : Int).toNat * 14 + (B : Int).toNat]? = some (.int .i64 C) := by
        rw [show 0 + 1 + (A : Int).toNat * 14 + (B : Int).toNat = 1 + A * 14 + B by omega, matN_get (by omega) (by omega), hC]
      have hC0 : 0 ≤ C ∧ C ≤ 1000 := by
        rw [hC]; push_cast at b1; have : ((i * ls.length : Nat) : Int) ≤ ((14 * 14 : Nat) : Int) := Int.ofNat_le.2 b3; push_cast at this; omega
      have hidx : 0 + 1 + (A : Int).toNat * 14 + (B : Int).toNat = 0 + (1 + A * 14 + B) := by omega
      have hset : (matN n 14 14 fun x y => besN ls i x y + nbC r q x y).set (1 + A * 14 + B) (C + 1) = matN n 14 14 fun x y => besN ls i x y + nbC r (q + 1) x y := by
        rw [matN_set (by omega), hnew, hC]
      clear hG hnew hC b1 b2 b3
      simp only [ints, List.map_cons, List.map_nil, updL]
      repeat (first | refine vops_q tyOk rfl ?_ | refine vops_nil ?_ | refine vw_seq ?_ | refine vw_region (by kernel_rfl) ?_)
      intro w2 hg2
      refine vw_block ?_
      refine vw_draw [0, 1, 2, 3, 4, 5, 6, 7, 8, 9, 10] (by kernel_rfl) (by kernel_rfl) (by kernel_rfl) rfl ?_
      repeat' (first | refine vd_q tyOk rfl (by first | trivial | rfl) rfl (by kernel_rfl) (by kernel_rfl) ?_ | refine vd_p tyOk rfl (by first | trivial | rfl) rfl (by kernel_rfl) (by kernel_rfl) (by (try simp only [inR]); omega) ?_ | refine vops_nil ?_ | refine vd_nil (by kernel_rfl) ?_ | refine ⟨fun h => Bool.noConfusion (show false = true from h), ?_⟩ | refine vd_load tyOk rfl (by first | trivial | rfl) rfl rfl rfl (by kernel_rfl) (by kernel_rfl) (by kernel_rfl) (sees_mem (by repeat (first | exact mem_here | apply mem_next | apply mem_past)) (by exact hcell)) (by repeat (first | exact sub_hereL | exact sub_refl | apply sub_cons | apply sub_app)) ?_ | refine vops_storeIM (o := 1 + A * 14 + B) tyOk rfl rfl (by exact congrArg (fun x => Value.pointer (some ⟨bm, x, none⟩)) hidx) rfl (by repeat (first | exact upd_here | apply upd_next | apply upd_past)) (by rw [matN_length]; omega) ?_ | refine vd_one rfl (by kernel_rfl) (by kernel_rfl) rfl ?_)
      rw [hset]
      exact ⟨_, ole_refl, rfl⟩
    · rintro own' rfl
      have e : (fun x y => besN ls i x y + nbC r (n - 1) x y) = besN ls (i + 1) := by
        funext x y; rw [besN, hgr, ← hn]
      rw [nbP_length, show r.length = n by omega, e]
      repeat (first | refine vops_q tyOk rfl ?_ | refine vops_nil ?_ | refine vw_region (by kernel_rfl) ?_ | refine vops_p tyOk rfl (by (try simp only [inR]); omega) ?_)
      exact ⟨n - (i + 1), by omega, [(bm, ⟨ints (matN n 14 14 (besN ls (i + 1))), 93, 197, none⟩), (bz, ⟨ints (List.replicate 197 0), 93, 197, none⟩)], (by repeat (first | exact ole_nil | exact ole_refl | (apply ole_cons; (repeat (first | exact pm1_here | apply pm1_next | apply pm1_past))) | (apply ole_app; (repeat (first | exact pm_here | exact pm_last | apply pm_next | apply pm_past))))), i + 1, by omega, rfl, rfl, rfl, rfl, rfl, rfl, rfl⟩
  · obtain rfl : i = n := by omega
    repeat (first | refine vops_nil ?_ | refine vw_seq ?_ | refine vw_region (by kernel_rfl) ?_ | refine vw_ret ?_ | refine vw_exit ?_ | refine vops_loadNM tyOk rfl rfl rfl (by repeat (first | exact mem_here | apply mem_next | apply mem_past)) (by rw [ints_length, matN_length]) ?_ | refine vops_storeAM tyOk rfl rfl rfl (by rw [ints_length, matN_length]) ints_one (by repeat (first | exact upd_here | apply upd_next | apply upd_past)) (by simp [ints, matN_length]) ?_)
    exact ⟨_, [], rv_cell tyOk rfl rfl rfl rfl (by rw [ints_length, matN_length]) (fun j v hj => by rw [Nat.zero_add]; exact sees_mem (by repeat (first | exact mem_here | apply mem_next | apply mem_past)) hj), List.nodup_nil, fun _ h => (by cases h), rfl, rfl⟩
end Go.Proofs.Ytlnohlomanapeaa

/- A part of the proof: CA12. No conditions of its own. -/
namespace Go.Proofs.Ytlnohlomanapeaa
open Go.VL
attribute [local irreducible] VWr VOps VD Calls

open Classical in
noncomputable def rowCR (n : Int) (ls : List (List Int)) : Bool × Int := if RowsN n ls then (if SqOk ls then (decide (BalM ls.length (besN ls ls.length)), 0) else (false, 4)) else (false, 2)
open Classical in
set_option maxHeartbeats 4000000 in
set_option maxRecDepth 100000 in
theorem c_impl_IsRowComplete (n : Int) (v : Value) (ls : List (List Int)) (w : World) (hv : RdII w v ls) (hl : ls.length ≤ 1048576) (hll : ∀ l ∈ ls, l.length ≤ 1048576) :
    Calls Try.prog 48 [.int .i64 n, v].toArray w (Res w (Is (.tuple #[.bool (rowCR n ls).1, .int .i64 (rowCR n ls).2]))) := by
  obtain ⟨a, cap, rfl⟩ := hv.len
  refine calls_of_vw Try.func48 rfl Try.ntmps48 (by simp) ?_
  repeat (first | refine vops_q tyOk rfl ?_ | refine vops_nil ?_ | refine vw_seq ?_ | refine vw_region (by kernel_rfl) ?_ | refine vw_cond rfl ?_ | (apply vops_callp ent119 rfl; (intro w' hg; exact c_areRowsOf _ _ ls w' (hv.same hg.fr) hl hll)))
  refine bs_ndec2 (fun h => ?_) (fun h => ?_)
  · repeat (first | refine vops_q tyOk rfl ?_ | refine vops_nil ?_ | refine vw_seq ?_ | refine vw_region (by kernel_rfl) ?_ | refine vw_ret ?_)
    exact out_bn rfl rfl rfl rfl (by rw [rowCR, if_neg h])
  obtain rfl : n = (ls.length : Int) := h.2.2.1.symm
  repeat (first | refine vops_q tyOk rfl ?_ | refine vops_nil ?_ | refine vw_seq ?_ | refine vw_region (by kernel_rfl) ?_ | refine vw_cond rfl ?_ | refine vw_skip ?_ | (apply vops_callp ent120 rfl; (intro w' hg; exact c_haveEachOnce _ ls h w' (hv.same hg.fr))))
  refine bs_ndec2 (fun h2 => ?_) (fun h2 => ?_)
  · repeat (first | refine vops_q tyOk rfl ?_ | refine vops_nil ?_ | refine vw_seq ?_ | refine vw_region (by kernel_rfl) ?_ | refine vw_ret ?_)
    exact out_bn rfl rfl rfl rfl (by rw [rowCR, if_pos h, if_neg h2])
  have h14 := h.2.1
  repeat (first | refine vops_q tyOk rfl ?_ | refine vops_nil ?_ | refine vw_seq ?_ | refine vw_region (by kernel_rfl) ?_ | refine vw_skip ?_ | refine vw_ret ?_ | (apply vops_callp ent121 rfl; (intro w' hg; exact c_besideIn _ ls h w' (hv.same hg.fr))) | (apply vops_callp ent97 rfl; (intro w' hg; exact c_isBalanced ls.length (by omega) (besN ls ls.length) w')))
  have hb := bal_iff (n := ls.length) (g := besN ls ls.length) (by omega) fun a b hab => besN_out h hab _ (Nat.le_refl _)
  exact out_bn rfl rfl rfl (decide_eq_decide.2 hb) (by rw [rowCR, if_pos h, if_pos h2])

/-- Which pairs have come. -/
def metB (N : Nat) (P : Nat → Nat → Int) : List Bool := (List.range (N * N)).map fun t => decide (P (t / N) (t % N) ≠ 0)
theorem metB_length (N : Nat) (P : Nat → Nat → Int) : (metB N P).length = N * N := by simp [metB]
theorem metB_get {N x y : Nat} {P : Nat → Nat → Int} (hx : x < N) (hy : y < N) : (metB N P).getD (x * N + y) false = decide (P x y ≠ 0) := by
  have h := idx_lt hx hy
  simp [metB, List.getD_eq_getElem?_getD, h, idx_div hy, idx_mod hy]
theorem metB_none (N : Nat) : metB N (fun _ _ => 0) = List.replicate (N * N) false := by simp [metB, List.map_const']
theorem metB_set {N x y : Nat} {P Q : Nat → Nat → Int} (hy : y < N) (hQ : ∀ a b, Q a b ≠ 0 ↔ P a b ≠ 0 ∨ (a = x ∧ b = y)) : (metB N P).set (x * N + y) true = metB N Q := by
  apply List.ext_getElem
  · simp [metB]
  · intro t h1 h2
    rw [metB_length] at h2
    rw [List.getElem_set]
    have hi := idx_eq (k := N) (i := x) (t := t) hy
    by_cases e : x * N + y = t
    · rw [if_pos e]
      have := hi.1 e.symm
      simp only [metB, List.getElem_map, List.getElem_range]
      exact (decide_eq_true ((hQ _ _).2 (.inr this))).symm
    · rw [if_neg e]
      simp only [metB, List.getElem_map, List.getElem_range]
      refine decide_eq_decide.2 ⟨fun h => (hQ _ _).2 (.inl h), fun h => ((hQ _ _).1 h).resolve_right fun h3 => e (hi.2 h3).symm⟩

open Classical in
set_option maxHeartbeats 4000000 in
set_option maxRecDepth 100000 in
theorem c_spec_IsRowComplete (n : Int) (v : Value) (ls : List (List Int)) (w : World) (hv : RdII w v ls) (hl : ls.length ≤ 1048576) (hll : ∀ l ∈ ls, l.length ≤ 1048576) :
    Calls Try.prog 53 [.int .i64 n, v].toArray w (Res w (Is (.tuple #[.bool (rowCR n ls).1, .int .i64 (rowCR n ls).2]))) := by
  obtain ⟨a, cap, rfl⟩ := hv.len
  refine calls_of_vw Try.func53 rfl Try.ntmps53 (by simp) ?_
  by_cases h : RowsN n ls
  rotate_left
  · repeat (first | refine vops_q tyOk rfl ?_ | refine vops_nil ?_ | refine vw_seq ?_ | refine vw_region (by kernel_rfl) ?_ | refine vops_guardT rfl rfl ?_ | (apply vops_callp ent127 rfl; (intro w' hg; exact c_l09Rows _ _ ls w' (hv.same hg.fr) hl hll)))
    rw [if_neg h]
    skip
    refine bs_dec (fun hh => absurd hh (by decide)) (fun _ => ?_)
    repeat (first | refine vops_q tyOk rfl ?_ | refine vops_nil ?_ | refine vw_seq ?_ | refine vw_region (by kernel_rfl) ?_ | refine vops_guardT rfl rfl ?_ | with_reducible refine bs_false ?_ | refine vw_cond rfl ?_ | refine vw_skip ?_)
    refine bs_ndec2 (fun _ => ?_) (fun hh => absurd hh (by decide))
    repeat (first | refine vops_q tyOk rfl ?_ | refine vops_nil ?_ | refine vw_seq ?_ | refine vw_region (by kernel_rfl) ?_ | refine vw_ret ?_)
    exact out_bn rfl rfl rfl rfl (by rw [rowCR, if_neg h])
  obtain rfl : n = (ls.length : Int) := h.2.2.1.symm
  repeat (first | refine vops_q tyOk rfl ?_ | refine vops_nil ?_ | refine vw_seq ?_ | refine vw_region (by kernel_rfl) ?_ | refine vops_guardT rfl rfl ?_ | (apply vops_callp ent127 rfl; (intro w' hg; exact c_l09Rows _ _ ls w' (hv.same hg.fr) hl hll)))
  rw [if_pos h]
  skip
  refine bs_dec (fun _ => ?_) (fun hh => absurd rfl hh)
  repeat (first | refine vops_q tyOk rfl ?_ | refine vops_nil ?_ | refine vops_guardT rfl rfl ?_ | with_reducible refine bs_true ?_ | refine vw_cond rfl ?_ | (apply vops_callp ent128 rfl; (intro w' hg; exact c_l09Square _ ls h w' (hv.same hg.fr))))
  refine bs_ndec2 (fun h2 => ?_) (fun h2 => ?_)
  · repeat (first | refine vops_q tyOk rfl ?_ | refine vops_nil ?_ | refine vw_seq ?_ | refine vw_region (by kernel_rfl) ?_ | refine vw_cond rfl ?_)
    refine bs_ndec2 (fun _ => ?_) (fun hh => absurd hh (by decide))
    repeat (first | refine vops_q tyOk rfl ?_ | refine vops_nil ?_ | refine vw_seq ?_ | refine vw_region (by kernel_rfl) ?_ | refine vw_ret ?_)
    exact out_bn rfl rfl rfl rfl (by rw [rowCR, if_pos h, if_neg h2])
  have hRes : rowCR ls.length ls = (decide (BalM ls.length (besN ls ls.length)), 0) := by rw [rowCR, if_pos h, if_pos h2]
  have h1 := h.1
  have h14 := h.2.1
  obtain ⟨n, hn⟩ : ∃ n, n = ls.length := ⟨_, rfl⟩
  obtain ⟨N2, hN2⟩ : ∃ N2, N2 = n * n := ⟨_, rfl⟩
  have hN2b : N2 ≤ 196 := by rw [hN2]; exact Nat.mul_le_mul (show n ≤ 14 by omega) (show n ≤ 14 by omega)
  have hnn : (n : Int) * (n : Int) = (N2 : Int) := by rw [hN2]; push_cast; rfl
  rw [← hn] at h1 h14 hRes ⊢
  rw [hRes]
  repeat (first | refine vops_q tyOk rfl ?_ | refine vops_nil ?_ | refine vw_seq ?_ | refine vw_region (by kernel_rfl) ?_ | refine vw_cond rfl ?_ | refine vw_skip ?_)
  refine bs_ndec2 (fun hh => absurd rfl hh) (fun _ => ?_)
  repeat (first | refine vops_q tyOk rfl ?_ | refine vw_seq ?_ | refine vw_region (by kernel_rfl) ?_ | refine vops_p tyOk rfl (by (try simp only [inR]); omega) ?_ | refine vw_skip ?_)
  refine vops_makeBools (n := N2) tyOk rfl rfl rfl rfl rfl rfl hnn (by decide) (by omega) (fun b hb => ?_)
  repeat (first | refine vops_q tyOk rfl ?_ | refine vops_nil ?_ | refine vw_seq ?_ | refine vw_region (by kernel_rfl) ?_ | refine vw_block ?_)
  refine vw_loop (fun y f own => ∃ i : Nat, i ≤ n ∧ y = n - i ∧ f 8 = .int .i64 i ∧ f 0 = .int .i64 n ∧ f 1 = .slice a n cap ∧ f 7 = .slice (some ⟨b, 0, none⟩) N2 N2 ∧ own = [(b, ⟨bools (metB n (besN ls i)), 4, N2, none⟩)] ∧ ∀ x y, besN ls i x y ≤ 1) n
    ⟨0, by omega, by omega, rfl, rfl, rfl, rfl, by rw [hN2, show metB n (besN ls 0) = List.replicate (n * n) false from metB_none n], fun x y => by show (0 : Int) ≤ 1; omega⟩ ?_
  rintro y f own ⟨i, hi, rfl, h8, h0, h1', h7, rfl, hle⟩
  rw [upd_of h8, upd_of h0, upd_of h1', upd_of h7]
  repeat (first | refine vops_q tyOk rfl ?_ | refine vops_nil ?_ | refine vw_seq ?_ | refine vw_region (by kernel_rfl) ?_ | refine vw_cond rfl ?_)
  refine bs_dec (fun hlt => ?_) (fun hlt => ?_)
  · have hin : i < ls.length := by omega
    obtain ⟨r, hri⟩ : ∃ r, ls[i]? = some r := ⟨_, List.getElem?_eq_getElem hin⟩
    have hgr : ls.getD i [] = r := by rw [List.getD_eq_getElem?_getD, hri]; rfl
    have hrow := h.2.2.2 r (List.mem_of_getElem? hri)
    have hrl := hrow.1
    rw [← hn] at hrl hrow
    obtain ⟨b', o, cap', u, he, hcu, hu⟩ := hv.at hri
    rw [← hn] at he
    cases he
    obtain ⟨a2, cap2, rfl⟩ := hu.len
    repeat (first | refine vops_q tyOk rfl ?_ | refine vops_nil ?_ | refine vw_seq ?_ | refine vw_region (by kernel_rfl) ?_ | refine vw_skip ?_ | refine vw_block ?_)
    refine vw_loop (fun y f own => ∃ k : Nat, 1 ≤ k ∧ k ≤ n ∧ y = n - k ∧ f 9 = .int .i64 k ∧ f 8 = .int .i64 i ∧ f 0 = .int .i64 n ∧ f 1 = .slice (some ⟨b', o, none⟩) n cap ∧ f 7 = .slice (some ⟨b, 0, none⟩) N2 N2 ∧ own = [(b, ⟨bools (metB n fun x y => besN ls i x y + nbC r (k - 1) x y), 4, N2, none⟩)] ∧ ∀ x y, besN ls i x y + nbC r (k - 1) x y ≤ 1) (n - 1)
      ⟨1, by omega, by omega, rfl, rfl, rfl, rfl, rfl, rfl, by rw [show (fun x y => besN ls i x y + nbC r (1 - 1) x y) = besN ls i from funext fun x => funext fun y => Int.add_zero _], fun x y => by have := hle x y; show besN ls i x y + 0 ≤ 1; omega⟩ ?_
    rintro y f own ⟨k, hk1, hk, rfl, h9, h8, h0, h1', h7, rfl, hle2⟩
    rw [upd_of h9, upd_of h8, upd_of h0, upd_of h1', upd_of h7]
    repeat (first | refine vops_q tyOk rfl ?_ | refine vops_nil ?_ | refine vw_seq ?_ | refine vw_region (by kernel_rfl) ?_ | refine vw_cond rfl ?_)
    refine bs_dec (fun hlt2 => ?_) (fun hlt2 => ?_)
    · have hkn : k < n := by omega
      obtain ⟨q, rfl⟩ : ∃ q, k = q + 1 := ⟨k - 1, by omega⟩
      rw [show q + 1 - 1 = q by omega] at *
      obtain ⟨b3, o3, cap3, he3, hcell⟩ := hu.at (i := 0) (by omega)
      cases he3
      obtain ⟨e0, e1⟩ := hrow.2 _ (mem_getD (l := r) (i := q) (by omega))
      obtain ⟨e2, e3⟩ := hrow.2 _ (mem_getD (l := r) (i := q + 1) (by omega))
      obtain ⟨A, hA⟩ : ∃ A : Nat, r.getD q 0 = (A : Int) := ⟨(r.getD q 0).toNat, by omega⟩
      obtain ⟨B, hB⟩ : ∃ B : Nat, r.getD (q + 1) 0 = (B : Int) := ⟨(r.getD (q + 1) 0).toNat, by omega⟩
      have hcA : w.cell? ⟨b3, o3 + (((q + 1 : Nat) : Int) - 1).toNat, none⟩ = some (.int .i64 (A : Int)) := by rw [show (((q + 1 : Nat) : Int) - 1).toNat = q by omega, ← hA]; exact hcell q (by omega)
      have hcB : w.cell? ⟨b3, o3 + ((q + 1 : Nat) : Int).toNat, none⟩ = some (.int .i64 (B : Int)) := by rw [show ((q + 1 : Nat) : Int).toNat = q + 1 by omega, ← hB]; exact hcell (q + 1) (by omega)
      rw [hA] at e0 e1
      rw [hB] at e2 e3
      have hAn : A < n := by omega
      have hBn : B < n := by omega
      have hAB := idx_lt hAn hBn
      obtain ⟨K, hK⟩ : ∃ K, K = A * n + B := ⟨_, rfl⟩
      have hKi : (A : Int) * (n : Int) + (B : Int) = (K : Int) := by rw [hK]; push_cast; rfl
      have hK0 : 0 ≤ (A : Int) * (n : Int) := Int.mul_nonneg (by omega) (by omega)
      have hKl : K < N2 := by rw [hK, hN2]; exact hAB
      obtain ⟨P, hP⟩ : ∃ P : Nat → Nat → Int, P = fun x y => besN ls i x y + nbC r q x y := ⟨_, rfl⟩
      have hP0 : ∀ x y, 0 ≤ P x y := fun x y => by have := (besN_le ls x y i).1; have := (nbC_le r x y q).1; rw [hP]; show 0 ≤ besN ls i x y + nbC r q x y; omega
      have hQ : ∀ x y, besN ls i x y + nbC r (q + 1) x y = P x y + if x = A ∧ y = B then 1 else 0 := fun x y => by
        rw [nbC, hA, hB, hP]
        show _ = besN ls i x y + nbC r q x y + _
        by_cases h : x = A ∧ y = B
        · rw [if_pos h, if_pos ⟨by omega, by omega⟩]; omega
        · rw [if_neg h, if_neg fun h2 => h ⟨by omega, by omega⟩]; omega
      have hle3 : ∀ x y, P x y ≤ 1 := fun x y => by rw [hP]; exact hle2 x y
      have hld : (bools (metB n P))[0 + (K : Int).toNat]? = some (.bool (decide (P A B ≠ 0))) := by
        rw [show 0 + (K : Int).toNat = 0 + K by omega, bools_get (by rw [metB_length]; omega), hK, metB_get hAn hBn]
      have hsm : ¬ P A B ≠ 0 → (metB n P).set (K : Int).toNat true = metB n fun x y => besN ls i x y + nbC r (q + 1) x y := fun hz => by
        rw [show (K : Int).toNat = K by omega, hK]
        refine metB_set hBn fun x y => ?_
        rw [hQ]
        have := hP0 x y
        by_cases h : x = A ∧ y = B
        · rw [if_pos h]; exact ⟨fun _ => .inr h, fun _ => by omega⟩
        · rw [if_neg h]; exact ⟨fun h2 => .inl (by omega), fun h2 => by rcases h2 with h2 | h2; omega; exact absurd h2 h⟩
      rw [← hP]
      have hml := metB_length n P
      clear hAB hle2
      repeat (first | refine vw_seq ?_ | refine vw_skip ?_ | refine vw_block ?_)
      refine vw_draw [0, 1, 2, 3, 4, 5, 6, 7, 8, 9, 10, 11, 12, 13, 14, 15, 16, 17, 18] (by kernel_rfl) (by kernel_rfl) (by kernel_rfl) rfl ?_
      repeat' (first | refine vd_q tyOk rfl (by first | trivial | rfl) rfl (by kernel_rfl) (by kernel_rfl) ?_ | refine vd_p tyOk rfl (by first | trivial | rfl) rfl (by kernel_rfl) (by kernel_rfl) (by (try simp only [inR]); omega) ?_ | refine vd_nil (by kernel_rfl) ?_ | refine vd_load tyOk rfl (by first | trivial | rfl) rfl rfl rfl (by kernel_rfl) (by kernel_rfl) (by kernel_rfl) (sees_old hcu (by simp)) (by repeat (first | exact sub_hereL | exact sub_refl | apply sub_cons | apply sub_app)) ?_ | refine vd_load tyOk rfl (by first | trivial | rfl) rfl rfl rfl (by kernel_rfl) (by kernel_rfl) (by kernel_rfl) (sees_old hcA (by simp)) (by repeat (first | exact sub_hereL | exact sub_refl | apply sub_cons | apply sub_app)) ?_ | refine vd_load tyOk rfl (by first | trivial | rfl) rfl rfl rfl (by kernel_rfl) (by kernel_rfl) (by kernel_rfl) (sees_old hcB (by simp)) (by repeat (first | exact sub_hereL | exact sub_refl | apply sub_cons | apply sub_app)) ?_)
      rw [hKi]
      repeat (first | refine vops_q tyOk rfl ?_ | refine vops_nil ?_ | refine vw_seq ?_ | refine vw_region (by kernel_rfl) ?_ | refine vops_p tyOk rfl (by (try simp only [inR]); omega) ?_ | refine vw_cond rfl ?_ | refine vops_loadM tyOk rfl rfl rfl (by repeat (first | exact mem_here | apply mem_next | apply mem_past)) (by exact hld) ?_)
      refine bs_dec (fun h7' => ?_) (fun h7' => ?_)
      · repeat (first | refine vops_q tyOk rfl ?_ | refine vops_nil ?_ | refine vw_seq ?_ | refine vw_region (by kernel_rfl) ?_ | refine vw_ret ?_)
        refine out_bn rfl rfl rfl (decide_eq_false fun hBal => ?_).symm rfl
        have hx := besN_part ls A B hin (t := q + 1) (by omega)
        rw [hgr, hQ, if_pos ⟨rfl, rfl⟩] at hx
        have hy := hBal A B (by omega) (by omega)
        have := hP0 A B
        rw [← hn] at hx
        split at hy <;> omega
      · have hs := hsm h7'
        repeat (first | refine vops_q tyOk rfl ?_ | refine vops_nil ?_ | refine vw_region (by kernel_rfl) ?_ | refine vops_p tyOk rfl (by (try simp only [inR]); omega) ?_ | refine vw_skip ?_ | refine vops_storeBM tyOk rfl rfl rfl rfl (by repeat (first | exact upd_here | apply upd_next | apply upd_past)) (by omega) ?_)
        refine ⟨n - (q + 1 + 1), by omega, q + 1 + 1, by omega, by omega, rfl, rfl, rfl, rfl, rfl, rfl, ?_, fun x y => ?_⟩
        · rw [show q + 1 + 1 - 1 = q + 1 by omega, ← hs]
        · rw [show q + 1 + 1 - 1 = q + 1 by omega, hQ]
          have := hle3 x y
          by_cases h : x = A ∧ y = B
          · obtain ⟨rfl, rfl⟩ := h; rw [if_pos ⟨rfl, rfl⟩]; omega
          · rw [if_neg h]; omega
    · obtain rfl : k = n := by omega
      repeat (first | refine vops_q tyOk rfl ?_ | refine vops_nil ?_ | refine vw_region (by kernel_rfl) ?_ | refine vops_p tyOk rfl (by (try simp only [inR]); omega) ?_ | refine vw_exit ?_)
      have e : (fun x y => besN ls i x y + nbC r (k - 1) x y) = besN ls (i + 1) := by
        funext x y; rw [besN, hgr, ← hn]
      exact ⟨k - (i + 1), by omega, i + 1, by omega, rfl, rfl, rfl, rfl, rfl, by rw [e], fun x y => by rw [← e]; exact hle2 x y⟩
  · obtain rfl : i = n := by omega
    repeat (first | refine vops_q tyOk rfl ?_ | refine vops_nil ?_ | refine vw_seq ?_ | refine vw_region (by kernel_rfl) ?_ | refine vw_ret ?_ | refine vw_exit ?_)
    exact out_bn rfl rfl rfl (decide_eq_true (by rw [hn]; exact rowC_of_le h h2 fun a b _ _ => by rw [← hn]; exact hle a b)).symm rfl
end Go.Proofs.Ytlnohlomanapeaa

