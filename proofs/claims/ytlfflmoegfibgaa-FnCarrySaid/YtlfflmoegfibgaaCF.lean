import Derived.Test.YtlfflmoegfibgaaCD
import Derived.Test.YtlfflmoegfibgaaVLClo
import Derived.Test.YtlfflmoegfibgaaVLA
import Derived.Test.YtlfflmoegfibgaaZZ5
import Derived.Test.YtlfflmoegfibgaaVLGolf
/- Parts of the proof, one after another. No conditions of their own. -/
/- A part of the proof: CA18. No conditions of its own. -/
namespace Go.Proofs.Ytlfflmoegfibgaa
open Go.VL
attribute [local irreducible] VWr VOps VD Calls

/-- Numbers that are small. -/
def SmallG (n : Nat) (g : Nat → Nat → Int) : Prop := ∀ a b, a < n → b < n → 0 ≤ g a b ∧ g a b ≤ 100
theorem sq_small {x : Int} (h : 0 ≤ x ∧ x ≤ 100) : 0 ≤ x * x ∧ x * x ≤ 10000 :=
  ⟨Int.mul_nonneg h.1 h.1, Int.le_trans (Int.mul_le_mul h.2 h.2 h.1 (by omega)) (by omega)⟩
def sqA (g : Nat → Nat → Int) (a b : Nat) : Int := g a b * g a b
def ownS (g : Nat → Nat → Int) : Nat → Int := sumTo fun a => sqA g a a
def othS (g : Nat → Nat → Int) (a : Nat) : Nat → Int := sumTo fun b => sqA g a b + sqA g b a
theorem ownS_le {n : Nat} {g : Nat → Nat → Int} (h : SmallG n g) {i : Nat} (hi : i ≤ n) : 0 ≤ ownS g i ∧ ownS g i ≤ (i : Int) * 10000 :=
  ⟨sumTo_nonneg fun a ha => (sq_small (h a a (by omega) (by omega))).1, sumTo_le fun a ha => (sq_small (h a a (by omega) (by omega))).2⟩
theorem othS_le {n : Nat} {g : Nat → Nat → Int} (h : SmallG n g) {a i : Nat} (ha : a < n) (hi : i ≤ n) : 0 ≤ othS g a i ∧ othS g a i ≤ (i : Int) * 20000 :=
  ⟨sumTo_nonneg fun b hb => by have := (sq_small (h a b ha (by omega))).1; have := (sq_small (h b a (by omega) ha)).1; simp only [sqA]; omega, sumTo_le fun b hb => by have := (sq_small (h a b ha (by omega))).2; have := (sq_small (h b a (by omega) ha)).2; simp only [sqA]; omega⟩
def allO (g : Nat → Nat → Int) : Nat → Int := sumTo fun a => othS g a a
theorem allO_le {n : Nat} {g : Nat → Nat → Int} (h : SmallG n g) (hn : n ≤ 14) {i : Nat} (hi : i ≤ n) : 0 ≤ allO g i ∧ allO g i ≤ (i : Int) * 280000 :=
  ⟨sumTo_nonneg fun a ha => (othS_le h (a := a) (by omega) (by omega)).1, sumTo_le fun a ha => by have := (othS_le h (a := a) (i := a) (by omega) (by omega)).2; omega⟩

set_option maxHeartbeats 4000000 in
set_option maxRecDepth 100000 in
theorem c_costOwn (n : Nat) (hn : n ≤ 14) (g : Nat → Nat → Int) (hg : SmallG n g) (w : World) :
    Calls Try.prog 184 [mvM n g].toArray w (Res w (Is (.int .i64 (ownS g n)))) := by
  refine calls_of_vw Try.func184 rfl Try.ntmps184 (by simp) ?_
  refine vw_seq (vw_region (by kernel_rfl) (vops_box (ints (matN n 14 14 g)) rfl (fun b1 hb1 => ?_)))
  obtain ⟨M, hM⟩ : ∃ M, M = matN n 14 14 g := ⟨_, rfl⟩
  have hM0 : (ints M)[0 + 0]? = some (.int .i64 n) := by rw [hM]; rfl
  have hget : ∀ a b, a < 14 → b < 14 → (ints M)[1 + a * 14 + b]? = some (.int .i64 (g a b)) := fun a b ha hb => by rw [hM]; exact matN_get ha hb
  rw [← hM]
  repeat (first | refine vops_q tyOk rfl ?_ | refine vops_nil ?_ | refine vw_seq ?_ | refine vw_region (by kernel_rfl) ?_ | refine vw_block ?_ | refine vops_loadM tyOk rfl rfl rfl (by repeat (first | exact mem_here | apply mem_next | apply mem_past)) (by exact hM0) ?_)
  refine vw_loop (fun y f own => ∃ i : Nat, i ≤ n ∧ y = n - i ∧ f 7 = .int .i64 i ∧ f 6 = .int .i64 n ∧ f 3 = .int .i64 (ownS g i) ∧ f 1 = .pointer (some ⟨b1, 0, none⟩) ∧ own = [(b1, ⟨ints M, 114, (ints M).length, none⟩)]) n
    ⟨0, by omega, by omega, rfl, rfl, rfl, rfl, rfl⟩ ?_
  rintro y f own ⟨i, hi, rfl, h7, h6, h3, h1, rfl⟩
  rw [upd_of h7, upd_of h6, upd_of h3, upd_of h1]
  repeat (first | refine vops_q tyOk rfl ?_ | refine vops_nil ?_ | refine vw_seq ?_ | refine vw_region (by kernel_rfl) ?_ | refine vw_cond rfl ?_)
  refine bs_dec (fun hlt => ?_) (fun hlt => ?_)
  · have hin : i < n := by omega
    obtain ⟨q0, q1⟩ := sq_small (hg i i hin hin)
    obtain ⟨s0, s1⟩ := ownS_le hg hi
    have hcell : (ints M)[0 + 1 + (i : Int).toNat * 14 + (i : Int).toNat]? = some (.int .i64 (g i i)) := by
      rw [show 0 + 1 + (i : Int).toNat * 14 + (i : Int).toNat = 1 + i * 14 + i by omega]; exact hget i i (by omega) (by omega)
    repeat (first | refine vops_q tyOk rfl ?_ | refine vops_nil ?_ | refine vw_seq ?_ | refine vw_region (by kernel_rfl) ?_ | refine vw_skip ?_ | refine vw_block ?_)
    refine vw_draw [0, 1, 2, 3, 4, 5, 6, 7, 8, 9, 10, 11, 12, 13, 14, 15] (by kernel_rfl) (by kernel_rfl) (by kernel_rfl) rfl ?_
    repeat' (first | refine vd_q tyOk rfl (by first | trivial | rfl) rfl (by kernel_rfl) (by kernel_rfl) ?_ | refine vd_p tyOk rfl (by first | trivial | rfl) rfl (by kernel_rfl) (by kernel_rfl) (by (try simp only [inR]); omega) ?_ | refine vd_nil (by kernel_rfl) ?_ | refine vd_load tyOk rfl (by first | trivial | rfl) rfl rfl rfl (by kernel_rfl) (by kernel_rfl) (by kernel_rfl) (sees_mem (by repeat (first | exact mem_here | apply mem_next | apply mem_past)) (by exact hcell)) (by repeat (first | exact sub_hereL | exact sub_refl | apply sub_cons | apply sub_app)) ?_)
    repeat (first | refine vops_q tyOk rfl ?_ | refine vops_nil ?_ | refine vw_region (by kernel_rfl) ?_ | refine vops_p tyOk rfl (by (try simp only [inR]); omega) ?_)
    exact ⟨n - (i + 1), by omega, i + 1, by omega, rfl, rfl, rfl, rfl, rfl, rfl⟩
  · obtain rfl : i = n := by omega
    repeat (first | refine vops_q tyOk rfl ?_ | refine vops_nil ?_ | refine vw_seq ?_ | refine vw_region (by kernel_rfl) ?_ | refine vw_ret ?_ | refine vw_exit ?_)
    exact rv_int rfl rfl rfl

set_option maxHeartbeats 4000000 in
set_option maxRecDepth 100000 in
theorem c_costOthers (n : Nat) (hn : n ≤ 14) (g : Nat → Nat → Int) (hg : SmallG n g) (w : World) :
    Calls Try.prog 185 [mvM n g].toArray w (Res w (Is (.int .i64 (allO g n)))) := by
  refine calls_of_vw Try.func185 rfl Try.ntmps185 (by simp) ?_
  refine vw_seq (vw_region (by kernel_rfl) (vops_box (ints (matN n 14 14 g)) rfl (fun b1 hb1 => ?_)))
  obtain ⟨M, hM⟩ : ∃ M, M = matN n 14 14 g := ⟨_, rfl⟩
  have hM0 : (ints M)[0 + 0]? = some (.int .i64 n) := by rw [hM]; rfl
  have hget : ∀ a b, a < 14 → b < 14 → (ints M)[1 + a * 14 + b]? = some (.int .i64 (g a b)) := fun a b ha hb => by rw [hM]; exact matN_get ha hb
  rw [← hM]
  repeat (first | refine vops_q tyOk rfl ?_ | refine vops_nil ?_ | refine vw_seq ?_ | refine vw_region (by kernel_rfl) ?_ | refine vw_block ?_ | refine vops_loadM tyOk rfl rfl rfl (by repeat (first | exact mem_here | apply mem_next | apply mem_past)) (by exact hM0) ?_)
  refine vw_loop (fun y f own => ∃ i : Nat, i ≤ n ∧ y = n - i ∧ f 8 = .int .i64 i ∧ f 7 = .int .i64 n ∧ f 3 = .int .i64 (allO g i) ∧ f 1 = .pointer (some ⟨b1, 0, none⟩) ∧ own = [(b1, ⟨ints M, 114, (ints M).length, none⟩)]) n
    ⟨0, by omega, by omega, rfl, rfl, rfl, rfl, rfl⟩ ?_
  rintro y f own ⟨i, hi, rfl, h8, h7, h3, h1, rfl⟩
  rw [upd_of h8, upd_of h7, upd_of h3, upd_of h1]
  repeat (first | refine vops_q tyOk rfl ?_ | refine vops_nil ?_ | refine vw_seq ?_ | refine vw_region (by kernel_rfl) ?_ | refine vw_cond rfl ?_)
  refine bs_dec (fun hlt => ?_) (fun hlt => ?_)
  · have hin : i < n := by omega
    repeat (first | refine vops_q tyOk rfl ?_ | refine vops_nil ?_ | refine vw_seq ?_ | refine vw_region (by kernel_rfl) ?_ | refine vw_skip ?_ | refine vw_block ?_)
    refine vw_loop (fun y f own => ∃ j : Nat, j ≤ i ∧ y = i - j ∧ f 12 = .int .i64 j ∧ f 11 = .int .i64 i ∧ f 4 = .int .i64 i ∧ f 8 = .int .i64 i ∧ f 7 = .int .i64 n ∧ f 3 = .int .i64 (allO g i + othS g i j) ∧ f 1 = .pointer (some ⟨b1, 0, none⟩) ∧ own = [(b1, ⟨ints M, 114, (ints M).length, none⟩)]) i
      ⟨0, by omega, by omega, rfl, rfl, rfl, rfl, rfl, congrArg (Value.int .i64) (by show _ = _ + (0 : Int); omega), rfl, rfl⟩ ?_
    rintro y f own ⟨j, hj, rfl, h12, h11, h4, h8, h7, h3, h1, rfl⟩
    rw [upd_of h12, upd_of h11, upd_of h4, upd_of h8, upd_of h7, upd_of h3, upd_of h1]
    repeat (first | refine vops_q tyOk rfl ?_ | refine vops_nil ?_ | refine vw_seq ?_ | refine vw_region (by kernel_rfl) ?_ | refine vw_cond rfl ?_)
    refine bs_dec (fun hlt2 => ?_) (fun hlt2 => ?_)
    · have hji : j < i := by omega
      obtain ⟨q0, q1⟩ := sq_small (hg i j hin (by omega))
      obtain ⟨r0, r1⟩ := sq_small (hg j i (by omega) hin)
      obtain ⟨s0, s1⟩ := allO_le hg hn hi
      obtain ⟨t0, t1⟩ := othS_le hg (a := i) (i := j) hin (by omega)
      have hc1 : (ints M)[0 + 1 + (i : Int).toNat * 14 + (j : Int).toNat]? = some (.int .i64 (g i j)) := by
        rw [show 0 + 1 + (i : Int).toNat * 14 + (j : Int).toNat = 1 + i * 14 + j by omega]; exact hget i j (by omega) (by omega)
      have hc2 : (ints M)[0 + 1 + (j : Int).toNat * 14 + (i : Int).toNat]? = some (.int .i64 (g j i)) := by
        rw [show 0 + 1 + (j : Int).toNat * 14 + (i : Int).toNat = 1 + j * 14 + i by omega]; exact hget j i (by omega) (by omega)
      repeat (first | refine vops_q tyOk rfl ?_ | refine vops_nil ?_ | refine vw_seq ?_ | refine vw_region (by kernel_rfl) ?_ | refine vw_skip ?_ | refine vw_block ?_)
      refine vw_draw [0, 1, 2, 3, 4, 5, 6, 7, 8, 9, 10, 11, 12, 13, 14, 15, 16, 17, 18, 19, 20, 21, 22, 23, 24, 25, 26, 27, 28, 29] (by kernel_rfl) (by kernel_rfl) (by kernel_rfl) rfl ?_
      repeat' (first | refine vd_q tyOk rfl (by first | trivial | rfl) rfl (by kernel_rfl) (by kernel_rfl) ?_ | refine vd_p tyOk rfl (by first | trivial | rfl) rfl (by kernel_rfl) (by kernel_rfl) (by (try simp only [inR]); omega) ?_ | refine vd_nil (by kernel_rfl) ?_ | refine vd_load tyOk rfl (by first | trivial | rfl) rfl rfl rfl (by kernel_rfl) (by kernel_rfl) (by kernel_rfl) (sees_mem (by repeat (first | exact mem_here | apply mem_next | apply mem_past)) (by exact hc1)) (by repeat (first | exact sub_hereL | exact sub_refl | apply sub_cons | apply sub_app)) ?_ | refine vd_load tyOk rfl (by first | trivial | rfl) rfl rfl rfl (by kernel_rfl) (by kernel_rfl) (by kernel_rfl) (sees_mem (by repeat (first | exact mem_here | apply mem_next | apply mem_past)) (by exact hc2)) (by repeat (first | exact sub_hereL | exact sub_refl | apply sub_cons | apply sub_app)) ?_)
      repeat (first | refine vops_q tyOk rfl ?_ | refine vops_nil ?_ | refine vw_region (by kernel_rfl) ?_ | refine vops_p tyOk rfl (by (try simp only [inR]); omega) ?_)
      refine ⟨i - (j + 1), by omega, j + 1, by omega, rfl, rfl, rfl, rfl, rfl, rfl, congrArg (Value.int .i64) ?_, rfl, rfl⟩
      show _ = allO g i + (othS g i j + (sqA g i j + sqA g j i))
      rw [Int.add_assoc]; rfl
    · obtain rfl : j = i := by omega
      repeat (first | refine vops_q tyOk rfl ?_ | refine vops_nil ?_ | refine vw_region (by kernel_rfl) ?_ | refine vops_p tyOk rfl (by (try simp only [inR]); omega) ?_ | refine vw_exit ?_)
      exact ⟨n - (j + 1), by omega, j + 1, by omega, rfl, rfl, rfl, rfl, rfl, rfl⟩
  · obtain rfl : i = n := by omega
    repeat (first | refine vops_q tyOk rfl ?_ | refine vops_nil ?_ | refine vw_seq ?_ | refine vw_region (by kernel_rfl) ?_ | refine vw_ret ?_ | refine vw_exit ?_)
    exact rv_int rfl rfl rfl

abbrev fnM (g : Nat) : Value := .func (.func g) #[] #[]
def costs2 : List Value := [fnM 184, fnM 185]
theorem costs_one : ∀ v ∈ costs2, v.cells.size = 1 := by
  intro v hv
  rcases List.mem_cons.1 hv with rfl | hv
  · rfl
  · obtain rfl : v = _ := by simpa using hv
    rfl
theorem c_costsOfMatrix (w : World) : Calls Try.prog 162 ([] : List Value).toArray w (Res w (fun v new => ∃ b, v = .slice (some ⟨b, 0, none⟩) 2 2 ∧ new = [(b, ⟨costs2, 166, 2 * 1, none⟩)])) := by
  refine calls_of_vw Try.func162 rfl Try.ntmps162 (by simp) ?_
  repeat (first | refine vops_q tyOk rfl ?_ | refine vops_nil ?_ | refine vw_seq ?_ | refine vw_region (by kernel_rfl) ?_ | refine vw_ret ?_ | refine vops_buildS costs2 costs2 tyOk rfl rfl (List.cons_ne_nil _ _) rfl rfl (by omega) (by decide) (by decide) costs_one rfl (fun bk hbk => ?_))
  exact out1 rfl rfl (by simp [ids]) (by repeat (first | exact sub_hereL | exact sub_refl | apply sub_cons | apply sub_app)) ⟨bk, rfl, rfl⟩
def costTo (g : Nat → Nat → Int) (n : Nat) : Nat → Int
  | 0 => 0
  | 1 => ownS g n
  | _ => ownS g n + allO g n
theorem cost_sum (g : Nat → Nat → Int) (n : Nat) : costTo g n 2 = sum2 n n (sqA g) := (sum_squares (sqA g) n).symm

set_option maxHeartbeats 4000000 in
set_option maxRecDepth 100000 in
theorem c_costM (n : Nat) (hn : n ≤ 14) (g : Nat → Nat → Int) (hg : SmallG n g) (w : World) :
    Calls Try.prog 107 [mvM n g].toArray w (Res w (Is (.int .i64 (sum2 n n (sqA g))))) := by
  refine calls_of_vw Try.func107 rfl Try.ntmps107 (by simp) ?_
  refine vw_seq (vw_region (by kernel_rfl) (vops_box (ints (matN n 14 14 g)) rfl (fun b1 hb1 => ?_)))
  have hl1 : (ints (matN n 14 14 g)).length = 197 := by rw [ints_length, matN_length]
  obtain ⟨s0, s1⟩ := ownS_le hg (Nat.le_refl n)
  obtain ⟨t0, t1⟩ := allO_le hg hn (Nat.le_refl n)
  repeat (first | refine vops_q tyOk rfl ?_ | refine vops_nil ?_ | refine vw_seq ?_ | refine vw_region (by kernel_rfl) ?_ | refine vw_block ?_ | (apply vops_call ent162 rfl; (intro w' hg; exact c_costsOfMatrix w'); (rintro _ newN ⟨bc, rfl, rfl⟩)))
  refine vw_loop (fun y f own => ∃ z : Nat, z ≤ 2 ∧ y = 2 - z ∧ f 8 = .int .i64 z ∧ f 7 = .int .i64 2 ∧ f 6 = .slice (some ⟨bc, 0, none⟩) 2 2 ∧ f 3 = .int .i64 (costTo g n z) ∧ f 1 = .pointer (some ⟨b1, 0, none⟩) ∧
      own = [(bc, ⟨costs2, 166, 2 * 1, none⟩), (b1, ⟨ints (matN n 14 14 g), 114, (ints (matN n 14 14 g)).length, none⟩)]) 2
    ⟨0, by omega, by omega, rfl, rfl, rfl, rfl, rfl, rfl⟩ ?_
  rintro y f own ⟨z, hz, rfl, h8, h7, h6, h3, h1, rfl⟩
  rw [upd_of h8, upd_of h7, upd_of h6, upd_of h3, upd_of h1]
  repeat (first | refine vops_q tyOk rfl ?_ | refine vops_nil ?_ | refine vw_seq ?_ | refine vw_region (by kernel_rfl) ?_ | refine vw_cond rfl ?_)
  refine bs_dec (fun hlt => ?_) (fun hlt => ?_)
  · have hz2 : z = 0 ∨ z = 1 := by omega
    rcases hz2 with rfl | rfl
    · have hc0 : costTo g n 0 = 0 := rfl
      rw [hc0]
      repeat (first | refine vops_q tyOk rfl ?_ | refine vops_nil ?_ | refine vw_seq ?_ | refine vw_region (by kernel_rfl) ?_ | refine vops_p tyOk rfl (by (try simp only [inR]); omega) ?_ | refine vw_skip ?_ | refine vw_block ?_ | refine vops_loadNM tyOk rfl rfl rfl (by repeat (first | exact mem_here | apply mem_next | apply mem_past)) (by rw [hl1]) ?_ | refine vops_callVp (lb := []) ent184 rfl rfl (fun w' _ => c_costOwn n hn g hg w') ?_ | ((show VOps _ _ _ _ (⟨some _, Go.Op.load _ _, _, _, _, none⟩ :: _) _ _); refine vops_loadM tyOk rfl rfl rfl (by repeat (first | exact mem_here | apply mem_next | apply mem_past)) (by rfl) ?_))
      exact ⟨1, by omega, 1, by omega, rfl, rfl, rfl, rfl, congrArg (Value.int .i64) (by show (0 : Int) + ownS g n = ownS g n; omega), rfl, rfl⟩
    · have hc : costTo g n 1 = ownS g n := rfl
      rw [hc]
      repeat (first | refine vops_q tyOk rfl ?_ | refine vops_nil ?_ | refine vw_seq ?_ | refine vw_region (by kernel_rfl) ?_ | refine vops_p tyOk rfl (by (try simp only [inR]); omega) ?_ | refine vw_skip ?_ | refine vw_block ?_ | refine vops_loadNM tyOk rfl rfl rfl (by repeat (first | exact mem_here | apply mem_next | apply mem_past)) (by rw [hl1]) ?_ | refine vops_callVp (lb := []) ent185 rfl rfl (fun w' _ => c_costOthers n hn g hg w') ?_ | ((show VOps _ _ _ _ (⟨some _, Go.Op.load _ _, _, _, _, none⟩ :: _) _ _); refine vops_loadM tyOk rfl rfl rfl (by repeat (first | exact mem_here | apply mem_next | apply mem_past)) (by rfl) ?_))
      exact ⟨0, by omega, 2, by omega, rfl, rfl, rfl, rfl, rfl, rfl, rfl⟩
  · obtain rfl : z = 2 := by omega
    repeat (first | refine vops_q tyOk rfl ?_ | refine vops_nil ?_ | refine vw_seq ?_ | refine vw_region (by kernel_rfl) ?_ | refine vw_ret ?_ | refine vw_exit ?_)
    exact rv_int rfl rfl (cost_sum g n)
end Go.Proofs.Ytlfflmoegfibgaa

/- A part of the proof: CA19. No conditions of its own. -/
namespace Go.Proofs.Ytlfflmoegfibgaa
open Go.VL
attribute [local irreducible] VWr VOps VD Calls

theorem tabRow (n : Nat) (g : Nat → Nat → Int) {a : Nat} (h : a < n) : (tabOf n g)[a]? = some (lst n (g a)) := tabOf_get h
set_option maxHeartbeats 4000000 in
set_option maxRecDepth 100000 in
theorem c_l09Cost (n : Nat) (hn : n ≤ 14) (g : Nat → Nat → Int) (hg : SmallG n g) (v : Value) (w : World) (hv : RdII w v (tabOf n g)) :
    Calls Try.prog 112 [v].toArray w (Res w (Is (.int .i64 (sum2 n n (sqA g))))) := by
  obtain ⟨a, cap, rfl⟩ := hv.len
  have hlen := tabOf_length n g
  refine calls_of_vw Try.func112 rfl Try.ntmps112 (by simp) ?_
  rw [hlen]
  have hrb : ∀ i j, i < n → j ≤ n → 0 ≤ sumTo (sqA g i) j ∧ sumTo (sqA g i) j ≤ (j : Int) * 10000 := fun i j hi hj =>
    ⟨sumTo_nonneg fun b hb => (sq_small (hg i b hi (by omega))).1, sumTo_le fun b hb => (sq_small (hg i b hi (by omega))).2⟩
  have hab : ∀ i, i ≤ n → 0 ≤ sumTo (fun x => sumTo (sqA g x) n) i ∧ sumTo (fun x => sumTo (sqA g x) n) i ≤ (i : Int) * 140000 := fun i hi =>
    ⟨sumTo_nonneg fun x hx => (hrb x n (by omega) (Nat.le_refl _)).1, sumTo_le fun x hx => by have := (hrb x n (by omega) (Nat.le_refl _)).2; omega⟩
  repeat (first | refine vops_q tyOk rfl ?_ | refine vops_nil ?_ | refine vw_seq ?_ | refine vw_region (by kernel_rfl) ?_ | refine vw_block ?_)
  refine vw_loop (fun y f own => ∃ i : Nat, i ≤ n ∧ y = n - i ∧ f 4 = .int .i64 i ∧ f 3 = .int .i64 (sumTo (fun x => sumTo (sqA g x) n) i) ∧ f 0 = .slice a n cap ∧ own = []) n
    ⟨0, by omega, by omega, rfl, rfl, rfl, rfl⟩ ?_
  rintro y f own ⟨i, hi, rfl, h4, h3, h0, rfl⟩
  rw [upd_of h4, upd_of h3, upd_of h0]
  repeat (first | refine vops_q tyOk rfl ?_ | refine vops_nil ?_ | refine vw_seq ?_ | refine vw_region (by kernel_rfl) ?_ | refine vw_cond rfl ?_)
  refine bs_dec (fun hlt => ?_) (fun hlt => ?_)
  · have hin : i < n := by omega
    obtain ⟨b', o, cap', u, he, hcu, hu⟩ := hv.at (tabRow n g hin)
    rw [hlen] at he
    cases he
    obtain ⟨a2, cap2, rfl⟩ := hu.len
    rw [lst_length] at hcu hu
    repeat (first | refine vops_q tyOk rfl ?_ | refine vops_nil ?_ | refine vw_seq ?_ | refine vw_region (by kernel_rfl) ?_ | refine vw_skip ?_ | refine vw_block ?_)
    refine vw_loop (fun y f own => ∃ j : Nat, j ≤ n ∧ y = n - j ∧ f 5 = .int .i64 j ∧ f 4 = .int .i64 i ∧ f 3 = .int .i64 (sumTo (fun x => sumTo (sqA g x) n) i + sumTo (sqA g i) j) ∧ f 0 = .slice (some ⟨b', o, none⟩) n cap ∧ own = []) n
      ⟨0, by omega, by omega, rfl, rfl, congrArg (Value.int .i64) (by show _ = _ + (0 : Int); omega), rfl, rfl⟩ ?_
    rintro y f own ⟨j, hj, rfl, h5, h4, h3, h0, rfl⟩
    rw [upd_of h5, upd_of h4, upd_of h3, upd_of h0]
    repeat (first | refine vops_q tyOk rfl ?_ | refine vops_nil ?_ | refine vw_seq ?_ | refine vw_region (by kernel_rfl) ?_ | refine vops_p tyOk rfl (by (try simp only [inR]); omega) ?_ | refine vw_cond rfl ?_ | refine vops_load tyOk rfl rfl rfl (sees_old hcu (by simp)) ?_)
    refine bs_dec (fun hlt2 => ?_) (fun hlt2 => ?_)
    · have hjn : j < n := by omega
      obtain ⟨b3, o3, cap3, he3, hcell⟩ := hu.at (i := j) (by rw [lst_length]; omega)
      rw [lst_length] at he3
      cases he3
      have hc := hcell j (by rw [lst_length]; omega)
      rw [lst_getD hjn] at hc
      obtain ⟨q0, q1⟩ := sq_small (hg i j hin hjn)
      obtain ⟨s0, s1⟩ := hab i hi
      obtain ⟨t0, t1⟩ := hrb i j hin hj
      repeat (first | refine vw_seq ?_ | refine vw_skip ?_ | refine vw_block ?_)
      refine vw_draw [0, 1, 2, 3, 4, 5, 6, 7, 8, 9, 10, 11, 12, 13, 14, 15, 16, 17] (by kernel_rfl) (by kernel_rfl) (by kernel_rfl) rfl ?_
      repeat' (first | refine vd_q tyOk rfl (by first | trivial | rfl) rfl (by kernel_rfl) (by kernel_rfl) ?_ | refine vd_p tyOk rfl (by first | trivial | rfl) rfl (by kernel_rfl) (by kernel_rfl) (by (try simp only [inR]); omega) ?_ | refine vd_nil (by kernel_rfl) ?_ | refine vd_load tyOk rfl (by first | trivial | rfl) rfl rfl rfl (by kernel_rfl) (by kernel_rfl) (by kernel_rfl) (sees_old hcu (by simp)) (by repeat (first | exact sub_hereL | exact sub_refl | apply sub_cons | apply sub_app)) ?_ | refine vd_load tyOk rfl (by first | trivial | rfl) rfl rfl rfl (by kernel_rfl) (by kernel_rfl) (by kernel_rfl) (sees_old hc (by simp)) (by repeat (first | exact sub_hereL | exact sub_refl | apply sub_cons | apply sub_app)) ?_)
      repeat (first | refine vops_q tyOk rfl ?_ | refine vops_nil ?_ | refine vw_region (by kernel_rfl) ?_ | refine vops_p tyOk rfl (by (try simp only [inR]); omega) ?_)
      refine ⟨n - (j + 1), by omega, j + 1, by omega, rfl, rfl, rfl, congrArg (Value.int .i64) ?_, rfl, rfl⟩
      show _ = _ + (sumTo (sqA g i) j + sqA g i j)
      rw [← Int.add_assoc]; rfl
    · obtain rfl : j = n := by omega
      repeat (first | refine vops_q tyOk rfl ?_ | refine vops_nil ?_ | refine vw_region (by kernel_rfl) ?_ | refine vops_p tyOk rfl (by (try simp only [inR]); omega) ?_ | refine vw_exit ?_)
      exact ⟨j - (i + 1), by omega, i + 1, by omega, rfl, rfl, rfl, rfl, rfl⟩
  · obtain rfl : i = n := by omega
    repeat (first | refine vops_q tyOk rfl ?_ | refine vops_nil ?_ | refine vw_seq ?_ | refine vw_region (by kernel_rfl) ?_ | refine vw_ret ?_ | refine vw_exit ?_)
    exact rv_int rfl rfl rfl

open Classical in
set_option maxHeartbeats 4000000 in
set_option maxRecDepth 100000 in
theorem c_l09Balanced (n : Nat) (hn : n ≤ 14) (g : Nat → Nat → Int) (v : Value) (w : World) (hv : RdII w v (tabOf n g)) :
    Calls Try.prog 119 [v].toArray w (Res w (Is (.bool (decide (BalO n g))))) := by
  obtain ⟨a, cap, rfl⟩ := hv.len
  have hlen := tabOf_length n g
  refine calls_of_vw Try.func119 rfl Try.ntmps119 (by simp) ?_
  rw [hlen]
  repeat (first | refine vops_q tyOk rfl ?_ | refine vops_nil ?_ | refine vw_seq ?_ | refine vw_region (by kernel_rfl) ?_ | refine vw_block ?_)
  refine vw_loop (fun y f own => ∃ i : Nat, i ≤ n ∧ y = n - i ∧ f 3 = .int .i64 i ∧ f 0 = .slice a n cap ∧ own = [] ∧ ∀ x y, x < i → y < n → x ≠ y → g x y = 1) n
    ⟨0, by omega, by omega, rfl, rfl, rfl, fun x y hx => by omega⟩ ?_
  rintro y f own ⟨i, hi, rfl, h3, h0, rfl, hall⟩
  rw [upd_of h3, upd_of h0]
  repeat (first | refine vops_q tyOk rfl ?_ | refine vops_nil ?_ | refine vw_seq ?_ | refine vw_region (by kernel_rfl) ?_ | refine vw_cond rfl ?_)
  refine bs_dec (fun hlt => ?_) (fun hlt => ?_)
  · have hin : i < n := by omega
    obtain ⟨b', o, cap', u, he, hcu, hu⟩ := hv.at (tabRow n g hin)
    rw [hlen] at he
    cases he
    obtain ⟨a2, cap2, rfl⟩ := hu.len
    rw [lst_length] at hcu hu
    repeat (first | refine vops_q tyOk rfl ?_ | refine vops_nil ?_ | refine vw_seq ?_ | refine vw_region (by kernel_rfl) ?_ | refine vw_skip ?_ | refine vw_block ?_)
    refine vw_loop (fun y f own => ∃ j : Nat, j ≤ n ∧ y = n - j ∧ f 4 = .int .i64 j ∧ f 3 = .int .i64 i ∧ f 0 = .slice (some ⟨b', o, none⟩) n cap ∧ own = [] ∧ ∀ y, y < j → i ≠ y → g i y = 1) n
      ⟨0, by omega, by omega, rfl, rfl, rfl, rfl, fun y hy => by omega⟩ ?_
    rintro y f own ⟨j, hj, rfl, h4, h3, h0, rfl, hrow⟩
    rw [upd_of h4, upd_of h3, upd_of h0]
    repeat (first | refine vops_q tyOk rfl ?_ | refine vops_nil ?_ | refine vw_seq ?_ | refine vw_region (by kernel_rfl) ?_ | refine vops_p tyOk rfl (by (try simp only [inR]); omega) ?_ | refine vw_cond rfl ?_ | refine vops_load tyOk rfl rfl rfl (sees_old hcu (by simp)) ?_)
    refine bs_dec (fun hlt2 => ?_) (fun hlt2 => ?_)
    · have hjn : j < n := by omega
      obtain ⟨b3, o3, cap3, he3, hcell⟩ := hu.at (i := j) (by rw [lst_length]; omega)
      rw [lst_length] at he3
      cases he3
      have hc := hcell j (by rw [lst_length]; omega)
      rw [lst_getD hjn] at hc
      repeat' (first | refine vops_q tyOk rfl ?_ | refine vops_nil ?_ | refine vw_seq ?_ | refine vw_region (by kernel_rfl) ?_ | refine vops_guardT rfl rfl ?_ | with_reducible refine bs_true ?_ | with_reducible refine bs_false ?_ | refine vops_p tyOk rfl (by (try simp only [inR]); omega) ?_ | refine vw_cond rfl ?_ | refine vw_skip ?_ | refine vw_block ?_ | refine vw_ret ?_ | (with_reducible refine bs_ndec (fun _ => ?_) (fun _ => ?_)) <;> try (exfalso; omega) | refine vops_load tyOk rfl rfl rfl (sees_old hcu (by simp)) ?_ | refine vops_load tyOk rfl rfl rfl (sees_old hc (by simp)) ?_)
      all_goals first
        | exact rv_bool rfl rfl (decide_eq_false fun hh => by have := hh i j hin hjn (by omega); omega).symm
        | (refine ⟨n - (j + 1), by omega, j + 1, by omega, rfl, rfl, rfl, rfl, rfl, fun y hy hne => ?_⟩
           by_cases e : y = j
           · subst e; omega
           · exact hrow y (by omega) hne)
    · obtain rfl : j = n := by omega
      repeat (first | refine vops_q tyOk rfl ?_ | refine vops_nil ?_ | refine vw_region (by kernel_rfl) ?_ | refine vops_p tyOk rfl (by (try simp only [inR]); omega) ?_ | refine vw_exit ?_)
      refine ⟨j - (i + 1), by omega, i + 1, by omega, rfl, rfl, rfl, rfl, fun x y hx hy hne => ?_⟩
      by_cases e : x = i
      · subst e; exact hrow y hy hne
      · exact hall x y (by omega) hy hne
  · obtain rfl : i = n := by omega
    repeat (first | refine vops_q tyOk rfl ?_ | refine vops_nil ?_ | refine vw_seq ?_ | refine vw_region (by kernel_rfl) ?_ | refine vw_ret ?_ | refine vw_exit ?_)
    exact rv_bool rfl rfl (decide_eq_true fun x y hx hy hne => hall x y hx hy hne).symm
end Go.Proofs.Ytlfflmoegfibgaa

/- A part of the proof: CA20. No conditions of its own. -/
namespace Go.Proofs.Ytlfflmoegfibgaa
open Go.VL
attribute [local irreducible] VWr VOps VD Calls

theorem carN_small {k : Nat} {rs : List (List Int)} (hE : EvenR k rs) : SmallG k (carN k rs rs.length) := fun a b _ _ => by
  have := carN_le k rs a b rs.length
  have := hE.len
  omega
open Classical in
noncomputable def carryR (n : Int) (rs : List (List Int)) : List (List Int) × Int := if codeE n rs = 0 then (tabOf n.toNat (carN n.toNat rs rs.length), 0) else ([], codeE n rs)
open Classical in
noncomputable def costR (n : Int) (rs : List (List Int)) : Int × Int := if codeE n rs = 0 then (sum2 n.toNat n.toNat (sqA (carN n.toNat rs rs.length)), 0) else (0, codeE n rs)
open Classical in
noncomputable def balR (n : Int) (rs : List (List Int)) : Bool × Int := if codeE n rs = 0 then (decide (BalO n.toNat (carN n.toNat rs rs.length)), 0) else (false, codeE n rs)
theorem carryR_ok (n : Int) (rs : List (List Int)) : (carryR n rs).1.length ≤ 1048576 ∧ (∀ l ∈ (carryR n rs).1, l.length ≤ 1048576) ∧ sumLen (carryR n rs).1 ≤ 1048576 := by
  unfold carryR
  split
  · rename_i h
    have h14 := (codeE_zero.1 h).1.2.1
    have hm : n.toNat ≤ 14 := by omega
    have hsq := Nat.mul_le_mul hm hm
    refine ⟨by show (tabOf _ _).length ≤ _; rw [tabOf_length]; omega, fun l hl => by have := tabOf_mem hl; omega, ?_⟩
    show sumLen (tabOf _ _) ≤ _
    rw [sumLen_const fun l hl => tabOf_mem hl, tabOf_length]; omega
  · simp [sumLen]
open Classical in
set_option maxHeartbeats 4000000 in
set_option maxRecDepth 100000 in
theorem c_impl_CarryMatrix (n : Int) (v : Value) (rs : List (List Int)) (w : World) (hv : RdS w v rs) (hr : ∀ r ∈ rs, r.length = 14) (hl : rs.length ≤ 1048576) (hcap : ∀ a m c, v = .slice a m c → m ≤ c) :
    Calls Try.prog 55 [.agg #[.int .i64 n, v]].toArray w (Res w (PairLL 38 2 (carryR n rs))) := by
  obtain ⟨a, cap, rfl⟩ := hv.len
  refine calls_of_vw Try.func55 rfl Try.ntmps55 (by simp) ?_
  refine vw_seq (vw_region (by kernel_rfl) (vops_box [.int .i64 n, .slice a rs.length cap] rfl (fun b0 hb0 => ?_)))
  repeat (first | refine vops_q tyOk rfl ?_ | refine vops_nil ?_ | refine vw_seq ?_ | refine vw_region (by kernel_rfl) ?_ | refine vw_cond rfl ?_ | (apply vops_callp ent104 rfl; (intro w' hg; exact c_codeOfEvenRobin n _ rs w' (hv.same hg.fr) hr hl)) | ((show VOps _ _ _ _ (⟨some _, Go.Op.load _ _, _, _, _, none⟩ :: _) _ _); refine vops_loadNM tyOk rfl rfl rfl (by repeat (first | exact mem_here | apply mem_next | apply mem_past)) (by first | rfl | (rw [ints_length]; first | assumption | omega | (rw [ints_length]; first | assumption | omega | simp [*])) | simp [*]) ?_))
  refine bs_ndec2 (fun h => ?_) (fun h => ?_)
  · repeat (first | refine vops_q tyOk rfl ?_ | refine vops_nil ?_ | refine vw_seq ?_ | refine vw_region (by kernel_rfl) ?_ | refine vw_ret ?_)
    exact pairLL_err rfl rfl rfl (by rw [carryR, if_neg h])
  obtain ⟨k, rfl⟩ : ∃ k : Nat, n = (k : Int) := ⟨n.toNat, by have := (codeE_zero.1 h).1.1; omega⟩
  have hE := codeE_zero.1 h
  obtain ⟨hk2, hk14, hkl⟩ := hE.len
  repeat (first | refine vw_seq ?_ | refine vw_region (by kernel_rfl) ?_ | refine vw_skip ?_ | (apply vops_callp ent106 rfl; (intro w' hg; exact c_carryIn k _ rs hE w' (hv.same hg.fr) hr hcap)) | (apply vops_call ent117 rfl; (intro w' _; exact c_rowsM k hk14 (by omega) (carN k rs rs.length) w'); (rintro _ newN ⟨vs, ns, outer, hR, hO, rfl⟩)) | ((show VOps _ _ _ _ (⟨some _, Go.Op.load _ _, _, _, _, none⟩ :: _) _ _); refine vops_loadNM tyOk rfl rfl rfl (by repeat (first | exact mem_here | apply mem_next | apply mem_past)) (by first | rfl | (rw [ints_length]; first | assumption | omega | (rw [ints_length]; first | assumption | omega | simp [*])) | simp [*]) ?_))
  obtain ⟨p, cp, rfl⟩ := hO.form
  refine vops_nodup (fun hnd => ?_)
  repeat (first | refine vops_q tyOk rfl ?_ | refine vops_nil ?_ | refine vw_ret ?_)
  exact pairLL_ok rfl rfl rfl hR hO rfl (nodup_sub hnd (List.sublist_append_left _ _)) sub_hereL (by rw [carryR, if_pos h, Int.toNat_natCast])
open Classical in
set_option maxHeartbeats 4000000 in
set_option maxRecDepth 100000 in
theorem c_spec_CarryMatrix (n : Int) (v : Value) (rs : List (List Int)) (w : World) (hv : RdS w v rs) (hr : ∀ r ∈ rs, r.length = 14) (hl : rs.length ≤ 1048576) :
    Calls Try.prog 56 [.agg #[.int .i64 n, v]].toArray w (Res w (PairLL 38 2 (carryR n rs))) := by
  obtain ⟨a, cap, rfl⟩ := hv.len
  refine calls_of_vw Try.func56 rfl Try.ntmps56 (by simp) ?_
  refine vw_seq (vw_region (by kernel_rfl) (vops_box [.int .i64 n, .slice a rs.length cap] rfl (fun b0 hb0 => ?_)))
  repeat (first | refine vops_q tyOk rfl ?_ | refine vops_nil ?_ | refine vw_seq ?_ | refine vw_region (by kernel_rfl) ?_ | refine vw_cond rfl ?_ | (apply vops_callp ent110 rfl; (intro w' hg; exact c_l09Code n _ rs w' (hv.same hg.fr) hr hl)) | ((show VOps _ _ _ _ (⟨some _, Go.Op.load _ _, _, _, _, none⟩ :: _) _ _); refine vops_loadNM tyOk rfl rfl rfl (by repeat (first | exact mem_here | apply mem_next | apply mem_past)) (by first | rfl | (rw [ints_length]; first | assumption | omega | (rw [ints_length]; first | assumption | omega | simp [*])) | simp [*]) ?_))
  refine bs_ndec2 (fun h => ?_) (fun h => ?_)
  · repeat (first | refine vops_q tyOk rfl ?_ | refine vops_nil ?_ | refine vw_seq ?_ | refine vw_region (by kernel_rfl) ?_ | refine vw_ret ?_)
    exact pairLL_err rfl rfl rfl (by rw [carryR, if_neg h])
  obtain ⟨k, rfl⟩ : ∃ k : Nat, n = (k : Int) := ⟨n.toNat, by have := (codeE_zero.1 h).1.1; omega⟩
  have hE := codeE_zero.1 h
  obtain ⟨hk2, hk14, hkl⟩ := hE.len
  repeat (first | refine vw_seq ?_ | refine vw_region (by kernel_rfl) ?_ | refine vw_skip ?_ | (apply vops_call ent113 rfl; (intro w' hg; exact c_l09Matrix k _ rs hE w' (hv.same hg.fr) hr); (rintro _ newN ⟨vs, ns, outer, hR, hO, rfl⟩)) | ((show VOps _ _ _ _ (⟨some _, Go.Op.load _ _, _, _, _, none⟩ :: _) _ _); refine vops_loadNM tyOk rfl rfl rfl (by repeat (first | exact mem_here | apply mem_next | apply mem_past)) (by first | rfl | (rw [ints_length]; first | assumption | omega | (rw [ints_length]; first | assumption | omega | simp [*])) | simp [*]) ?_))
  obtain ⟨p, cp, rfl⟩ := hO.form
  refine vops_nodup (fun hnd => ?_)
  repeat (first | refine vops_q tyOk rfl ?_ | refine vops_nil ?_ | refine vw_ret ?_)
  exact pairLL_ok rfl rfl rfl hR hO rfl (nodup_sub hnd (List.sublist_append_left _ _)) sub_hereL (by rw [carryR, if_pos h, Int.toNat_natCast])
open Classical in
set_option maxHeartbeats 4000000 in
set_option maxRecDepth 100000 in
theorem c_impl_CarryCost (n : Int) (v : Value) (rs : List (List Int)) (w : World) (hv : RdS w v rs) (hr : ∀ r ∈ rs, r.length = 14) (hl : rs.length ≤ 1048576) (hcap : ∀ a m c, v = .slice a m c → m ≤ c) :
    Calls Try.prog 50 [.agg #[.int .i64 n, v]].toArray w (Res w (Is (.tuple #[.int .i64 (costR n rs).1, .int .i64 (costR n rs).2]))) := by
  obtain ⟨a, cap, rfl⟩ := hv.len
  refine calls_of_vw Try.func50 rfl Try.ntmps50 (by simp) ?_
  refine vw_seq (vw_region (by kernel_rfl) (vops_box [.int .i64 n, .slice a rs.length cap] rfl (fun b0 hb0 => ?_)))
  repeat (first | refine vops_q tyOk rfl ?_ | refine vops_nil ?_ | refine vw_seq ?_ | refine vw_region (by kernel_rfl) ?_ | refine vw_cond rfl ?_ | (apply vops_callp ent104 rfl; (intro w' hg; exact c_codeOfEvenRobin n _ rs w' (hv.same hg.fr) hr hl)) | ((show VOps _ _ _ _ (⟨some _, Go.Op.load _ _, _, _, _, none⟩ :: _) _ _); refine vops_loadNM tyOk rfl rfl rfl (by repeat (first | exact mem_here | apply mem_next | apply mem_past)) (by first | rfl | (rw [ints_length]; first | assumption | omega | (rw [ints_length]; first | assumption | omega | simp [*])) | simp [*]) ?_))
  refine bs_ndec2 (fun h => ?_) (fun h => ?_)
  · repeat (first | refine vops_q tyOk rfl ?_ | refine vops_nil ?_ | refine vw_seq ?_ | refine vw_region (by kernel_rfl) ?_ | refine vw_ret ?_)
    exact out_ic rfl rfl rfl (by rw [costR, if_neg h])
  obtain ⟨k, rfl⟩ : ∃ k : Nat, n = (k : Int) := ⟨n.toNat, by have := (codeE_zero.1 h).1.1; omega⟩
  have hE := codeE_zero.1 h
  obtain ⟨hk2, hk14, hkl⟩ := hE.len
  repeat (first | refine vops_q tyOk rfl ?_ | refine vops_nil ?_ | refine vw_seq ?_ | refine vw_region (by kernel_rfl) ?_ | refine vw_skip ?_ | refine vw_ret ?_ | (apply vops_callp ent106 rfl; (intro w' hg; exact c_carryIn k _ rs hE w' (hv.same hg.fr) hr hcap)) | (apply vops_callp ent107 rfl; (intro w' hg; exact c_costM k hk14 (carN k rs rs.length) (carN_small hE) w')) | ((show VOps _ _ _ _ (⟨some _, Go.Op.load _ _, _, _, _, none⟩ :: _) _ _); refine vops_loadNM tyOk rfl rfl rfl (by repeat (first | exact mem_here | apply mem_next | apply mem_past)) (by first | rfl | (rw [ints_length]; first | assumption | omega | (rw [ints_length]; first | assumption | omega | simp [*])) | simp [*]) ?_))
  exact out_ic rfl rfl rfl (by rw [costR, if_pos h, Int.toNat_natCast])
open Classical in
set_option maxHeartbeats 4000000 in
set_option maxRecDepth 100000 in
theorem c_spec_CarryCost (n : Int) (v : Value) (rs : List (List Int)) (w : World) (hv : RdS w v rs) (hr : ∀ r ∈ rs, r.length = 14) (hl : rs.length ≤ 1048576) :
    Calls Try.prog 51 [.agg #[.int .i64 n, v]].toArray w (Res w (Is (.tuple #[.int .i64 (costR n rs).1, .int .i64 (costR n rs).2]))) := by
  obtain ⟨a, cap, rfl⟩ := hv.len
  refine calls_of_vw Try.func51 rfl Try.ntmps51 (by simp) ?_
  refine vw_seq (vw_region (by kernel_rfl) (vops_box [.int .i64 n, .slice a rs.length cap] rfl (fun b0 hb0 => ?_)))
  repeat (first | refine vops_q tyOk rfl ?_ | refine vops_nil ?_ | refine vw_seq ?_ | refine vw_region (by kernel_rfl) ?_ | refine vw_cond rfl ?_ | (apply vops_callp ent110 rfl; (intro w' hg; exact c_l09Code n _ rs w' (hv.same hg.fr) hr hl)) | ((show VOps _ _ _ _ (⟨some _, Go.Op.load _ _, _, _, _, none⟩ :: _) _ _); refine vops_loadNM tyOk rfl rfl rfl (by repeat (first | exact mem_here | apply mem_next | apply mem_past)) (by first | rfl | (rw [ints_length]; first | assumption | omega | (rw [ints_length]; first | assumption | omega | simp [*])) | simp [*]) ?_))
  refine bs_ndec2 (fun h => ?_) (fun h => ?_)
  · repeat (first | refine vops_q tyOk rfl ?_ | refine vops_nil ?_ | refine vw_seq ?_ | refine vw_region (by kernel_rfl) ?_ | refine vw_ret ?_)
    exact out_ic rfl rfl rfl (by rw [costR, if_neg h])
  obtain ⟨k, rfl⟩ : ∃ k : Nat, n = (k : Int) := ⟨n.toNat, by have := (codeE_zero.1 h).1.1; omega⟩
  have hE := codeE_zero.1 h
  obtain ⟨hk2, hk14, hkl⟩ := hE.len
  repeat (first | refine vops_q tyOk rfl ?_ | refine vops_nil ?_ | refine vw_seq ?_ | refine vw_region (by kernel_rfl) ?_ | refine vw_skip ?_ | refine vw_ret ?_ | (apply vops_call ent113 rfl; (intro w' hg; exact c_l09Matrix k _ rs hE w' (hv.same hg.fr) hr); (intro _ newN hN; obtain ⟨_, _, rfl⟩ := NewLL.form hN)) | (apply vops_callp ent112 rfl; (intro w' hg; exact c_l09Cost k hk14 (carN k rs rs.length) (carN_small hE) _ w' (NewLL.rdG (by assumption) (by repeat (first | exact sub_hereL | exact sub_refl | apply sub_cons | apply sub_app)) hg))) | ((show VOps _ _ _ _ (⟨some _, Go.Op.load _ _, _, _, _, none⟩ :: _) _ _); refine vops_loadNM tyOk rfl rfl rfl (by repeat (first | exact mem_here | apply mem_next | apply mem_past)) (by first | rfl | (rw [ints_length]; first | assumption | omega | (rw [ints_length]; first | assumption | omega | simp [*])) | simp [*]) ?_))
  exact out_ic rfl rfl rfl (by rw [costR, if_pos h, Int.toNat_natCast])
open Classical in
set_option maxHeartbeats 4000000 in
set_option maxRecDepth 100000 in
theorem c_impl_IsCarryBalanced (n : Int) (v : Value) (rs : List (List Int)) (w : World) (hv : RdS w v rs) (hr : ∀ r ∈ rs, r.length = 14) (hl : rs.length ≤ 1048576) (hcap : ∀ a m c, v = .slice a m c → m ≤ c) :
    Calls Try.prog 57 [.agg #[.int .i64 n, v]].toArray w (Res w (Is (.tuple #[.bool (balR n rs).1, .int .i64 (balR n rs).2]))) := by
  obtain ⟨a, cap, rfl⟩ := hv.len
  refine calls_of_vw Try.func57 rfl Try.ntmps57 (by simp) ?_
  refine vw_seq (vw_region (by kernel_rfl) (vops_box [.int .i64 n, .slice a rs.length cap] rfl (fun b0 hb0 => ?_)))
  repeat (first | refine vops_q tyOk rfl ?_ | refine vops_nil ?_ | refine vw_seq ?_ | refine vw_region (by kernel_rfl) ?_ | refine vw_cond rfl ?_ | (apply vops_callp ent104 rfl; (intro w' hg; exact c_codeOfEvenRobin n _ rs w' (hv.same hg.fr) hr hl)) | ((show VOps _ _ _ _ (⟨some _, Go.Op.load _ _, _, _, _, none⟩ :: _) _ _); refine vops_loadNM tyOk rfl rfl rfl (by repeat (first | exact mem_here | apply mem_next | apply mem_past)) (by first | rfl | (rw [ints_length]; first | assumption | omega | (rw [ints_length]; first | assumption | omega | simp [*])) | simp [*]) ?_))
  refine bs_ndec2 (fun h => ?_) (fun h => ?_)
  · repeat (first | refine vops_q tyOk rfl ?_ | refine vops_nil ?_ | refine vw_seq ?_ | refine vw_region (by kernel_rfl) ?_ | refine vw_ret ?_)
    exact out_bn rfl rfl rfl rfl (by rw [balR, if_neg h])
  obtain ⟨k, rfl⟩ : ∃ k : Nat, n = (k : Int) := ⟨n.toNat, by have := (codeE_zero.1 h).1.1; omega⟩
  have hE := codeE_zero.1 h
  obtain ⟨hk2, hk14, hkl⟩ := hE.len
  repeat (first | refine vops_q tyOk rfl ?_ | refine vops_nil ?_ | refine vw_seq ?_ | refine vw_region (by kernel_rfl) ?_ | refine vw_skip ?_ | refine vw_ret ?_ | (apply vops_callp ent106 rfl; (intro w' hg; exact c_carryIn k _ rs hE w' (hv.same hg.fr) hr hcap)) | (apply vops_callp ent118 rfl; (intro w' hg; exact c_isBalanced k hk14 (carN k rs rs.length) w')) | ((show VOps _ _ _ _ (⟨some _, Go.Op.load _ _, _, _, _, none⟩ :: _) _ _); refine vops_loadNM tyOk rfl rfl rfl (by repeat (first | exact mem_here | apply mem_next | apply mem_past)) (by first | rfl | (rw [ints_length]; first | assumption | omega | (rw [ints_length]; first | assumption | omega | simp [*])) | simp [*]) ?_))
  exact out_bn rfl rfl rfl (decide_eq_decide.2 ((bal_iff hk14 fun a b hab => carN_out hE.1 hab _ (Nat.le_refl _)).trans (bal_off hE))) (by rw [balR, if_pos h, Int.toNat_natCast])
open Classical in
set_option maxHeartbeats 4000000 in
set_option maxRecDepth 100000 in
theorem c_spec_IsCarryBalanced (n : Int) (v : Value) (rs : List (List Int)) (w : World) (hv : RdS w v rs) (hr : ∀ r ∈ rs, r.length = 14) (hl : rs.length ≤ 1048576) :
    Calls Try.prog 58 [.agg #[.int .i64 n, v]].toArray w (Res w (Is (.tuple #[.bool (balR n rs).1, .int .i64 (balR n rs).2]))) := by
  obtain ⟨a, cap, rfl⟩ := hv.len
  refine calls_of_vw Try.func58 rfl Try.ntmps58 (by simp) ?_
  refine vw_seq (vw_region (by kernel_rfl) (vops_box [.int .i64 n, .slice a rs.length cap] rfl (fun b0 hb0 => ?_)))
  repeat (first | refine vops_q tyOk rfl ?_ | refine vops_nil ?_ | refine vw_seq ?_ | refine vw_region (by kernel_rfl) ?_ | refine vw_cond rfl ?_ | (apply vops_callp ent110 rfl; (intro w' hg; exact c_l09Code n _ rs w' (hv.same hg.fr) hr hl)) | ((show VOps _ _ _ _ (⟨some _, Go.Op.load _ _, _, _, _, none⟩ :: _) _ _); refine vops_loadNM tyOk rfl rfl rfl (by repeat (first | exact mem_here | apply mem_next | apply mem_past)) (by first | rfl | (rw [ints_length]; first | assumption | omega | (rw [ints_length]; first | assumption | omega | simp [*])) | simp [*]) ?_))
  refine bs_ndec2 (fun h => ?_) (fun h => ?_)
  · repeat (first | refine vops_q tyOk rfl ?_ | refine vops_nil ?_ | refine vw_seq ?_ | refine vw_region (by kernel_rfl) ?_ | refine vw_ret ?_)
    exact out_bn rfl rfl rfl rfl (by rw [balR, if_neg h])
  obtain ⟨k, rfl⟩ : ∃ k : Nat, n = (k : Int) := ⟨n.toNat, by have := (codeE_zero.1 h).1.1; omega⟩
  have hE := codeE_zero.1 h
  obtain ⟨hk2, hk14, hkl⟩ := hE.len
  repeat (first | refine vops_q tyOk rfl ?_ | refine vops_nil ?_ | refine vw_seq ?_ | refine vw_region (by kernel_rfl) ?_ | refine vw_skip ?_ | refine vw_ret ?_ | (apply vops_call ent113 rfl; (intro w' hg; exact c_l09Matrix k _ rs hE w' (hv.same hg.fr) hr); (intro _ newN hN; obtain ⟨_, _, rfl⟩ := NewLL.form hN)) | (apply vops_callp ent119 rfl; (intro w' hg; exact c_l09Balanced k hk14 (carN k rs rs.length) _ w' (NewLL.rdG (by assumption) (by repeat (first | exact sub_hereL | exact sub_refl | apply sub_cons | apply sub_app)) hg))) | ((show VOps _ _ _ _ (⟨some _, Go.Op.load _ _, _, _, _, none⟩ :: _) _ _); refine vops_loadNM tyOk rfl rfl rfl (by repeat (first | exact mem_here | apply mem_next | apply mem_past)) (by first | rfl | (rw [ints_length]; first | assumption | omega | (rw [ints_length]; first | assumption | omega | simp [*])) | simp [*]) ?_))
  exact out_bn rfl rfl rfl rfl (by rw [balR, if_pos h, Int.toNat_natCast])
end Go.Proofs.Ytlfflmoegfibgaa

