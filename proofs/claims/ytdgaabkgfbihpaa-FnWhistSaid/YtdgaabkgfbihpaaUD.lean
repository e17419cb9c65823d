import Derived.Test.YtdgaabkgfbihpaaUC
import Derived.Test.YtdgaabkgfbihpaaUB
import Derived.Test.YtdgaabkgfbihpaaVLArr
/- Parts of the proof, one after another. No conditions of their own. -/
/- A part of the proof: W7. No conditions of its own. -/
namespace Go.Proofs.Ytdgaabkgfbihpaa
open Go.VL
attribute [local irreducible] VWr VOps VD Calls

theorem c_playersOfBase (n : Int) (h0 : 0 ≤ n) (h1 : n ≤ 1000) (w : World) : Calls Try.prog 173 [Value.int .i64 n].toArray w (Res w (Is (.int .i64 (n - n % 4)))) := by
  refine calls_of_vw Try.func173 rfl Try.ntmps173 (by simp) ?_
  repeat (first | refine vops_q tyOk rfl ?_ | refine vops_nil ?_ | refine vw_seq ?_ | refine vw_region (by kernel_rfl) ?_ | refine vops_p tyOk rfl (by (try simp only [inR]); omega) ?_ | refine vw_ret ?_)
  exact rv_int rfl rfl rfl
theorem c_robinW (n : Int) (h0 : 2 ≤ n) (h1 : n ≤ 1000) (w : World) : Calls Try.prog 182 [Value.int .i64 n].toArray w (Res w (Is (.int .i64 (n - 1 + n % 2)))) := by
  refine calls_of_vw Try.func182 rfl Try.ntmps182 (by simp) ?_
  repeat (first | refine vops_q tyOk rfl ?_ | refine vops_nil ?_ | refine vw_seq ?_ | refine vw_region (by kernel_rfl) ?_ | refine vops_p tyOk rfl (by (try simp only [inR]); omega) ?_ | refine vw_ret ?_)
  exact rv_int rfl rfl rfl
set_option maxRecDepth 100000 in
theorem c_clone (v : Value) (l : List Int) (w : World) (hv : RdI w v l) (hl : l.length ≤ 1048576) : Calls Try.prog 266 [v].toArray w (Res w (NewI 2 l)) := by
  obtain ⟨a, cap, rfl⟩ := hv.len
  refine calls_of_vw Try.func266 rfl Try.ntmps266 (by simp) ?_
  cases a with
  | none =>
    have hl0 : l = [] := by
      rcases hv with ⟨_, _, _, h⟩ | ⟨_, _, _, h, _⟩
      · exact h
      · cases h
    subst hl0
    repeat (first | refine vops_q tyOk rfl ?_ | refine vops_nil ?_ | refine vw_seq ?_ | refine vw_region (by kernel_rfl) ?_ | refine vw_cond rfl ?_ | refine vops_isNil tyOk rfl rfl rfl ?_)
    refine bs_true ?_
    repeat (first | refine vops_q tyOk rfl ?_ | refine vops_nil ?_ | refine vw_seq ?_ | refine vw_region (by kernel_rfl) ?_ | refine vw_ret ?_)
    exact out1 rfl rfl (new := []) List.nodup_nil sub_nil NewI.nil
  | some a =>
    repeat (first | refine vops_q tyOk rfl ?_ | refine vops_nil ?_ | refine vw_seq ?_ | refine vw_region (by kernel_rfl) ?_ | refine vw_cond rfl ?_ | refine vops_isNil tyOk rfl rfl rfl ?_)
    refine bs_false ?_
    repeat (first | refine vops_q tyOk rfl ?_ | refine vops_nil ?_ | refine vw_seq ?_ | refine vw_region (by kernel_rfl) ?_ | refine vw_skip ?_ | refine vw_ret ?_ | refine vops_build0 tyOk rfl rfl (fun be hbe => ?_) | refine vops_appendL (k := 1) (q := []) (q2 := l) tyOk rfl rfl (List.cons_ne_nil _ _) rfl rfl (by decide) rfl NewF.empty (by repeat (first | exact pm_here | exact pm_last | apply pm_next | apply pm_past)) rfl (fun w' hg => rdI_F (hv.same hg.fr)) (by omega) (fun p' cap' new' hN' => ?_))
    have hN2 : NewI 2 l (.slice p' (0 + l.length) cap') new' := by
      have h2 : NewF 2 1 (0 + l.length) l (.slice p' (0 + l.length) cap') new' := by simpa using hN'
      rw [Nat.zero_add] at h2 ⊢
      exact h2
    exact out1 rfl rfl (SlAt.nodup hN2) (by repeat (first | exact sub_hereL | exact sub_refl | apply sub_cons | apply sub_app)) hN2

/-- A base round of n players. -/
def IsBase (n : Int) (q : List Int) : Prop := 4 ≤ n ∧ n ≤ 16 ∧ n % 4 ≤ 1 ∧ (q.length : Int) = n - n % 4 ∧ DiffL n q
open Classical in
noncomputable def madeR (n : Int) (q : List Int) : (Int × List (List Int)) × Int := if IsBase n q then ((n, madeT (mOf n.toNat) q (mOf n.toNat)), 0) else ((0, []), 2)
theorem madeT_sum (m : Nat) (l : List Int) : ∀ k, sumLen (madeT m l k) = k * l.length
  | 0 => by simp [madeT, sumLen]
  | k + 1 => by rw [madeT_succ, sumLen_snoc, madeT_sum m l k, List.length_map, Nat.add_mul, Nat.one_mul]
theorem madeR_ok (n : Int) (q : List Int) : (madeR n q).1.2.length ≤ 1048576 ∧ (∀ l ∈ (madeR n q).1.2, l.length ≤ 1048576) ∧ sumLen (madeR n q).1.2 ≤ 1048576 := by
  unfold madeR
  split
  · rename_i h
    obtain ⟨h1, h2, h3, h4, h5⟩ := h
    have hm : mOf n.toNat ≤ 17 := by unfold mOf; omega
    have hq : q.length ≤ 16 := by omega
    refine ⟨by show (madeT _ _ _).length ≤ _; rw [madeT_length]; omega, fun l hl => ?_, ?_⟩
    · obtain ⟨i, _, rfl⟩ := madeT_mem (show l ∈ madeT _ _ _ from hl)
      rw [List.length_map]; omega
    · show sumLen (madeT _ _ _) ≤ _
      rw [madeT_sum]
      calc mOf n.toNat * q.length ≤ 17 * 16 := Nat.mul_le_mul hm hq
        _ ≤ _ := by omega
  · simp [sumLen]
/-- A list, of which the first k have been turned. -/
def mixW (l k : Nat) (g h : Nat → Int) : List Int := lst l fun j => if j < k then g j else h j
theorem mixW_length (l k : Nat) (g h : Nat → Int) : (mixW l k g h).length = l := lst_length _ _
theorem mixW_zero (l : Nat) (g h : Nat → Int) : mixW l 0 g h = lst l h := lst_congr fun j _ => by rw [if_neg (by omega)]
theorem mixW_all (l : Nat) (g h : Nat → Int) : mixW l l g h = lst l g := lst_congr fun j hj => by rw [if_pos hj]
theorem mixW_set (l k : Nat) (g h : Nat → Int) : (mixW l k g h).set k (g k) = mixW l (k + 1) g h := by
  unfold mixW
  rw [lst_set]
  refine lst_congr fun j _ => ?_
  by_cases e : j = k
  · subst e; rw [if_pos rfl, if_pos (by omega)]
  · rw [if_neg e]
    by_cases h2 : j < k
    · rw [if_pos h2, if_pos (by omega)]
    · rw [if_neg h2, if_neg (by omega)]
theorem mixW_same {l k : Nat} {g h : Nat → Int} (e : g k = h k) : mixW l (k + 1) g h = mixW l k g h := by
  unfold mixW
  refine lst_congr fun j _ => ?_
  by_cases h1 : j = k
  · subst h1; rw [if_pos (by omega), if_neg (by omega), e]
  · by_cases h2 : j < k
    · rw [if_pos h2, if_pos (by omega)]
    · rw [if_neg h2, if_neg (by omega)]
theorem map_lst (l : List Int) (g : Int → Int) : l.map g = lst l.length fun j => g (l.getD j 0) := by
  apply List.ext_getElem (by simp [lst])
  intro j h1 h2
  have hj : j < l.length := by simpa using h1
  simp [lst, List.getElem?_eq_getElem hj]
theorem madeT_take {m : Nat} {l : List Int} {k i : Nat} (h : i < k) : (madeT m l k).take (i + 1) = (madeT m l k).take i ++ [l.map (shI m i)] := by rw [List.take_add_one, madeT_get h]; rfl

open Classical in
set_option maxHeartbeats 2000000 in
set_option maxRecDepth 100000 in
theorem c_madeFrom (n : Nat) (v : Value) (q : List Int) (w : World) (hv : RdI w v q) (h4 : 4 ≤ n) (h16 : n ≤ 16) (hn4 : n % 4 ≤ 1) (hq0 : 0 < q.length) (hq : q.length ≤ 16) (hD : ∀ x ∈ q, 0 ≤ x ∧ x < n) :
    Calls Try.prog 175 [.int .i64 n, v].toArray w (Res w (SqG 42 2 n (madeT (mOf n) q (mOf n)))) := by
  obtain ⟨a, cap, rfl⟩ := hv.len
  obtain ⟨bq, oq, capq, heq, hcq⟩ := hv.at (i := 0) hq0
  cases heq
  refine calls_of_vw Try.func175 rfl Try.ntmps175 (by simp) ?_
  refine vw_seq (vw_region (by kernel_rfl) (vops_allocZ [.int .i64 0, .slice none 0 0] tyOk rfl rfl (by simp) (fun b4 hb4 => ?_)))
  have hm0 : 0 < mOf n := by unfold mOf; omega
  have hm17 : mOf n ≤ 17 := by unfold mOf; omega
  have hmi : (n : Int) - 1 + (n : Int) % 2 = (mOf n : Nat) := by unfold mOf; omega
  obtain ⟨m, hm⟩ : ∃ m, m = mOf n := ⟨_, rfl⟩
  rw [← hm] at hm0 hm17 hmi ⊢
  have hrob : ∀ w', Calls Try.prog 182 [Value.int .i64 n].toArray w' (Res w' (Is (.int .i64 m))) := fun w' => by rw [← hmi]; exact c_robinW n (by omega) (by omega) w'
  clear hm hmi
  repeat (first | refine vops_q tyOk rfl ?_ | refine vops_nil ?_ | refine vw_seq ?_ | refine vw_region (by kernel_rfl) ?_ | (apply vops_callp ent182 rfl; (intro w' hg; exact hrob w')))
  refine vops_make (n := m) tyOk rfl rfl (List.cons_ne_nil _ _) rfl rfl (by show 24 * _ ≤ _; omega) (by omega) (fun bo hbo => ?_)
  have hmade : (madeCells ([Value.slice none 0 0] : List Value).toArray (m * 1)).toList = List.replicate m (Value.slice none 0 0) := by
    rw [Nat.mul_one]; exact made_same _ 1 _ (by omega)
  repeat (first | refine vops_q tyOk rfl ?_ | refine vops_nil ?_ | refine vw_seq ?_ | refine vw_region (by kernel_rfl) ?_ | refine vw_block ?_ | refine vops_allocZ [.int .i64 0, .slice none 0 0] tyOk rfl rfl (by simp) (fun b6 hb6 => ?_) | ((show VOps _ _ _ _ (⟨some _, Go.Op.load _ _, _, _, _, none⟩ :: _) _ _); refine vops_loadM tyOk rfl rfl rfl (by repeat (first | exact mem_here | apply mem_next | apply mem_past)) (by rfl) ?_) | ((show VOps _ _ _ _ (⟨none, Go.Op.store _ _ _, _, _, _, none⟩ :: _) _ _); refine vops_storeAM tyOk rfl rfl rfl (by first | rfl | (rw [ints_length]; first | assumption | omega | (rw [ints_length]; first | assumption | omega | simp [*])) | simp [*]) (by first | exact ints_one | simp [Value.oneCell']) (by repeat (first | exact upd_here | apply upd_next | apply upd_past)) (by first | rfl | (rw [ints_length]; first | assumption | omega | (rw [ints_length]; first | assumption | omega | simp [*])) | simp [*]) ?_) | refine vops_build2 rfl rfl (by kernel_rfl) ?_)
  refine vw_loopW (fun y f own => ∃ (i : Nat) (vs : List Value) (ns : List Own), i ≤ m ∧ y = m - i ∧ f 19 = .int .i64 i ∧ f 18 = .int .i64 m ∧ f 5 = .int .i64 m ∧ f 6 = .pointer (some ⟨b6, 0, none⟩) ∧ f 4 = .pointer (some ⟨b4, 0, none⟩) ∧ f 1 = .slice (some ⟨bq, oq, none⟩) q.length cap ∧
      Go.VL.RowsAt 2 ((madeT m q m).take i) vs ns ∧
      own = (b6, ⟨[.int .i64 n, .slice (some ⟨bo, 0, none⟩) m m], 58, 2, none⟩) :: (bo, ⟨vs ++ List.replicate (m - i) (.slice none 0 0), 42, m * 1, none⟩) :: (ns.flatten ++ [(b4, ⟨[.int .i64 0, .slice none 0 0], 58, 2, none⟩)])) m
    ⟨_, ole_refl, 0, [], [], by omega, by omega, rfl, rfl, rfl, rfl, rfl, rfl, by simp [Go.VL.RowsAt], by rw [List.nil_append, Nat.sub_zero, ← hmade]; rfl⟩ ?_
  rintro y f own ⟨i, vs, ns, hi, rfl, h19, h18, h5, h6, h4', h1, hRw, rfl⟩
  rw [upd_of h19, upd_of h18, upd_of h5, upd_of h6, upd_of h4', upd_of h1]
  have hvl : vs.length = i := by rw [hRw.len.1, List.length_take, madeT_length, Nat.min_eq_left hi]
  repeat (first | refine vops_q tyOk rfl ?_ | refine vops_nil ?_ | refine vw_seq ?_ | refine vw_region (by kernel_rfl) ?_ | refine vw_cond rfl ?_)
  refine bs_dec (fun hlt => ?_) (fun hlt => ?_)
  · have him : i < m := by omega
    have hst := madeT_take (l := q) him (m := m)
    have hrep : List.replicate (m - i) (Value.slice none 0 0) = .slice none 0 0 :: List.replicate (m - (i + 1)) (.slice none 0 0) := by
      rw [show m - i = (m - (i + 1)) + 1 by omega, List.replicate_succ]
    have hidx : 0 + (i : Int).toNat = i := by omega
    repeat (first | refine vops_q tyOk rfl ?_ | refine vops_nil ?_ | refine vw_seq ?_ | refine vw_region (by kernel_rfl) ?_ | refine vw_skip ?_ | refine vw_block ?_)
    refine vw_draw [0, 1, 2, 3, 4, 5, 6] (by kernel_rfl) (by kernel_rfl) (by kernel_rfl) rfl ?_
    repeat' (first | refine vd_q tyOk rfl (by first | trivial | rfl) rfl (by kernel_rfl) (by kernel_rfl) ?_ | refine vd_p tyOk rfl (by first | trivial | rfl) rfl (by kernel_rfl) (by kernel_rfl) (by (try simp only [inR]); omega) ?_ | refine vops_nil ?_ | refine vd_nil (by kernel_rfl) ?_ | refine ⟨fun _ _ _ h => List.mem_append_right _ h, ?_⟩ | refine vd_load tyOk rfl (by first | trivial | rfl) rfl rfl rfl (by kernel_rfl) (by kernel_rfl) (by kernel_rfl) (sees_mem (by repeat (first | exact mem_here | apply mem_next | apply mem_past)) (by rfl)) (by repeat (first | exact sub_hereL | exact sub_refl | apply sub_cons | apply sub_app)) ?_ | refine ⟨fun h => Bool.noConfusion (show false = true from h), ?_⟩ | (apply vops_call ent266 rfl; (intro w' hg; exact c_clone _ q w' (hv.same hg.fr) (by omega)); (intro _ newN hN; obtain ⟨pN, cN, rfl⟩ := SlAt.form hN)) | refine vops_storeM (o := i) tyOk rfl rfl (by exact congrArg (fun x => Value.pointer (some ⟨bo, x, none⟩)) hidx) rfl rfl (by repeat (first | exact upd_here | apply upd_next | apply upd_past)) (by rw [List.length_append, List.length_replicate]; omega) ?_ | refine vd_one rfl (by kernel_rfl) (by kernel_rfl) rfl ?_)
    obtain ⟨br, rfl, rfl, hc1, hc2, _⟩ := NewF.blk (NewI.f hN) hq0
    rw [hrep, set_next hvl, show ints q = ints (mixW q.length 0 (fun j => shI m i (q.getD j 0)) fun j => q.getD j 0) by rw [mixW_zero, ← lst_of q]]
    repeat (first | refine vops_q tyOk rfl ?_ | refine vops_nil ?_ | refine vw_seq ?_ | refine vw_region (by kernel_rfl) ?_ | refine vw_block ?_)
    refine vw_loopW (fun y f own => ∃ (k : Nat), k ≤ q.length ∧ y = q.length - k ∧ f 30 = .int .i64 k ∧ f 29 = .int .i64 q.length ∧ f 28 = .slice (some ⟨bq, oq, none⟩) q.length cap ∧ f 7 = .int .i64 i ∧ f 19 = .int .i64 i ∧ f 18 = .int .i64 m ∧ f 5 = .int .i64 m ∧ f 6 = .pointer (some ⟨b6, 0, none⟩) ∧ f 4 = .pointer (some ⟨b4, 0, none⟩) ∧ f 1 = .slice (some ⟨bq, oq, none⟩) q.length cap ∧
        own = (br, ⟨ints (mixW q.length k (fun j => shI m i (q.getD j 0)) fun j => q.getD j 0), 2, cN * 1, none⟩) :: (b6, ⟨[.int .i64 n, .slice (some ⟨bo, 0, none⟩) m m], 58, 2, none⟩) :: (bo, ⟨(vs ++ [.slice (some ⟨br, 0, none⟩) q.length cN]) ++ List.replicate (m - (i + 1)) (.slice none 0 0), 42, m * 1, none⟩) :: (ns.flatten ++ [(b4, ⟨[.int .i64 0, .slice none 0 0], 58, 2, none⟩)])) q.length
      ⟨_, (by repeat (first | exact ole_nil | exact ole_refl | (apply ole_cons; (repeat (first | exact pm1_here | apply pm1_next | apply pm1_past))) | (apply ole_app; (repeat (first | exact pm_here | exact pm_last | apply pm_next | apply pm_past))))), 0, by omega, by omega, rfl, rfl, rfl, rfl, rfl, rfl, rfl, rfl, rfl, rfl, rfl⟩ ?_
    rintro y f own ⟨k, hk, rfl, h30, h29, h28, h7, h19, h18, h5, h6, h4', h1, rfl⟩
    rw [upd_of h30, upd_of h29, upd_of h28, upd_of h7, upd_of h19, upd_of h18, upd_of h5, upd_of h6, upd_of h4', upd_of h1]
    repeat (first | refine vops_q tyOk rfl ?_ | refine vops_nil ?_ | refine vw_seq ?_ | refine vw_region (by kernel_rfl) ?_ | refine vw_cond rfl ?_)
    refine bs_dec (fun hlt2 => ?_) (fun hlt2 => ?_)
    · have hkr : k < q.length := by omega
      have hc := hcq k hkr
      have hrg := hD _ (mem_getD hkr)
      have hpw := mixW_length q.length k (fun j => shI m i (q.getD j 0)) fun j => q.getD j 0
      have hrow : ((vs ++ [Value.slice (some ⟨br, 0, none⟩) q.length cN]) ++ List.replicate (m - (i + 1)) (.slice none 0 0))[0 + (i : Int).toNat]? = some (.slice (some ⟨br, 0, none⟩) q.length cN) := by
        rw [List.append_assoc]; exact cellAtEnd hvl (by omega)
      repeat (first | refine vops_q tyOk rfl ?_ | refine vops_nil ?_ | refine vw_seq ?_ | refine vw_region (by kernel_rfl) ?_ | refine vops_p tyOk rfl (by (try simp only [inR]); omega) ?_ | refine vw_cond rfl ?_ | refine vw_skip ?_ | refine vw_block ?_ | refine vops_load tyOk rfl rfl rfl (sees_old hc (by simp)) ?_)
      refine bs_dec (fun hxm => ?_) (fun hxm => ?_)
      · have hsh : shI m i (q.getD k 0) = (q.getD k 0 + (i : Int)) % (m : Int) := by rw [shI, if_pos hxm]
        skip
        refine vw_draw [0, 1, 2, 3, 4, 5, 6, 7, 8, 9, 10, 11, 12] (by kernel_rfl) (by kernel_rfl) (by kernel_rfl) rfl ?_
        repeat' (first | refine vd_q tyOk rfl (by first | trivial | rfl) rfl (by kernel_rfl) (by kernel_rfl) ?_ | refine vd_p tyOk rfl (by first | trivial | rfl) rfl (by kernel_rfl) (by kernel_rfl) (by (try simp only [inR]); omega) ?_ | refine vops_nil ?_ | refine vd_nil (by kernel_rfl) ?_ | refine vd_load tyOk rfl (by first | trivial | rfl) rfl rfl rfl (by kernel_rfl) (by kernel_rfl) (by kernel_rfl) (sees_mem (by repeat (first | exact mem_here | apply mem_next | apply mem_past)) (by rfl)) (by repeat (first | exact sub_hereL | exact sub_refl | apply sub_cons | apply sub_app)) ?_ | refine vd_load tyOk rfl (by first | trivial | rfl) rfl rfl rfl (by kernel_rfl) (by kernel_rfl) (by kernel_rfl) (sees_mem (by repeat (first | exact mem_here | apply mem_next | apply mem_past)) (by exact hrow)) (by repeat (first | exact sub_hereL | exact sub_refl | apply sub_cons | apply sub_app)) ?_ | refine vops_storeIM tyOk rfl rfl rfl rfl (by repeat (first | exact upd_here | apply upd_next | apply upd_past)) (by omega) ?_ | refine ⟨fun h => Bool.noConfusion (show false = true from h), ?_⟩ | refine vd_one rfl (by kernel_rfl) (by kernel_rfl) rfl ?_)
        repeat (first | refine vops_q tyOk rfl ?_ | refine vops_nil ?_ | refine vw_region (by kernel_rfl) ?_ | refine vops_p tyOk rfl (by (try simp only [inR]); omega) ?_)
        refine ⟨q.length - (k + 1), by omega, _, ole_refl, k + 1, by omega, rfl, rfl, rfl, rfl, rfl, rfl, rfl, rfl, rfl, rfl, rfl, ?_⟩
        rw [← mixW_set q.length k (fun j => shI m i (q.getD j 0)) fun j => q.getD j 0, hsh]; rfl
      · have hsh : shI m i (q.getD k 0) = q.getD k 0 := by rw [shI, if_neg hxm]
        repeat (first | refine vops_q tyOk rfl ?_ | refine vops_nil ?_ | refine vw_region (by kernel_rfl) ?_ | refine vops_p tyOk rfl (by (try simp only [inR]); omega) ?_ | refine vw_skip ?_)
        refine ⟨q.length - (k + 1), by omega, _, ole_refl, k + 1, by omega, rfl, rfl, rfl, rfl, rfl, rfl, rfl, rfl, rfl, rfl, rfl, ?_⟩
        rw [mixW_same (k := k) hsh]
    · obtain rfl : k = q.length := by omega
      repeat (first | refine vops_q tyOk rfl ?_ | refine vops_nil ?_ | refine vw_region (by kernel_rfl) ?_ | refine vops_p tyOk rfl (by (try simp only [inR]); omega) ?_ | refine vw_exit ?_)
      rw [mixW_all, ← map_lst]
      refine ⟨m - (i + 1), by omega, (b6, ⟨[.int .i64 n, .slice (some ⟨bo, 0, none⟩) m m], 58, 2, none⟩) :: (bo, ⟨(vs ++ [.slice (some ⟨br, 0, none⟩) q.length cN]) ++ List.replicate (m - (i + 1)) (.slice none 0 0), 42, m * 1, none⟩) :: (ns.flatten ++ ((br, ⟨ints (q.map (shI m i)), 2, cN * 1, none⟩) :: [(b4, ⟨[.int .i64 0, .slice none 0 0], 58, 2, none⟩)])), (by repeat (first | exact ole_nil | exact ole_refl | (apply ole_cons; (repeat (first | exact pm1_here | apply pm1_next | apply pm1_past))) | (apply ole_app; (repeat (first | exact pm_here | exact pm_last | apply pm_next | apply pm_past))))), i + 1, vs ++ [.slice (some ⟨br, 0, none⟩) q.length cN], ns ++ [[(br, ⟨ints (q.map (shI m i)), 2, cN * 1, none⟩)]], by omega, rfl, rfl, rfl, rfl, rfl, rfl, rfl, ?_, by rw [flat_snoc, List.append_assoc ns.flatten]; rfl⟩
      rw [hst]
      refine RowsAt.snoc ?_ hRw
      have := NewI.lit (e := 2) (b := br) (n := q.length) (cap := cN) (l := q.map (shI m i)) (List.length_map _) hc1 hc2
      exact this
  · obtain rfl : i = m := by omega
    rw [List.take_of_length_le (by rw [madeT_length]; omega)] at hRw
    refine vw_nodup (fun hnd => ?_)
    rw [Nat.sub_self, List.replicate_zero, List.append_nil] at hnd ⊢
    repeat (first | refine vops_nil ?_ | refine vw_seq ?_ | refine vw_region (by kernel_rfl) ?_ | refine vw_ret ?_ | refine vw_exit ?_ | ((show VOps _ _ _ _ (⟨some _, Go.Op.load _ _, _, _, _, none⟩ :: _) _ _); refine vops_loadNM tyOk rfl rfl rfl (by repeat (first | exact mem_here | apply mem_next | apply mem_past)) (by first | rfl | (rw [ints_length]; first | assumption | omega | (rw [ints_length]; first | assumption | omega | simp [*])) | simp [*]) ?_) | ((show VOps _ _ _ _ (⟨none, Go.Op.store _ _ _, _, _, _, none⟩ :: _) _ _); refine vops_storeAM tyOk rfl rfl rfl (by first | rfl | (rw [ints_length]; first | assumption | omega | (rw [ints_length]; first | assumption | omega | simp [*])) | simp [*]) (by first | exact ints_one | simp [Value.oneCell']) (by repeat (first | exact upd_here | apply upd_next | apply upd_past)) (by first | rfl | (rw [ints_length]; first | assumption | omega | (rw [ints_length]; first | assumption | omega | simp [*])) | simp [*]) ?_))
    refine sqG_ok tyOk (ls := madeT i q i) rfl rfl rfl rfl rfl (by repeat (first | exact mem_here | apply mem_next | apply mem_past)) (by rw [madeT_length]) (.inl ⟨vs, ns, [(bo, ⟨vs, 42, i * 1, none⟩)], hRw, ⟨by rw [hvl, madeT_length, Nat.mul_one], .inr ⟨bo, i, by rw [madeT_length], by rw [madeT_length]; exact Nat.le_refl _, by simp only [maxLen]; omega, rfl⟩⟩, rfl⟩) ?_ (fun x hx => ?_) rfl rfl
    · exact nodup_sub hnd (((List.sublist_append_left _ _).cons_cons _).cons _)
    · rcases List.mem_cons.1 hx with h | h
      · rw [h]; exact List.mem_cons_of_mem _ List.mem_cons_self
      · exact List.mem_cons_of_mem _ (List.mem_cons_of_mem _ (List.mem_append_left _ h))
end Go.Proofs.Ytdgaabkgfbihpaa

/- A part of the proof: W7S. No conditions of its own. -/
namespace Go.Proofs.Ytdgaabkgfbihpaa
open Go.VL
attribute [local irreducible] VWr VOps VD Calls

theorem madeR_yes {n : Int} {q : List Int} (h : IsBase n q) : madeR n q = ((n, madeT (mOf n.toNat) q (mOf n.toNat)), 0) := by rw [madeR, if_pos h]

open Classical in
set_option maxHeartbeats 2000000 in
set_option maxRecDepth 100000 in
theorem c_impl_MadeFrom (n : Int) (v : Value) (q : List Int) (w : World) (hv : RdC w v q) (hq : q.length ≤ 1048576) :
    Calls Try.prog 67 [.int .i64 n, v].toArray w (Res w (PairSq 42 2 (madeR n q))) := by
  obtain ⟨a, cap, rfl, hcap⟩ := hv.len
  refine calls_of_vw Try.func67 rfl Try.ntmps67 (by simp) ?_
  refine vw_seq (vw_region (by kernel_rfl) (vops_allocZ [.int .i64 0, .slice none 0 0] tyOk rfl rfl (by simp) (fun b4 hb4 => ?_)))
  by_cases hs : (4 ≤ n ∧ n ≤ 16) ∧ n % 4 ≤ 1 ∧ (q.length : Int) = n - n % 4
  rotate_left
  · repeat' (first | refine vops_q tyOk rfl ?_ | refine vops_nil ?_ | refine vw_seq ?_ | refine vw_region (by kernel_rfl) ?_ | refine vops_guardF rfl rfl ?_ | with_reducible refine bs_true ?_ | with_reducible refine bs_false ?_ | refine vops_p tyOk rfl (by (try simp only [inR]); omega) ?_ | refine vw_cond rfl ?_ | refine vw_ret ?_ | (with_reducible refine bs_dec (fun _ => ?_) (fun _ => ?_)) <;> try (exfalso; omega) | (with_reducible refine bs_ndec (fun _ => ?_) (fun _ => ?_)) <;> try (exfalso; omega) | (apply vops_callp ent172 rfl; (intro w _; exact c_isPlayerCount _ w)) | (apply vops_callp ent173 rfl; (intro w' hg; exact c_playersOfBase n (by omega) (by omega) w')) | ((show VOps _ _ _ _ (⟨none, Go.Op.store _ _ _, _, _, _, none⟩ :: _) _ _); refine vops_storeAM tyOk rfl rfl rfl (by first | rfl | (rw [ints_length]; first | assumption | omega | (rw [ints_length]; first | assumption | omega | simp [*])) | simp [*]) (by first | exact ints_one | simp [Value.oneCell']) (by repeat (first | exact upd_here | apply upd_next | apply upd_past)) (by first | rfl | (rw [ints_length]; first | assumption | omega | (rw [ints_length]; first | assumption | omega | simp [*])) | simp [*]) ?_) | refine vops_buildZ tyOk rfl (by kernel_rfl) ?_)
    all_goals first | (exfalso; omega) | exact pairSq_err tyOk rfl rfl rfl rfl rfl (by repeat (first | exact mem_here | apply mem_next | apply mem_past)) rfl (by rw [madeR, if_neg fun h => hs ⟨⟨h.1, h.2.1⟩, h.2.2.1, h.2.2.2.1⟩])
  obtain ⟨⟨h4, h16⟩, hn4, hql⟩ := hs
  obtain ⟨k, rfl⟩ : ∃ k : Nat, n = (k : Int) := ⟨n.toNat, by omega⟩
  by_cases hD : DiffL k q
  · have hB : IsBase k q := ⟨h4, h16, hn4, hql, hD⟩
    have hR := madeR_yes hB
    rw [Int.toNat_natCast] at hR
    repeat' (first | refine vops_q tyOk rfl ?_ | refine vops_nil ?_ | refine vw_seq ?_ | refine vw_region (by kernel_rfl) ?_ | refine vops_guardF rfl rfl ?_ | with_reducible refine bs_false ?_ | refine vops_p tyOk rfl (by (try simp only [inR]); omega) ?_ | refine vw_cond rfl ?_ | refine vw_skip ?_ | refine vw_ret ?_ | (with_reducible refine bs_dec (fun _ => ?_) (fun _ => ?_)) <;> try (exfalso; omega) | (with_reducible refine bs_ndec (fun _ => ?_) (fun _ => ?_)) <;> try (exfalso; omega) | (apply vops_callp ent172 rfl; (intro w _; exact c_isPlayerCount _ w)) | (apply vops_callp ent173 rfl; (intro w' hg; exact c_playersOfBase _ (by omega) (by omega) w')) | (apply vops_callp ent174 rfl; (intro w' hg; exact c_areDifferent _ q _ w' (hv.same hg.fr) hq)) | (apply vops_call ent175 rfl; (intro w' hg; exact c_madeFrom k _ q w' (hv.1.same hg.fr) (by omega) (by omega) (by omega) (by omega) (by omega) hD.1); (rintro _ newN ⟨p, cp, rfl, hN⟩); refine vops_nodup (fun hnd => ?_)) | ((show VOps _ _ _ _ (⟨none, Go.Op.store _ _ _, _, _, _, none⟩ :: _) _ _); refine vops_storeAM tyOk rfl rfl rfl (by first | rfl | (rw [ints_length]; first | assumption | omega | (rw [ints_length]; first | assumption | omega | simp [*])) | simp [*]) (by first | exact ints_one | simp [Value.oneCell']) (by repeat (first | exact upd_here | apply upd_next | apply upd_past)) (by first | rfl | (rw [ints_length]; first | assumption | omega | (rw [ints_length]; first | assumption | omega | simp [*])) | simp [*]) ?_) | refine vops_buildZ tyOk rfl (by kernel_rfl) ?_)
    all_goals first | (exfalso; first | omega | contradiction) | skip
    exact pairSq_ok tyOk rfl rfl rfl rfl rfl (by repeat (first | exact mem_here | apply mem_next | apply mem_past)) rfl rfl hN (nodup_sub hnd (List.sublist_append_left _ _)) (by repeat (first | exact sub_hereL | exact sub_refl | apply sub_cons | apply sub_app)) hR
  · repeat' (first | refine vops_q tyOk rfl ?_ | refine vops_nil ?_ | refine vw_seq ?_ | refine vw_region (by kernel_rfl) ?_ | refine vops_guardF rfl rfl ?_ | with_reducible refine bs_false ?_ | refine vops_p tyOk rfl (by (try simp only [inR]); omega) ?_ | refine vw_cond rfl ?_ | refine vw_skip ?_ | refine vw_ret ?_ | (with_reducible refine bs_dec (fun _ => ?_) (fun _ => ?_)) <;> try (exfalso; omega) | (with_reducible refine bs_ndec (fun _ => ?_) (fun _ => ?_)) <;> try (exfalso; omega) | (apply vops_callp ent172 rfl; (intro w _; exact c_isPlayerCount _ w)) | (apply vops_callp ent173 rfl; (intro w' hg; exact c_playersOfBase _ (by omega) (by omega) w')) | (apply vops_callp ent174 rfl; (intro w' hg; exact c_areDifferent _ q _ w' (hv.same hg.fr) hq)) | ((show VOps _ _ _ _ (⟨none, Go.Op.store _ _ _, _, _, _, none⟩ :: _) _ _); refine vops_storeAM tyOk rfl rfl rfl (by first | rfl | (rw [ints_length]; first | assumption | omega | (rw [ints_length]; first | assumption | omega | simp [*])) | simp [*]) (by first | exact ints_one | simp [Value.oneCell']) (by repeat (first | exact upd_here | apply upd_next | apply upd_past)) (by first | rfl | (rw [ints_length]; first | assumption | omega | (rw [ints_length]; first | assumption | omega | simp [*])) | simp [*]) ?_) | refine vops_buildZ tyOk rfl (by kernel_rfl) ?_)
    all_goals first | (exfalso; first | omega | contradiction) | exact pairSq_err tyOk rfl rfl rfl rfl rfl (by repeat (first | exact mem_here | apply mem_next | apply mem_past)) rfl (by rw [madeR, if_neg fun h => hD h.2.2.2.2])

open Classical in
set_option maxHeartbeats 2000000 in
set_option maxRecDepth 100000 in
theorem c_l06Made (n : Nat) (v : Value) (q : List Int) (w : World) (hv : RdI w v q) (h4 : 4 ≤ n) (h16 : n ≤ 16) (hn4 : n % 4 ≤ 1) (hq : q.length ≤ 16) (hD : ∀ x ∈ q, 0 ≤ x ∧ x < n) :
    Calls Try.prog 177 [.int .i64 n, v].toArray w (Res w (SqG 42 2 n (madeT (mOf n) q (mOf n)))) := by
  obtain ⟨a, cap, rfl⟩ := hv.len
  refine calls_of_vw Try.func177 rfl Try.ntmps177 (by simp) ?_
  refine vw_seq (vw_region (by kernel_rfl) (vops_allocZ [.int .i64 0, .slice none 0 0] tyOk rfl rfl (by simp) (fun b4 hb4 => ?_)))
  have hm0 : 0 < mOf n := by unfold mOf; omega
  have hm17 : mOf n ≤ 17 := by unfold mOf; omega
  have hmi : (n : Int) - 1 + (n : Int) % 4 = (mOf n : Nat) := by unfold mOf; omega
  generalize mOf n = m at *
  repeat (first | refine vops_q tyOk rfl ?_ | refine vops_nil ?_ | refine vw_seq ?_ | refine vw_region (by kernel_rfl) ?_ | refine vops_p tyOk rfl (by (try simp only [inR]); omega) ?_ | refine vops_build0 tyOk rfl rfl (fun be hbe => ?_) | refine vops_build2 rfl rfl (by kernel_rfl) ?_)
  refine vops_allocZ [.int .i64 0, .slice none 0 0] tyOk rfl rfl (by simp) (fun b5 hb5 => ?_)
  rw [hmi]
  repeat (first | refine vops_q tyOk rfl ?_ | refine vops_nil ?_ | refine vw_seq ?_ | refine vw_region (by kernel_rfl) ?_ | refine vw_block ?_ | ((show VOps _ _ _ _ (⟨none, Go.Op.store _ _ _, _, _, _, none⟩ :: _) _ _); refine vops_storeAM tyOk rfl rfl rfl (by first | rfl | (rw [ints_length]; first | assumption | omega | (rw [ints_length]; first | assumption | omega | simp [*])) | simp [*]) (by first | exact ints_one | simp [Value.oneCell']) (by repeat (first | exact upd_here | apply upd_next | apply upd_past)) (by first | rfl | (rw [ints_length]; first | assumption | omega | (rw [ints_length]; first | assumption | omega | simp [*])) | simp [*]) ?_))
  refine vw_loopW (fun y f own => ∃ (i : Nat) (p : Option Addr) (cp : Nat) (vs : List Value) (ns : List Own) (outer : Own), i ≤ m ∧ y = m - i ∧ f 7 = .int .i64 i ∧ f 6 = .int .i64 m ∧ f 5 = .pointer (some ⟨b5, 0, none⟩) ∧ f 4 = .pointer (some ⟨b4, 0, none⟩) ∧ f 1 = .slice a q.length cap ∧
      Go.VL.RowsAt 2 ((madeT m q m).take i) vs ns ∧ SlAt 42 1 (.slice p i cp) i vs outer [] ∧
      own = outer ++ (ns.flatten ++ [(b5, ⟨[.int .i64 n, .slice p i cp], 58, 2, none⟩), (b4, ⟨[.int .i64 0, .slice none 0 0], 58, 2, none⟩)])) m
    ⟨[(be, ⟨[], 42, 0, none⟩)] ++ ([] ++ [(b5, ⟨[.int .i64 n, .slice (some ⟨be, 0, none⟩) 0 0], 58, 2, none⟩), (b4, ⟨[.int .i64 0, .slice none 0 0], 58, 2, none⟩)]), (by repeat (first | exact ole_nil | exact ole_refl | (apply ole_cons; (repeat (first | exact pm1_here | apply pm1_next | apply pm1_past))) | (apply ole_app; (repeat (first | exact pm_here | exact pm_last | apply pm_next | apply pm_past))))), 0, some ⟨be, 0, none⟩, 0, [], [], [(be, ⟨[], 42, 0, none⟩)], by omega, by omega, rfl, rfl, rfl, rfl, rfl, by simp [Go.VL.RowsAt], SlAt.empty, rfl⟩ ?_
  rintro y f own ⟨i, p, cp, vs, ns, outer, hi, rfl, h7, h6, h5, h4', h1, hRw, hO, rfl⟩
  rw [upd_of h7, upd_of h6, upd_of h5, upd_of h4', upd_of h1]
  repeat (first | refine vops_q tyOk rfl ?_ | refine vops_nil ?_ | refine vw_seq ?_ | refine vw_region (by kernel_rfl) ?_ | refine vw_cond rfl ?_)
  refine bs_dec (fun hlt => ?_) (fun hlt => ?_)
  · have him : i < m := by omega
    have hst := madeT_take (l := q) him (m := m)
    repeat (first | refine vops_q tyOk rfl ?_ | refine vops_nil ?_ | refine vw_seq ?_ | refine vw_region (by kernel_rfl) ?_ | refine vw_skip ?_ | refine vw_block ?_ | refine vops_build0 tyOk rfl rfl (fun be2 hbe2 => ?_))
    refine vw_loopW (fun y f own => ∃ (k : Nat) (pr : Option Addr) (cr : Nat) (new : Own), k ≤ q.length ∧ y = q.length - k ∧ f 9 = .int .i64 k ∧ f 8 = .slice pr (lst k fun j => shI m i (q.getD j 0)).length cr ∧ f 7 = .int .i64 i ∧ f 6 = .int .i64 m ∧ f 5 = .pointer (some ⟨b5, 0, none⟩) ∧ f 4 = .pointer (some ⟨b4, 0, none⟩) ∧ f 1 = .slice a q.length cap ∧
        NewI 2 (lst k fun j => shI m i (q.getD j 0)) (.slice pr (lst k fun j => shI m i (q.getD j 0)).length cr) new ∧
        own = new ++ (outer ++ (ns.flatten ++ [(b5, ⟨[.int .i64 n, .slice p i cp], 58, 2, none⟩), (b4, ⟨[.int .i64 0, .slice none 0 0], 58, 2, none⟩)]))) q.length
      ⟨_, ole_refl, 0, some ⟨be2, 0, none⟩, 0, [(be2, ⟨[], 2, 0, none⟩)], by omega, by omega, rfl, rfl, rfl, rfl, rfl, rfl, rfl, NewI.empty, rfl⟩ ?_
    rintro y f own ⟨k, pr, cr, new, hk, rfl, h9, h8, h7, h6, h5, h4', h1, hN, rfl⟩
    rw [upd_of h9, upd_of h8, upd_of h7, upd_of h6, upd_of h5, upd_of h4', upd_of h1]
    have hll2 := lst_length k fun j => shI m i (q.getD j 0)
    repeat (first | refine vops_q tyOk rfl ?_ | refine vops_nil ?_ | refine vw_seq ?_ | refine vw_region (by kernel_rfl) ?_ | refine vw_cond rfl ?_)
    refine bs_dec (fun hlt2 => ?_) (fun hlt2 => ?_)
    · have hkr : k < q.length := by omega
      obtain ⟨b3, o3, cap3, he, hcell⟩ := hv.at (i := k) hkr
      cases he
      have hc := hcell k hkr
      have hrg := hD _ (mem_getD hkr)
      have hst2 : lst (k + 1) (fun j => shI m i (q.getD j 0)) = lst k (fun j => shI m i (q.getD j 0)) ++ [shI m i (q.getD k 0)] := lst_succ _ _
      generalize lst k (fun j => shI m i (q.getD j 0)) = L at *
      repeat (first | refine vops_q tyOk rfl ?_ | refine vops_nil ?_ | refine vw_seq ?_ | refine vw_region (by kernel_rfl) ?_ | refine vops_p tyOk rfl (by (try simp only [inR]); omega) ?_ | refine vw_cond rfl ?_ | refine vw_skip ?_ | refine vw_block ?_ | refine vops_load tyOk rfl rfl rfl (sees_old hc (by simp)) ?_)
      refine bs_dec (fun hxm => ?_) (fun hxm => ?_)
      · have hsh : shI m i (q.getD k 0) = (q.getD k 0 + (i : Int)) % (m : Int) := by rw [shI, if_pos hxm]
        rw [hsh] at hst2
        repeat (first | refine vops_q tyOk rfl ?_ | refine vops_nil ?_ | refine vw_region (by kernel_rfl) ?_ | refine vops_p tyOk rfl (by (try simp only [inR]); omega) ?_ | refine vops_load tyOk rfl rfl rfl (sees_old hc (by simp)) ?_ | refine vops_litI [_] tyOk rfl rfl (List.cons_ne_nil _ _) (by rfl) rfl (by omega) (by omega) (fun bt hbt => ?_) | refine vops_append1 (k := 1) tyOk rfl rfl (List.cons_ne_nil _ _) rfl rfl (by decide) rfl hN (by repeat (first | exact pm_here | exact pm_last | apply pm_next | apply pm_past)) rfl (by repeat (first | exact mem_here | apply mem_next | apply mem_past)) rfl (by omega) (fun p' cap' new' hN' => ?_))
        refine ⟨q.length - (k + 1), by omega, _, (by repeat (first | exact ole_nil | exact ole_refl | (apply ole_cons; (repeat (first | exact pm1_here | apply pm1_next | apply pm1_past))) | (apply ole_app; (repeat (first | exact pm_here | exact pm_last | apply pm_next | apply pm_past))))), k + 1, p', cap', new', by omega, rfl, rfl, ?_, rfl, rfl, rfl, rfl, rfl, ?_, rfl⟩
        · rw [hst2, List.length_append]; rfl
        · rw [hst2, List.length_append]; exact NewI.snoc hN' rfl
      · have hsh : shI m i (q.getD k 0) = q.getD k 0 := by rw [shI, if_neg hxm]
        rw [hsh] at hst2
        repeat (first | refine vops_q tyOk rfl ?_ | refine vops_nil ?_ | refine vw_region (by kernel_rfl) ?_ | refine vops_p tyOk rfl (by (try simp only [inR]); omega) ?_ | refine vops_load tyOk rfl rfl rfl (sees_old hc (by simp)) ?_ | refine vops_litI [_] tyOk rfl rfl (List.cons_ne_nil _ _) (by rfl) rfl (by omega) (by omega) (fun bt hbt => ?_) | refine vops_append1 (k := 1) tyOk rfl rfl (List.cons_ne_nil _ _) rfl rfl (by decide) rfl hN (by repeat (first | exact pm_here | exact pm_last | apply pm_next | apply pm_past)) rfl (by repeat (first | exact mem_here | apply mem_next | apply mem_past)) rfl (by omega) (fun p' cap' new' hN' => ?_))
        refine ⟨q.length - (k + 1), by omega, _, (by repeat (first | exact ole_nil | exact ole_refl | (apply ole_cons; (repeat (first | exact pm1_here | apply pm1_next | apply pm1_past))) | (apply ole_app; (repeat (first | exact pm_here | exact pm_last | apply pm_next | apply pm_past))))), k + 1, p', cap', new', by omega, rfl, rfl, ?_, rfl, rfl, rfl, rfl, rfl, ?_, rfl⟩
        · rw [hst2, List.length_append]; rfl
        · rw [hst2, List.length_append]; exact NewI.snoc hN' rfl
    · obtain rfl : k = q.length := by omega
      repeat (first | refine vops_q tyOk rfl ?_ | refine vops_nil ?_ | refine vw_region (by kernel_rfl) ?_ | refine vops_p tyOk rfl (by (try simp only [inR]); omega) ?_ | refine vw_exit ?_ | refine vops_litV tyOk rfl rfl (List.cons_ne_nil _ _) rfl rfl rfl (fun bl hbl => ?_) | refine vops_appendV tyOk rfl rfl (List.cons_ne_nil _ _) rfl rfl (by decide) rfl hO (by repeat (first | exact pm_here | exact pm_last | apply pm_next | apply pm_past)) rfl (by repeat (first | exact mem_here | apply mem_next | apply mem_past)) rfl (by omega) (fun p' cap' new' hN' => ?_) | ((show VOps _ _ _ _ (⟨some _, Go.Op.load _ _, _, _, _, none⟩ :: _) _ _); refine vops_loadM tyOk rfl rfl rfl (by repeat (first | exact mem_here | apply mem_next | apply mem_past)) (by rfl) ?_) | ((show VOps _ _ _ _ (⟨none, Go.Op.store _ _ _, _, _, _, none⟩ :: _) _ _); refine vops_storeM tyOk rfl rfl rfl rfl rfl (by repeat (first | exact upd_here | apply upd_next | apply upd_past)) (by simp) ?_))
      refine ⟨m - (i + 1), by omega, new' ++ ((ns ++ [new]).flatten ++ [(b5, ⟨[.int .i64 n, .slice p' (i + 1) cap'], 58, 2, none⟩), (b4, ⟨[.int .i64 0, .slice none 0 0], 58, 2, none⟩)]), by rw [flat_snoc, List.append_assoc ns.flatten]; exact (by repeat (first | exact ole_nil | exact ole_refl | (apply ole_cons; (repeat (first | exact pm1_here | apply pm1_next | apply pm1_past))) | (apply ole_app; (repeat (first | exact pm_here | exact pm_last | apply pm_next | apply pm_past))))), i + 1, p', cap', _, ns ++ [new], new', by omega, rfl, rfl, rfl, rfl, rfl, rfl, ?_, hN', rfl⟩
      rw [hst, map_lst]
      exact RowsAt.snoc hN hRw
  · obtain rfl : i = m := by omega
    rw [List.take_of_length_le (by rw [madeT_length]; omega)] at hRw
    refine vw_nodup (fun hnd => ?_)
    repeat (first | refine vops_nil ?_ | refine vw_seq ?_ | refine vw_region (by kernel_rfl) ?_ | refine vw_ret ?_ | refine vw_exit ?_ | ((show VOps _ _ _ _ (⟨some _, Go.Op.load _ _, _, _, _, none⟩ :: _) _ _); refine vops_loadNM tyOk rfl rfl rfl (by repeat (first | exact mem_here | apply mem_next | apply mem_past)) (by first | rfl | (rw [ints_length]; first | assumption | omega | (rw [ints_length]; first | assumption | omega | simp [*])) | simp [*]) ?_) | ((show VOps _ _ _ _ (⟨none, Go.Op.store _ _ _, _, _, _, none⟩ :: _) _ _); refine vops_storeAM tyOk rfl rfl rfl (by first | rfl | (rw [ints_length]; first | assumption | omega | (rw [ints_length]; first | assumption | omega | simp [*])) | simp [*]) (by first | exact ints_one | simp [Value.oneCell']) (by repeat (first | exact upd_here | apply upd_next | apply upd_past)) (by first | rfl | (rw [ints_length]; first | assumption | omega | (rw [ints_length]; first | assumption | omega | simp [*])) | simp [*]) ?_))
    have hnd2 : (ids (outer ++ ns.flatten)).Nodup := nodup_sub hnd ((List.sublist_append_left _ _).append_left _)
    exact sqG_ok tyOk rfl rfl rfl rfl rfl (by repeat (first | exact mem_here | apply mem_next | apply mem_past)) (ls := madeT i q i) (by rw [madeT_length]) (.inl ⟨vs, ns, outer, hRw, by rw [madeT_length]; exact hO, rfl⟩) hnd2 (fun q hq => by rw [← List.append_assoc]; exact List.mem_append_left _ hq) rfl rfl

open Classical in
set_option maxHeartbeats 2000000 in
set_option maxRecDepth 100000 in
theorem c_spec_MadeFrom (n : Int) (v : Value) (q : List Int) (w : World) (hv : RdI w v q) (hq : q.length ≤ 1048576) :
    Calls Try.prog 68 [.int .i64 n, v].toArray w (Res w (PairSq 42 2 (madeR n q))) := by
  obtain ⟨a, cap, rfl⟩ := hv.len
  refine calls_of_vw Try.func68 rfl Try.ntmps68 (by simp) ?_
  refine vw_seq (vw_region (by kernel_rfl) (vops_allocZ [.int .i64 0, .slice none 0 0] tyOk rfl rfl (by simp) (fun b4 hb4 => ?_)))
  by_cases hs : (4 ≤ n ∧ n ≤ 16) ∧ n % 4 ≤ 1 ∧ (q.length : Int) = n - n % 4
  rotate_left
  · repeat' (first | refine vops_q tyOk rfl ?_ | refine vops_nil ?_ | refine vw_seq ?_ | refine vw_region (by kernel_rfl) ?_ | refine vops_guardF rfl rfl ?_ | with_reducible refine bs_true ?_ | with_reducible refine bs_false ?_ | refine vops_p tyOk rfl (by (try simp only [inR]); omega) ?_ | refine vw_cond rfl ?_ | refine vw_ret ?_ | (with_reducible refine bs_dec (fun _ => ?_) (fun _ => ?_)) <;> try (exfalso; omega) | (with_reducible refine bs_ndec (fun _ => ?_) (fun _ => ?_)) <;> try (exfalso; omega) | (apply vops_callp ent155 rfl; (intro w _; exact c_l01In _ _ _ w)) | ((show VOps _ _ _ _ (⟨none, Go.Op.store _ _ _, _, _, _, none⟩ :: _) _ _); refine vops_storeAM tyOk rfl rfl rfl (by first | rfl | (rw [ints_length]; first | assumption | omega | (rw [ints_length]; first | assumption | omega | simp [*])) | simp [*]) (by first | exact ints_one | simp [Value.oneCell']) (by repeat (first | exact upd_here | apply upd_next | apply upd_past)) (by first | rfl | (rw [ints_length]; first | assumption | omega | (rw [ints_length]; first | assumption | omega | simp [*])) | simp [*]) ?_) | refine vops_buildZ tyOk rfl (by kernel_rfl) ?_)
    all_goals first | (exfalso; omega) | exact pairSq_err tyOk rfl rfl rfl rfl rfl (by repeat (first | exact mem_here | apply mem_next | apply mem_past)) rfl (by rw [madeR, if_neg fun h => hs ⟨⟨h.1, h.2.1⟩, h.2.2.1, h.2.2.2.1⟩])
  obtain ⟨⟨h4, h16⟩, hn4, hql⟩ := hs
  obtain ⟨k, rfl⟩ : ∃ k : Nat, n = (k : Int) := ⟨n.toNat, by omega⟩
  by_cases hD : DiffL k q
  · have hB : IsBase k q := ⟨h4, h16, hn4, hql, hD⟩
    have hR := madeR_yes hB
    have hE : EvRow k q := ⟨by omega, hD⟩
    rw [Int.toNat_natCast] at hR
    repeat' (first | refine vops_q tyOk rfl ?_ | refine vops_nil ?_ | refine vw_seq ?_ | refine vw_region (by kernel_rfl) ?_ | refine vops_guardF rfl rfl ?_ | with_reducible refine bs_false ?_ | refine vops_p tyOk rfl (by (try simp only [inR]); omega) ?_ | refine vw_cond rfl ?_ | refine vw_skip ?_ | refine vw_ret ?_ | (with_reducible refine bs_dec (fun _ => ?_) (fun _ => ?_)) <;> try (exfalso; omega) | (with_reducible refine bs_ndec (fun _ => ?_) (fun _ => ?_)) <;> try (exfalso; omega) | (apply vops_callp ent155 rfl; (intro w _; exact c_l01In _ _ _ w)) | (apply vops_callp ent176 rfl; (intro w' hg; exact c_l06Round _ q _ w' (hv.same hg.fr) hq (by omega) (by omega))) | (apply vops_call ent177 rfl; (intro w' hg; exact c_l06Made k _ q w' (hv.same hg.fr) (by omega) (by omega) (by omega) (by omega) hD.1); (rintro _ newN ⟨p, cp, rfl, hN⟩); refine vops_nodup (fun hnd => ?_)) | ((show VOps _ _ _ _ (⟨none, Go.Op.store _ _ _, _, _, _, none⟩ :: _) _ _); refine vops_storeAM tyOk rfl rfl rfl (by first | rfl | (rw [ints_length]; first | assumption | omega | (rw [ints_length]; first | assumption | omega | simp [*])) | simp [*]) (by first | exact ints_one | simp [Value.oneCell']) (by repeat (first | exact upd_here | apply upd_next | apply upd_past)) (by first | rfl | (rw [ints_length]; first | assumption | omega | (rw [ints_length]; first | assumption | omega | simp [*])) | simp [*]) ?_) | refine vops_buildZ tyOk rfl (by kernel_rfl) ?_)
    all_goals first | (exfalso; first | omega | contradiction) | skip
    exact pairSq_ok tyOk rfl rfl rfl rfl rfl (by repeat (first | exact mem_here | apply mem_next | apply mem_past)) rfl rfl hN (nodup_sub hnd (List.sublist_append_left _ _)) (by repeat (first | exact sub_hereL | exact sub_refl | apply sub_cons | apply sub_app)) hR
  · repeat' (first | refine vops_q tyOk rfl ?_ | refine vops_nil ?_ | refine vw_seq ?_ | refine vw_region (by kernel_rfl) ?_ | refine vops_guardF rfl rfl ?_ | with_reducible refine bs_false ?_ | refine vops_p tyOk rfl (by (try simp only [inR]); omega) ?_ | refine vw_cond rfl ?_ | refine vw_skip ?_ | refine vw_ret ?_ | (with_reducible refine bs_dec (fun _ => ?_) (fun _ => ?_)) <;> try (exfalso; omega) | (with_reducible refine bs_ndec (fun _ => ?_) (fun _ => ?_)) <;> try (exfalso; omega) | (apply vops_callp ent155 rfl; (intro w _; exact c_l01In _ _ _ w)) | (apply vops_callp ent176 rfl; (intro w' hg; exact c_l06Round _ q _ w' (hv.same hg.fr) hq (by omega) (by omega))) | ((show VOps _ _ _ _ (⟨none, Go.Op.store _ _ _, _, _, _, none⟩ :: _) _ _); refine vops_storeAM tyOk rfl rfl rfl (by first | rfl | (rw [ints_length]; first | assumption | omega | (rw [ints_length]; first | assumption | omega | simp [*])) | simp [*]) (by first | exact ints_one | simp [Value.oneCell']) (by repeat (first | exact upd_here | apply upd_next | apply upd_past)) (by first | rfl | (rw [ints_length]; first | assumption | omega | (rw [ints_length]; first | assumption | omega | simp [*])) | simp [*]) ?_) | refine vops_buildZ tyOk rfl (by kernel_rfl) ?_)
    all_goals first | (exfalso; first | omega | exact hD (by assumption : EvRow _ _).2) | exact pairSq_err tyOk rfl rfl rfl rfl rfl (by repeat (first | exact mem_here | apply mem_next | apply mem_past)) rfl (by rw [madeR, if_neg fun h => hD h.2.2.2.2])
end Go.Proofs.Ytdgaabkgfbihpaa

/- A part of the proof: W6S. No conditions of its own. -/
namespace Go.Proofs.Ytdgaabkgfbihpaa
open Go.VL
attribute [local irreducible] VWr VOps VD Calls

open Classical in
set_option maxHeartbeats 2000000 in
set_option maxRecDepth 100000 in
theorem c_spec_RenumberPlayers (m : Int) (v u : Value) (ls : List (List Int)) (q : List Int) (w : World) (hv : RdII w v ls) (hu : RdI w u q) (hl : ls.length ≤ 1048576) (hll : ∀ l ∈ ls, l.length ≤ 1048576) (hq : q.length ≤ 1048576) :
    Calls Try.prog 72 [.agg #[.int .i64 m, v], u].toArray w (Res w (PairSq 42 2 (renPR m ls q))) := by
  obtain ⟨a, cap, rfl⟩ := hv.len
  obtain ⟨a5, cap5, rfl⟩ := hu.len
  refine calls_of_vw Try.func72 rfl Try.ntmps72 (by simp) ?_
  refine vw_seq (vw_region (by kernel_rfl) (vops_box [.int .i64 m, .slice a ls.length cap] rfl (fun b2 hb2 => ?_)))
  refine vops_allocZ [.int .i64 0, .slice none 0 0] tyOk rfl rfl (by simp) (fun b4 hb4 => ?_)
  repeat (first | refine vops_q tyOk rfl ?_ | refine vops_nil ?_ | refine vw_seq ?_ | refine vw_region (by kernel_rfl) ?_ | refine vw_cond rfl ?_ | refine vw_block ?_ | (apply vops_callp ent163 rfl; (intro w' hg; exact c_l06Is m _ ls w' (hv.same hg.fr) hl hll)) | ((show VOps _ _ _ _ (⟨some _, Go.Op.load _ _, _, _, _, none⟩ :: _) _ _); refine vops_loadNM tyOk rfl rfl rfl (by repeat (first | exact mem_here | apply mem_next | apply mem_past)) (by first | rfl | (rw [ints_length]; first | assumption | omega | (rw [ints_length]; first | assumption | omega | simp [*])) | simp [*]) ?_))
  refine bs_ndec2 (fun h => ?_) (fun h => ?_)
  · repeat (first | refine vops_q tyOk rfl ?_ | refine vops_nil ?_ | refine vw_seq ?_ | refine vw_region (by kernel_rfl) ?_ | refine vw_ret ?_ | ((show VOps _ _ _ _ (⟨none, Go.Op.store _ _ _, _, _, _, none⟩ :: _) _ _); refine vops_storeAM tyOk rfl rfl rfl (by first | rfl | (rw [ints_length]; first | assumption | omega | (rw [ints_length]; first | assumption | omega | simp [*])) | simp [*]) (by first | exact ints_one | simp [Value.oneCell']) (by repeat (first | exact upd_here | apply upd_next | apply upd_past)) (by first | rfl | (rw [ints_length]; first | assumption | omega | (rw [ints_length]; first | assumption | omega | simp [*])) | simp [*]) ?_) | refine vops_buildZ tyOk rfl (by kernel_rfl) ?_)
    exact pairSq_err tyOk rfl rfl rfl rfl rfl (by repeat (first | exact mem_here | apply mem_next | apply mem_past)) rfl (by rw [renPR, if_neg h])
  have hk1 := h.1
  have hk2 := h.2.1
  have h20 := h.2.2.1
  repeat (first | refine vops_q tyOk rfl ?_ | refine vops_nil ?_ | refine vw_seq ?_ | refine vw_region (by kernel_rfl) ?_ | refine vw_cond rfl ?_ | (apply vops_callp ent179 rfl; (intro w' hg; exact c_l01Order _ q _ w' (hu.same hg.fr) hq (by omega) (by omega))) | ((show VOps _ _ _ _ (⟨some _, Go.Op.load _ _, _, _, _, none⟩ :: _) _ _); refine vops_loadM tyOk rfl rfl rfl (by repeat (first | exact mem_here | apply mem_next | apply mem_past)) (by rfl) ?_))
  refine bs_ndec2 (fun hp => ?_) (fun hp => ?_)
  · repeat (first | refine vops_q tyOk rfl ?_ | refine vops_nil ?_ | refine vw_seq ?_ | refine vw_region (by kernel_rfl) ?_ | refine vw_ret ?_ | ((show VOps _ _ _ _ (⟨none, Go.Op.store _ _ _, _, _, _, none⟩ :: _) _ _); refine vops_storeAM tyOk rfl rfl rfl (by first | rfl | (rw [ints_length]; first | assumption | omega | (rw [ints_length]; first | assumption | omega | simp [*])) | simp [*]) (by first | exact ints_one | simp [Value.oneCell']) (by repeat (first | exact upd_here | apply upd_next | apply upd_past)) (by first | rfl | (rw [ints_length]; first | assumption | omega | (rw [ints_length]; first | assumption | omega | simp [*])) | simp [*]) ?_) | refine vops_buildZ tyOk rfl (by kernel_rfl) ?_)
    exact pairSq_err tyOk rfl rfl rfl rfl rfl (by repeat (first | exact mem_here | apply mem_next | apply mem_past)) rfl (by rw [renPR, if_pos h, if_neg hp])
  have hR : renPR m ls q = ((m, renP q ls), 0) := by rw [renPR, if_pos h, if_pos hp]
  have hpl := hp.1
  obtain ⟨bq, oq, capq, heq, hcq⟩ := hu.at (i := 0) (by omega)
  cases heq
  repeat (first | refine vops_q tyOk rfl ?_ | refine vw_seq ?_ | refine vw_region (by kernel_rfl) ?_ | refine vw_skip ?_ | refine vops_build0 tyOk rfl rfl (fun be hbe => ?_) | ((show VOps _ _ _ _ (⟨some _, Go.Op.load _ _, _, _, _, none⟩ :: _) _ _); refine vops_loadM tyOk rfl rfl rfl (by repeat (first | exact mem_here | apply mem_next | apply mem_past)) (by rfl) ?_) | refine vops_build2 rfl rfl (by kernel_rfl) ?_)
  refine vops_allocZ [.int .i64 0, .slice none 0 0] tyOk rfl rfl (by simp) (fun b6 hb6 => ?_)
  repeat (first | refine vops_q tyOk rfl ?_ | refine vops_nil ?_ | refine vw_seq ?_ | refine vw_region (by kernel_rfl) ?_ | refine vw_block ?_ | ((show VOps _ _ _ _ (⟨none, Go.Op.store _ _ _, _, _, _, none⟩ :: _) _ _); refine vops_storeAM tyOk rfl rfl rfl (by first | rfl | (rw [ints_length]; first | assumption | omega | (rw [ints_length]; first | assumption | omega | simp [*])) | simp [*]) (by first | exact ints_one | simp [Value.oneCell']) (by repeat (first | exact upd_here | apply upd_next | apply upd_past)) (by first | rfl | (rw [ints_length]; first | assumption | omega | (rw [ints_length]; first | assumption | omega | simp [*])) | simp [*]) ?_))
  refine vw_loopW (fun y f own => ∃ (i : Nat) (p : Option Addr) (cp : Nat) (vs : List Value) (ns : List Own) (outer : Own), i ≤ ls.length ∧ y = ls.length - i ∧ f 7 = .int .i64 i ∧ f 6 = .pointer (some ⟨b6, 0, none⟩) ∧ f 4 = .pointer (some ⟨b4, 0, none⟩) ∧ f 2 = .pointer (some ⟨b2, 0, none⟩) ∧ f 1 = .slice (some ⟨bq, oq, none⟩) q.length cap5 ∧
      Go.VL.RowsAt 2 ((renP q ls).take i) vs ns ∧ SlAt 42 1 (.slice p i cp) i vs outer [] ∧
      own = outer ++ (ns.flatten ++ [(b6, ⟨[.int .i64 m, .slice p i cp], 58, 2, none⟩), (b4, ⟨[.int .i64 0, .slice none 0 0], 58, 2, none⟩), (b2, ⟨[.int .i64 m, .slice a ls.length cap], 58, 2, none⟩)])) ls.length
    ⟨[(be, ⟨[], 42, 0, none⟩)] ++ ([] ++ [(b6, ⟨[.int .i64 m, .slice (some ⟨be, 0, none⟩) 0 0], 58, 2, none⟩), (b4, ⟨[.int .i64 0, .slice none 0 0], 58, 2, none⟩), (b2, ⟨[.int .i64 m, .slice a ls.length cap], 58, 2, none⟩)]), (by repeat (first | exact ole_nil | exact ole_refl | (apply ole_cons; (repeat (first | exact pm1_here | apply pm1_next | apply pm1_past))) | (apply ole_app; (repeat (first | exact pm_here | exact pm_last | apply pm_next | apply pm_past))))), 0, some ⟨be, 0, none⟩, 0, [], [], [(be, ⟨[], 42, 0, none⟩)], by omega, by omega, rfl, rfl, rfl, rfl, rfl, by simp [Go.VL.RowsAt], SlAt.empty, rfl⟩ ?_
  rintro y f own ⟨i, p, cp, vs, ns, outer, hi, rfl, h7, h6, h4, h2, h1, hRw, hO, rfl⟩
  rw [upd_of h7, upd_of h6, upd_of h4, upd_of h2, upd_of h1]
  repeat (first | refine vops_q tyOk rfl ?_ | refine vops_nil ?_ | refine vw_seq ?_ | refine vw_region (by kernel_rfl) ?_ | refine vw_cond rfl ?_ | ((show VOps _ _ _ _ (⟨some _, Go.Op.load _ _, _, _, _, none⟩ :: _) _ _); refine vops_loadM tyOk rfl rfl rfl (by repeat (first | exact mem_here | apply mem_next | apply mem_past)) (by rfl) ?_))
  refine bs_dec (fun hlt => ?_) (fun hlt => ?_)
  · have hil : i < ls.length := by omega
    have hst := renP_take (q := q) hil
    obtain ⟨b, o, cap', ua, cap2, he, hcu, hur⟩ := rdRow hv (i := i) hil
    cases he
    have hmem : ls.getD i [] ∈ ls := by rw [List.getD_eq_getElem?_getD, List.getElem?_eq_getElem hil]; exact List.getElem_mem _
    have hrl : (ls.getD i []).length ≤ 16 := h.len hmem
    have hD := (h.2.2.2 _ hmem).2
    generalize ls.getD i [] = r at *
    repeat (first | refine vops_q tyOk rfl ?_ | refine vops_nil ?_ | refine vw_seq ?_ | refine vw_region (by kernel_rfl) ?_ | refine vw_skip ?_ | refine vw_block ?_ | refine vops_build0 tyOk rfl rfl (fun be2 hbe2 => ?_))
    refine vw_loopW (fun y f own => ∃ (k : Nat) (pr : Option Addr) (cr : Nat) (new : Own), k ≤ r.length ∧ y = r.length - k ∧ f 9 = .int .i64 k ∧ f 8 = .slice pr (lst k fun j => q.getD (r.getD j 0).toNat 0).length cr ∧ f 7 = .int .i64 i ∧ f 6 = .pointer (some ⟨b6, 0, none⟩) ∧ f 4 = .pointer (some ⟨b4, 0, none⟩) ∧ f 2 = .pointer (some ⟨b2, 0, none⟩) ∧ f 1 = .slice (some ⟨bq, oq, none⟩) q.length cap5 ∧
        NewI 2 (lst k fun j => q.getD (r.getD j 0).toNat 0) (.slice pr (lst k fun j => q.getD (r.getD j 0).toNat 0).length cr) new ∧
        own = new ++ (outer ++ (ns.flatten ++ [(b6, ⟨[.int .i64 m, .slice p i cp], 58, 2, none⟩), (b4, ⟨[.int .i64 0, .slice none 0 0], 58, 2, none⟩), (b2, ⟨[.int .i64 m, .slice (some ⟨b, o, none⟩) ls.length cap], 58, 2, none⟩)]))) r.length
      ⟨_, ole_refl, 0, some ⟨be2, 0, none⟩, 0, [(be2, ⟨[], 2, 0, none⟩)], by omega, by omega, rfl, rfl, rfl, rfl, rfl, rfl, rfl, NewI.empty, rfl⟩ ?_
    rintro y f own ⟨k, pr, cr, new, hk, rfl, h9, h8, h7, h6, h4, h2, h1, hN, rfl⟩
    rw [upd_of h9, upd_of h8, upd_of h7, upd_of h6, upd_of h4, upd_of h2, upd_of h1]
    have hll2 := lst_length k fun j => q.getD (r.getD j 0).toNat 0
    repeat (first | refine vops_q tyOk rfl ?_ | refine vops_nil ?_ | refine vw_seq ?_ | refine vw_region (by kernel_rfl) ?_ | refine vops_p tyOk rfl (by (try simp only [inR]); omega) ?_ | refine vw_cond rfl ?_ | refine vops_load tyOk rfl rfl rfl (sees_old hcu (by simp)) ?_ | ((show VOps _ _ _ _ (⟨some _, Go.Op.load _ _, _, _, _, none⟩ :: _) _ _); refine vops_loadM tyOk rfl rfl rfl (by repeat (first | exact mem_here | apply mem_next | apply mem_past)) (by rfl) ?_))
    refine bs_dec (fun hlt2 => ?_) (fun hlt2 => ?_)
    · have hkr : k < r.length := by omega
      obtain ⟨b3, o3, cap3, he, hcell⟩ := hur.at (i := k) hkr
      cases he
      have hc := hcell k hkr
      have hrg := hD.get hkr
      have hqx := hcq (r.getD k 0).toNat (by omega)
      have hst2 : lst (k + 1) (fun j => q.getD (r.getD j 0).toNat 0) = lst k (fun j => q.getD (r.getD j 0).toNat 0) ++ [q.getD (r.getD k 0).toNat 0] := lst_succ _ _
      generalize lst k (fun j => q.getD (r.getD j 0).toNat 0) = L at *
      repeat (first | refine vops_q tyOk rfl ?_ | refine vops_nil ?_ | refine vw_seq ?_ | refine vw_region (by kernel_rfl) ?_ | refine vops_p tyOk rfl (by (try simp only [inR]); omega) ?_ | refine vw_skip ?_ | refine vw_block ?_ | refine vops_load tyOk rfl rfl rfl (sees_old hcu (by simp)) ?_ | refine vops_load tyOk rfl rfl rfl (sees_old hc (by simp)) ?_ | refine vops_load tyOk rfl rfl rfl (sees_old hqx (by simp)) ?_ | refine vops_litI [_] tyOk rfl rfl (List.cons_ne_nil _ _) (by rfl) rfl (by omega) (by omega) (fun bt hbt => ?_) | refine vops_append1 (k := 1) tyOk rfl rfl (List.cons_ne_nil _ _) rfl rfl (by decide) rfl hN (by repeat (first | exact pm_here | exact pm_last | apply pm_next | apply pm_past)) rfl (by repeat (first | exact mem_here | apply mem_next | apply mem_past)) rfl (by omega) (fun p' cap' new' hN' => ?_) | ((show VOps _ _ _ _ (⟨some _, Go.Op.load _ _, _, _, _, none⟩ :: _) _ _); refine vops_loadM tyOk rfl rfl rfl (by repeat (first | exact mem_here | apply mem_next | apply mem_past)) (by rfl) ?_))
      refine ⟨r.length - (k + 1), by omega, _, (by repeat (first | exact ole_nil | exact ole_refl | (apply ole_cons; (repeat (first | exact pm1_here | apply pm1_next | apply pm1_past))) | (apply ole_app; (repeat (first | exact pm_here | exact pm_last | apply pm_next | apply pm_past))))), k + 1, p', cap', new', by omega, rfl, rfl, ?_, rfl, rfl, rfl, rfl, rfl, ?_, rfl⟩
      · rw [hst2, List.length_append]; rfl
      · rw [hst2, List.length_append]; exact NewI.snoc hN' rfl
    · obtain rfl : k = r.length := by omega
      repeat (first | refine vops_q tyOk rfl ?_ | refine vops_nil ?_ | refine vw_region (by kernel_rfl) ?_ | refine vops_p tyOk rfl (by (try simp only [inR]); omega) ?_ | refine vw_exit ?_ | refine vops_litV tyOk rfl rfl (List.cons_ne_nil _ _) rfl rfl rfl (fun bl hbl => ?_) | refine vops_appendV tyOk rfl rfl (List.cons_ne_nil _ _) rfl rfl (by decide) rfl hO (by repeat (first | exact pm_here | exact pm_last | apply pm_next | apply pm_past)) rfl (by repeat (first | exact mem_here | apply mem_next | apply mem_past)) rfl (by omega) (fun p' cap' new' hN' => ?_) | ((show VOps _ _ _ _ (⟨some _, Go.Op.load _ _, _, _, _, none⟩ :: _) _ _); refine vops_loadM tyOk rfl rfl rfl (by repeat (first | exact mem_here | apply mem_next | apply mem_past)) (by rfl) ?_) | ((show VOps _ _ _ _ (⟨none, Go.Op.store _ _ _, _, _, _, none⟩ :: _) _ _); refine vops_storeM tyOk rfl rfl rfl rfl rfl (by repeat (first | exact upd_here | apply upd_next | apply upd_past)) (by simp) ?_))
      refine ⟨ls.length - (i + 1), by omega, new' ++ ((ns ++ [new]).flatten ++ [(b6, ⟨[.int .i64 m, .slice p' (i + 1) cap'], 58, 2, none⟩), (b4, ⟨[.int .i64 0, .slice none 0 0], 58, 2, none⟩), (b2, ⟨[.int .i64 m, .slice (some ⟨b, o, none⟩) ls.length cap], 58, 2, none⟩)]), by rw [flat_snoc, List.append_assoc ns.flatten]; exact (by repeat (first | exact ole_nil | exact ole_refl | (apply ole_cons; (repeat (first | exact pm1_here | apply pm1_next | apply pm1_past))) | (apply ole_app; (repeat (first | exact pm_here | exact pm_last | apply pm_next | apply pm_past))))), i + 1, p', cap', _, ns ++ [new], new', by omega, rfl, rfl, rfl, rfl, rfl, rfl, ?_, hN', rfl⟩
      rw [hst]
      exact RowsAt.snoc hN hRw
  · obtain rfl : i = ls.length := by omega
    rw [List.take_of_length_le (by rw [renP_length]; omega)] at hRw
    refine vw_nodup (fun hnd => ?_)
    repeat (first | refine vops_q tyOk rfl ?_ | refine vops_nil ?_ | refine vw_seq ?_ | refine vw_region (by kernel_rfl) ?_ | refine vw_ret ?_ | refine vw_exit ?_ | ((show VOps _ _ _ _ (⟨some _, Go.Op.load _ _, _, _, _, none⟩ :: _) _ _); refine vops_loadNM tyOk rfl rfl rfl (by repeat (first | exact mem_here | apply mem_next | apply mem_past)) (by first | rfl | (rw [ints_length]; first | assumption | omega | (rw [ints_length]; first | assumption | omega | simp [*])) | simp [*]) ?_) | ((show VOps _ _ _ _ (⟨none, Go.Op.store _ _ _, _, _, _, none⟩ :: _) _ _); refine vops_storeAM tyOk rfl rfl rfl (by first | rfl | (rw [ints_length]; first | assumption | omega | (rw [ints_length]; first | assumption | omega | simp [*])) | simp [*]) (by first | exact ints_one | simp [Value.oneCell']) (by repeat (first | exact upd_here | apply upd_next | apply upd_past)) (by first | rfl | (rw [ints_length]; first | assumption | omega | (rw [ints_length]; first | assumption | omega | simp [*])) | simp [*]) ?_))
    have hnd2 : (ids (outer ++ ns.flatten)).Nodup := nodup_sub hnd ((List.sublist_append_left _ _).append_left _)
    exact pairSq_ok tyOk rfl rfl rfl rfl rfl (by repeat (first | exact mem_here | apply mem_next | apply mem_past)) rfl (ls := renP q ls) (by rw [renP_length]) (.inl ⟨vs, ns, outer, hRw, by rw [renP_length]; exact hO, rfl⟩) hnd2 (fun q hq => by rw [← List.append_assoc]; exact List.mem_append_left _ hq) hR
end Go.Proofs.Ytdgaabkgfbihpaa

