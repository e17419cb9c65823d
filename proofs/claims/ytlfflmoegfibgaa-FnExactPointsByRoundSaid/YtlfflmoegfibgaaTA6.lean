import Derived.Test.YtlfflmoegfibgaaTA5
import Derived.Test.YtlfflmoegfibgaaVLA
/- A part of the proof: TA6. No conditions of its own. -/
namespace Go.Proofs.Ytlfflmoegfibgaa
open Go.VL
attribute [local irreducible] VWr VOps VD Calls

/-- A row of a list of rows of one's own, wherever it lies. -/
theorem newR_row {e k : Nat} {L : List (List Int)} {v : Value} {new : Own} (h : NewR e k L v new) (hk : ∀ o ∈ L, o.length = k) {i : Nat} {o : List Int} (hi : L[i]? = some o) :
    ∃ b cap, v = .slice (some ⟨b, 0, none⟩) L.length cap ∧ ∀ {Γ : Ctx} {own : Own}, Sub new own → ∀ j x, (ints o)[j]? = some x → Sees Γ own b (0 + i * k + j) x := by
  have hlt := (List.getElem?_eq_some_iff.1 hi).1
  obtain ⟨p, cap, rfl⟩ := SlAt.form h
  obtain ⟨b, rfl, hn, _⟩ := NewF.blk (NewR.f h) (by omega)
  refine ⟨b, cap, rfl, fun hs j x hx w hg => ?_⟩
  obtain ⟨b', o', cap', he, hc⟩ := (h.rd (hg.ok.sub (SlAt.nodup h) hs)).row hk hi
  cases he
  exact hc j x hx
theorem OutOk.len {k m : Nat} {o : List Int} (h : OutOk k m o) : o.length = 4 := by
  obtain ⟨_, _, _, _, _, _, _, _, _, rfl⟩ := h; rfl
theorem sumB_take {x y : Int} {L : List (List Int)} {i : Nat} {o : List Int} (h : L[i]? = some o) : sumB x y (L.take (i + 1)) = sumB x y (L.take i) + if o.getD 1 0 = x ∧ o.getD 2 0 = y then o.getD 3 0 else 0 := by
  rw [List.take_add_one, h]
  show sumB x y (L.take i ++ [o]) = _
  rw [sumB_append]; simp only [sumB, Int.add_zero]

open Classical in
set_option maxHeartbeats 4000000 in
set_option maxRecDepth 100000 in
theorem c_impl_PointsBetween (n x y : Int) (v u : Value) (rs xs : List (List Int)) (w : World) (hv : RdS w v rs) (hu : RdCC w u xs) (hr : ∀ r ∈ rs, r.length = 14) (hl : rs.length ≤ 1048576) (hl2 : xs.length ≤ 1048576) (hll : ∀ l ∈ xs, l.length ≤ 1048576) (hcap : ∀ a m c, v = .slice a m c → m ≤ c) :
    Calls Try.prog 36 [.agg #[.int .i64 n, v], u, .int .i64 x, .int .i64 y].toArray w (Res w (Is (.tuple #[.int .i64 (betR n rs xs x y).1, .int .i64 (betR n rs xs x y).2.1, .int .i64 (betR n rs xs x y).2.2]))) := by
  obtain ⟨a, cap, rfl⟩ := hv.len
  obtain ⟨a2, cap2, rfl⟩ := hu.len
  refine calls_of_vw Try.func36 rfl Try.ntmps36 (by simp) ?_
  refine vw_seq (vw_region (by kernel_rfl) (vops_box [.int .i64 n, .slice a rs.length cap] rfl (fun b4 hb4 => ?_)))
  have hC : ∀ (w' : World) (B : Bool), B = decide (Two n x y) → Fr [] w w' → Calls Try.prog 80 [.agg #[.int .i64 n, .slice a rs.length cap], .slice a2 xs.length cap2, .bool B].toArray w' (Res w' (Is (.int .i64 (rsC n rs xs (Two n x y))))) := fun w' B hB hf => hB ▸ c_codeOfResults n _ _ rs xs _ w' (hv.same hf) (hu.rd.same hf) hr hl hl2 hll hcap
  have hA := c_isBelow x n
  have hB := c_isBelow y n
  have hEr := fun (h : rsC n rs xs (Two n x y) ≠ 0) => betR_err (rfl : rsC n rs xs (Two n x y) = rsC n rs xs (Two n x y)) h
  have hOk := fun (h : rsC n rs xs (Two n x y) = 0) => And.intro (rsC_zero h) (betR_ok h)
  have hTw : Two n x y ↔ (0 ≤ x ∧ x < n) ∧ (0 ≤ y ∧ y < n) ∧ x ≠ y := by
    unfold Two
    constructor
    · intro h; exact ⟨h.1 x (by simp), h.1 y (by simp), h.2⟩
    · intro h; exact ⟨fun t ht => by rcases List.mem_cons.1 ht with rfl | ht; exact h.1; rw [List.mem_singleton.1 ht]; exact h.2.1, h.2.2⟩
  generalize rsC n rs xs (Two n x y) = c at *
  by_cases h1 : 0 ≤ x ∧ x < n
  rotate_left
  · have hnt : false = decide (Two n x y) := (decide_eq_false fun h => h1 (hTw.1 h).1).symm
    have hne : c ≠ 0 := fun h => h1 (hTw.1 (hOk h).1.2.1).1
    rw [decide_eq_false h1] at hA
    repeat (first | refine vops_q tyOk rfl ?_ | refine vops_nil ?_ | refine vw_seq ?_ | refine vw_region (by kernel_rfl) ?_ | refine vops_guardT rfl rfl ?_ | with_reducible refine bs_false ?_ | refine vw_cond rfl ?_ | (apply vops_callp ent91 rfl; (intro w' hg; exact hA w')) | (apply vops_callp ent80 rfl; (intro w' hg; exact hC w' _ hnt hg.fr)) | ((show VOps _ _ _ _ (⟨some _, Go.Op.load _ _, _, _, _, none⟩ :: _) _ _); first | refine vops_loadM tyOk rfl rfl rfl (by repeat (first | exact mem_here | apply mem_next | apply mem_past)) (by rfl) ?_ | refine vops_loadNM tyOk rfl rfl rfl (by repeat (first | exact mem_here | apply mem_next | apply mem_past)) (by first | rfl | (rw [ints_length]; first | assumption | omega | (rw [ints_length]; first | assumption | omega | simp [*])) | simp [*]) ?_))
    refine bs_ndec2 (fun _ => ?_) (fun h => absurd h hne)
    repeat (first | refine vops_q tyOk rfl ?_ | refine vops_nil ?_ | refine vw_seq ?_ | refine vw_region (by kernel_rfl) ?_ | refine vw_ret ?_)
    exact out_i3 rfl rfl rfl rfl (hEr hne)
  by_cases h2 : 0 ≤ y ∧ y < n
  rotate_left
  · have hnt : false = decide (Two n x y) := (decide_eq_false fun h => h2 (hTw.1 h).2.1).symm
    have hne : c ≠ 0 := fun h => h2 (hTw.1 (hOk h).1.2.1).2.1
    rw [decide_eq_true h1] at hA
    rw [decide_eq_false h2] at hB
    repeat (first | refine vops_q tyOk rfl ?_ | refine vops_nil ?_ | refine vw_seq ?_ | refine vw_region (by kernel_rfl) ?_ | refine vops_guardT rfl rfl ?_ | with_reducible refine bs_true ?_ | with_reducible refine bs_false ?_ | refine vw_cond rfl ?_ | (apply vops_callp ent91 rfl; (intro w' hg; exact hA w')) | (apply vops_callp ent91 rfl; (intro w' hg; exact hB w')) | (apply vops_callp ent80 rfl; (intro w' hg; exact hC w' _ hnt hg.fr)) | ((show VOps _ _ _ _ (⟨some _, Go.Op.load _ _, _, _, _, none⟩ :: _) _ _); first | refine vops_loadM tyOk rfl rfl rfl (by repeat (first | exact mem_here | apply mem_next | apply mem_past)) (by rfl) ?_ | refine vops_loadNM tyOk rfl rfl rfl (by repeat (first | exact mem_here | apply mem_next | apply mem_past)) (by first | rfl | (rw [ints_length]; first | assumption | omega | (rw [ints_length]; first | assumption | omega | simp [*])) | simp [*]) ?_))
    refine bs_ndec2 (fun _ => ?_) (fun h => absurd h hne)
    repeat (first | refine vops_q tyOk rfl ?_ | refine vops_nil ?_ | refine vw_seq ?_ | refine vw_region (by kernel_rfl) ?_ | refine vw_ret ?_)
    exact out_i3 rfl rfl rfl rfl (hEr hne)
  have hnt : (!decide (x = y)) = decide (Two n x y) := by
    by_cases h : x = y
    · rw [decide_eq_true h, decide_eq_false fun hh => (hTw.1 hh).2.2 h]; rfl
    · rw [decide_eq_false h, decide_eq_true (hTw.2 ⟨h1, h2, h⟩)]; rfl
  rw [decide_eq_true h1] at hA
  rw [decide_eq_true h2] at hB
  repeat (first | refine vops_q tyOk rfl ?_ | refine vops_nil ?_ | refine vw_seq ?_ | refine vw_region (by kernel_rfl) ?_ | refine vops_guardT rfl rfl ?_ | with_reducible refine bs_true ?_ | refine vw_cond rfl ?_ | (apply vops_callp ent91 rfl; (intro w' hg; exact hA w')) | (apply vops_callp ent91 rfl; (intro w' hg; exact hB w')) | (apply vops_callp ent80 rfl; (intro w' hg; exact hC w' _ hnt hg.fr)) | ((show VOps _ _ _ _ (⟨some _, Go.Op.load _ _, _, _, _, none⟩ :: _) _ _); first | refine vops_loadM tyOk rfl rfl rfl (by repeat (first | exact mem_here | apply mem_next | apply mem_past)) (by rfl) ?_ | refine vops_loadNM tyOk rfl rfl rfl (by repeat (first | exact mem_here | apply mem_next | apply mem_past)) (by first | rfl | (rw [ints_length]; first | assumption | omega | (rw [ints_length]; first | assumption | omega | simp [*])) | simp [*]) ?_))
  refine bs_ndec2 (fun hne => ?_) (fun h0 => ?_)
  · repeat (first | refine vops_q tyOk rfl ?_ | refine vops_nil ?_ | refine vw_seq ?_ | refine vw_region (by kernel_rfl) ?_ | refine vw_ret ?_)
    exact out_i3 rfl rfl rfl rfl (hEr hne)
  obtain ⟨⟨hS, hTT, hI⟩, hR⟩ := hOk h0
  have hxy := hTT.2
  have hn := hS.1
  have hn14 := hS.2.1
  have hl40 := hS.2.2.1
  have hxl := hI.1
  obtain ⟨k, rfl⟩ : ∃ k : Nat, n = (k : Int) := ⟨n.toNat, by omega⟩
  rw [Int.toNat_natCast] at hR
  have hT1 := outTo_le k rs xs xs.length
  have hT2 : k * xs.length ≤ 14 * 40 := Nat.mul_le_mul (by omega) (by omega)
  have hmem := outTo_mem (xs := xs) hS xs.length (by omega)
  repeat (first | refine vops_q tyOk rfl ?_ | refine vops_nil ?_ | refine vw_seq ?_ | refine vw_region (by kernel_rfl) ?_ | refine vw_skip ?_ | refine vw_block ?_ | (apply vops_call ent82 rfl; (intro w' hg; exact c_outcomesOf k _ _ rs xs hS hI w' (hv.same hg.fr) (hu.same hg.fr) hr hl2); (intro _ newO hN; obtain ⟨po, co, rfl⟩ := SlAt.form hN)) | ((show VOps _ _ _ _ (⟨some _, Go.Op.load _ _, _, _, _, none⟩ :: _) _ _); refine vops_loadNM tyOk rfl rfl rfl (by repeat (first | exact mem_here | apply mem_next | apply mem_past)) (by first | rfl | (rw [ints_length]; first | assumption | omega | (rw [ints_length]; first | assumption | omega | simp [*])) | simp [*]) ?_))
  generalize outTo k rs xs xs.length = L at *
  clear hC hA hB hEr hOk hTw hnt hS hI hTT
  refine vw_loopW (fun m f own => ∃ i : Nat, i ≤ L.length ∧ m = L.length - i ∧ f 43 = .int .i64 i ∧ f 42 = .int .i64 L.length ∧ f 41 = .slice po L.length co ∧ f 13 = .int .i64 (sumB x y (L.take i)) ∧ f 14 = .int .i64 (sumB y x (L.take i)) ∧ f 2 = .int .i64 x ∧ f 3 = .int .i64 y ∧
      own = newO ++ [(b4, ⟨[.int .i64 k, .slice a rs.length cap], 32, 2, none⟩)]) L.length
    ⟨_, ole_refl, 0, by omega, by omega, rfl, rfl, rfl, rfl, rfl, rfl, rfl, rfl⟩ ?_
  rintro m f own ⟨i, hi, rfl, h43, h42, h41, h13, h14, h2', h3', rfl⟩
  rw [upd_of h43, upd_of h42, upd_of h41, upd_of h13, upd_of h14, upd_of h2', upd_of h3']
  repeat (first | refine vops_q tyOk rfl ?_ | refine vops_nil ?_ | refine vw_seq ?_ | refine vw_region (by kernel_rfl) ?_ | refine vw_cond rfl ?_)
  refine bs_dec (fun hlt => ?_) (fun hlt => ?_)
  · obtain ⟨ot, hot⟩ : ∃ ot, L[i]? = some ot := ⟨_, List.getElem?_eq_getElem (by omega)⟩
    have hs3 := sumB_take (x := x) (y := y) hot
    have hs4 := sumB_take (x := y) (y := x) hot
    have hm1 := sumB_le (a := x) (b := y) (L := L.take i) fun o ho => hmem o (List.mem_of_mem_take ho)
    have hm2 := sumB_le (a := y) (b := x) (L := L.take i) fun o ho => hmem o (List.mem_of_mem_take ho)
    obtain ⟨bO, cO, he, hrow⟩ := newR_row hN (fun o ho => (hmem o ho).len) hot
    obtain ⟨j, tx, ty, p, _, _, _, hp0, hp2, rfl⟩ := hmem ot (List.mem_of_getElem? hot)
    cases he
    have hli : (L.take i).length ≤ 14 * 40 * 2 := by rw [List.length_take]; omega
    have hs3' : sumB x y (L.take (i + 1)) = sumB x y (L.take i) + if (tx : Int) = x ∧ (ty : Int) = y then p else 0 := hs3
    have hs4' : sumB y x (L.take (i + 1)) = sumB y x (L.take i) + if (tx : Int) = y ∧ (ty : Int) = x then p else 0 := hs4
    clear hs3 hs4 hmem hot
    repeat (first | refine vops_q tyOk rfl ?_ | refine vops_nil ?_ | refine vw_seq ?_ | refine vw_region (by kernel_rfl) ?_ | refine vops_guardT rfl rfl ?_ | refine vops_p tyOk rfl (by (try simp only [inR]); omega) ?_ | refine vw_skip ?_ | refine vw_block ?_ | refine vops_loadN tyOk (ints [(j : Int), (tx : Int), (ty : Int), p]) rfl rfl rfl rfl (fun j x hx => hrow (by repeat (first | exact sub_hereL | exact sub_refl | apply sub_cons | apply sub_app)) j x hx) ?_ | refine vops_allocZ (ints (List.replicate 4 0)) tyOk rfl rfl (by simp [ints]) (fun b16 hb16 => ?_) | refine vops_storeAM tyOk rfl rfl rfl rfl ints_one (by repeat (first | exact upd_here | apply upd_next | apply upd_past)) (by simp [ints]) ?_ | ((show VOps _ _ _ _ (⟨some _, Go.Op.load _ _, _, _, _, none⟩ :: _) _ _); refine vops_loadM tyOk rfl rfl rfl (by repeat (first | exact mem_here | apply mem_next | apply mem_past)) (by rfl) ?_))
    all_goals repeat' (first | refine vops_q tyOk rfl ?_ | refine vops_nil ?_ | refine vw_seq ?_ | refine vw_region (by kernel_rfl) ?_ | refine vops_guardT rfl rfl ?_ | with_reducible refine bs_true ?_ | with_reducible refine bs_false ?_ | refine vops_p tyOk rfl (by (try simp only [inR]); omega) ?_ | refine vw_cond rfl ?_ | refine vw_skip ?_ | (with_reducible refine bs_dec (fun _ => ?_) (fun _ => ?_)) <;> try (exfalso; omega) | ((show VOps _ _ _ _ (⟨some _, Go.Op.load _ _, _, _, _, none⟩ :: _) _ _); refine vops_loadM tyOk rfl rfl rfl (by repeat (first | exact mem_here | apply mem_next | apply mem_past)) (by rfl) ?_))
    all_goals exact ⟨L.length - (i + 1), by omega, newO ++ [(b4, ⟨[.int .i64 k, .slice a rs.length cap], 32, 2, none⟩)], (by repeat (first | exact ole_nil | exact ole_refl | (apply ole_cons; (repeat (first | exact pm1_here | apply pm1_next | apply pm1_past))) | (apply ole_app; (repeat (first | exact pm_here | exact pm_last | apply pm_next | apply pm_past))))), i + 1, by omega, rfl, rfl, rfl, rfl, by (rw [hs3']; refine congrArg (Value.int _) ?_; (repeat' split) <;> omega), by (rw [hs4']; refine congrArg (Value.int _) ?_; (repeat' split) <;> omega), rfl, rfl, rfl⟩
  · obtain rfl : i = L.length := by omega
    rw [List.take_length]
    repeat (first | refine vops_q tyOk rfl ?_ | refine vops_nil ?_ | refine vw_seq ?_ | refine vw_region (by kernel_rfl) ?_ | refine vw_ret ?_ | refine vw_exit ?_)
    exact out_i3 rfl rfl rfl rfl hR
end Go.Proofs.Ytlfflmoegfibgaa
