import Derived.Test.YtlnohlomanapeaaCB3
import Derived.Test.YtlnohlomanapeaaVLLol
import Derived.Test.YtlnohlomanapeaaVLEv
import Derived.Test.YtlnohlomanapeaaVLA
/- A part of the proof: CB5. No conditions of its own. -/
namespace Go.Proofs.Ytlnohlomanapeaa
open Go.VL
attribute [local irreducible] VWr VOps VD Calls

theorem ordTo_len {n d m : Nat} (h : ∀ l, (ordR n d l).length ≤ m) (l : List Int) : ∀ k, (ordTo n d l k).length ≤ k * m
  | 0 => Nat.zero_le _
  | k + 1 => by
    have := ordTo_len h l k
    rw [ordTo_succ, List.length_append, Nat.add_mul, Nat.one_mul]
    split
    · simp; omega
    · have := h (l ++ [(k : Int)]); omega
theorem ordR_len (n : Nat) : ∀ (d : Nat) (l : List Int), (ordR n d l).length ≤ n ^ d
  | 0, _ => Nat.le_refl _
  | d + 1, l => by
    have := ordTo_len (ordR_len n d) l n
    rw [Nat.pow_succ, Nat.mul_comm]; exact this
theorem rows_app {ei : Nat} {ls2 : List (List Int)} {vs2 : List Value} {ns2 : List Own} (h2 : RowsAt ei ls2 vs2 ns2) : ∀ {ls : List (List Int)} {vs : List Value} {ns : List Own}, RowsAt ei ls vs ns → RowsAt ei (ls ++ ls2) (vs ++ vs2) (ns ++ ns2)
  | [], [], [], _ => h2
  | _ :: _, _ :: _, _ :: _, h => ⟨h.1, rows_app h2 h.2⟩
  | [], _ :: _, _, h => h.elim
  | [], [], _ :: _, h => h.elim
  | _ :: _, [], _, h => h.elim
  | _ :: _, _ :: _, [], h => h.elim
theorem rows_one {ei : Nat} : ∀ {ls : List (List Int)} {vs : List Value} {ns : List Own}, RowsAt ei ls vs ns → ∀ u ∈ vs, u.oneCell' = true
  | [], [], [], _, u, hu => by cases hu
  | _ :: _, _ :: _, _ :: _, h, u, hu => by
    rcases List.mem_cons.1 hu with rfl | hu
    · obtain ⟨p, c, e⟩ := SlAt.form h.1
      rw [e]; rfl
    · exact rows_one h.2 u hu
  | [], _ :: _, _, h, _, _ => h.elim
  | [], [], _ :: _, h, _, _ => h.elim
  | _ :: _, [], _, h, _, _ => h.elim
  | _ :: _, _ :: _, [], h, _, _ => h.elim

theorem ole_end {A B C X o : Own} (h : OLe (A ++ (B ++ (C ++ (X ++ [])))) o) : OLe (A ++ (B ++ (C ++ X))) o := by rwa [List.append_nil] at h
open Classical in
set_option maxHeartbeats 4000000 in
set_option maxRecDepth 100000 in
theorem c_l09Orders (n : Nat) (h8 : n ≤ 8) : ∀ (d : Nat) (l : List Int) (p : Option Addr) (cp : Nat) (X : Own) (w : World), NewI 2 l (.slice p l.length cp) X → OwnOk X w → l.length + d = n →
    Calls Try.prog 89 [.int .i64 (n : Int), .slice p l.length cp].toArray w (ResM w X (NewLL 28 2 (ordR n d l))) := by
  intro d
  induction d with
  | zero =>
    intro l p cp X w hX hok hd
    refine calls_of_vwM Try.func89 rfl Try.ntmps89 (by simp) hok ?_
    repeat (first | refine vops_q tyOk rfl ?_ | refine vops_nil ?_ | refine vw_seq ?_ | refine vw_region (by kernel_rfl) ?_ | refine vw_cond rfl ?_)
    refine bs_dec (fun _ => ?_) (fun h => absurd (show (l.length : Int) = n by omega) h)
    repeat (first | refine vops_q tyOk rfl ?_ | refine vops_nil ?_ | refine vw_seq ?_ | refine vw_region (by kernel_rfl) ?_ | refine vw_ret ?_ | refine vops_litV tyOk rfl rfl (List.cons_ne_nil _ _) rfl rfl rfl (fun bt hbt => ?_))
    skip
    refine out1 (new := (bt, ⟨[.slice p l.length cp], 28, 1 * 1, none⟩) :: X) rfl rfl (List.nodup_cons.2 ⟨hbt, hok.nodup⟩) (fun _ h => h) ⟨[.slice p l.length cp], [X], [(bt, ⟨[.slice p l.length cp], 28, 1 * 1, none⟩)], ⟨hX, trivial⟩, ⟨rfl, .inr ⟨bt, 1, rfl, Nat.le_refl _, by decide, rfl⟩⟩, by simp⟩
  | succ d ih =>
    intro l p cp X w hX hok hd
    refine calls_of_vwM Try.func89 rfl Try.ntmps89 (by simp) hok ?_
    have hpow : n ^ d ≤ 2097152 := by
      by_cases h0 : n = 0
      · omega
      calc n ^ d ≤ 8 ^ d := Nat.pow_le_pow_left h8 d
        _ ≤ 8 ^ 7 := Nat.pow_le_pow_right (by omega) (by omega)
        _ = 2097152 := by decide
    have hcr : ∀ l', (ordR n d l').length ≤ 2097152 := fun l' => Nat.le_trans (ordR_len n d l') hpow
    have hct : ∀ k, k ≤ n → (ordTo n d l k).length ≤ 16777216 := fun k hk => Nat.le_trans (ordTo_len hcr l k) (by omega)
    repeat (first | refine vops_q tyOk rfl ?_ | refine vops_nil ?_ | refine vw_seq ?_ | refine vw_region (by kernel_rfl) ?_ | refine vw_cond rfl ?_)
    refine bs_dec (fun h => absurd h (by omega)) (fun _ => ?_)
    repeat (first | refine vw_seq ?_ | refine vw_region (by kernel_rfl) ?_ | refine vw_skip ?_)
    refine vops_build0 tyOk rfl rfl (fun be hbe => ?_)
    repeat (first | refine vops_q tyOk rfl ?_ | refine vops_nil ?_ | refine vw_seq ?_ | refine vw_region (by kernel_rfl) ?_ | refine vw_block ?_)
    refine vw_loopW (fun y f own => ∃ (x : Nat) (p5 : Option Addr) (c5 : Nat) (vs : List Value) (ns : List Own) (outer : Own), x ≤ n ∧ y = n - x ∧ f 6 = .int .i64 x ∧ f 5 = .slice p5 (ordTo n d l x).length c5 ∧ f 0 = .int .i64 n ∧ f 1 = .slice p l.length cp ∧
        RowsAt 2 (ordTo n d l x) vs ns ∧ SlAt 28 1 (.slice p5 (ordTo n d l x).length c5) (ordTo n d l x).length vs outer [] ∧ own = outer ++ (ns.flatten ++ X)) n
      ⟨_, ole_refl, 0, some ⟨be, 0, none⟩, 0, [], [], [(be, ⟨[], 28, 0, none⟩)], by omega, by omega, rfl, rfl, rfl, rfl, trivial, ⟨rfl, .inr ⟨be, 0, rfl, Nat.le_refl _, by decide, rfl⟩⟩, rfl⟩ ?_
    rintro y f own ⟨x, p5, c5, vs, ns, outer, hx, rfl, h6, h5, h0, h1', hR, hO, rfl⟩
    rw [upd_of h6, upd_of h5, upd_of h0, upd_of h1']
    repeat (first | refine vops_q tyOk rfl ?_ | refine vops_nil ?_ | refine vw_seq ?_ | refine vw_region (by kernel_rfl) ?_ | refine vw_cond rfl ?_)
    refine bs_dec (fun hlt => ?_) (fun hlt => ?_)
    · have hxn : x < n := by omega
      have hs := ordTo_succ n d l x
      have hc1 := hct x hx
      have hc2 := hcr (l ++ [(x : Int)])
      repeat (first | refine vops_q tyOk rfl ?_ | refine vops_nil ?_ | refine vw_seq ?_ | refine vw_region (by kernel_rfl) ?_ | refine vw_skip ?_ | refine vw_block ?_)
      refine vw_loop (fun y f own => ∃ i : Nat, i ≤ l.length ∧ y = l.length - i ∧ f 8 = .int .i64 i ∧ f 7 = .bool (decide ((x : Int) ∈ l.take i)) ∧ f 6 = .int .i64 x ∧ f 5 = .slice p5 (ordTo n d l x).length c5 ∧ f 0 = .int .i64 n ∧ f 1 = .slice p l.length cp ∧ own = outer ++ (ns.flatten ++ X)) l.length
        ⟨0, by omega, by omega, rfl, by simp; rfl, rfl, rfl, rfl, rfl, rfl⟩ ?_
      rintro y f own ⟨i, hi, rfl, h8', h7, h6, h5, h0, h1', rfl⟩
      rw [upd_of h8', upd_of h7, upd_of h6, upd_of h5, upd_of h0, upd_of h1']
      repeat (first | refine vops_q tyOk rfl ?_ | refine vops_nil ?_ | refine vw_seq ?_ | refine vw_region (by kernel_rfl) ?_ | refine vw_cond rfl ?_)
      refine bs_dec (fun hlt2 => ?_) (fun hlt2 => ?_)
      · obtain ⟨bX, rfl, mX, hXe⟩ : ∃ b, p = some ⟨b, 0, none⟩ ∧ ∃ m, X = [(b, ⟨ints l, 2, m, none⟩)] := by
          rcases hX.2 with ⟨_, h2, _⟩ | ⟨b, cap, h1, _, _, h4⟩
          · omega
          · injection h1 with h1; exact ⟨b, h1, _, h4⟩
        have hc : (ints l)[0 + (i : Int).toNat]? = some (.int .i64 (l.getD i 0)) := by rw [show 0 + (i : Int).toNat = i by omega]; exact ints_get (by omega)
        have htk : l.take (i + 1) = l.take i ++ [l.getD i 0] := by rw [List.take_add_one, List.getD_eq_getElem?_getD, List.getElem?_eq_getElem (by omega)]; rfl
        have hmem : ((x : Int) ∈ l.take (i + 1)) ↔ ((x : Int) ∈ l.take i ∨ l.getD i 0 = (x : Int)) := by
          rw [htk, List.mem_append, List.mem_singleton]; exact or_congr Iff.rfl ⟨Eq.symm, Eq.symm⟩
        subst hXe
        repeat' (first | refine vops_q tyOk rfl ?_ | refine vops_nil ?_ | refine vw_seq ?_ | refine vw_region (by kernel_rfl) ?_ | refine vops_guardF rfl rfl ?_ | with_reducible refine bs_true ?_ | with_reducible refine bs_false ?_ | refine vops_p tyOk rfl (by (try simp only [inR]); omega) ?_ | refine vw_skip ?_ | refine vw_block ?_ | (with_reducible refine bs_dec (fun _ => ?_) (fun _ => ?_)) <;> try (exfalso; omega) | refine vops_loadM tyOk rfl rfl rfl (by repeat (first | exact mem_here | apply mem_next | apply mem_past)) (by exact hc) ?_)
        all_goals (
          refine ⟨l.length - (i + 1), by omega, i + 1, by omega, rfl, rfl, ?_, rfl, rfl, rfl, rfl, rfl⟩
          first
            | (show Value.bool _ = _; congr 1; simp only [hmem]; simp [*]; done)
            | (simp only [hmem]; simp [*]; done))
      · obtain rfl : i = l.length := by omega
        rw [List.take_length]
        by_cases hxl : (x : Int) ∈ l
        · rw [decide_eq_true hxl]
          repeat (first | refine vops_q tyOk rfl ?_ | refine vops_nil ?_ | refine vw_seq ?_ | refine vw_region (by kernel_rfl) ?_ | with_reducible refine bs_ntrue ?_ | refine vops_p tyOk rfl (by (try simp only [inR]); omega) ?_ | refine vw_cond rfl ?_ | refine vw_skip ?_ | refine vw_exit ?_)
          refine ⟨n - (x + 1), by omega, _, ole_refl, x + 1, p5, c5, vs, ns, outer, by omega, rfl, rfl, ?_, rfl, rfl, ?_, ?_, rfl⟩
          all_goals (rw [hs, if_pos hxl, List.append_nil])
          · rfl
          · exact hR
          · exact hO
        · rw [decide_eq_false hxl]
          repeat (first | refine vops_q tyOk rfl ?_ | refine vops_nil ?_ | refine vw_seq ?_ | refine vw_region (by kernel_rfl) ?_ | with_reducible refine bs_nfalse ?_ | refine vw_cond rfl ?_ | refine vw_exit ?_ | (apply vops_call ent93 rfl; (intro w' hg; exact c_l01OwnL _ l w' (NewI.rdG hX (by repeat (first | exact sub_hereL | exact sub_refl | apply sub_cons | apply sub_app)) hg) (by omega)); (intro _ newN hN; obtain ⟨pN, cN, rfl⟩ := SlAt.form hN)))
          have hXf := NewI.f hN
          repeat (first | refine vops_litI [_] tyOk rfl rfl (List.cons_ne_nil _ _) (by rfl) rfl (by omega) (by omega) (fun bt hbt => ?_) | refine vops_append1 (k := 1) tyOk rfl rfl (List.cons_ne_nil _ _) rfl rfl (by decide) rfl hXf (by repeat (first | exact pm_here | exact pm_last | apply pm_next | apply pm_past)) rfl (by repeat (first | exact mem_here | apply mem_next | apply mem_past)) rfl (by omega) (fun p' cap' new' hN' => ?_))
          have hNI : NewI 2 (l ++ [(x : Int)]) (.slice p' (l.length + 1) cap') new' := NewI.snoc hN' rfl
          refine vops_callM (own0 := new') (S := NewLL 28 2 (ordR n d (l ++ [(x : Int)]))) ent89 rfl (by repeat (first | exact pm_here | exact pm_last | apply pm_next | apply pm_past)) (fun w' hg => ?_) ?_
          · have := ih (l ++ [(x : Int)]) p' cap' new' w' (by rw [List.length_append]; exact hNI) hg.left.ok (by rw [List.length_append]; show l.length + 1 + d = n; omega)
            rw [List.length_append] at this
            exact this
          · rintro _ newS ⟨vs2, ns2, outer2, hR2, hO2, rfl⟩
            obtain ⟨p6, c6, rfl⟩ := hO2.form
            rw [List.append_assoc]
            refine vops_appendW (vs := vs) (vs2 := vs2) tyOk rfl rfl (List.cons_ne_nil _ _) rfl rfl (by decide) rfl hO (by repeat (first | exact pm_here | exact pm_last | apply pm_next | apply pm_past)) rfl hO2 (by repeat (first | exact sub_hereL | exact sub_refl | apply sub_cons | apply sub_app)) (rows_one hR2) (by omega) (fun p7 c7 new7 hN7 => ?_)
            have hRR := rows_app hR2 hR
            rw [if_neg hxl] at hs
            rw [← hs] at hRR
            have hle : (ordTo n d l x).length + (ordR n d (l ++ [(x : Int)])).length = (ordTo n d l (x + 1)).length := by rw [hs, List.length_append]
            rw [hle] at hN7 ⊢
            repeat (first | refine vops_q tyOk rfl ?_ | refine vops_nil ?_ | refine vw_region (by kernel_rfl) ?_ | refine vops_p tyOk rfl (by (try simp only [inR]); omega) ?_)
            refine ⟨n - (x + 1), by omega, new7 ++ ((ns ++ ns2).flatten ++ X), (by rw [List.flatten_append, List.append_assoc ns.flatten]; exact ole_end (by repeat (first | exact ole_nil | exact ole_refl | (apply ole_cons; (repeat (first | exact pm1_here | apply pm1_next | apply pm1_past))) | (apply ole_app; (repeat (first | exact pm_here | exact pm_last | apply pm_next | apply pm_past)))))), x + 1, p7, c7, vs ++ vs2, ns ++ ns2, new7, by omega, rfl, rfl, rfl, rfl, rfl, hRR, hN7, rfl⟩
    · obtain rfl : x = n := by omega
      refine vw_nodup (fun hnd => ?_)
      repeat (first | refine vops_q tyOk rfl ?_ | refine vops_nil ?_ | refine vw_seq ?_ | refine vw_region (by kernel_rfl) ?_ | refine vw_ret ?_ | refine vw_exit ?_)
      refine out1 rfl rfl ?_ (fun p hp => ?_) ⟨vs, ns, outer, by rw [ordR_succ]; exact hR, by rw [ordR_succ]; exact hO, rfl⟩
      · rw [← List.append_assoc, ids_app] at hnd; exact (List.nodup_append.1 hnd).1
      · rw [← List.append_assoc]; exact List.mem_append_left _ hp
end Go.Proofs.Ytlnohlomanapeaa
