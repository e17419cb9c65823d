import Derived.Test.YtnammdmiljjhjaaGG
import Derived.Test.YtnammdmiljjhjaaSX
import Derived.Test.YtnammdmiljjhjaaSA
import Derived.Test.YtnammdmiljjhjaaVLSquare
import Derived.Test.YtnammdmiljjhjaaVLGolf
import Derived.Test.YtnammdmiljjhjaaVLA
import Derived.Test.YtnammdmiljjhjaaVLRanG
import Derived.Test.YtnammdmiljjhjaaVLPlay
import Derived.Test.YtnammdmiljjhjaaSY
/- Parts of the proof, one after another. No conditions of their own. -/
/- A part of the proof: X3. No conditions of its own. -/
namespace Go.Proofs.Ytnammdmiljjhjaa
open Go.VL
attribute [local irreducible] VWr VOps VD Calls

/-- Numbers of players and sizes that fit. -/
def SizeOk (n g most : Int) : Prop := 2 ≤ n ∧ n ≤ most ∧ 2 ≤ g ∧ n % g = 0
theorem SizeOk.gle {n g m : Int} (h : SizeOk n g m) : g ≤ n := by
  have h1 := h.1
  have h2 := h.2.2.1
  have h3 := h.2.2.2
  exact Int.le_of_dvd (by omega) (Int.dvd_of_emod_eq_zero h3)
open Classical in
set_option maxRecDepth 100000 in
theorem c_areGroups (n g most : Int) (w : World) : Calls Try.prog 73 [.int .i64 n, .int .i64 g, .int .i64 most].toArray w (Res w (Is (.bool (decide (SizeOk n g most))))) := by
  refine calls_of_vw Try.func73 rfl Try.ntmps73 (by simp) ?_
  repeat' (first | refine vops_q tyOk rfl ?_ | refine vops_nil ?_ | refine vw_seq ?_ | refine vw_region (by kernel_rfl) ?_ | refine vops_guardT rfl rfl ?_ | with_reducible refine bs_true ?_ | with_reducible refine bs_false ?_ | refine vops_p tyOk rfl (by (try simp only [inR]); omega) ?_ | refine vw_ret ?_ | (with_reducible refine bs_dec (fun _ => ?_) (fun _ => ?_)) <;> try (exfalso; omega))
  all_goals first
    | (refine rv_bool rfl rfl (decide_eq_decide.2 ⟨fun h => ⟨?_, ?_, ?_, ?_⟩, fun h => h.2.2.2⟩) <;> assumption)
    | exact rv_bool rfl rfl (decide_eq_false fun h => by have := h.1; have := h.2.1; have := h.2.2.1; omega).symm
open Classical in
set_option maxRecDepth 100000 in
theorem c_l08Size (n g most : Int) (w : World) : Calls Try.prog 82 [.int .i64 n, .int .i64 g, .int .i64 most].toArray w (Res w (Is (.bool (decide (SizeOk n g most))))) := by
  refine calls_of_vw Try.func82 rfl Try.ntmps82 (by simp) ?_
  repeat' (first | refine vops_q tyOk rfl ?_ | refine vops_nil ?_ | refine vw_seq ?_ | refine vw_region (by kernel_rfl) ?_ | refine vops_guardT rfl rfl ?_ | with_reducible refine bs_true ?_ | with_reducible refine bs_false ?_ | refine vops_p tyOk rfl (by (try simp only [inR]); omega) ?_ | refine vw_ret ?_ | (with_reducible refine bs_dec (fun _ => ?_) (fun _ => ?_)) <;> try (exfalso; omega) | (apply vops_callp ent67 rfl; (intro w _; exact c_l01In _ _ _ w)))
  all_goals first
    | (refine rv_bool rfl rfl (decide_eq_decide.2 ⟨fun h => ⟨by omega, by omega, by omega, h⟩, fun h => h.2.2.2⟩))
    | exact rv_bool rfl rfl (decide_eq_false fun h => by have := h.1; have := h.2.1; have := h.2.2.1; have := h.gle; omega).symm

theorem isGf_iff {n g : Int} {ls : List (List Int)} : IsGf n g ls ↔ SizeOk n g 25 ∧ ls.length ≤ 12 ∧ ∀ r ∈ ls, IsPerm n r :=
  ⟨fun h => ⟨⟨h.1, h.2.1, h.2.2.1, h.2.2.2.1⟩, h.2.2.2.2.1, h.2.2.2.2.2⟩, fun h => ⟨h.1.1, h.1.2.1, h.1.2.2.1, h.1.2.2.2, h.2.1, h.2.2⟩⟩

open Classical in
set_option maxHeartbeats 1000000 in
set_option maxRecDepth 100000 in
theorem c_IsGolf (m g : Int) (v : Value) (ls : List (List Int)) (w : World) (hv : RdII w v ls) (_hl : ls.length ≤ 1048576) (hll : ∀ l ∈ ls, l.length ≤ 1048576) :
    Calls Try.prog 27 [.agg #[.int .i64 m, .int .i64 g, v]].toArray w (Res w (Is (.bool (decide (IsGf m g ls))))) := by
  obtain ⟨a, cap, rfl⟩ := hv.len
  refine calls_of_vw Try.func27 rfl Try.ntmps27 (by simp) ?_
  refine vw_seq (vw_region (by kernel_rfl) (vops_box [.int .i64 m, .int .i64 g, .slice a ls.length cap] rfl (fun b0 hb0 => ?_)))
  by_cases hs : SizeOk m g 25 ∧ ls.length ≤ 12
  rotate_left
  · repeat' (first | refine vops_q tyOk rfl ?_ | refine vops_nil ?_ | refine vw_seq ?_ | refine vw_region (by kernel_rfl) ?_ | refine vops_guardF rfl rfl ?_ | with_reducible refine bs_true ?_ | with_reducible refine bs_false ?_ | refine vw_cond rfl ?_ | refine vw_skip ?_ | refine vw_block ?_ | refine vw_ret ?_ | (with_reducible refine bs_dec (fun _ => ?_) (fun _ => ?_)) <;> try (exfalso; omega) | (with_reducible refine bs_ndec (fun _ => ?_) (fun _ => ?_)) <;> try (exfalso; omega) | (apply vops_callp ent73 rfl; (intro w _; exact c_areGroups _ _ _ w)) | ((show VOps _ _ _ _ (⟨some _, Go.Op.load _ _, _, _, _, none⟩ :: _) _ _); refine vops_loadM tyOk rfl rfl rfl (by repeat (first | exact mem_here | apply mem_next | apply mem_past)) (by rfl) ?_))
    all_goals first
      | exact rv_bool rfl rfl (decide_eq_false fun hh => hs ⟨(isGf_iff.1 hh).1, (isGf_iff.1 hh).2.1⟩).symm
      | (exfalso; exact hs ⟨by assumption, by omega⟩)
  obtain ⟨hsd, hln⟩ := hs
  have hm0 := hsd.1
  have hm1 := hsd.2.1
  repeat' (first | refine vops_q tyOk rfl ?_ | refine vops_nil ?_ | refine vw_seq ?_ | refine vw_region (by kernel_rfl) ?_ | refine vops_guardF rfl rfl ?_ | with_reducible refine bs_true ?_ | with_reducible refine bs_false ?_ | refine vw_cond rfl ?_ | refine vw_skip ?_ | refine vw_block ?_ | refine vw_ret ?_ | (with_reducible refine bs_dec (fun _ => ?_) (fun _ => ?_)) <;> try (exfalso; omega) | (with_reducible refine bs_ndec (fun _ => ?_) (fun _ => ?_)) <;> try (exfalso; omega) | (apply vops_callp ent73 rfl; (intro w _; exact c_areGroups _ _ _ w)) | ((show VOps _ _ _ _ (⟨some _, Go.Op.load _ _, _, _, _, none⟩ :: _) _ _); refine vops_loadM tyOk rfl rfl rfl (by repeat (first | exact mem_here | apply mem_next | apply mem_past)) (by rfl) ?_))
  all_goals first | (exfalso; omega) | (exfalso; contradiction) | skip
  refine vw_loop (fun k f own => ∃ i : Nat, i ≤ ls.length ∧ k = ls.length - i ∧ f 20 = .int .i64 i ∧ f 19 = .int .i64 ls.length ∧ f 18 = .slice a ls.length cap ∧ f 1 = .pointer (some ⟨b0, 0, none⟩) ∧ own = [(b0, ⟨[.int .i64 m, .int .i64 g, .slice a ls.length cap], 26, 3, none⟩)] ∧ ∀ (j : Nat) (l : List Int), j < i → ls[j]? = some l → IsPerm m l) ls.length
    ⟨0, by omega, by omega, rfl, rfl, rfl, rfl, rfl, fun j l hj => by omega⟩ ?_
  rintro k f own ⟨i, hi, rfl, h20, h19, h18, h1, rfl, hall⟩
  rw [upd_of h20, upd_of h19, upd_of h18, upd_of h1]
  repeat (first | refine vops_q tyOk rfl ?_ | refine vops_nil ?_ | refine vw_seq ?_ | refine vw_region (by kernel_rfl) ?_ | refine vw_cond rfl ?_)
  refine bs_dec (fun hlt => ?_) (fun hlt => ?_)
  · obtain ⟨l, hli⟩ : ∃ l, ls[i]? = some l := ⟨_, List.getElem?_eq_getElem (by omega)⟩
    have hmem := List.mem_of_getElem? hli
    have hl1 := hll l hmem
    obtain ⟨b', o, cap', u, he, hcu, hu⟩ := hv.at hli
    cases he
    obtain ⟨a2, cap2, rfl⟩ := hu.len
    have hnx : IsPerm m l → ∀ (j : Nat) (l' : List Int), j < i + 1 → ls[j]? = some l' → IsPerm m l' := fun hr j l' hj hj' => by
      by_cases hji : j = i
      · subst hji
        obtain rfl : l = l' := Option.some.inj (hli.symm.trans hj')
        exact hr
      · exact hall j l' (by omega) hj'
    repeat (first | refine vops_q tyOk rfl ?_ | refine vops_nil ?_ | refine vw_seq ?_ | refine vw_region (by kernel_rfl) ?_ | refine vops_p tyOk rfl (by (try simp only [inR]); omega) ?_ | refine vw_cond rfl ?_ | refine vw_skip ?_ | refine vw_block ?_ | refine vops_load tyOk rfl rfl rfl (sees_old hcu (by simp)) ?_ | (apply vops_callp ent74 rfl; (intro w' hg; exact c_isPermutation _ l _ w' (hu.same hg.fr) hl1 (by omega) (by omega))) | ((show VOps _ _ _ _ (⟨some _, Go.Op.load _ _, _, _, _, none⟩ :: _) _ _); refine vops_loadM tyOk rfl rfl rfl (by repeat (first | exact mem_here | apply mem_next | apply mem_past)) (by rfl) ?_))
    refine bs_ndec2 (fun h7 => ?_) (fun h7 => ?_)
    · repeat (first | refine vops_q tyOk rfl ?_ | refine vops_nil ?_ | refine vw_seq ?_ | refine vw_region (by kernel_rfl) ?_ | refine vw_ret ?_)
      exact rv_bool rfl rfl (decide_eq_false fun hh => h7 ((isGf_iff.1 hh).2.2 l hmem)).symm
    · repeat (first | refine vops_q tyOk rfl ?_ | refine vops_nil ?_ | refine vw_region (by kernel_rfl) ?_ | refine vops_p tyOk rfl (by (try simp only [inR]); omega) ?_ | refine vw_skip ?_)
      exact ⟨ls.length - (i + 1), by omega, i + 1, by omega, rfl, rfl, rfl, rfl, rfl, rfl, hnx h7⟩
  · repeat (first | refine vops_q tyOk rfl ?_ | refine vops_nil ?_ | refine vw_seq ?_ | refine vw_region (by kernel_rfl) ?_ | refine vw_ret ?_ | refine vw_exit ?_)
    refine rv_bool rfl rfl (decide_eq_true (isGf_iff.2 ⟨hsd, hln, fun l hl => ?_⟩)).symm
    obtain ⟨j, hj⟩ := List.mem_iff_getElem?.1 hl
    exact hall j l (by have := (List.getElem?_eq_some_iff.1 hj).1; omega) hj

open Classical in
set_option maxHeartbeats 1000000 in
set_option maxRecDepth 100000 in
theorem c_l08Round (v : Value) (l : List Int) (n : Int) (w : World) (hv : RdI w v l) (hl : l.length ≤ 1048576) (h0 : 0 ≤ n) (h1 : n ≤ 1048576) :
    Calls Try.prog 94 [.int .i64 n, v].toArray w (Res w (Is (.bool (decide (IsPerm n l))))) := by
  obtain ⟨a, cap, rfl⟩ := hv.len
  refine calls_of_vw Try.func94 rfl Try.ntmps94 (by simp) ?_
  obtain ⟨k, rfl⟩ : ∃ k : Nat, n = (k : Int) := ⟨n.toNat, by omega⟩
  repeat (first | refine vops_q tyOk rfl ?_ | refine vops_nil ?_ | refine vw_seq ?_ | refine vw_region (by kernel_rfl) ?_)
  refine vops_makeBools (n := k) tyOk rfl rfl rfl rfl rfl rfl rfl (by decide) (by omega) (fun b hb => ?_)
  repeat (first | refine vops_q tyOk rfl ?_ | refine vops_nil ?_ | refine vw_seq ?_ | refine vw_region (by kernel_rfl) ?_ | refine vw_block ?_)
  refine vw_loop (fun m f own => ∃ i : Nat, i ≤ l.length ∧ m = l.length - i ∧ f 6 = .int .i64 i ∧ f 1 = .slice a l.length cap ∧ f 0 = .int .i64 k ∧ f 5 = .slice (some ⟨b, 0, none⟩) k k ∧ own = [(b, ⟨bools (seenOf l i k), 4, k, none⟩)] ∧ (∀ x ∈ l.take i, 0 ≤ x ∧ x < k) ∧ (l.take i).Nodup) l.length
    ⟨0, by omega, by omega, rfl, rfl, rfl, rfl, by rw [seenOf_zero], by simp, by simp⟩ ?_
  rintro m f own ⟨i, hi, rfl, h6, h1', h0', h5, rfl, hD, hnd⟩
  rw [upd_of h6, upd_of h1', upd_of h0', upd_of h5]
  repeat (first | refine vops_q tyOk rfl ?_ | refine vops_nil ?_ | refine vw_seq ?_ | refine vw_region (by kernel_rfl) ?_ | refine vw_cond rfl ?_)
  refine bs_dec (fun h4 => ?_) (fun h4 => ?_)
  · have hil : i < l.length := by omega
    obtain ⟨b', o, cap', he, hcell⟩ := hv.at (i := i) hil
    cases he
    have hc := hcell i hil
    have hno : ¬ (0 ≤ l.getD i 0 ∧ l.getD i 0 < k) → decide (IsPerm k l) = false := fun hh => decide_eq_false fun hd => hh (hd.2.1 _ (mem_getD hil))
    repeat (first | refine vops_q tyOk rfl ?_ | refine vw_seq ?_ | refine vw_region (by kernel_rfl) ?_ | refine vops_guardF rfl rfl ?_ | refine vops_p tyOk rfl (by (try simp only [inR]); omega) ?_ | refine vw_skip ?_ | refine vw_block ?_ | refine vops_load tyOk rfl rfl rfl (sees_old hc (by simp)) ?_ | (apply vops_callp ent67 rfl; (intro w _; exact c_l01In _ _ _ w)))
    by_cases hr : 0 ≤ l.getD i 0 ∧ l.getD i 0 < k
    rotate_left
    · repeat' (first | refine vops_q tyOk rfl ?_ | refine vops_nil ?_ | refine vw_seq ?_ | refine vw_region (by kernel_rfl) ?_ | refine vops_guardF rfl rfl ?_ | with_reducible refine bs_true ?_ | refine vw_cond rfl ?_ | refine vw_ret ?_ | (with_reducible refine bs_ndec (fun _ => ?_) (fun _ => ?_)) <;> try (exfalso; omega))
      all_goals first | exact rv_bool rfl rfl (hno hr).symm | (exfalso; omega)
    have hsg := seenOf_get (l := l) (i := i) (n := k) (x := (l.getD i 0).toNat) (by omega)
    rw [show (((l.getD i 0).toNat : Nat) : Int) = l.getD i 0 by omega] at hsg
    have hld : (bools (seenOf l i k))[0 + (l.getD i 0).toNat]? = some (.bool (decide (l.getD i 0 ∈ l.take i))) := by rw [← hsg]; exact bools_get (by rw [seenOf_length]; omega)
    repeat' (first | refine vops_q tyOk rfl ?_ | refine vops_nil ?_ | refine vw_seq ?_ | refine vw_region (by kernel_rfl) ?_ | refine vops_guardF rfl rfl ?_ | with_reducible refine bs_false ?_ | refine vops_p tyOk rfl (by (try simp only [inR]); omega) ?_ | refine vw_cond rfl ?_ | refine vw_skip ?_ | refine vw_ret ?_ | (with_reducible refine bs_dec (fun _ => ?_) (fun _ => ?_)) <;> try (exfalso; omega) | (with_reducible refine bs_ndec (fun _ => ?_) (fun _ => ?_)) <;> try (exfalso; omega) | refine vops_load tyOk rfl rfl rfl (sees_old hc (by simp)) ?_ | refine vops_loadM tyOk rfl rfl rfl (by repeat (first | exact mem_here | apply mem_next | apply mem_past)) (by exact hld) ?_ | refine vops_storeBM tyOk rfl rfl rfl rfl (by repeat (first | exact upd_here | apply upd_next | apply upd_past)) (by simp only [seenOf_length]; omega) ?_)
    · rename_i h7
      exact rv_bool rfl rfl (decide_eq_false fun hh => not_nodup hil h7 hh.2.2).symm
    · rename_i h7
      refine ⟨l.length - (i + 1), by omega, i + 1, by omega, rfl, rfl, rfl, rfl, rfl, ?_, fun x hx => ?_, nodup_snoc hil hnd h7⟩
      · rw [← seenOf_set hil hr.1 hr.2]
      · rw [take_snoc hil] at hx
        rcases List.mem_append.1 hx with hx | hx
        · exact hD x hx
        · obtain rfl : x = l.getD i 0 := by simpa using hx
          exact hr
  · obtain rfl : i = l.length := by omega
    rw [List.take_length] at hD hnd
    repeat (first | refine vops_q tyOk rfl ?_ | refine vops_nil ?_ | refine vw_seq ?_ | refine vw_region (by kernel_rfl) ?_ | refine vw_ret ?_ | refine vw_exit ?_)
    exact rv_bool rfl rfl (decide_eq_decide.2 ⟨fun h => ⟨by omega, hD, hnd⟩, fun h => by have := h.1; omega⟩)

open Classical in
set_option maxHeartbeats 1000000 in
set_option maxRecDepth 100000 in
theorem c_l08Is (m g : Int) (v : Value) (ls : List (List Int)) (w : World) (hv : RdII w v ls) (_hl : ls.length ≤ 1048576) (hll : ∀ l ∈ ls, l.length ≤ 1048576) :
    Calls Try.prog 65 [.agg #[.int .i64 m, .int .i64 g, v]].toArray w (Res w (Is (.bool (decide (IsGf m g ls))))) := by
  obtain ⟨a, cap, rfl⟩ := hv.len
  refine calls_of_vw Try.func65 rfl Try.ntmps65 (by simp) ?_
  refine vw_seq (vw_region (by kernel_rfl) (vops_box [.int .i64 m, .int .i64 g, .slice a ls.length cap] rfl (fun b0 hb0 => ?_)))
  by_cases hs : SizeOk m g 25 ∧ ls.length ≤ 12
  rotate_left
  · repeat' (first | refine vops_q tyOk rfl ?_ | refine vops_nil ?_ | refine vw_seq ?_ | refine vw_region (by kernel_rfl) ?_ | refine vops_guardF rfl rfl ?_ | with_reducible refine bs_true ?_ | with_reducible refine bs_false ?_ | refine vw_cond rfl ?_ | refine vw_skip ?_ | refine vw_block ?_ | refine vw_ret ?_ | (with_reducible refine bs_dec (fun _ => ?_) (fun _ => ?_)) <;> try (exfalso; omega) | (with_reducible refine bs_ndec (fun _ => ?_) (fun _ => ?_)) <;> try (exfalso; omega) | (apply vops_callp ent82 rfl; (intro w _; exact c_l08Size _ _ _ w)) | ((show VOps _ _ _ _ (⟨some _, Go.Op.load _ _, _, _, _, none⟩ :: _) _ _); refine vops_loadM tyOk rfl rfl rfl (by repeat (first | exact mem_here | apply mem_next | apply mem_past)) (by rfl) ?_))
    all_goals first
      | exact rv_bool rfl rfl (decide_eq_false fun hh => hs ⟨(isGf_iff.1 hh).1, (isGf_iff.1 hh).2.1⟩).symm
      | (exfalso; exact hs ⟨by assumption, by omega⟩)
  obtain ⟨hsd, hln⟩ := hs
  have hm0 := hsd.1
  have hm1 := hsd.2.1
  repeat' (first | refine vops_q tyOk rfl ?_ | refine vops_nil ?_ | refine vw_seq ?_ | refine vw_region (by kernel_rfl) ?_ | refine vops_guardF rfl rfl ?_ | with_reducible refine bs_true ?_ | with_reducible refine bs_false ?_ | refine vw_cond rfl ?_ | refine vw_skip ?_ | refine vw_block ?_ | refine vw_ret ?_ | (with_reducible refine bs_dec (fun _ => ?_) (fun _ => ?_)) <;> try (exfalso; omega) | (with_reducible refine bs_ndec (fun _ => ?_) (fun _ => ?_)) <;> try (exfalso; omega) | (apply vops_callp ent82 rfl; (intro w _; exact c_l08Size _ _ _ w)) | ((show VOps _ _ _ _ (⟨some _, Go.Op.load _ _, _, _, _, none⟩ :: _) _ _); refine vops_loadM tyOk rfl rfl rfl (by repeat (first | exact mem_here | apply mem_next | apply mem_past)) (by rfl) ?_))
  all_goals first | (exfalso; omega) | (exfalso; contradiction) | skip
  refine vw_loop (fun k f own => ∃ i : Nat, i ≤ ls.length ∧ k = ls.length - i ∧ f 3 = .int .i64 i ∧ f 1 = .pointer (some ⟨b0, 0, none⟩) ∧ own = [(b0, ⟨[.int .i64 m, .int .i64 g, .slice a ls.length cap], 26, 3, none⟩)] ∧ ∀ (j : Nat) (l : List Int), j < i → ls[j]? = some l → IsPerm m l) ls.length
    ⟨0, by omega, by omega, rfl, rfl, rfl, fun j l hj => by omega⟩ ?_
  rintro k f own ⟨i, hi, rfl, h3, h1, rfl, hall⟩
  rw [upd_of h3, upd_of h1]
  repeat (first | refine vops_q tyOk rfl ?_ | refine vops_nil ?_ | refine vw_seq ?_ | refine vw_region (by kernel_rfl) ?_ | refine vw_cond rfl ?_ | ((show VOps _ _ _ _ (⟨some _, Go.Op.load _ _, _, _, _, none⟩ :: _) _ _); refine vops_loadM tyOk rfl rfl rfl (by repeat (first | exact mem_here | apply mem_next | apply mem_past)) (by rfl) ?_))
  refine bs_dec (fun hlt => ?_) (fun hlt => ?_)
  · obtain ⟨l, hli⟩ : ∃ l, ls[i]? = some l := ⟨_, List.getElem?_eq_getElem (by omega)⟩
    have hmem := List.mem_of_getElem? hli
    have hl1 := hll l hmem
    obtain ⟨b', o, cap', u, he, hcu, hu⟩ := hv.at hli
    cases he
    obtain ⟨a2, cap2, rfl⟩ := hu.len
    repeat (first | refine vw_seq ?_ | refine vw_skip ?_ | refine vw_block ?_)
    refine vw_draw [0, 1, 2, 3, 4, 5, 6, 7, 8] (by kernel_rfl) (by kernel_rfl) (by kernel_rfl) rfl ?_
    repeat' (first | refine vd_q tyOk rfl (by first | trivial | rfl) rfl (by kernel_rfl) (by kernel_rfl) ?_ | refine vd_p tyOk rfl (by first | trivial | rfl) rfl (by kernel_rfl) (by kernel_rfl) (by (try simp only [inR]); omega) ?_ | refine vops_nil ?_ | refine vd_nil (by kernel_rfl) ?_ | refine ⟨fun _ _ _ h => h, ?_⟩ | refine vd_load tyOk rfl (by first | trivial | rfl) rfl rfl rfl (by kernel_rfl) (by kernel_rfl) (by kernel_rfl) (sees_mem (by repeat (first | exact mem_here | apply mem_next | apply mem_past)) (by rfl)) (by repeat (first | exact sub_hereL | exact sub_refl | apply sub_cons | apply sub_app)) ?_ | refine vd_load tyOk rfl (by first | trivial | rfl) rfl rfl rfl (by kernel_rfl) (by kernel_rfl) (by kernel_rfl) (sees_old hcu (by simp)) (by repeat (first | exact sub_hereL | exact sub_refl | apply sub_cons | apply sub_app)) ?_ | (apply vops_callp ent94 rfl; (intro w' hg; exact c_l08Round _ l _ w' (hu.same hg.fr) hl1 (by omega) (by omega))) | refine vd_one rfl (by kernel_rfl) (by kernel_rfl) rfl ?_)
    repeat (first | refine vw_cond rfl ?_)
    refine bs_ndec2 (fun h7 => ?_) (fun h7 => ?_)
    · repeat (first | refine vops_q tyOk rfl ?_ | refine vops_nil ?_ | refine vw_seq ?_ | refine vw_region (by kernel_rfl) ?_ | refine vw_ret ?_)
      exact rv_bool rfl rfl (decide_eq_false fun hh => h7 ((isGf_iff.1 hh).2.2 l hmem)).symm
    · repeat (first | refine vops_q tyOk rfl ?_ | refine vops_nil ?_ | refine vw_region (by kernel_rfl) ?_ | refine vops_p tyOk rfl (by (try simp only [inR]); omega) ?_ | refine vw_skip ?_)
      refine ⟨ls.length - (i + 1), by omega, i + 1, by omega, rfl, rfl, rfl, rfl, fun j l' hj hj' => ?_⟩
      by_cases hji : j = i
      · subst hji
        obtain rfl : l = l' := Option.some.inj (hli.symm.trans hj')
        exact h7
      · exact hall j l' (by omega) hj'
  · repeat (first | refine vops_q tyOk rfl ?_ | refine vops_nil ?_ | refine vw_seq ?_ | refine vw_region (by kernel_rfl) ?_ | refine vw_ret ?_ | refine vw_exit ?_)
    refine rv_bool rfl rfl (decide_eq_true (isGf_iff.2 ⟨hsd, hln, fun l hl => ?_⟩)).symm
    obtain ⟨j, hj⟩ := List.mem_iff_getElem?.1 hl
    exact hall j l (by have := (List.getElem?_eq_some_iff.1 hj).1; omega) hj
open Classical in
theorem c_spec_IsGolf (m g : Int) (v : Value) (ls : List (List Int)) (w : World) (hv : RdII w v ls) (hl : ls.length ≤ 1048576) (hll : ∀ l ∈ ls, l.length ≤ 1048576) :
    Calls Try.prog 28 [.agg #[.int .i64 m, .int .i64 g, v]].toArray w (Res w (Is (.bool (decide (IsGf m g ls))))) := by
  obtain ⟨a, cap, rfl⟩ := hv.len
  refine calls_of_vw Try.func28 rfl Try.ntmps28 (by simp) ?_
  refine vw_seq (vw_region (by kernel_rfl) (vops_box [.int .i64 m, .int .i64 g, .slice a ls.length cap] rfl (fun b0 hb0 => ?_)))
  repeat (first | refine vops_q tyOk rfl ?_ | refine vops_nil ?_ | refine vw_seq ?_ | refine vw_region (by kernel_rfl) ?_ | refine vw_ret ?_ | (apply vops_callp ent65 rfl; (intro w' hg; exact c_l08Is _ _ _ ls w' (hv.same hg.fr) hl hll)) | ((show VOps _ _ _ _ (⟨some _, Go.Op.load _ _, _, _, _, none⟩ :: _) _ _); refine vops_loadNM tyOk rfl rfl rfl (by repeat (first | exact mem_here | apply mem_next | apply mem_past)) (by first | rfl | (rw [ints_length]; first | assumption | omega | (rw [ints_length]; first | assumption | omega | simp [*])) | simp [*]) ?_))
  exact rv_bool rfl rfl rfl

/-- The bound. -/
def boundR (n g : Int) : Int × Int := if 2 ≤ n ∧ n ≤ 1000 ∧ 2 ≤ g ∧ g ≤ n then ((n - 1) / (g - 1), 0) else (0, 2)
end Go.Proofs.Ytnammdmiljjhjaa

/- A part of the proof: X4. No conditions of its own. -/
namespace Go.Proofs.Ytnammdmiljjhjaa
open Go.VL
attribute [local irreducible] VWr VOps VD Calls

/-! the groups of a round: slices.Chunk, in parts of g -/
def partG (g : Nat) (a : Option Addr) (i : Nat) : Value := match a with
  | some ⟨b, o, _⟩ => .slice (some ⟨b, o + g * i, none⟩) g g
  | none => .slice none g g
def chunkG (g : Nat) (a : Option Addr) (m : Nat) : List (List Value) := (List.range m).map fun i => [partG g a i]
theorem chunkG_at {g : Nat} {a : Option Addr} {m i : Nat} (h : i < m) : (chunkG g a m)[i]? = some [partG g a i] := by simp [chunkG, h]
theorem chunkG_length (g : Nat) (a : Option Addr) (m : Nat) : (chunkG g a m).length = m := by simp [chunkG]
def ChunkGCap (g : Nat) (u : Value) (b2 b3 : Nat) : Own := [(b3, ⟨[.int .i64 g], 3, 1, none⟩), (b2, ⟨[u], 29, 1, none⟩)]
def ChunkGF (g : Nat) (u : Value) (v : Value) (new : Own) : Prop := ∃ b2 b3, v = .func (.func 96) #[] [.pointer (some ⟨b2, 0, none⟩), .pointer (some ⟨b3, 0, none⟩)].toArray ∧ new = ChunkGCap g u b2 b3 ∧ b3 ≠ b2

set_option maxRecDepth 100000 in
theorem c_chunkG (g : Nat) (hg0 : 0 < g) (a : Option Addr) (n cap : Nat) (w : World) : Calls Try.prog 69 [.slice a n cap, .int .i64 g].toArray w (Res w (ChunkGF g (.slice a n cap))) := by
  refine calls_of_vw Try.func69 rfl Try.ntmps69 (by simp) ?_
  refine vw_seq (vw_region (by kernel_rfl) (vops_box [.slice a n cap] rfl (fun b2 hb2 => ?_)))
  refine vops_box [.int .i64 g] rfl (fun b3 hb3 => ?_)
  have hne : b3 ≠ b2 := fun h => hb3 (by simp [ids, h])
  repeat (first | refine vops_q tyOk rfl ?_ | refine vops_nil ?_ | refine vw_seq ?_ | refine vw_region (by kernel_rfl) ?_ | refine vw_cond rfl ?_ | ((show VOps _ _ _ _ (⟨some _, Go.Op.load _ _, _, _, _, none⟩ :: _) _ _); refine vops_loadM tyOk rfl rfl rfl (by repeat (first | exact mem_here | apply mem_next | apply mem_past)) (by rfl) ?_))
  refine bs_dec (fun h => ?_) (fun h => ?_)
  · exfalso; omega
  repeat (first | refine vops_q tyOk rfl ?_ | refine vops_nil ?_ | refine vw_seq ?_ | refine vw_region (by kernel_rfl) ?_ | refine vw_skip ?_ | refine vw_ret ?_ | refine vops_mkf rfl ?_)
  exact out1 rfl rfl (by simp [ids, hne]) (fun _ h => h) ⟨b2, b3, rfl, rfl, hne⟩

set_option maxHeartbeats 1000000 in
set_option maxRecDepth 100000 in
theorem it_chunkG (g : Nat) (hg0 : 0 < g) (a : Option Addr) (m cap : Nat) (ha : m = 0 ∨ ∃ b o, a = some ⟨b, o, none⟩) (hcap : g * m ≤ cap) (hm : g * m ≤ 1048576) (b2 b3 : Nat) : Iter Try.prog 96 [.pointer (some ⟨b2, 0, none⟩), .pointer (some ⟨b3, 0, none⟩)] (chunkG g a m) (ChunkGCap g (.slice a (g * m) cap) b2 b3) := by
  intro Γ l J Jx own0 w hc hcp hdis h0 hy
  have hs : w.cell? ⟨b2, 0, none⟩ = some (.slice a (g * m) cap) := cell_of_blk hcp (List.mem_cons_of_mem _ List.mem_cons_self) rfl
  have hn : w.cell? ⟨b3, 0, none⟩ = some (.int .i64 g) := cell_of_blk hcp List.mem_cons_self rfl
  have hd2 : b2 ∉ ids own0 := hdis b2 (by simp [ids, ChunkGCap])
  have hd3 : b3 ∉ ids own0 := hdis b3 (by simp [ids, ChunkGCap])
  have hlen := chunkG_length g a m
  have hgm : m = 0 ∨ g ≤ 1048576 := by
    rcases Nat.eq_zero_or_pos m with h | h
    · exact .inl h
    · exact .inr (Nat.le_trans (Nat.le_mul_of_pos_right g h) hm)
  refine calls_of_vwM Try.func96 rfl Try.ntmps96 (by simp) hc.ok ?_
  repeat (first | refine vops_q tyOk rfl ?_ | refine vops_nil ?_ | refine vw_seq ?_ | refine vw_region (by kernel_rfl) ?_ | refine vw_block ?_)
  refine vw_loop (fun y f own => ∃ i : Nat, i ≤ m ∧ y = m - i ∧ f 4 = .int .i64 ((g * i : Nat) : Int) ∧ f 0 = .func (.yield l) #[] #[] ∧ f 1 = .pointer (some ⟨b2, 0, none⟩) ∧ f 2 = .pointer (some ⟨b3, 0, none⟩) ∧ J i own) m
    ⟨0, by omega, by omega, rfl, rfl, rfl, rfl, h0⟩ ?_
  rintro y f own ⟨i, hi, rfl, h4, h0', h1, h2, hJ⟩
  rw [upd_of h4, upd_of h0', upd_of h1, upd_of h2]
  have hmul : i < m → g * i + g ≤ g * m := fun h => by
    have := Nat.mul_le_mul_left g (show i + 1 ≤ m by omega)
    rwa [Nat.mul_add, Nat.mul_one] at this
  have hmul2 : g * i ≤ g * m := Nat.mul_le_mul_left g hi
  have hstep : ((g * i : Nat) : Int) + (g : Int) = ((g * (i + 1) : Nat) : Int) := by rw [Nat.mul_add, Nat.mul_one]; push_cast; rfl
  have hend : i = m → g * i = g * m := fun h => by rw [h]
  obtain ⟨GI, hGI⟩ : ∃ GI, GI = g * i := ⟨_, rfl⟩
  obtain ⟨GM, hGM⟩ : ∃ GM, GM = g * m := ⟨_, rfl⟩
  obtain ⟨GN, hGN⟩ : ∃ GN, GN = g * (i + 1) := ⟨_, rfl⟩
  rw [← hGI] at hmul hmul2 hstep hend
  rw [← hGM] at hs hmul hmul2 hend hcap hm
  rw [← hGN] at hstep
  rw [← hGI]
  repeat (first | refine vops_q tyOk rfl ?_ | refine vops_nil ?_ | refine vw_seq ?_ | refine vw_region (by kernel_rfl) ?_ | refine vw_cond rfl ?_ | refine vops_load tyOk rfl rfl rfl (sees_old hs hd2) ?_)
  refine bs_dec (fun hlt => ?_) (fun hlt => ?_)
  · have him : i < m := by
      rcases Nat.lt_or_ge i m with h | h
      · exact h
      · have := hend (by omega); omega
    have hmi := hmul him
    have hg1 : g ≤ 1048576 := by rcases hgm with h | h <;> omega
    obtain ⟨b, o, rfl⟩ : ∃ b o, a = some ⟨b, o, none⟩ := by
      rcases ha with h | h
      · omega
      · exact h
    repeat (first | refine vw_seq ?_ | refine vw_skip ?_ | refine vw_block ?_)
    refine vw_draw [0, 1, 2, 3, 4, 5, 6] (by kernel_rfl) (by kernel_rfl) (by kernel_rfl) rfl ?_
    repeat' (first | refine vd_q tyOk rfl (by first | trivial | rfl) rfl (by kernel_rfl) (by kernel_rfl) ?_ | refine vops_nil ?_ | refine vd_nil (by kernel_rfl) ?_ | refine ⟨fun _ _ _ h => h, ?_⟩ | refine vd_slice tyOk rfl (by first | trivial | rfl) rfl rfl rfl rfl rfl (by kernel_rfl) (by kernel_rfl) (by omega) ?_ | refine vd_load tyOk rfl (by first | trivial | rfl) rfl rfl rfl (by kernel_rfl) (by kernel_rfl) (by kernel_rfl) (sees_old hs hd2) (by repeat (first | exact sub_hereL | exact sub_refl | apply sub_cons | apply sub_app)) ?_ | refine vd_load tyOk rfl (by first | trivial | rfl) rfl rfl rfl (by kernel_rfl) (by kernel_rfl) (by kernel_rfl) (sees_old hn hd3) (by repeat (first | exact sub_hereL | exact sub_refl | apply sub_cons | apply sub_app)) ?_ | refine vops_min rfl rfl ?_ | refine vd_one rfl (by kernel_rfl) (by kernel_rfl) rfl ?_)
    have hmin : (if ((((GM : Int)).toNat - ((GI : Int)).toNat : Nat) : Int) < (g : Int) then ((((GM : Int)).toNat - ((GI : Int)).toNat : Nat) : Int) else (g : Int)) = (g : Int) := if_neg (by omega)
    rw [hmin]
    have hyk := hy _ _ (chunkG_at him) own hJ
    have hpart : partG g (some ⟨b, o, none⟩) i = .slice (some ⟨b, o + GI, none⟩) g g := by rw [hGI]; rfl
    rw [hpart] at hyk
    repeat (first | refine vops_q tyOk rfl ?_ | refine vw_seq ?_ | refine vw_region (by kernel_rfl) ?_ | refine vops_p tyOk rfl (by (try simp only [inR]); omega) ?_ | refine vops_load tyOk rfl rfl rfl (sees_old hs hd2) ?_ | refine vops_partAt GI g tyOk rfl rfl rfl rfl rfl rfl rfl rfl (by omega) (by omega) (by omega) (by omega) ?_)
    refine vops_yield hc rfl rfl hyk (fun own' hJ' _ => ?_) (fun own' hJx hnd => ?_)
    · repeat (first | refine vops_q tyOk rfl ?_ | refine vops_nil ?_ | refine vw_region (by kernel_rfl) ?_ | with_reducible refine bs_ntrue ?_ | refine vops_p tyOk rfl (by (try simp only [inR]); omega) ?_ | refine vw_cond rfl ?_ | refine vw_skip ?_ | refine vops_load tyOk rfl rfl rfl (sees_old hn hd3) ?_)
      refine ⟨m - (i + 1), by omega, i + 1, by omega, rfl, ?_, rfl, rfl, rfl, hJ'⟩
      exact congrArg (Value.int .i64) (by rw [hstep, hGN])
    · repeat (first | refine vops_q tyOk rfl ?_ | refine vops_nil ?_ | with_reducible refine bs_nfalse ?_ | refine vw_cond rfl ?_ | refine vw_ret ?_)
      exact outNoneR rfl hnd (fun _ h => h) (.inr hJx)
  · obtain rfl : i = m := by
      rcases Nat.lt_or_ge i m with h | h
      · have := hmul h; omega
      · omega
    refine vw_nodup (fun hnd => ?_)
    repeat (first | refine vw_exit ?_)
    exact outNoneN rfl hnd (fun _ h => h) (.inl (by rw [hlen]; exact hJ))
end Go.Proofs.Ytnammdmiljjhjaa

/- A part of the proof: X5. No conditions of its own. -/
namespace Go.Proofs.Ytnammdmiljjhjaa
open Go.VL
attribute [local irreducible] VWr VOps VD Calls

/-- Numbers that are read, in no block of own. -/
def RdW (w : World) (v : Value) (t : List Int) (own : Own) : Prop := t = [] ∨ ∃ b o cap, v = .slice (some ⟨b, o, none⟩) t.length cap ∧ b ∉ ids own ∧ ∀ j, j < t.length → w.cell? ⟨b, o + j, none⟩ = some (.int .i64 (t.getD j 0))
theorem RdW.later {w w' : World} {W own : Own} {v : Value} {t : List Int} (h : RdW w v t W) (hg : Go.VL.Good ⟨w, ids W⟩ own w') : RdW w' v t own := by
  rcases h with h | ⟨b, o, cap, h1, h2, h3⟩
  · exact .inl h
  · refine t.length.eq_zero_or_pos.elim (fun h0 => .inl (List.eq_nil_of_length_eq_zero h0)) fun h0 => .inr ⟨b, o, cap, h1, (old_stays hg (h3 0 h0) h2).2, fun j hj => (old_stays hg (h3 j hj) h2).1⟩
theorem rdI_w {w : World} {v : Value} {t : List Int} (h : RdI w v t) : RdW w v t [] := by
  rcases h with ⟨_, _, _, h⟩ | ⟨b, o, cap, h1, h2⟩
  · exact .inl h
  · exact .inr ⟨b, o, cap, h1, by simp [ids], fun j hj => h2 j _ (ints_get hj)⟩
theorem RdW.rd {w : World} {v : Value} {t : List Int} {own : Own} (h : RdW w v t own) (hv : ∃ a c, v = .slice a t.length c) : RdI w v t := by
  rcases h with h | ⟨b, o, cap, h1, _, h3⟩
  · obtain ⟨a, c, rfl⟩ := hv
    subst h
    exact .inl ⟨a, c, rfl, rfl⟩
  · refine .inr ⟨b, o, cap, h1, fun j x hx => ?_⟩
    have hj : j < t.length := by have := (List.getElem?_eq_some_iff.1 hx).1; rwa [ints_length] at this
    rw [ints_get hj] at hx
    cases hx
    exact h3 j hj
theorem RdW.sub {w : World} {v : Value} {t : List Int} {own own' : Own} (h : RdW w v t own) (hs : ∀ b ∈ ids own', b ∈ ids own) : RdW w v t own' := by
  rcases h with h | ⟨b, o, cap, h1, h2, h3⟩
  · exact .inl h
  · exact .inr ⟨b, o, cap, h1, fun hb => h2 (hs b hb), h3⟩
theorem ole_endY {y : Nat × Blk} {A : Own} : OLe (y :: A) (A ++ [y]) := ⟨[], by simp⟩

def MeetB (g : Nat) (u : Value) (b2 b3 : Nat) : Own := [(b3, ⟨[u], 29, 1, none⟩), (b2, ⟨[.int .i64 g], 2, 1, none⟩)]
def MeetF (g : Nat) (u : Value) (v : Value) (new : Own) : Prop := ∃ b2 b3, v = .func (.func 138) #[] [.pointer (some ⟨b3, 0, none⟩), .pointer (some ⟨b2, 0, none⟩)].toArray ∧ new = MeetB g u b2 b3 ∧ b3 ≠ b2
set_option maxRecDepth 100000 in
theorem c_meetingsIn (g : Nat) (a : Option Addr) (n cap : Nat) (w : World) : Calls Try.prog 120 [.int .i64 g, .slice a n cap].toArray w (Res w (MeetF g (.slice a n cap))) := by
  refine calls_of_vw Try.func120 rfl Try.ntmps120 (by simp) ?_
  refine vw_seq (vw_region (by kernel_rfl) (vops_box [.int .i64 g] rfl (fun b2 hb2 => ?_)))
  refine vops_box [.slice a n cap] rfl (fun b3 hb3 => ?_)
  have hne : b3 ≠ b2 := fun h => hb3 (by simp [ids, h])
  repeat (first | refine vops_q tyOk rfl ?_ | refine vops_nil ?_ | refine vw_seq ?_ | refine vw_region (by kernel_rfl) ?_ | refine vw_ret ?_ | refine vops_mkf rfl ?_)
  exact out1 rfl rfl (by simp [ids, hne]) (fun _ h => h) ⟨b2, b3, rfl, rfl, hne⟩

theorem pairV {r : List Int} {g q k i m : Nat} (hi : i < k) (hk : k < g) (hq : q < m) {x y : Int} (hx : x = r.getD (g * q + k) 0) (hy : y = r.getD (g * q + i) 0) : ((rdP g r m).map ints)[q * triN g + (triN k + i)]? = some [.int .i64 x, .int .i64 y] := by
  rw [List.getElem?_map, rdP_get hi hk hq, ← hx, ← hy]; rfl
set_option maxHeartbeats 4000000 in
set_option maxRecDepth 100000 in
theorem it_meet (g : Nat) (hg0 : 0 < g) (hg25 : g ≤ 25) (a : Option Addr) (m cap : Nat) (t : List Int) (htm : t.length = g * m) (hm : g * m ≤ 25) (hcap : g * m ≤ cap) (b2 b3 : Nat) (ex : Own) :
    IterR Try.prog 138 [.pointer (some ⟨b3, 0, none⟩), .pointer (some ⟨b2, 0, none⟩)] ((rdP g t m).map ints) (MeetB g (.slice a (g * m) cap) b2 b3 ++ ex) (fun w own => RdW w (.slice a (g * m) cap) t own) := by
  intro Γ l J Jx own0 w hc hcp hdis hT h0 hy
  have hs : w.cell? ⟨b2, 0, none⟩ = some (.int .i64 g) := cell_of_blk hcp (List.mem_append_left _ (List.mem_cons_of_mem _ List.mem_cons_self)) rfl
  have hr : w.cell? ⟨b3, 0, none⟩ = some (.slice a (g * m) cap) := cell_of_blk hcp (List.mem_append_left _ List.mem_cons_self) rfl
  have hd2 : b2 ∉ ids own0 := hdis b2 (by simp [ids, MeetB])
  have hd3 : b3 ∉ ids own0 := hdis b3 (by simp [ids, MeetB])
  have hnd0 : (ids own0).Nodup := hc.ok.nodup
  have hlen : ((rdP g t m).map ints).length = m * triN g := by rw [List.length_map, rdP_length]
  have hm0 : g * m = 0 → m = 0 := fun h => by rcases Nat.mul_eq_zero.1 h with h | h <;> omega
  have ha : m = 0 ∨ ∃ b o, a = some ⟨b, o, none⟩ := by
    rcases hT with h | ⟨b, o, c, he, _⟩
    · left; rw [h] at htm; exact hm0 (by simpa using htm.symm)
    · right
      have : a = some ⟨b, o, none⟩ := by injection he
      exact ⟨b, o, this⟩
  refine calls_of_vwM Try.func138 rfl Try.ntmps138 (by simp) hc.ok ?_
  refine vw_seq (vw_region (by kernel_rfl) (vops_box [.func (.yield l) #[] #[]] rfl (fun b6 hb6 => ?_)))
  repeat (first | refine vops_nil ?_ | refine vw_seq ?_ | refine vw_region (by kernel_rfl) ?_ | refine vw_block ?_ | refine vops_load tyOk rfl rfl rfl (sees_old hr hd3) ?_ | refine vops_load tyOk rfl rfl rfl (sees_old hs hd2) ?_ | (apply vops_call ent69 rfl; (intro w' hg; exact c_chunkG g hg0 a (g * m) cap w'); (rintro _ newN ⟨b7, b8, rfl, rfl, hne⟩)))
  refine vw_rangeFunc (ts := [12]) (own0 := (b6, ⟨[.func (.yield l) #[] #[]], 51, 1, none⟩) :: own0) (cap := ChunkGCap g (.slice a (g * m) cap) b7 b8) rfl ent96 (it_chunkG g hg0 a m cap ha hcap (by omega) b7 b8) List.perm_append_comm (by simp) (fun x hx => by
      obtain ⟨q, _, rfl⟩ := List.mem_map.1 hx; rfl)
    (fun i own => ∃ ownJ, own = (b6, ⟨[.func (.yield l) #[] #[]], 51, 1, none⟩) :: ownJ ∧ (ids ownJ).Nodup ∧ J (i * triN g) ownJ)
    (fun c own => c = .ret ∧ ∃ ownJ, own = (b6, ⟨[.func (.yield l) #[] #[]], 51, 1, none⟩) :: ownJ ∧ (ids ownJ).Nodup ∧ Jx ownJ) ⟨own0, rfl, hnd0, by rw [Nat.zero_mul]; exact h0⟩ ?_ ?_ ?_
  · rintro l2 i x ownc w1 hx ⟨ownJ, rfl, hndJ, hJ⟩ hg1
    have him : i < m := by have := (List.getElem?_eq_some_iff.1 hx).1; rwa [chunkG_length] at this
    have hmul : g * i + g ≤ g * m := by
      have := Nat.mul_le_mul_left g (show i + 1 ≤ m by omega)
      rwa [Nat.mul_add, Nat.mul_one] at this
    rw [chunkG_at him] at hx
    obtain rfl : [partG g a i] = x := Option.some.inj hx
    obtain ⟨b, o, capt, he, hbt, hct⟩ : ∃ b o c, (Value.slice a (g * m) cap) = .slice (some ⟨b, o, none⟩) t.length c ∧ b ∉ ids own0 ∧ ∀ j, j < t.length → w.cell? ⟨b, o + j, none⟩ = some (.int .i64 (t.getD j 0)) := by
      rcases hT with h | h
      · rw [h] at htm; have := hm0 (by simpa using htm.symm); omega
      · exact h
    obtain rfl : a = some ⟨b, o, none⟩ := by injection he
    obtain ⟨GI, hGI⟩ : ∃ GI, GI = g * i := ⟨_, rfl⟩
    rw [← hGI] at hmul
    have hpart : partG g (some ⟨b, o, none⟩) i = .slice (some ⟨b, o + GI, none⟩) g g := by rw [hGI]; rfl
    simp only [updL, hpart]
    repeat (first | refine vops_q tyOk rfl ?_ | refine vops_nil ?_ | refine vw_region (by kernel_rfl) ?_)
    intro w2 hg2
    have hsee : ∀ k, k < g → w2.cell? ⟨b, o + GI + k, none⟩ = some (.int .i64 (t.getD (GI + k) 0)) ∧ b ∉ ids ((b6, (⟨[.func (.yield l) #[] #[]], 51, 1, none⟩ : Blk)) :: ownJ) := fun k hk => by
      have h1 := old_stays hg2 (hct (GI + k) (by omega)) hbt
      rw [Nat.add_assoc]; exact h1
    repeat (first | refine vops_q tyOk rfl ?_ | refine vops_nil ?_ | refine vw_seq ?_ | refine vw_region (by kernel_rfl) ?_ | refine vw_block ?_)
    refine vw_loopW (fun y f own => ∃ (k : Nat) (oJ : Own), k ≤ g ∧ y = g - k ∧ f 15 = .int .i64 k ∧ f 14 = .int .i64 g ∧ f 13 = .slice (some ⟨b, o + GI, none⟩) g g ∧ f 4 = .slice (some ⟨b, o + GI, none⟩) g g ∧ f 3 = .pointer (some ⟨b6, 0, none⟩) ∧ own = (b6, ⟨[.func (.yield l) #[] #[]], 51, 1, none⟩) :: oJ ∧ (ids oJ).Nodup ∧ J (i * triN g + triN k) oJ) g
      ⟨_, ole_refl, 0, ownJ, by omega, by omega, rfl, rfl, rfl, rfl, rfl, rfl, hndJ, hJ⟩ ?_
    rintro y f own ⟨k, oJ, hk, rfl, h15, h14, h13, h4, h3, rfl, hndo, hJo⟩
    rw [upd_of h15, upd_of h14, upd_of h13, upd_of h4, upd_of h3]
    repeat (first | refine vops_q tyOk rfl ?_ | refine vops_nil ?_ | refine vw_seq ?_ | refine vw_region (by kernel_rfl) ?_ | refine vw_cond rfl ?_)
    refine bs_dec (fun hlt => ?_) (fun hlt => ?_)
    · have hkg : k < g := by omega
      obtain ⟨A, hA⟩ : ∃ A, A = t.getD (GI + k) 0 := ⟨_, rfl⟩
      have hcA := hsee k hkg
      rw [← hA] at hcA
      have hsl : sliced (some ⟨b, o + GI, none⟩) (Int.toNat 0) (k : Int).toNat g 1 = .slice (some ⟨b, o + GI, none⟩) k g := by simp [sliced, Addr.add]
      have hni : (((k : Int).toNat - Int.toNat 0 : Nat) : Int) = (k : Int) := by omega
      repeat (first | refine vops_q tyOk rfl ?_ | refine vops_nil ?_ | refine vw_seq ?_ | refine vw_region (by kernel_rfl) ?_ | refine vops_p tyOk rfl (by (try simp only [inR]); omega) ?_ | refine vw_skip ?_ | refine vw_block ?_ | refine vops_load tyOk rfl rfl rfl (sees_old hcA.1 hcA.2) ?_ | refine vops_slice tyOk rfl rfl rfl rfl rfl (by omega) ?_)
      refine vw_loopW (fun y f own => ∃ (j : Nat) (oJ : Own), j ≤ k ∧ y = k - j ∧ f 24 = .int .i64 j ∧ f 23 = .int .i64 k ∧ f 22 = .slice (some ⟨b, o + GI, none⟩) k g ∧ f 6 = .int .i64 A ∧ f 15 = .int .i64 k ∧ f 14 = .int .i64 g ∧ f 13 = .slice (some ⟨b, o + GI, none⟩) g g ∧ f 4 = .slice (some ⟨b, o + GI, none⟩) g g ∧ f 3 = .pointer (some ⟨b6, 0, none⟩) ∧ own = (b6, ⟨[.func (.yield l) #[] #[]], 51, 1, none⟩) :: oJ ∧ (ids oJ).Nodup ∧ J (i * triN g + (triN k + j)) oJ) k
        ⟨_, ole_refl, 0, oJ, by omega, by omega, rfl, congrArg (Value.int .i64) hni, hsl, rfl, rfl, rfl, rfl, rfl, rfl, rfl, hndo, hJo⟩ ?_
      clear hJo hndo h15 h14 h13 h4 h3 f oJ
      rintro y f own ⟨j, oJ, hj, rfl, h24, h23, h22, h6, h15, h14, h13, h4, h3, rfl, hndo, hJo⟩
      rw [upd_of h24, upd_of h23, upd_of h22, upd_of h6, upd_of h15, upd_of h14, upd_of h13, upd_of h4, upd_of h3]
      repeat (first | refine vops_q tyOk rfl ?_ | refine vops_nil ?_ | refine vw_seq ?_ | refine vw_region (by kernel_rfl) ?_ | refine vw_cond rfl ?_)
      refine bs_dec (fun hlt2 => ?_) (fun hlt2 => ?_)
      · have hjk : j < k := by omega
        obtain ⟨B, hB⟩ : ∃ B, B = t.getD (GI + j) 0 := ⟨_, rfl⟩
        have hcB := hsee j (by omega)
        rw [← hB] at hcB
        have hyk := hy _ _ (pairV (r := t) (g := g) (q := i) (k := k) (i := j) (m := m) hjk hkg him (x := A) (y := B) (by rw [hA, hGI]) (by rw [hB, hGI])) oJ hJo
        repeat (first | refine vops_q tyOk rfl ?_ | refine vops_nil ?_ | refine vw_seq ?_ | refine vw_region (by kernel_rfl) ?_ | refine vops_p tyOk rfl (by (try simp only [inR]); omega) ?_ | refine vw_skip ?_ | refine vw_block ?_ | refine vops_load tyOk rfl rfl rfl (sees_old hcB.1 hcB.2) ?_ | ((show VOps _ _ _ _ (⟨some _, Go.Op.load _ _, _, _, _, none⟩ :: _) _ _); refine vops_loadM tyOk rfl rfl rfl (by repeat (first | exact mem_here | apply mem_next | apply mem_past)) (by rfl) ?_))
        refine vops_yieldE (hc.onto hg2) rfl rfl (ownJ := oJ) (ex := [(b6, ⟨[.func (.yield l) #[] #[]], 51, 1, none⟩)]) (List.perm_append_comm (l₁ := [_])) hyk (fun own' hJ' hnd' => ?_) (fun own' hJx hnd' => ?_)
        · have hn' : (ids own').Nodup := nodup_sub hnd' (List.sublist_append_left _ _)
          repeat (first | refine vops_q tyOk rfl ?_ | refine vops_nil ?_ | refine vw_region (by kernel_rfl) ?_ | with_reducible refine bs_ntrue ?_ | refine vops_p tyOk rfl (by (try simp only [inR]); omega) ?_ | refine vw_cond rfl ?_ | refine vw_skip ?_)
          exact ⟨k - (j + 1), by omega, (b6, ⟨[.func (.yield l) #[] #[]], 51, 1, none⟩) :: own', ole_endY, j + 1, own', by omega, rfl, rfl, rfl, rfl, rfl, rfl, rfl, rfl, rfl, rfl, rfl, hn', by rw [← Nat.add_assoc, ← Nat.add_assoc, Nat.add_assoc (i * triN g)]; exact hJ'⟩
        · have hn' : (ids own').Nodup := nodup_sub hnd' (List.sublist_append_left _ _)
          repeat (first | refine vops_q tyOk rfl ?_ | refine vops_nil ?_ | with_reducible refine bs_nfalse ?_ | refine vw_cond rfl ?_ | refine vw_ret ?_)
          exact ⟨(b6, ⟨[.func (.yield l) #[] #[]], 51, 1, none⟩) :: own', ole_endY, rfl, own', rfl, hn', hJx⟩
      · obtain rfl : j = k := by omega
        repeat (first | refine vops_q tyOk rfl ?_ | refine vops_nil ?_ | refine vw_region (by kernel_rfl) ?_ | refine vops_p tyOk rfl (by (try simp only [inR]); omega) ?_ | refine vw_exit ?_)
        exact ⟨g - (j + 1), by omega, _, ole_refl, j + 1, oJ, by omega, rfl, rfl, rfl, rfl, rfl, rfl, rfl, hndo, hJo⟩
    · obtain rfl : k = g := by omega
      repeat (first | refine vw_exit ?_)
      exact ⟨_, ole_refl, oJ, rfl, hndo, by rw [Nat.add_mul, Nat.one_mul]; exact hJo⟩
  · rintro own' ⟨ownJ, rfl, hndJ, hJ⟩
    rw [chunkG_length] at hJ
    exact outNoneN rfl hndJ (fun x hx => List.mem_cons_of_mem _ (List.mem_append_left _ hx)) (.inl (by rw [hlen]; exact hJ))
  · rintro c own' ⟨rfl, ownJ, rfl, hndJ, hJx⟩
    repeat (first | refine vw_ret ?_)
    exact outNoneR rfl hndJ (fun x hx => List.mem_cons_of_mem _ (List.mem_append_left _ hx)) (.inr hJx)
end Go.Proofs.Ytnammdmiljjhjaa

/- A part of the proof: X6. No conditions of its own. -/
namespace Go.Proofs.Ytnammdmiljjhjaa
open Go.VL
attribute [local irreducible] VWr VOps VD Calls

theorem rep_zero (k : Nat) : ((List.range k).map fun _ => (0 : Int)) = List.replicate k 0 := by
  apply List.ext_getElem (by simp)
  intro j h1 h2; simp
set_option maxHeartbeats 1000000 in
set_option maxRecDepth 100000 in
theorem c_noMeetings (k : Nat) (hk : k ≤ 25) (w : World) : Calls Try.prog 92 [.int .i64 k].toArray w (Res w (NewLL 29 2 (tabOf k fun _ _ => 0))) := by
  refine calls_of_vw Try.func92 rfl Try.ntmps92 (by simp) ?_
  repeat (first | refine vops_q tyOk rfl ?_ | refine vops_nil ?_ | refine vw_seq ?_ | refine vw_region (by kernel_rfl) ?_)
  refine vops_make (n := k) tyOk rfl rfl (List.cons_ne_nil _ _) rfl rfl (by show 24 * _ ≤ _; omega) (by omega) (fun bo hbo => ?_)
  have hmade : (madeCells ([Value.slice none 0 0] : List Value).toArray (k * 1)).toList = List.replicate k (Value.slice none 0 0) := by
    rw [Nat.mul_one]; exact made_same _ 1 _ (by omega)
  repeat (first | refine vops_q tyOk rfl ?_ | refine vops_nil ?_ | refine vw_seq ?_ | refine vw_region (by kernel_rfl) ?_ | refine vw_block ?_)
  refine vw_loopW (fun y f own => ∃ (i : Nat) (vs : List Value) (ns : List Own), i ≤ k ∧ y = k - i ∧ f 9 = .int .i64 i ∧ f 8 = .int .i64 k ∧ f 3 = .slice (some ⟨bo, 0, none⟩) k k ∧ f 0 = .int .i64 k ∧ Go.VL.RowsAt 2 ((tabOf k fun _ _ => 0).take i) vs ns ∧
      own = (bo, ⟨vs ++ List.replicate (k - i) (.slice none 0 0), 29, k * 1, none⟩) :: ns.flatten) k
    ⟨_, ole_refl, 0, [], [], by omega, by omega, rfl, rfl, rfl, rfl, by simp [Go.VL.RowsAt], by rw [List.nil_append, Nat.sub_zero, ← hmade]; rfl⟩ ?_
  rintro y f own ⟨i, vs, ns, hi, rfl, h9, h8, h3, h0, hRw, rfl⟩
  rw [upd_of h9, upd_of h8, upd_of h3, upd_of h0]
  have hvl : vs.length = i := by rw [hRw.len.1, List.length_take, tabOf_length, Nat.min_eq_left hi]
  repeat (first | refine vops_q tyOk rfl ?_ | refine vops_nil ?_ | refine vw_seq ?_ | refine vw_region (by kernel_rfl) ?_ | refine vw_cond rfl ?_)
  refine bs_dec (fun hlt => ?_) (fun hlt => ?_)
  · have hrep : List.replicate (k - i) (Value.slice none 0 0) = .slice none 0 0 :: List.replicate (k - (i + 1)) (.slice none 0 0) := by
      rw [show k - i = (k - (i + 1)) + 1 by omega, List.replicate_succ]
    have hst : (tabOf k fun _ _ => 0).take (i + 1) = (tabOf k fun _ _ => 0).take i ++ [List.replicate k 0] := by
      rw [List.take_add_one, tabOf_get (by omega), rep_zero]; rfl
    have hidx : 0 + (i : Int).toNat = i := by omega
    repeat (first | refine vops_q tyOk rfl ?_ | refine vops_nil ?_ | refine vw_seq ?_ | refine vw_region (by kernel_rfl) ?_ | refine vops_p tyOk rfl (by (try simp only [inR]); omega) ?_ | refine vw_skip ?_ | refine vw_block ?_ | refine vops_makeRows (k := 1) (n := k) tyOk rfl rfl rfl (by omega) rfl rfl rfl (by show 8 * _ ≤ _; omega) (by omega) (fun br hbr => ?_) | refine vops_storeM (o := i) tyOk rfl rfl (by exact congrArg (fun x => Value.pointer (some ⟨bo, x, none⟩)) hidx) rfl rfl (by repeat (first | exact upd_here | apply upd_next | apply upd_past)) (by rw [List.length_append, List.length_replicate]; omega) ?_)
    have hz : List.replicate (k * 1) (0 : Int) = List.replicate k 0 := by rw [Nat.mul_one]
    rw [hz]
    refine ⟨k - (i + 1), by omega, (bo, ⟨(vs ++ [.slice (some ⟨br, 0, none⟩) k k]) ++ List.replicate (k - (i + 1)) (.slice none 0 0), 29, k * 1, none⟩) :: (ns.flatten ++ [(br, ⟨ints (List.replicate k 0), 2, k * 1, none⟩)]), ?_, i + 1, vs ++ [.slice (some ⟨br, 0, none⟩) k k], ns ++ [[(br, ⟨ints (List.replicate k 0), 2, k * 1, none⟩)]], by omega, rfl, rfl, rfl, rfl, rfl, ?_, by rw [flat_snoc]⟩
    · rw [hrep, set_next hvl]
      refine ole_perm ?_
      exact ((List.perm_append_comm (l₁ := [(br, _)])).cons _).symm.trans (List.Perm.swap _ _ _) |>.symm
    · rw [hst]; exact RowsAt.snoc (NewI.lit (n := k) (cap := k) (by simp) (Nat.le_refl _) (by simp only [maxLen]; omega)) hRw
  · obtain rfl : i = k := by omega
    rw [Nat.sub_self, List.replicate_zero, List.append_nil]
    rw [List.take_of_length_le (by rw [tabOf_length]; omega)] at hRw
    refine vw_nodup (fun hnd => ?_)
    repeat (first | refine vops_q tyOk rfl ?_ | refine vops_nil ?_ | refine vw_seq ?_ | refine vw_region (by kernel_rfl) ?_ | refine vw_ret ?_ | refine vw_exit ?_)
    exact outLL (outer := [(bo, ⟨vs, 29, i * 1, none⟩)]) rfl rfl hRw ⟨by rw [hvl, Nat.mul_one], .inr ⟨bo, i, rfl, Nat.le_refl _, by simp only [maxLen]; omega, rfl⟩⟩ (by rw [tabOf_length]) hnd (fun _ h => h)

/-- A table, with the first q pairs counted c times. -/
def addF (f : Nat → Nat → Int) (c : Int) (P : List (List Int)) (q : Nat) (x y : Nat) : Int := f x y + c * (hits (P.take q) x y : Int)
theorem addF_zero (f : Nat → Nat → Int) (c : Int) (P : List (List Int)) : addF f c P 0 = f := by
  funext x y; unfold addF; rw [List.take_zero, show hits [] x y = 0 from rfl]; simp
theorem addF_le {f : Nat → Nat → Int} {c : Int} {P : List (List Int)} (hP : P.length ≤ 100000) {x y : Nat} (hf : -1000 ≤ f x y ∧ f x y ≤ 1000) (hc : c = 1 ∨ c = -1) (q : Nat) : -200000 ≤ addF f c P q x y ∧ addF f c P q x y ≤ 200000 := by
  have h1 := hits_le (P.take q) x y
  rw [List.length_take] at h1
  unfold addF
  rcases hc with rfl | rfl <;> omega
theorem addF_step {f : Nat → Nat → Int} {c : Int} {P : List (List Int)} {q a b : Nat} (hq : P[q]? = some [(a : Int), (b : Int)]) (hab : a ≠ b) {g1 : Nat → Nat → Int} (h1 : g1 = fun x z => if x = a ∧ z = b then addF f c P q a b + c else addF f c P q x z) (x z : Nat) :
    (if x = b ∧ z = a then g1 b a + c else g1 x z) = addF f c P (q + 1) x z := by
  have key : addF f c P (q + 1) x z = addF f c P q x z + (if ((a : Int) = (x : Int) ∧ (b : Int) = (z : Int)) ∨ ((a : Int) = (z : Int) ∧ (b : Int) = (x : Int)) then c else 0) := by
    unfold addF
    rw [List.take_add_one, hq]
    show f x z + c * ((hits (P.take q ++ [[(a : Int), (b : Int)]]) x z : Nat) : Int) = _
    rw [hits_snoc, Int.natCast_add, Int.mul_add]
    split
    · rw [show ((1 : Nat) : Int) = 1 from rfl, Int.mul_one]; omega
    · rw [show ((0 : Nat) : Int) = 0 from rfl, Int.mul_zero]; omega
  rw [key]
  subst h1
  by_cases h2 : x = b ∧ z = a
  · obtain ⟨rfl, rfl⟩ := h2
    rw [if_pos ⟨rfl, rfl⟩, if_pos (by omega)]
    show (if x = z ∧ z = x then _ else _) + c = _
    rw [if_neg (by omega)]
  · rw [if_neg h2]
    show (if x = a ∧ z = b then _ else _) = _
    by_cases h3 : x = a ∧ z = b
    · obtain ⟨rfl, rfl⟩ := h3
      rw [if_pos ⟨rfl, rfl⟩, if_pos (by omega)]
    · rw [if_neg h3, if_neg (by omega)]; omega
/-- A table with the meetings of a round added. -/
def addR (f : Nat → Nat → Int) (c : Int) (g : Nat) (r : List Int) (x y : Nat) : Int := f x y + c * (if SameG g r x y then 1 else 0)
set_option maxHeartbeats 4000000 in
set_option maxRecDepth 100000 in
theorem c_addMeetings (n g m : Nat) (hg0 : 0 < g) (hg25 : g ≤ 25) (hgm : g * m = n) (hn : n ≤ 25) (v : Value) (a : Option Addr) (cap : Nat) (hcap : n ≤ cap) (F0 : Nat → Nat → Int) (c : Int) (hc : c = 1 ∨ c = -1) (hf : ∀ x y, x < n → y < n → -1000 ≤ F0 x y ∧ F0 x y ≤ 1000) (r : List Int) (hr : IsPerm n r) (new : Own) (w : World)
    (hN : NewLL 29 2 (tabOf n F0) v new) (ho : OwnOk new w) (hu : RdW w (.slice a n cap) r new) :
    Calls Try.prog 93 [v, .int .i64 g, .slice a n cap, .int .i64 c].toArray w (ResM w new (fun u new' => u = .tuple #[] ∧ NewLL 29 2 (tabOf n (addR F0 c g r)) v new')) := by
  obtain ⟨vs, ns, outer, hRw, hO, rfl⟩ := hN
  rw [tabOf_length] at hO
  obtain ⟨pv, cv, rfl⟩ := hO.form
  have hrl := hr.1
  have hvl : vs.length = n := by rw [hRw.len.1, tabOf_length]
  have hm25 : m ≤ 25 := by
    have := Nat.le_mul_of_pos_left m hg0
    omega
  obtain ⟨P, hP⟩ : ∃ P, P = rdP g r m := ⟨_, rfl⟩
  have hPl : P.length ≤ 100000 := by
    rw [hP, rdP_length]
    have := Nat.mul_le_mul hm25 (triN_le g hg25)
    omega
  have hPm : ∀ p ∈ P, ∃ a b : Nat, a < n ∧ b < n ∧ a ≠ b ∧ p = [(a : Int), (b : Int)] := fun p hp => rdP_mem hr (by omega) (hP ▸ hp)
  have hT0 : TabAt 2 (tabOf n (addF F0 c P 0)) vs ns.flatten := ⟨ns, by rw [addF_zero]; exact hRw, List.Perm.refl _⟩
  refine calls_of_vwM Try.func93 rfl Try.ntmps93 (by simp) ho ?_
  refine vw_seq (vw_region (by kernel_rfl) (vops_box [.slice pv n cv] rfl (fun b4 hb4 => ?_)))
  refine vops_box [.int .i64 c] rfl (fun b7 hb7 => ?_)
  repeat (first | refine vops_q tyOk rfl ?_ | refine vops_nil ?_ | refine vw_seq ?_ | refine vw_region (by kernel_rfl) ?_ | refine vw_block ?_ | (apply vops_call ent120 rfl; (intro w' hg; exact c_meetingsIn g a n cap w'); (rintro _ newN ⟨b8, b9, rfl, rfl, hne⟩)))
  have hit := it_meet g hg0 hg25 a m cap r (by omega) (by omega) (by omega) b8 b9 []
  rw [← hP, hgm, List.append_nil] at hit
  refine vw_rangeFuncG (ts := [13, 14]) (own0 := (b7, ⟨[.int .i64 c], 2, 1, none⟩) :: (b4, ⟨[.slice pv n cv], 24, 1, none⟩) :: (outer ++ ns.flatten)) (cap := MeetB g (.slice a n cap) b8 b9) rfl ent138 hit
    (fun w' own' hg => RdW.sub (hu.later hg) (fun b hb => by rw [ids_app]; exact List.mem_append_left _ hb))
    List.perm_append_comm (by simp) (fun x hx => by
      obtain ⟨p, hp, rfl⟩ := List.mem_map.1 hx
      obtain ⟨_, _, _, _, _, rfl⟩ := hPm p hp
      rfl)
    (fun q own => ∃ X : Own, TabAt 2 (tabOf n (addF F0 c P q)) vs X ∧ (ids (outer ++ X)).Nodup ∧ own = (b7, ⟨[.int .i64 c], 2, 1, none⟩) :: (b4, ⟨[.slice pv n cv], 24, 1, none⟩) :: (outer ++ X))
    (fun _ _ => False) ⟨ns.flatten, hT0, ho.nodup, rfl⟩ ?_ ?_ (fun c o h => h.elim)
  · rintro l q x ownc w1 hx ⟨X1, hTab1, hnd1, rfl⟩ hg1
    rw [List.getElem?_map] at hx
    obtain ⟨p, hp, rfl⟩ := Option.map_eq_some_iff.1 hx
    obtain ⟨x, y, hxi, hyi, hxy, rfl⟩ := hPm p (List.mem_of_getElem? hp)
    obtain ⟨bo, rfl, rfl, hcv⟩ : ∃ bo, pv = some ⟨bo, 0, none⟩ ∧ outer = [(bo, ⟨vs, 29, cv * 1, none⟩)] ∧ n ≤ cv := by
      rcases hO.2 with ⟨_, h, _⟩ | ⟨bo, cap', h, h2, h3, h4⟩
      · omega
      · cases h; exact ⟨bo, rfl, h4, h2⟩
    have hb1 := addF_le hPl (hf x y hxi hyi) hc q
    have hb2' := addF_le hPl (hf y x hyi hxi) hc q
    have hst := fun g1 h1 => addF_step (f := F0) (c := c) hp hxy (g1 := g1) h1
    obtain ⟨gg, hg⟩ : ∃ gg, gg = addF F0 c P q := ⟨_, rfl⟩
    rw [← hg] at hTab1 hb1 hb2'
    have hc' : -1 ≤ c ∧ c ≤ 1 := by rcases hc with h | h <;> omega
    simp only [ints, List.map_cons, List.map_nil, updL]
    repeat (first | refine vops_q tyOk rfl ?_ | refine vops_nil ?_ | refine vw_seq ?_ | refine vw_region (by kernel_rfl) ?_)
    intro w2 hg2
    obtain ⟨br, cr, R, hv1, hp1, _, hnew1⟩ := hTab1.row (tabOf_get (a := x) (by omega)) (by rw [row_length]; omega)
    rw [row_length] at hv1
    have hva := vals_get hv1 (show 0 + (x : Int).toNat = x by omega)
    have hcell : (ints ((List.range n).map fun b => gg x b))[0 + (y : Int).toNat]? = some (.int .i64 (gg x y)) := by
      rw [show 0 + (y : Int).toNat = y by omega, ints_get (by rw [row_length]; omega), row_get (by omega)]
    refine vw_perm (own' := (br, ⟨ints ((List.range n).map fun b => gg x b), 2, cr * 1, none⟩) :: ((b7, ⟨[.int .i64 c], 2, 1, none⟩) :: (b4, ⟨[.slice (some ⟨bo, 0, none⟩) n cv], 24, 1, none⟩) :: (bo, ⟨vs, 29, cv * 1, none⟩) :: R)) (by
      have := perm_pull (A := [(b7, (⟨[.int .i64 c], 2, 1, none⟩ : Blk)), (b4, ⟨[.slice (some ⟨bo, 0, none⟩) n cv], 24, 1, none⟩), (bo, ⟨vs, 29, cv * 1, none⟩)]) (C := []) hp1
      simpa using this) ?_
    refine vw_block ?_
    refine vw_seq ?_
    refine vw_draw [0, 1, 2, 3, 4, 5, 6, 7, 8, 9, 10] (by kernel_rfl) (by kernel_rfl) (by kernel_rfl) rfl ?_
    repeat' (first | refine vd_q tyOk rfl (by first | trivial | rfl) rfl (by kernel_rfl) (by kernel_rfl) ?_ | refine vd_p tyOk rfl (by first | trivial | rfl) rfl (by kernel_rfl) (by kernel_rfl) (by (try simp only [inR]); omega) ?_ | refine vops_nil ?_ | refine vd_nil (by kernel_rfl) ?_ | refine vd_load tyOk rfl (by first | trivial | rfl) rfl rfl rfl (by kernel_rfl) (by kernel_rfl) (by kernel_rfl) (sees_mem (by repeat (first | exact mem_here | apply mem_next | apply mem_past)) (by rfl)) (by repeat (first | exact sub_hereL | exact sub_refl | apply sub_cons | apply sub_app)) ?_ | refine ⟨fun h => Bool.noConfusion (show false = true from h), ?_⟩ | refine vd_load tyOk rfl (by first | trivial | rfl) rfl rfl rfl (by kernel_rfl) (by kernel_rfl) (by kernel_rfl) (sees_mem (by repeat (first | exact mem_here | apply mem_next | apply mem_past)) (by exact hva)) (by repeat (first | exact sub_hereL | exact sub_refl | apply sub_cons | apply sub_app)) ?_ | refine vd_load tyOk rfl (by first | trivial | rfl) rfl rfl rfl (by kernel_rfl) (by kernel_rfl) (by kernel_rfl) (sees_mem (by repeat (first | exact mem_here | apply mem_next | apply mem_past)) (by exact hcell)) (by repeat (first | exact sub_hereL | exact sub_refl | apply sub_cons | apply sub_app)) ?_ | refine vops_storeIM tyOk rfl rfl rfl rfl (by repeat (first | exact upd_here | apply upd_next | apply upd_past)) (by rw [row_length]; omega) ?_ | refine vd_one rfl (by kernel_rfl) (by kernel_rfl) rfl ?_)
    obtain ⟨g1, hg1d⟩ : ∃ g1 : Nat → Nat → Int, g1 = fun x' z => if x' = x ∧ z = y then gg x y + c else gg x' z := ⟨_, rfl⟩
    have hTab2 := hnew1 (((List.range n).map fun b => gg x b).set (y : Int).toNat (gg x y + c)) (by rw [List.length_set])
    rw [show (tabOf n gg).set x (((List.range n).map fun b => gg x b).set (y : Int).toNat (gg x y + c)) = tabOf n g1 by rw [Int.toNat_natCast, tabOf_set, hg1d]] at hTab2
    obtain ⟨br2, cr2, R2, hv2, hp2, _, hnew2⟩ := hTab2.row (tabOf_get (a := y) (by omega)) (by rw [row_length]; omega)
    rw [row_length] at hv2
    have hvb := vals_get hv2 (show 0 + (y : Int).toNat = y by omega)
    have hgya : g1 y x = gg y x := by rw [hg1d]; show (if y = x ∧ x = y then _ else _) = _; rw [if_neg (by omega)]
    have hcell2 : (ints ((List.range n).map fun b => g1 y b))[0 + (x : Int).toNat]? = some (.int .i64 (g1 y x)) := by
      rw [show 0 + (x : Int).toNat = x by omega, ints_get (by rw [row_length]; omega), row_get (by omega)]
    refine vw_perm (own' := (br2, ⟨ints ((List.range n).map fun b => g1 y b), 2, cr2 * 1, none⟩) :: ((b7, ⟨[.int .i64 c], 2, 1, none⟩) :: (b4, ⟨[.slice (some ⟨bo, 0, none⟩) n cv], 24, 1, none⟩) :: (bo, ⟨vs, 29, cv * 1, none⟩) :: R2)) (by
      have := perm_front (A := [(b7, (⟨[.int .i64 c], 2, 1, none⟩ : Blk)), (b4, ⟨[.slice (some ⟨bo, 0, none⟩) n cv], 24, 1, none⟩), (bo, ⟨vs, 29, cv * 1, none⟩)]) (C := []) hp2
      simpa using this) ?_
    refine vw_draw [0, 1, 2, 3, 4, 5, 6, 7, 8, 9, 10] (by kernel_rfl) (by kernel_rfl) (by kernel_rfl) rfl ?_
    repeat' (first | refine vd_q tyOk rfl (by first | trivial | rfl) rfl (by kernel_rfl) (by kernel_rfl) ?_ | refine vd_p tyOk rfl (by first | trivial | rfl) rfl (by kernel_rfl) (by kernel_rfl) (by (try simp only [inR]); omega) ?_ | refine vops_nil ?_ | refine vd_nil (by kernel_rfl) ?_ | refine vd_load tyOk rfl (by first | trivial | rfl) rfl rfl rfl (by kernel_rfl) (by kernel_rfl) (by kernel_rfl) (sees_mem (by repeat (first | exact mem_here | apply mem_next | apply mem_past)) (by rfl)) (by repeat (first | exact sub_hereL | exact sub_refl | apply sub_cons | apply sub_app)) ?_ | refine ⟨fun h => Bool.noConfusion (show false = true from h), ?_⟩ | refine vd_load tyOk rfl (by first | trivial | rfl) rfl rfl rfl (by kernel_rfl) (by kernel_rfl) (by kernel_rfl) (sees_mem (by repeat (first | exact mem_here | apply mem_next | apply mem_past)) (by exact hvb)) (by repeat (first | exact sub_hereL | exact sub_refl | apply sub_cons | apply sub_app)) ?_ | refine vd_load tyOk rfl (by first | trivial | rfl) rfl rfl rfl (by kernel_rfl) (by kernel_rfl) (by kernel_rfl) (sees_mem (by repeat (first | exact mem_here | apply mem_next | apply mem_past)) (by exact hcell2)) (by repeat (first | exact sub_hereL | exact sub_refl | apply sub_cons | apply sub_app)) ?_ | refine vops_storeIM tyOk rfl rfl rfl rfl (by repeat (first | exact upd_here | apply upd_next | apply upd_past)) (by rw [row_length]; omega) ?_ | refine vd_one rfl (by kernel_rfl) (by kernel_rfl) rfl ?_)
    have hTab3 := hnew2 (((List.range n).map fun b => g1 y b).set (x : Int).toNat (g1 y x + c)) (by rw [List.length_set])
    rw [show (tabOf n g1).set y (((List.range n).map fun b => g1 y b).set (x : Int).toNat (g1 y x + c)) = tabOf n (addF F0 c P (q + 1)) by
      rw [Int.toNat_natCast, tabOf_set]
      exact tabOf_congr fun x' z _ _ => hst g1 (by rw [hg1d, hg]) x' z] at hTab3
    refine ⟨(b7, ⟨[.int .i64 c], 2, 1, none⟩) :: (b4, ⟨[.slice (some ⟨bo, 0, none⟩) n cv], 24, 1, none⟩) :: ([(bo, ⟨vs, 29, cv * 1, none⟩)] ++ ((br2, ⟨ints (((List.range n).map fun b => g1 y b).set (x : Int).toNat (g1 y x + c)), 2, cr2 * 1, none⟩) :: R2)), ole_perm ?_, _, hTab3, ?_, rfl⟩
    rotate_left
    · have hids : (ids X1).Perm (br2 :: ids R2) := (hp1.map Prod.fst).trans (hp2.map Prod.fst)
      exact ((hids.cons bo).nodup_iff).1 hnd1
    exact (List.perm_middle (l₁ := [(b7, (⟨[.int .i64 c], 2, 1, none⟩ : Blk)), (b4, ⟨[.slice (some ⟨bo, 0, none⟩) n cv], 24, 1, none⟩), (bo, ⟨vs, 29, cv * 1, none⟩)])).symm
  · rintro own' ⟨X1, hTab1, hnd1, rfl⟩
    rw [List.length_map] at hTab1
    have hfin : tabOf n (addF F0 c P P.length) = tabOf n (addR F0 c g r) := tabOf_congr fun x y hx hy => by
      unfold addF addR
      rw [List.take_length, hP, hits_all hr hg0 hgm hx hy]
      split <;> rfl
    rw [hfin] at hTab1
    obtain ⟨ns', hR', hp'⟩ := hTab1
    have hpp : (outer ++ X1).Perm (outer ++ ns'.flatten) := hp'.append_left outer
    exact outNoneN rfl ((hpp.map Prod.fst).nodup_iff.1 hnd1) (fun x hx => List.mem_cons_of_mem _ (List.mem_cons_of_mem _ (List.mem_append_left _ (hpp.mem_iff.2 hx)))) ⟨rfl, vs, ns', outer, hR', by rw [tabOf_length]; exact hO, rfl⟩

set_option maxHeartbeats 4000000 in
set_option maxRecDepth 100000 in
theorem c_timesMet (n g : Nat) (v : Value) (ls : List (List Int)) (hG : IsGf n g ls) (w : World) (hv : RdCC w v ls) :
    Calls Try.prog 64 [.agg #[.int .i64 n, .int .i64 g, v]].toArray w (Res w (NewLL 29 2 (metT n g ls))) := by
  obtain ⟨a, cap, rfl⟩ := hv.len
  have hn2 := hG.1
  have hn25 := hG.2.1
  have hg2 := hG.2.2.1
  have hgle := hG.gle
  have h12 := hG.2.2.2.2.1
  obtain ⟨m, hm⟩ : ∃ m : Nat, g * m = n := by
    have h := hG.2.2.2.1
    have h' : n % g = 0 := by exact_mod_cast h
    exact ⟨n / g, Nat.mul_div_cancel' (Nat.dvd_of_mod_eq_zero h')⟩
  refine calls_of_vw Try.func64 rfl Try.ntmps64 (by simp) ?_
  refine vw_seq (vw_region (by kernel_rfl) (vops_box [.int .i64 n, .int .i64 g, .slice a ls.length cap] rfl (fun b1 hb1 => ?_)))
  repeat (first | refine vops_q tyOk rfl ?_ | refine vops_nil ?_ | refine vw_seq ?_ | refine vw_region (by kernel_rfl) ?_ | ((show VOps _ _ _ _ (⟨some _, Go.Op.load _ _, _, _, _, none⟩ :: _) _ _); refine vops_loadM tyOk rfl rfl rfl (by repeat (first | exact mem_here | apply mem_next | apply mem_past)) (by rfl) ?_))
  apply vops_call ent92 rfl
  · intro w' hg; exact c_noMeetings n (by omega) w'
  rintro _ newT hNT
  obtain ⟨pt, ct, rfl⟩ := hNT.form
  rw [tabOf_length] at hNT ⊢
  repeat (first | refine vops_q tyOk rfl ?_ | refine vops_nil ?_ | refine vw_seq ?_ | refine vw_region (by kernel_rfl) ?_ | refine vw_block ?_ | ((show VOps _ _ _ _ (⟨some _, Go.Op.load _ _, _, _, _, none⟩ :: _) _ _); refine vops_loadM tyOk rfl rfl rfl (by repeat (first | exact mem_here | apply mem_next | apply mem_past)) (by rfl) ?_))
  have hnil : (tabOf n fun _ _ => (0 : Int)) = metT n g (ls.take 0) := tabOf_congr fun x y _ _ => rfl
  rw [hnil] at hNT
  refine vw_loopW (fun y f own => ∃ (i : Nat) (newT : Own), i ≤ ls.length ∧ y = ls.length - i ∧ f 12 = .int .i64 i ∧ f 11 = .int .i64 ls.length ∧ f 10 = .slice a ls.length cap ∧ f 3 = .slice pt n ct ∧ f 1 = .pointer (some ⟨b1, 0, none⟩) ∧ NewLL 29 2 (metT n g (ls.take i)) (.slice pt n ct) newT ∧
      own = newT ++ [(b1, ⟨[.int .i64 n, .int .i64 g, .slice a ls.length cap], 26, 3, none⟩)]) ls.length
    ⟨_, ole_refl, 0, newT, by omega, by omega, rfl, rfl, rfl, rfl, rfl, hNT, rfl⟩ ?_
  clear hNT
  rintro y f own ⟨i, newT, hi, rfl, h12, h11, h10, h3, h1, hNT, rfl⟩
  rw [upd_of h12, upd_of h11, upd_of h10, upd_of h3, upd_of h1]
  repeat (first | refine vops_q tyOk rfl ?_ | refine vops_nil ?_ | refine vw_seq ?_ | refine vw_region (by kernel_rfl) ?_ | refine vw_cond rfl ?_)
  refine bs_dec (fun hlt => ?_) (fun hlt => ?_)
  · have hil : i < ls.length := by omega
    obtain ⟨b, o, cap', u, cap2, he, hcu, hu⟩ := hv.row (i := i) hil
    cases he
    have hli : ls[i]? = some (ls.getD i []) := by rw [List.getD_eq_getElem?_getD, List.getElem?_eq_getElem hil]; rfl
    have hr := hG.row hli
    have hrl := hr.1
    have hst : metT n g (ls.take (i + 1)) = tabOf n (addR (fun x y => (metN g (ls.take i) x y : Int)) 1 g (ls.getD i [])) := tabOf_congr fun x y _ _ => by
      rw [List.take_add_one, hli]
      show ((metN g (ls.take i ++ [ls.getD i []]) x y : Nat) : Int) = _
      rw [metN_snoc]
      unfold addR
      split <;> (push_cast; omega)
    have hcap2 : (ls.getD i []).length ≤ cap2 := hu.2
    have hlen : (ls.getD i []).length = n := by omega
    rw [hlen] at hcu hu
    generalize ls.getD i [] = r at *
    have hb : ∀ x y, x < n → y < n → -1000 ≤ ((metN g (ls.take i) x y : Nat) : Int) ∧ ((metN g (ls.take i) x y : Nat) : Int) ≤ 1000 := fun x y _ _ => by
      have := metN_le g (ls.take i) x y
      rw [List.length_take] at this
      omega
    repeat (first | refine vops_q tyOk rfl ?_ | refine vops_nil ?_ | refine vw_seq ?_ | refine vw_region (by kernel_rfl) ?_ | refine vops_p tyOk rfl (by (try simp only [inR]); omega) ?_ | refine vw_skip ?_ | refine vw_block ?_ | refine vops_load tyOk rfl rfl rfl (sees_old hcu (by simp)) ?_ | ((show VOps _ _ _ _ (⟨some _, Go.Op.load _ _, _, _, _, none⟩ :: _) _ _); refine vops_loadM tyOk rfl rfl rfl (by repeat (first | exact mem_here | apply mem_next | apply mem_past)) (by rfl) ?_))
    refine vops_callM ent93 rfl (own0 := newT) (by repeat (first | exact pm_here | exact pm_last | apply pm_next | apply pm_past)) (fun w' hg => c_addMeetings n g m (by omega) (by omega) hm (by omega) _ u cap2 (by omega) (fun x y => (metN g (ls.take i) x y : Int)) 1 (.inl rfl) hb r hr newT w' hNT (okS hg) (RdW.sub (own := newT ++ [(b1, (⟨[.int .i64 n, .int .i64 g, .slice (some ⟨b, o, none⟩) ls.length cap], 26, 3, none⟩ : Blk))]) (RdW.later (W := []) (rdI_w hu.1) hg) (fun b hb => by rw [ids_app]; exact List.mem_append_left _ hb))) ?_
    rintro _ newU ⟨rfl, hNU⟩
    repeat (first | refine vops_q tyOk rfl ?_ | refine vops_nil ?_ | refine vw_region (by kernel_rfl) ?_ | refine vops_p tyOk rfl (by (try simp only [inR]); omega) ?_)
    exact ⟨ls.length - (i + 1), by omega, newU ++ [(b1, ⟨[.int .i64 n, .int .i64 g, .slice (some ⟨b, o, none⟩) ls.length cap], 26, 3, none⟩)], ole_refl, i + 1, newU, by omega, rfl, rfl, rfl, rfl, rfl, rfl, by rw [hst]; exact hNU, rfl⟩
  · obtain rfl : i = ls.length := by omega
    rw [List.take_length] at hNT
    refine vw_nodup (fun hnd => ?_)
    repeat (first | refine vops_q tyOk rfl ?_ | refine vops_nil ?_ | refine vw_seq ?_ | refine vw_region (by kernel_rfl) ?_ | refine vw_ret ?_ | refine vw_exit ?_)
    exact out1 rfl rfl (nodup_sub hnd (List.sublist_append_left _ _)) (fun x hx => List.mem_append_left _ hx) hNT
end Go.Proofs.Ytnammdmiljjhjaa

