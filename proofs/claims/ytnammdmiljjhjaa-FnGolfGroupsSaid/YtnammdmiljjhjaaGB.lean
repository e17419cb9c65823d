import Derived.Test.YtnammdmiljjhjaaGA
import Derived.Test.YtnammdmiljjhjaaSY
import Derived.Test.YtnammdmiljjhjaaVLA
/- Parts of the proof, one after another. No conditions of their own. -/
/- A part of the proof: X7. No conditions of its own. -/
namespace Go.Proofs.Ytnammdmiljjhjaa
open Go.VL
attribute [local irreducible] VWr VOps VD Calls

theorem tabOf_setRowX {n : Nat} {g : Nat → Nat → Int} {a : Nat} {h : Nat → Int} : (tabOf n g).set a ((List.range n).map h) = tabOf n fun x y => if x = a then h y else g x y := by
  apply List.ext_getElem (by simp [tabOf])
  intro i h1 h2
  rw [List.getElem_set]
  simp only [tabOf, List.getElem_map, List.getElem_range]
  by_cases hi : a = i
  · subst hi; simp
  · rw [if_neg hi]
    apply List.map_congr_left
    intro y _
    rw [if_neg fun h => hi h.symm]
/-- What the places below q add. -/
def rowC (g : Nat) (r : List Int) (q x y : Nat) : Int := if SameG g r x y ∧ posI r x < q then 1 else 0
/-- .. and of the place q the z first of its group. -/
def celC (r : List Int) (q o z b : Nat) : Int := if posI r b ≠ q ∧ o ≤ posI r b ∧ posI r b < o + z then 1 else 0
theorem rowC_zero (g : Nat) (r : List Int) (x y : Nat) : rowC g r 0 x y = 0 := if_neg fun h => absurd h.2 (Nat.not_lt_zero _)
theorem rowC_all {n : Nat} (g : Nat) {r : List Int} (h : IsPerm n r) {x : Nat} (hx : x < n) (y : Nat) : rowC g r n x y = if SameG g r x y then 1 else 0 := by
  have := pos_lt h hx
  unfold rowC
  by_cases c : SameG g r x y
  · rw [if_pos ⟨c, this⟩, if_pos c]
  · rw [if_neg fun hh => c hh.1, if_neg c]
theorem celC_zero (r : List Int) (q o b : Nat) : celC r q o 0 b = 0 := if_neg (by omega)
theorem celC_le (r : List Int) (q o z b : Nat) : 0 ≤ celC r q o z b ∧ celC r q o z b ≤ 1 := by unfold celC; split <;> omega
theorem rowC_le (g : Nat) (r : List Int) (q x y : Nat) : 0 ≤ rowC g r q x y ∧ rowC g r q x y ≤ 1 := by unfold rowC; split <;> omega
theorem rowC_other {n g : Nat} {r : List Int} (h : IsPerm n r) {q x0 : Nat} (hx0 : r.getD q 0 = (x0 : Int)) {x : Nat} (hne : x ≠ x0) (y : Nat) (hx : x < n) : rowC g r (q + 1) x y = rowC g r q x y := by
  have hp : posI r x ≠ q := fun e => hne (by
    have h1 := pos_get h hx
    rw [e, hx0] at h1; omega)
  unfold rowC
  by_cases c : SameG g r x y ∧ posI r x < q
  · rw [if_pos c, if_pos ⟨c.1, by omega⟩]
  · rw [if_neg c, if_neg fun hh => c ⟨hh.1, by omega⟩]
theorem rowC_own {n g : Nat} {r : List Int} (h : IsPerm n r) (hg : 0 < g) {q x0 : Nat} (hq : q < n) (hx0 : r.getD q 0 = (x0 : Int)) {y : Nat} (hy : y < n) (hx : x0 < n) : rowC g r (q + 1) x0 y = rowC g r q x0 y + celC r q (q / g * g) g y := by
  have hp : posI r x0 = q := (getD_iff h (by omega)).1 hx0
  have h0 : rowC g r q x0 y = 0 := if_neg fun hh => by have := hh.2; omega
  have hd := div_between (q := posI r y) (m := q / g) hg
  rw [Nat.mul_comm] at hd
  rw [h0, Int.zero_add]
  unfold rowC celC
  by_cases c : posI r y ≠ q ∧ q / g * g ≤ posI r y ∧ posI r y < q / g * g + g
  · rw [if_pos c, if_pos ⟨⟨fun e => c.1 (by rw [← e, hp]), by rw [hp]; exact (hd.2 ⟨c.2.1, c.2.2⟩).symm⟩, by omega⟩]
  · rw [if_neg c, if_neg fun hh => c ⟨fun e => hh.1.1 (pos_inj h hx hy (by rw [hp, e])), by
      have := hh.1.2
      rw [hp] at this
      exact hd.1 this.symm⟩]

set_option maxHeartbeats 4000000 in
set_option maxRecDepth 100000 in
theorem c_l08Meetings (n g : Nat) (v : Value) (ls : List (List Int)) (hG : IsGf n g ls) (w : World) (hv : RdII w v ls) :
    Calls Try.prog 66 [.agg #[.int .i64 n, .int .i64 g, v]].toArray w (Res w (NewLL 29 2 (metT n g ls))) := by
  obtain ⟨a, cap, rfl⟩ := hv.len
  have hn2 := hG.1
  have hn25 := hG.2.1
  have hg2 := hG.2.2.1
  have hgle := hG.gle
  have h12 := hG.2.2.2.2.1
  have hgd : n % g = 0 := by have h := hG.2.2.2.1; exact_mod_cast h
  refine calls_of_vw Try.func66 rfl Try.ntmps66 (by simp) ?_
  refine vw_seq (vw_region (by kernel_rfl) (vops_box [.int .i64 n, .int .i64 g, .slice a ls.length cap] rfl (fun b1 hb1 => ?_)))
  repeat (first | refine vops_q tyOk rfl ?_ | refine vops_nil ?_ | refine vw_seq ?_ | refine vw_region (by kernel_rfl) ?_)
  refine vops_build0 tyOk rfl rfl (fun be hbe => ?_)
  repeat (first | refine vops_q tyOk rfl ?_ | refine vops_nil ?_ | refine vw_seq ?_ | refine vw_region (by kernel_rfl) ?_ | refine vw_block ?_)
  refine vw_loopW (fun y f own => ∃ (i : Nat) (p : Option Addr) (cp : Nat) (vs : List Value) (ns : List Own) (outer : Own), i ≤ n ∧ y = n - i ∧ f 4 = .int .i64 i ∧ f 1 = .pointer (some ⟨b1, 0, none⟩) ∧ f 3 = .slice p i cp ∧
      Go.VL.RowsAt 2 ((tabOf n fun _ _ => 0).take i) vs ns ∧ SlAt 29 1 (.slice p i cp) i vs outer [] ∧ own = outer ++ (ns.flatten ++ [(b1, ⟨[.int .i64 n, .int .i64 g, .slice a ls.length cap], 26, 3, none⟩)])) n
    ⟨[(be, _)] ++ ([] ++ [(b1, _)]), (by repeat (first | exact ole_nil | exact ole_refl | (apply ole_cons; (repeat (first | exact pm1_here | apply pm1_next | apply pm1_past))) | (apply ole_app; (repeat (first | exact pm_here | exact pm_last | apply pm_next | apply pm_past))))), 0, _, _, [], [], [(be, _)], by omega, by omega, rfl, rfl, rfl, by simp [Go.VL.RowsAt], SlAt.empty, rfl⟩ ?_
  rintro y f own ⟨i, p, cp, vs, ns, outer, hi, rfl, h4, h1, h3, hRw, hO, rfl⟩
  rw [upd_of h4, upd_of h1, upd_of h3]
  repeat (first | refine vops_q tyOk rfl ?_ | refine vops_nil ?_ | refine vw_seq ?_ | refine vw_region (by kernel_rfl) ?_ | refine vw_cond rfl ?_ | ((show VOps _ _ _ _ (⟨some _, Go.Op.load _ _, _, _, _, none⟩ :: _) _ _); refine vops_loadM tyOk rfl rfl rfl (by repeat (first | exact mem_here | apply mem_next | apply mem_past)) (by rfl) ?_))
  refine bs_dec (fun hlt => ?_) (fun hlt => ?_)
  · have hst : (tabOf n fun _ _ => 0).take (i + 1) = (tabOf n fun _ _ => 0).take i ++ [List.replicate n 0] := by
      rw [List.take_add_one, tabOf_get (by omega), rep_zero]; rfl
    repeat (first | refine vops_q tyOk rfl ?_ | refine vops_nil ?_ | refine vw_seq ?_ | refine vw_region (by kernel_rfl) ?_ | refine vops_p tyOk rfl (by (try simp only [inR]); omega) ?_ | refine vw_skip ?_ | refine vw_block ?_ | refine vops_makeRows (k := 1) (n := n) tyOk rfl rfl rfl (by omega) rfl rfl rfl (by show 8 * _ ≤ _; omega) (by omega) (fun br hbr => ?_) | refine vops_litV tyOk rfl rfl (List.cons_ne_nil _ _) rfl rfl rfl (fun bt hbt => ?_) | refine vops_appendV tyOk rfl rfl (List.cons_ne_nil _ _) rfl rfl (by decide) rfl hO (by repeat (first | exact pm_here | exact pm_last | apply pm_next | apply pm_past)) rfl (by repeat (first | exact mem_here | apply mem_next | apply mem_past)) rfl (by omega) (fun p' cap' outer' hO' => ?_) | ((show VOps _ _ _ _ (⟨some _, Go.Op.load _ _, _, _, _, none⟩ :: _) _ _); refine vops_loadM tyOk rfl rfl rfl (by repeat (first | exact mem_here | apply mem_next | apply mem_past)) (by rfl) ?_))
    rw [Nat.mul_one]
    refine ⟨n - (i + 1), by omega, outer' ++ (ns.flatten ++ ((br, ⟨ints (List.replicate n 0), 2, n * 1, none⟩) :: [(b1, ⟨[.int .i64 n, .int .i64 g, .slice a ls.length cap], 26, 3, none⟩)])), ?_, i + 1, p', cap', vs ++ [.slice (some ⟨br, 0, none⟩) n n], ns ++ [[(br, ⟨ints (List.replicate n 0), 2, n * 1, none⟩)]], outer', by omega, by omega, rfl, rfl, rfl, ?_, hO', ?_⟩
    · rw [Nat.mul_one]; exact (by repeat (first | exact ole_nil | exact ole_refl | (apply ole_cons; (repeat (first | exact pm1_here | apply pm1_next | apply pm1_past))) | (apply ole_app; (repeat (first | exact pm_here | exact pm_last | apply pm_next | apply pm_past)))))
    · rw [hst]
      exact RowsAt.snoc (NewI.lit (n := n) (cap := n) (by simp) (Nat.le_refl _) (by simp only [maxLen]; omega)) hRw
    · rw [flat_snoc, List.append_assoc]; rfl
  · obtain rfl : i = n := by omega
    rw [List.take_of_length_le (by rw [tabOf_length]; omega)] at hRw
    have hvl : vs.length = i := by rw [hRw.len.1, tabOf_length]
    obtain ⟨bo, rfl, rfl⟩ := outer_blk hO (by omega)
    have hT0 : TabAt 2 (tabOf i fun x y => (metN g (ls.take 0) x y : Int)) vs ns.flatten := ⟨ns, hRw, List.Perm.refl _⟩
    clear hRw
    repeat (first | refine vops_q tyOk rfl ?_ | refine vops_nil ?_ | refine vw_seq ?_ | refine vw_region (by kernel_rfl) ?_ | refine vw_block ?_ | refine vw_exit ?_)
    refine vw_loopW (fun y f own => ∃ (j : Nat) (X : Own), j ≤ ls.length ∧ y = ls.length - j ∧ f 5 = .int .i64 j ∧ f 3 = .slice (some ⟨bo, 0, none⟩) i cp ∧ f 1 = .pointer (some ⟨b1, 0, none⟩) ∧ TabAt 2 (tabOf i fun x y => (metN g (ls.take j) x y : Int)) vs X ∧
        own = (bo, ⟨vs, 29, cp * 1, none⟩) :: (X ++ [(b1, ⟨[.int .i64 i, .int .i64 g, .slice a ls.length cap], 26, 3, none⟩)])) ls.length
      ⟨_, ole_refl, 0, ns.flatten, by omega, by omega, rfl, rfl, rfl, hT0, rfl⟩ ?_
    clear hT0
    rintro y f own ⟨j, X, hj, rfl, h5, h3, h1, hT, rfl⟩
    rw [upd_of h5, upd_of h3, upd_of h1]
    repeat (first | refine vops_q tyOk rfl ?_ | refine vops_nil ?_ | refine vw_seq ?_ | refine vw_region (by kernel_rfl) ?_ | refine vw_cond rfl ?_ | ((show VOps _ _ _ _ (⟨some _, Go.Op.load _ _, _, _, _, none⟩ :: _) _ _); refine vops_loadM tyOk rfl rfl rfl (by repeat (first | exact mem_here | apply mem_next | apply mem_past)) (by rfl) ?_))
    refine bs_dec (fun hlt2 => ?_) (fun hlt2 => ?_)
    · have hjl : j < ls.length := by omega
      have hgj : ls[j]? = some (ls.getD j []) := by rw [List.getD_eq_getElem?_getD, List.getElem?_eq_getElem hjl]; rfl
      obtain ⟨b, o, cap', uu, he, hcu, hur⟩ := hv.at hgj
      cases he
      obtain ⟨ur, capr, rfl⟩ := hur.len
      have hrow := hG.row hgj
      have hnext : ∀ x y : Nat, metN g (ls.take (j + 1)) x y = metN g (ls.take j) x y + (if SameG g (ls.getD j []) x y then 1 else 0) := fun x y => by
        rw [List.take_add_one, hgj]
        exact metN_snoc g _ _ x y
      generalize ls.getD j [] = r at *
      have hrl : r.length = i := by have := hrow.1; omega
      rw [hrl] at hcu hur
      repeat (first | refine vops_q tyOk rfl ?_ | refine vops_nil ?_ | refine vw_seq ?_ | refine vw_region (by kernel_rfl) ?_ | refine vops_p tyOk rfl (by (try simp only [inR]); omega) ?_ | refine vw_skip ?_ | refine vw_block ?_ | refine vops_load tyOk rfl rfl rfl (sees_old hcu (by simp)) ?_ | ((show VOps _ _ _ _ (⟨some _, Go.Op.load _ _, _, _, _, none⟩ :: _) _ _); refine vops_loadM tyOk rfl rfl rfl (by repeat (first | exact mem_here | apply mem_next | apply mem_past)) (by rfl) ?_))
      refine vw_loopW (fun y f own => ∃ (q : Nat) (X : Own), q ≤ i ∧ y = i - q ∧ f 7 = .int .i64 q ∧ f 6 = .slice ur i capr ∧ f 5 = .int .i64 j ∧ f 3 = .slice (some ⟨bo, 0, none⟩) i cp ∧ f 1 = .pointer (some ⟨b1, 0, none⟩) ∧ TabAt 2 (tabOf i fun x y => (metN g (ls.take j) x y : Int) + rowC g r q x y) vs X ∧
          own = (bo, ⟨vs, 29, cp * 1, none⟩) :: (X ++ [(b1, ⟨[.int .i64 i, .int .i64 g, .slice (some ⟨b, o, none⟩) ls.length cap], 26, 3, none⟩)])) i
        ⟨_, ole_refl, 0, X, by omega, by omega, rfl, rfl, rfl, rfl, rfl, by rw [tabOf_congr (g := fun x y => (metN g (ls.take j) x y : Int)) fun x y _ _ => by rw [rowC_zero]; omega]; exact hT, rfl⟩ ?_
      clear hT X
      rintro y f own ⟨q, X, hq, rfl, h7, h6, h5, h3, h1, hT, rfl⟩
      rw [upd_of h7, upd_of h6, upd_of h5, upd_of h3, upd_of h1]
      repeat (first | refine vops_q tyOk rfl ?_ | refine vops_nil ?_ | refine vw_seq ?_ | refine vw_region (by kernel_rfl) ?_ | refine vw_cond rfl ?_ | ((show VOps _ _ _ _ (⟨some _, Go.Op.load _ _, _, _, _, none⟩ :: _) _ _); refine vops_loadM tyOk rfl rfl rfl (by repeat (first | exact mem_here | apply mem_next | apply mem_past)) (by rfl) ?_))
      refine bs_dec (fun hlt3 => ?_) (fun hlt3 => ?_)
      · have hqr : q < i := by omega
        obtain ⟨b3, o3, cap3, he, hcell⟩ := hur.at (i := q) (by omega)
        rw [hrl] at he hcell
        obtain ⟨rfl, rfl⟩ : ur = some ⟨b3, o3, none⟩ ∧ capr = cap3 := by injection he with e1 e2 e3; exact ⟨e1, e3⟩
        have hc := hcell q hqr
        have hrg := hrow.2.1 _ (mem_getD (l := r) (i := q) (by omega))
        obtain ⟨x0, hx0⟩ : ∃ x0 : Nat, r.getD q 0 = (x0 : Int) := ⟨(r.getD q 0).toNat, by omega⟩
        obtain ⟨G, hGd⟩ : ∃ G : Nat → Nat → Int, G = fun x y => (metN g (ls.take j) x y : Int) + rowC g r q x y := ⟨_, rfl⟩
        have hGb : ∀ x y, 0 ≤ G x y ∧ G x y ≤ 13 := fun x y => by
          have a1 := metN_le g (ls.take j) x y
          have a2 := rowC_le g r q x y
          rw [List.length_take] at a1
          rw [hGd]
          show 0 ≤ (metN g (ls.take j) x y : Int) + rowC g r q x y ∧ (metN g (ls.take j) x y : Int) + rowC g r q x y ≤ 13
          omega
        rw [← hGd] at hT
        obtain ⟨br, cr, R, hv1, hp1, _, hnew1⟩ := hT.row (tabOf_get (a := x0) (by omega)) (by rw [row_length]; omega)
        rw [row_length] at hv1
        have hva := vals_get hv1 (show 0 + (r.getD q 0).toNat = x0 by omega)
        obtain ⟨O, hOd⟩ : ∃ O, O = q / g * g := ⟨_, rfl⟩
        have hO1 : O ≤ q := by rw [hOd]; exact Nat.div_mul_le_self _ _
        have hO2 : O + g ≤ i := by
          obtain ⟨m, hm⟩ : ∃ m, i = g * m := ⟨i / g, (Nat.mul_div_cancel' (Nat.dvd_of_mod_eq_zero hgd)).symm⟩
          have h1 : q / g < m := Nat.div_lt_of_lt_mul (by omega)
          have h2 := Nat.mul_le_mul_right g (show q / g + 1 ≤ m by omega)
          rw [Nat.add_mul, Nat.one_mul, Nat.mul_comm m g] at h2
          omega
        have hqg : (q : Int) / (g : Int) * (g : Int) = (O : Int) := by rw [hOd]; push_cast; rfl
        have hqb : 0 ≤ (q : Int) / (g : Int) ∧ (q : Int) / (g : Int) ≤ 25 := ⟨Int.ediv_nonneg (by omega) (by omega), Int.le_trans (Int.ediv_le_self _ (by omega)) (by omega)⟩
        refine vw_perm (own' := (br, ⟨ints ((List.range i).map fun b => G x0 b), 2, cr * 1, none⟩) :: ((bo, ⟨vs, 29, cp * 1, none⟩) :: (R ++ [(b1, ⟨[.int .i64 i, .int .i64 g, .slice (some ⟨b, o, none⟩) ls.length cap], 26, 3, none⟩)]))) (perm_pull (A := [(bo, ⟨vs, 29, cp * 1, none⟩)]) hp1) ?_
        repeat (first | refine vops_q tyOk rfl ?_ | refine vops_nil ?_ | refine vw_seq ?_ | refine vw_region (by kernel_rfl) ?_ | refine vops_p tyOk rfl (by (try simp only [inR]); omega) ?_ | refine vw_skip ?_ | refine vw_block ?_ | refine vops_load tyOk rfl rfl rfl (sees_old hc (by simp)) ?_ | refine vops_loadM tyOk rfl rfl rfl (by repeat (first | exact mem_here | apply mem_next | apply mem_past)) (by exact hva) ?_)
        refine vw_draw [0, 1, 2, 3, 4, 5, 6, 7] (by kernel_rfl) (by kernel_rfl) (by kernel_rfl) rfl ?_
        repeat' (first | refine vd_q tyOk rfl (by first | trivial | rfl) rfl (by kernel_rfl) (by kernel_rfl) ?_ | refine vd_p tyOk rfl (by first | trivial | rfl) rfl (by kernel_rfl) (by kernel_rfl) (by (try simp only [inR]); omega) ?_ | refine vd_nil (by kernel_rfl) ?_ | refine vd_load tyOk rfl (by first | trivial | rfl) rfl rfl rfl (by kernel_rfl) (by kernel_rfl) (by kernel_rfl) (sees_mem (by repeat (first | exact mem_here | apply mem_next | apply mem_past)) (by rfl)) (by repeat (first | exact sub_hereL | exact sub_refl | apply sub_cons | apply sub_app)) ?_)
        repeat (first | refine vw_block ?_)
        refine vw_loopW (fun y f own => ∃ (z : Nat), z ≤ g ∧ y = g - z ∧ f 9 = .int .i64 ((O + z : Nat) : Int) ∧ f 8 = .slice (some ⟨br, 0, none⟩) i cr ∧ f 7 = .int .i64 q ∧ f 6 = .slice (some ⟨b3, o3, none⟩) i capr ∧ f 5 = .int .i64 j ∧ f 3 = .slice (some ⟨bo, 0, none⟩) i cp ∧ f 1 = .pointer (some ⟨b1, 0, none⟩) ∧
            own = (br, ⟨ints ((List.range i).map fun b => G x0 b + celC r q O z b), 2, cr * 1, none⟩) :: ((bo, ⟨vs, 29, cp * 1, none⟩) :: (R ++ [(b1, ⟨[.int .i64 i, .int .i64 g, .slice (some ⟨b, o, none⟩) ls.length cap], 26, 3, none⟩)]))) g
          ⟨_, ole_refl, 0, by omega, by omega, congrArg (Value.int .i64) hqg, rfl, rfl, rfl, rfl, rfl, rfl, by
            have : (fun b => G x0 b + celC r q O 0 b) = fun b => G x0 b := by funext b; rw [celC_zero]; omega
            rw [this]⟩ ?_
        clear h7 h6 h5 h3 h1 f
        rintro y f own ⟨z, hz, rfl, h9, h8, h7, h6, h5, h3, h1, rfl⟩
        rw [upd_of h9, upd_of h8, upd_of h7, upd_of h6, upd_of h5, upd_of h3, upd_of h1]
        repeat (first | refine vw_seq ?_)
        refine vw_draw [0, 1, 2, 3, 4, 5, 6, 7, 8, 9, 10, 11] (by kernel_rfl) (by kernel_rfl) (by kernel_rfl) rfl ?_
        repeat' (first | refine vd_q tyOk rfl (by first | trivial | rfl) rfl (by kernel_rfl) (by kernel_rfl) ?_ | refine vd_p tyOk rfl (by first | trivial | rfl) rfl (by kernel_rfl) (by kernel_rfl) (by (try simp only [inR]); omega) ?_ | refine vd_nil (by kernel_rfl) ?_ | refine vd_load tyOk rfl (by first | trivial | rfl) rfl rfl rfl (by kernel_rfl) (by kernel_rfl) (by kernel_rfl) (sees_mem (by repeat (first | exact mem_here | apply mem_next | apply mem_past)) (by rfl)) (by repeat (first | exact sub_hereL | exact sub_refl | apply sub_cons | apply sub_app)) ?_)
        repeat (first | refine vw_cond rfl ?_)
        refine bs_dec (fun hlt4 => ?_) (fun hlt4 => ?_)
        · have hzg : z < g := by omega
          have hco := hcell (O + z) (by omega)
          have hrg2 := hrow.2.1 _ (mem_getD (l := r) (i := O + z) (by omega))
          obtain ⟨y0, hy0⟩ : ∃ y0 : Nat, r.getD (O + z) 0 = (y0 : Int) := ⟨(r.getD (O + z) 0).toNat, by omega⟩
          have hyi : y0 < i := by omega
          have hpy : posI r y0 = O + z := (getD_iff hrow (by omega)).1 hy0
          have hcb := celC_le r q O z y0
          have hGx := hGb x0 y0
          have hcell2 : (ints ((List.range i).map fun b => G x0 b + celC r q O z b))[0 + (r.getD (O + z) 0).toNat]? = some (.int .i64 (G x0 y0 + celC r q O z y0)) := by
            rw [show 0 + (r.getD (O + z) 0).toNat = y0 by omega, ints_get (by rw [row_length]; omega), row_get (by omega)]
          have hstay : ∀ b, b < i → b ≠ y0 → celC r q O (z + 1) b = celC r q O z b := fun b hb hbe => by
            have hpb : posI r b ≠ O + z := fun e => hbe (pos_inj hrow hb hyi (by rw [e, hpy]))
            unfold celC
            by_cases c : posI r b ≠ q ∧ O ≤ posI r b ∧ posI r b < O + z
            · rw [if_pos c, if_pos ⟨c.1, c.2.1, by omega⟩]
            · rw [if_neg c, if_neg fun hh => c ⟨hh.1, hh.2.1, by omega⟩]
          repeat (first | refine vops_q tyOk rfl ?_ | refine vops_nil ?_ | refine vw_seq ?_ | refine vw_region (by kernel_rfl) ?_ | refine vw_cond rfl ?_ | refine vw_skip ?_ | refine vw_block ?_)
          refine bs_ndec2 (fun hne => ?_) (fun heq => ?_)
          · repeat (first | refine vops_q tyOk rfl ?_ | refine vops_nil ?_ | refine vw_region (by kernel_rfl) ?_ | refine vops_p tyOk rfl (by (try simp only [inR]); omega) ?_ | refine vops_load tyOk rfl rfl rfl (sees_old hco (by simp)) ?_ | refine vops_loadM tyOk rfl rfl rfl (by repeat (first | exact mem_here | apply mem_next | apply mem_past)) (by exact hcell2) ?_ | refine vops_storeIM tyOk rfl rfl rfl rfl (by repeat (first | exact upd_here | apply upd_next | apply upd_past)) (by rw [row_length]; omega) ?_)
            refine ⟨g - (z + 1), by omega, _, ole_refl, z + 1, by omega, rfl, congrArg (Value.int .i64) (by push_cast; omega), rfl, rfl, rfl, rfl, rfl, rfl, ?_⟩
            have hrw : ((List.range i).map fun b => G x0 b + celC r q O z b).set (r.getD (O + z) 0).toNat (G x0 y0 + celC r q O z y0 + 1) = (List.range i).map fun b => G x0 b + celC r q O (z + 1) b := by
              rw [show (r.getD (O + z) 0).toNat = y0 by omega, row_set]
              apply List.map_congr_left
              intro b hbr
              have hb := List.mem_range.1 hbr
              by_cases hbe : b = y0
              · subst hbe
                rw [if_pos rfl, show celC r q O z b = 0 from if_neg (by omega), show celC r q O (z + 1) b = 1 from if_pos (by omega)]; omega
              · rw [if_neg hbe, hstay b hb hbe]
            rw [← hrw]
          · repeat (first | refine vops_q tyOk rfl ?_ | refine vops_nil ?_ | refine vw_region (by kernel_rfl) ?_ | refine vops_p tyOk rfl (by (try simp only [inR]); omega) ?_ | refine vw_skip ?_)
            refine ⟨g - (z + 1), by omega, _, ole_refl, z + 1, by omega, rfl, congrArg (Value.int .i64) (by push_cast; omega), rfl, rfl, rfl, rfl, rfl, rfl, ?_⟩
            have hrw : ((List.range i).map fun b => G x0 b + celC r q O z b) = (List.range i).map fun b => G x0 b + celC r q O (z + 1) b := by
              apply List.map_congr_left
              intro b hbr
              have hb := List.mem_range.1 hbr
              by_cases hbe : b = y0
              · subst hbe
                rw [show celC r q O z b = 0 from if_neg (by omega), show celC r q O (z + 1) b = 0 from if_neg (by omega)]
              · rw [hstay b hb hbe]
            rw [← hrw]
        · obtain rfl : z = g := by omega
          repeat (first | refine vops_q tyOk rfl ?_ | refine vops_nil ?_ | refine vw_region (by kernel_rfl) ?_ | refine vops_p tyOk rfl (by (try simp only [inR]); omega) ?_ | refine vw_exit ?_)
          have hT2 := hnew1 ((List.range i).map fun b => G x0 b + celC r q O z b) (by rw [row_length, row_length])
          rw [show (tabOf i G).set x0 ((List.range i).map fun b => G x0 b + celC r q O z b) = tabOf i fun x y => (metN z (ls.take j) x y : Int) + rowC z r (q + 1) x y by
            rw [tabOf_setRowX]
            refine tabOf_congr fun x y hx hy => ?_
            by_cases hxe : x = x0
            · subst hxe
              rw [if_pos rfl, hGd]
              show (metN z (ls.take j) x y : Int) + rowC z r q x y + _ = _
              rw [rowC_own hrow (by omega) hqr hx0 hy hx, ← hOd]; omega
            · rw [if_neg hxe, hGd]
              show (metN z (ls.take j) x y : Int) + rowC z r q x y = _
              rw [rowC_other hrow hx0 hxe y hx]] at hT2
          exact ⟨i - (q + 1), by omega, (bo, ⟨vs, 29, cp * 1, none⟩) :: (((br, ⟨ints ((List.range i).map fun b => G x0 b + celC r q O z b), 2, cr * 1, none⟩) :: R) ++ [(b1, ⟨[.int .i64 i, .int .i64 z, .slice (some ⟨b, o, none⟩) ls.length cap], 26, 3, none⟩)]), ole_perm (perm_pull (A := [(bo, ⟨vs, 29, cp * 1, none⟩)]) (List.Perm.refl _)).symm, q + 1, _, by omega, rfl, rfl, rfl, rfl, rfl, rfl, hT2, rfl⟩
      · obtain rfl : q = i := by omega
        repeat (first | refine vops_q tyOk rfl ?_ | refine vops_nil ?_ | refine vw_region (by kernel_rfl) ?_ | refine vops_p tyOk rfl (by (try simp only [inR]); omega) ?_ | refine vw_exit ?_)
        refine ⟨ls.length - (j + 1), by omega, _, ole_refl, j + 1, X, by omega, rfl, rfl, rfl, rfl, ?_, rfl⟩
        rw [tabOf_congr (g := fun x y => (metN g (ls.take j) x y : Int) + rowC g r q x y) fun x y hx _ => by rw [hnext, rowC_all g hrow hx]; split <;> (push_cast; omega)]
        exact hT
    · obtain rfl : j = ls.length := by omega
      rw [List.take_length] at hT
      refine vw_nodup (fun hnd => ?_)
      repeat (first | refine vops_q tyOk rfl ?_ | refine vops_nil ?_ | refine vw_seq ?_ | refine vw_region (by kernel_rfl) ?_ | refine vw_ret ?_ | refine vw_exit ?_)
      obtain ⟨ns', hR', hp'⟩ := hT
      have hpp : ([(bo, (⟨vs, 29, cp * 1, none⟩ : Blk))] ++ ns'.flatten).Perm ((bo, ⟨vs, 29, cp * 1, none⟩) :: X) := List.Perm.cons _ hp'.symm
      refine outLL (outer := [(bo, ⟨vs, 29, cp * 1, none⟩)]) rfl rfl hR' hO (by unfold metT; rw [tabOf_length]) ?_ (fun x hx => ?_)
      · refine (hpp.map Prod.fst).nodup_iff.2 (nodup_sub hnd ?_)
        exact ((List.sublist_append_left _ _).cons_cons _)
      · have := hpp.mem_iff.1 hx
        rcases List.mem_cons.1 this with h | h
        · rw [h]; exact List.mem_cons_self
        · exact List.mem_cons_of_mem _ (List.mem_append_left _ h)
end Go.Proofs.Ytnammdmiljjhjaa

/- A part of the proof: X7S. No conditions of its own. -/
namespace Go.Proofs.Ytnammdmiljjhjaa
open Go.VL
attribute [local irreducible] VWr VOps VD Calls

open Classical in
noncomputable def meetR (n g : Int) (ls : List (List Int)) : List (List Int) × Int := if IsGf n g ls then (metT n.toNat g.toNat ls, 0) else ([], 1)
theorem IsGf.nat {n g : Int} {ls : List (List Int)} (h : IsGf n g ls) : ∃ k d : Nat, n = (k : Int) ∧ g = (d : Int) := ⟨n.toNat, g.toNat, by have := h.1; omega, by have := h.2.2.1; omega⟩
theorem meetR_ok (n g : Int) (ls : List (List Int)) : (meetR n g ls).1.length ≤ 1048576 ∧ (∀ l ∈ (meetR n g ls).1, l.length ≤ 1048576) ∧ sumLen (meetR n g ls).1 ≤ 1048576 := by
  by_cases h : IsGf n g ls
  · have h25 := h.2.1
    have hR : meetR n g ls = (metT n.toNat g.toNat ls, 0) := by rw [meetR, if_pos h]
    rw [hR]
    have hl : (metT n.toNat g.toNat ls).length = n.toNat := tabOf_length _ _
    refine ⟨by show (metT _ _ _).length ≤ _; omega, fun l hl => by have := metT_len hl; omega, ?_⟩
    show sumLen (metT _ _ _) ≤ _
    rw [sumLen_const (k := n.toNat) fun l hl => metT_len hl, hl]
    have := Nat.mul_le_mul (show n.toNat ≤ 25 by omega) (show n.toNat ≤ 25 by omega)
    omega
  · rw [meetR, if_neg h]; exact ⟨by simp, by simp, by simp [sumLen]⟩
open Classical in
set_option maxRecDepth 100000 in
theorem c_impl_GolfMeetings (m g : Int) (v : Value) (ls : List (List Int)) (w : World) (hv : RdCC w v ls) (hl : ls.length ≤ 1048576) (hll : ∀ l ∈ ls, l.length ≤ 1048576) :
    Calls Try.prog 20 [.agg #[.int .i64 m, .int .i64 g, v]].toArray w (Res w (PairLL 29 2 (meetR m g ls))) := by
  obtain ⟨a, cap, rfl⟩ := hv.len
  refine calls_of_vw Try.func20 rfl Try.ntmps20 (by simp) ?_
  refine vw_seq (vw_region (by kernel_rfl) (vops_box [.int .i64 m, .int .i64 g, .slice a ls.length cap] rfl (fun b1 hb1 => ?_)))
  repeat (first | refine vops_q tyOk rfl ?_ | refine vops_nil ?_ | refine vw_seq ?_ | refine vw_region (by kernel_rfl) ?_ | refine vw_cond rfl ?_ | (apply vops_callp ent27 rfl; (intro w' hg; exact c_IsGolf _ _ _ ls w' (hv.rd.same hg.fr) hl hll)) | ((show VOps _ _ _ _ (⟨some _, Go.Op.load _ _, _, _, _, none⟩ :: _) _ _); refine vops_loadNM tyOk rfl rfl rfl (by repeat (first | exact mem_here | apply mem_next | apply mem_past)) (by first | rfl | (rw [ints_length]; first | assumption | omega | (rw [ints_length]; first | assumption | omega | simp [*])) | simp [*]) ?_))
  refine bs_ndec2 (fun h => ?_) (fun h => ?_)
  · repeat (first | refine vops_q tyOk rfl ?_ | refine vops_nil ?_ | refine vw_seq ?_ | refine vw_region (by kernel_rfl) ?_ | refine vw_ret ?_)
    exact pairLL_err rfl rfl rfl (by rw [meetR, if_neg h])
  obtain ⟨k, d, rfl, rfl⟩ := h.nat
  have hR : meetR k d ls = (metT k d ls, 0) := by rw [meetR, if_pos h, Int.toNat_natCast, Int.toNat_natCast]
  repeat (first | refine vops_q tyOk rfl ?_ | refine vops_nil ?_ | refine vw_seq ?_ | refine vw_region (by kernel_rfl) ?_ | refine vw_skip ?_ | refine vw_ret ?_ | (apply vops_call ent64 rfl; (intro w' hg; exact c_timesMet k d _ ls h w' (hv.same hg.fr)); (rintro _ newN ⟨vs, ns, outer, hRw, hO, rfl⟩); obtain ⟨p, cp, rfl⟩ := hO.form; refine vops_nodup (fun hnd => ?_)) | ((show VOps _ _ _ _ (⟨some _, Go.Op.load _ _, _, _, _, none⟩ :: _) _ _); refine vops_loadNM tyOk rfl rfl rfl (by repeat (first | exact mem_here | apply mem_next | apply mem_past)) (by first | rfl | (rw [ints_length]; first | assumption | omega | (rw [ints_length]; first | assumption | omega | simp [*])) | simp [*]) ?_))
  exact pairLL_ok rfl rfl rfl hRw hO rfl (nodup_sub hnd (List.sublist_append_left _ _)) sub_hereL hR
open Classical in
set_option maxRecDepth 100000 in
theorem c_spec_GolfMeetings (m g : Int) (v : Value) (ls : List (List Int)) (w : World) (hv : RdII w v ls) (hl : ls.length ≤ 1048576) (hll : ∀ l ∈ ls, l.length ≤ 1048576) :
    Calls Try.prog 21 [.agg #[.int .i64 m, .int .i64 g, v]].toArray w (Res w (PairLL 29 2 (meetR m g ls))) := by
  obtain ⟨a, cap, rfl⟩ := hv.len
  refine calls_of_vw Try.func21 rfl Try.ntmps21 (by simp) ?_
  refine vw_seq (vw_region (by kernel_rfl) (vops_box [.int .i64 m, .int .i64 g, .slice a ls.length cap] rfl (fun b1 hb1 => ?_)))
  repeat (first | refine vops_q tyOk rfl ?_ | refine vops_nil ?_ | refine vw_seq ?_ | refine vw_region (by kernel_rfl) ?_ | refine vw_cond rfl ?_ | (apply vops_callp ent65 rfl; (intro w' hg; exact c_l08Is _ _ _ ls w' (hv.same hg.fr) hl hll)) | ((show VOps _ _ _ _ (⟨some _, Go.Op.load _ _, _, _, _, none⟩ :: _) _ _); refine vops_loadNM tyOk rfl rfl rfl (by repeat (first | exact mem_here | apply mem_next | apply mem_past)) (by first | rfl | (rw [ints_length]; first | assumption | omega | (rw [ints_length]; first | assumption | omega | simp [*])) | simp [*]) ?_))
  refine bs_ndec2 (fun h => ?_) (fun h => ?_)
  · repeat (first | refine vops_q tyOk rfl ?_ | refine vops_nil ?_ | refine vw_seq ?_ | refine vw_region (by kernel_rfl) ?_ | refine vw_ret ?_)
    exact pairLL_err rfl rfl rfl (by rw [meetR, if_neg h])
  obtain ⟨k, d, rfl, rfl⟩ := h.nat
  have hR : meetR k d ls = (metT k d ls, 0) := by rw [meetR, if_pos h, Int.toNat_natCast, Int.toNat_natCast]
  repeat (first | refine vops_q tyOk rfl ?_ | refine vops_nil ?_ | refine vw_seq ?_ | refine vw_region (by kernel_rfl) ?_ | refine vw_skip ?_ | refine vw_ret ?_ | (apply vops_call ent66 rfl; (intro w' hg; exact c_l08Meetings k d _ ls h w' (hv.same hg.fr)); (rintro _ newN ⟨vs, ns, outer, hRw, hO, rfl⟩); obtain ⟨p, cp, rfl⟩ := hO.form; refine vops_nodup (fun hnd => ?_)) | ((show VOps _ _ _ _ (⟨some _, Go.Op.load _ _, _, _, _, none⟩ :: _) _ _); refine vops_loadNM tyOk rfl rfl rfl (by repeat (first | exact mem_here | apply mem_next | apply mem_past)) (by first | rfl | (rw [ints_length]; first | assumption | omega | (rw [ints_length]; first | assumption | omega | simp [*])) | simp [*]) ?_))
  exact pairLL_ok rfl rfl rfl hRw hO rfl (nodup_sub hnd (List.sublist_append_left _ _)) sub_hereL hR
end Go.Proofs.Ytnammdmiljjhjaa

