import Derived.Test.YtlnohlomanapeaaDR1
import Derived.Test.YtlnohlomanapeaaVLLol
import Derived.Test.YtlnohlomanapeaaVLEv
import Derived.Test.YtlnohlomanapeaaVLA
/- A part of the proof: DR2. No conditions of its own. -/
namespace Go.Proofs.Ytlnohlomanapeaa
open Go.VL
attribute [local irreducible] VWr VOps VD Calls
attribute [local irreducible] Src

/-- A number and lists that have been drawn. -/
def GivNew (v : Value) (new : Own) : Prop := ∃ (m : Int) (ls : List (List Int)) (p : Option Addr) (c : Nat), In64 m ∧ ls.length ≤ 20 ∧ (∀ l ∈ ls, l.length ≤ 20) ∧ v = .tuple #[.int .i64 m, .slice p ls.length c] ∧ NewLL 28 2 ls (.slice p ls.length c) new
set_option maxHeartbeats 4000000 in
set_option maxRecDepth 100000 in
theorem c_l09Given (a : Option Addr) (cs : List Nat) (cap : Nat) (w : World) (hB : RdB w a cs) (hcs : ∀ c ∈ cs, c < 256) (hl : cs.length ≤ 1048576) :
    Calls Try.prog 126 [.slice a cs.length cap].toArray w (Res w GivNew) := by
  have hC : ∀ {b : Nat}, SrcCtx ⟨w, []⟩ b a cs := SrcCtx.fresh hB hcs hl
  refine calls_of_vw Try.func126 rfl Try.ntmps126 (by simp) ?_
  repeat (first | refine vops_q tyOk rfl ?_ | refine vops_nil ?_ | refine vw_seq ?_ | refine vw_region (by kernel_rfl) ?_)
  apply vops_call ent99 rfl
  · intro w' hg; exact c_l01From a cs cap w' (hB.same hg.fr) hcs hl
  rintro _ newN ⟨b, h', rfl, hh1, hh2, rfl⟩
  obtain ⟨i', hi1, hi2, hi0⟩ : ∃ i' : Int, 0 ≤ i' ∧ i' ≤ cs.length ∧ i' = 0 := ⟨0, by omega, by omega, rfl⟩
  rw [show Src b a cs.length cap 0 h' = Src b a cs.length cap i' h' by rw [hi0]]
  clear hi0
  repeat (first | refine vops_q tyOk rfl ?_ | refine vops_nil ?_ | refine vw_seq ?_ | refine vw_region (by kernel_rfl) ?_ | refine vops_litI [4, 8, 14] tyOk rfl rfl (List.cons_ne_nil _ _) (by rfl) rfl (by omega) (by omega) (fun bq hbq => ?_) | (apply vops_callM (own0 := Src b a cs.length cap i' h') ent100 rfl; (case hp => (repeat (first | exact pm_here | exact pm_last | apply pm_next | apply pm_past))); (case h => (intro w' hg; exact c_pick (l := [4, 8, 14]) hC hg hi1 hi2 hh1 hh2 (by repeat (first | exact mem_here | apply mem_next | apply mem_past)) rfl (by simp) (by simp))); (rintro _ newM ⟨x, hx, rfl, i', h', hi1, hi2, hh1, hh2, rfl⟩)))
  have hx14 : 4 ≤ x ∧ x ≤ 14 := by
    simp only [List.mem_cons, List.not_mem_nil, or_false] at hx
    omega
  clear hx
  repeat (first | refine vops_q tyOk rfl ?_ | refine vops_nil ?_ | refine vw_seq ?_ | refine vw_region (by kernel_rfl) ?_ | refine vops_p tyOk rfl (by (try simp only [inR]); omega) ?_ | (apply vops_callM ent102 rfl; (case h => (intro w' hg; exact c_next (hC.at (cap := cap) hg hi1 hi2 hh1 hh2) (by omega))); (case hp => (repeat (first | exact pm_here | exact pm_last | apply pm_next | apply pm_past))); (rintro _ newM ⟨x, rfl, hx0, hx1, i', h', hi1, hi2, hh1, hh2, rfl⟩)))
  obtain ⟨n, hn⟩ : ∃ n : Nat, 1 + x = ((n + 1 : Nat) : Int) := ⟨x.toNat, by omega⟩
  rw [hn]
  have hn14 : n + 1 ≤ 14 := by omega
  clear hx0 hx1 hn hx14
  skip
  refine vops_callM (own0 := Src b a cs.length cap i' h') ent101 rfl (by repeat (first | exact pm_here | exact pm_last | apply pm_next | apply pm_past)) (fun w' hg => c_l01DrawOrder b a cs cap i' h' (n + 1) w' (hC.at hg hi1 hi2 hh1 hh2) (by omega)) ?_
  clear hi1 hi2 hh1 hh2
  rintro _ newM ⟨l, newl, i', h', hO1, hN, hi1, hi2, hh1, hh2, rfl⟩
  obtain ⟨pl, cl, rfl⟩ := SlAt.form hN
  have hll := hO1.len
  have hlb : ∀ x ∈ l, 0 ≤ x ∧ x ≤ 100 := fun x hx => by
    obtain ⟨k, hk, rfl⟩ := List.mem_map.1 (hO1.mem_iff.1 hx)
    have hk := List.mem_range.1 hk
    omega
  rw [hll] at hN ⊢
  rw [List.append_assoc]
  repeat (first | refine vops_q tyOk rfl ?_ | refine vops_nil ?_ | refine vw_seq ?_ | refine vw_region (by kernel_rfl) ?_ | refine vw_cond rfl ?_ | refine vops_build0 tyOk rfl rfl (fun be hbe => ?_) | (apply vops_callM ent102 rfl; (case h => (intro w' hg; exact c_next (hC.at (cap := cap) hg hi1 hi2 hh1 hh2) (by omega))); (case hp => (repeat (first | exact pm_here | exact pm_last | apply pm_next | apply pm_past))); (rintro _ newM ⟨x, rfl, hx0, hx1, i', h', hi1, hi2, hh1, hh2, rfl⟩)))
  have hNf : NewF 2 1 (n + 1) l (.slice pl (n + 1) cl) newl := by
    have := NewI.f (e := 2) (l := l) (v := .slice pl (n + 1) cl) (new := newl) (by rw [← hll]; rw [← hll] at hN; exact hN)
    rwa [hll] at this
  clear hN hO1
  refine bs_dec (fun hx => ?_) (fun hx => ?_)
  · clear hNf hll hlb
    repeat (first | refine vops_q tyOk rfl ?_ | refine vops_nil ?_ | refine vw_seq ?_ | refine vw_region (by kernel_rfl) ?_ | (apply vops_call ent125 rfl; (intro w' hg; exact c_l09Zigzag (n + 1) hn14 w'); (intro _ newN hN; obtain ⟨pN, cN, rfl⟩ := SlAt.form hN)))
    have hll : (lst (n + 1) (zigC (n + 1))).length = n + 1 := lst_length _ _
    have hlb : ∀ x ∈ lst (n + 1) (zigC (n + 1)), 0 ≤ x ∧ x ≤ 100 := fun x hx => by
      obtain ⟨k, hk, rfl⟩ := List.mem_map.1 hx
      have hk := List.mem_range.1 hk
      unfold zigC; split <;> omega
    rw [hll] at hN ⊢
    generalize lst (n + 1) (zigC (n + 1)) = l at hN hll hlb
    have hNf : NewF 2 1 (n + 1) l (.slice pN (n + 1) cN) newN := by
      have := NewI.f (e := 2) (l := l) (v := .slice pN (n + 1) cN) (new := newN) (by rw [← hll]; rw [← hll] at hN; exact hN)
      rwa [hll] at this
    clear hN
    skip
    refine vops_callM (own0 := Src b a cs.length cap i' h') ent101 rfl (by repeat (first | exact pm_here | exact pm_last | apply pm_next | apply pm_past)) (fun w' hg => c_l01DrawOrder b a cs cap i' h' (n + 1) w' (hC.at hg hi1 hi2 hh1 hh2) (by omega)) ?_
    clear hi1 hi2 hh1 hh2
    rintro _ newM ⟨o, newo, i', h', hO2, hNo, hi1, hi2, hh1, hh2, rfl⟩
    obtain ⟨po, co, rfl⟩ := SlAt.form hNo
    have hol := hO2.len
    have hob : ∀ x ∈ o, 0 ≤ x ∧ x ≤ 100 := fun x hx => by
      obtain ⟨k, hk, rfl⟩ := List.mem_map.1 (hO2.mem_iff.1 hx)
      have hk := List.mem_range.1 hk
      omega
    rw [hol] at hNo ⊢
    rw [List.append_assoc]
    have hNof : NewF 2 1 (n + 1) o (.slice po (n + 1) co) newo := by
      have := NewI.f (e := 2) (l := o) (v := .slice po (n + 1) co) (new := newo) (by rw [← hol]; rw [← hol] at hNo; exact hNo)
      rwa [hol] at this
    obtain ⟨bl, rfl, rfl, _, _, _⟩ := NewF.blk hNf (by omega)
    obtain ⟨bo, rfl, rfl, _, _, _⟩ := NewF.blk hNof (by omega)
    repeat (first | refine vops_q tyOk rfl ?_ | refine vops_nil ?_ | refine vw_seq ?_ | refine vw_region (by kernel_rfl) ?_ | refine vw_block ?_)
    refine vw_loopW (fun y f own => ∃ (i : Nat) (rows : List (List Int)) (p7 : Option Addr) (c7 : Nat) (vs : List Value) (ns : List Own) (outer : Own), i ≤ n + 1 ∧ y = n + 1 - i ∧ f 9 = .int .i64 i ∧ f 5 = .int .i64 ((n + 1 : Nat) : Int) ∧ f 6 = .slice (some ⟨bl, 0, none⟩) (n + 1) cN ∧ f 8 = .slice (some ⟨bo, 0, none⟩) (n + 1) co ∧ f 7 = .slice p7 i c7 ∧ f 4 = .pointer (some ⟨b, 0, none⟩) ∧ rows.length = i ∧ (∀ r ∈ rows, r.length = n + 1) ∧
        RowsAt 2 rows vs ns ∧ SlAt 28 1 (.slice p7 i c7) i vs outer [] ∧ own = Src b a cs.length cap i' h' ++ ((bl, ⟨ints l, 2, cN * 1, none⟩) :: ((bo, ⟨ints o, 2, co * 1, none⟩) :: (outer ++ ns.flatten)))) (n + 1)
      ⟨Src b a cs.length cap i' h' ++ ((bl, ⟨ints l, 2, cN * 1, none⟩) :: ((bo, ⟨ints o, 2, co * 1, none⟩) :: ([(be, ⟨[], 28, 0, none⟩)] ++ ([] : List Own).flatten))), (by repeat (first | exact ole_nil | exact ole_refl | (apply ole_cons; (repeat (first | exact pm1_here | apply pm1_next | apply pm1_past))) | (apply ole_app; (repeat (first | exact pm_here | exact pm_last | apply pm_next | apply pm_past))))), 0, [], some ⟨be, 0, none⟩, 0, [], [], [(be, ⟨[], 28, 0, none⟩)], by omega, by omega, rfl, rfl, rfl, rfl, rfl, rfl, rfl, (fun r hr => by cases hr), trivial, ⟨rfl, .inr ⟨be, 0, rfl, Nat.le_refl _, by decide, rfl⟩⟩, rfl⟩ ?_
    rintro y f own ⟨i, rows, p7, c7, vs, ns, outer, hi, rfl, h9, h5, h6, h8, h7, h4, hrl, hrr, hR, hO, rfl⟩
    rw [upd_of h9, upd_of h5, upd_of h6, upd_of h8, upd_of h7, upd_of h4]
    repeat (first | refine vops_q tyOk rfl ?_ | refine vops_nil ?_ | refine vw_seq ?_ | refine vw_region (by kernel_rfl) ?_ | refine vw_cond rfl ?_)
    refine bs_dec (fun hlt => ?_) (fun hlt => ?_)
    · have hin : i < n + 1 := by omega
      have hoi := hob _ (mem_getD (l := o) (i := i) (by omega))
      have hco : (ints o)[0 + (i : Int).toNat]? = some (.int .i64 (o.getD i 0)) := by rw [show 0 + (i : Int).toNat = i by omega]; exact ints_get (by omega)
      repeat (first | refine vw_seq ?_ | refine vw_region (by kernel_rfl) ?_ | refine vw_skip ?_ | refine vw_block ?_)
      refine vops_build0 tyOk rfl rfl (fun b10 hb10 => ?_)
      repeat (first | refine vops_q tyOk rfl ?_ | refine vops_nil ?_ | refine vw_seq ?_ | refine vw_region (by kernel_rfl) ?_ | refine vw_block ?_)
      refine vw_loopW (fun y f own => ∃ (k : Nat) (row : List Int) (p10 : Option Addr) (c10 : Nat) (X : Own), k ≤ n + 1 ∧ y = n + 1 - k ∧ f 11 = .int .i64 k ∧ f 10 = .slice p10 k c10 ∧ f 9 = .int .i64 i ∧ f 5 = .int .i64 ((n + 1 : Nat) : Int) ∧ f 6 = .slice (some ⟨bl, 0, none⟩) (n + 1) cN ∧ f 8 = .slice (some ⟨bo, 0, none⟩) (n + 1) co ∧ f 7 = .slice p7 i c7 ∧ f 4 = .pointer (some ⟨b, 0, none⟩) ∧ row.length = k ∧ NewF 2 1 k row (.slice p10 k c10) X ∧ own = X ++ (Src b a cs.length cap i' h' ++ ((bl, ⟨ints l, 2, cN * 1, none⟩) :: ((bo, ⟨ints o, 2, co * 1, none⟩) :: (outer ++ ns.flatten))))) (n + 1)
        ⟨_, ole_refl, 0, [], some ⟨b10, 0, none⟩, 0, [(b10, ⟨[], 2, 0, none⟩)], by omega, by omega, rfl, rfl, rfl, rfl, rfl, rfl, rfl, rfl, rfl, NewF.empty, rfl⟩ ?_
      rintro y f own ⟨k, row, p10, c10, X, hk, rfl, h11, h10, h9, h5, h6, h8, h7, h4, hrow, hX, rfl⟩
      rw [upd_of h11, upd_of h10, upd_of h9, upd_of h5, upd_of h6, upd_of h8, upd_of h7, upd_of h4]
      repeat (first | refine vops_q tyOk rfl ?_ | refine vops_nil ?_ | refine vw_seq ?_ | refine vw_region (by kernel_rfl) ?_ | refine vw_cond rfl ?_)
      refine bs_dec (fun hlt2 => ?_) (fun hlt2 => ?_)
      · have hkn : k < n + 1 := by omega
        have hlk := hlb _ (mem_getD (l := l) (i := k) (by omega))
        have hcl : (ints l)[0 + (k : Int).toNat]? = some (.int .i64 (l.getD k 0)) := by rw [show 0 + (k : Int).toNat = k by omega]; exact ints_get (by omega)
        repeat (first | refine vw_seq ?_ | refine vw_skip ?_ | refine vw_block ?_)
        refine vw_drawB [(bl, ⟨ints l, 2, cN * 1, none⟩), (bo, ⟨ints o, 2, co * 1, none⟩)] [0, 1, 2, 3, 4, 5, 6, 7, 8, 9, 10, 11, 12, 13, 14] (by kernel_rfl) (by kernel_rfl) (by kernel_rfl) rfl (by repeat (first | exact ole_nil | exact ole_refl | (apply ole_cons; (repeat (first | exact pm1_here | apply pm1_next | apply pm1_past))) | (apply ole_app; (repeat (first | exact pm_here | exact pm_last | apply pm_next | apply pm_past))))) ?_
        repeat' (first | refine vd_q tyOk rfl (by first | trivial | rfl) rfl (by kernel_rfl) (by kernel_rfl) ?_ | refine vd_p tyOk rfl (by first | trivial | rfl) rfl (by kernel_rfl) (by kernel_rfl) (by (try simp only [inR]); omega) ?_ | refine vops_nil ?_ | refine vd_nil (by kernel_rfl) ?_ | refine ⟨fun _ _ _ h => List.mem_cons_of_mem _ h, ?_⟩ | refine vd_load tyOk rfl (by first | trivial | rfl) rfl rfl rfl (by kernel_rfl) (by kernel_rfl) (by kernel_rfl) (sees_mem (by repeat (first | exact mem_here | apply mem_next | apply mem_past)) (by exact hco)) (by repeat (first | exact sub_hereL | exact sub_refl | apply sub_cons | apply sub_app)) ?_ | refine vd_load tyOk rfl (by first | trivial | rfl) rfl rfl rfl (by kernel_rfl) (by kernel_rfl) (by kernel_rfl) (sees_mem (by repeat (first | exact mem_here | apply mem_next | apply mem_past)) (by exact hcl)) (by repeat (first | exact sub_hereL | exact sub_refl | apply sub_cons | apply sub_app)) ?_ | refine vops_litI [_] tyOk rfl rfl (List.cons_ne_nil _ _) (by rfl) rfl (by omega) (by omega) (fun bt hbt => ?_) | refine vops_append1 (k := 1) tyOk rfl rfl (List.cons_ne_nil _ _) rfl rfl (by decide) rfl hX (by repeat (first | exact pm_here | exact pm_last | apply pm_next | apply pm_past)) rfl (by repeat (first | exact mem_here | apply mem_next | apply mem_past)) rfl (by omega) (fun p' cap' new' hN' => ?_) | refine ⟨fun _ p hp _ => (List.mem_cons.1 hp).elim (fun e => by rw [e]; exact (by repeat (first | exact mem_here | apply mem_next | apply mem_past))) (fun hp => by rw [List.mem_singleton.1 hp]; exact (by repeat (first | exact mem_here | apply mem_next | apply mem_past))), ?_⟩ | refine vd_one rfl (by kernel_rfl) (by kernel_rfl) rfl ?_)
        repeat (first | refine vops_q tyOk rfl ?_ | refine vops_nil ?_ | refine vw_region (by kernel_rfl) ?_ | refine vops_p tyOk rfl (by (try simp only [inR]); omega) ?_)
        exact ⟨n + 1 - (k + 1), by omega, new' ++ (Src b a cs.length cap i' h' ++ ((bl, ⟨ints l, 2, cN * 1, none⟩) :: ((bo, ⟨ints o, 2, co * 1, none⟩) :: (outer ++ ns.flatten)))), ole_app pm_here (ole_last (by repeat (first | exact pm_here | exact pm_last | apply pm_next | apply pm_past))), k + 1, _, p', cap', new', by omega, rfl, rfl, rfl, rfl, rfl, rfl, rfl, rfl, rfl, (by rw [List.length_append, hrow]; rfl), hN', rfl⟩
      · obtain rfl : k = n + 1 := by omega
        have hXI : NewI 2 row (.slice p10 (n + 1) c10) X := by unfold NewI; rw [hrow]; exact hX
        repeat (first | refine vops_q tyOk rfl ?_ | refine vops_nil ?_ | refine vw_region (by kernel_rfl) ?_ | refine vops_p tyOk rfl (by (try simp only [inR]); omega) ?_ | refine vw_exit ?_ | refine vops_litV (v := .slice p10 (n + 1) c10) tyOk rfl rfl (List.cons_ne_nil _ _) rfl rfl rfl (fun bu hbu => ?_) | refine vops_appendV tyOk rfl rfl (List.cons_ne_nil _ _) rfl rfl (by decide) rfl hO (by repeat (first | exact pm_here | exact pm_last | apply pm_next | apply pm_past)) rfl (by repeat (first | exact mem_here | apply mem_next | apply mem_past)) rfl (by omega) (fun p2 c2 new2 hN2 => ?_))
        refine ⟨n + 1 - (i + 1), by omega, Src b a cs.length cap i' h' ++ ((bl, ⟨ints l, 2, cN * 1, none⟩) :: ((bo, ⟨ints o, 2, co * 1, none⟩) :: (new2 ++ (ns ++ [X]).flatten))), (by rw [List.flatten_append]; exact (by repeat (first | exact ole_nil | exact ole_refl | (apply ole_cons; (repeat (first | exact pm1_here | apply pm1_next | apply pm1_past))) | (apply ole_app; (repeat (first | exact pm_here | exact pm_last | apply pm_next | apply pm_past)))))), i + 1, rows ++ [row], p2, c2, vs ++ [.slice p10 (n + 1) c10], ns ++ [X], new2, by omega, rfl, rfl, rfl, rfl, rfl, rfl, rfl, (by rw [List.length_append, hrl]; rfl), (fun r hr => ?_), RowsAt.snoc hXI hR, hN2, rfl⟩
        rcases List.mem_append.1 hr with hr | hr
        · exact hrr r hr
        · rw [List.mem_singleton.1 hr]; exact hrow
    · obtain rfl : i = n + 1 := by omega
      clear hlb hob hNf hNof hol hll
      refine vw_nodup (fun hnd => ?_)
      repeat (first | refine vops_q tyOk rfl ?_ | refine vops_nil ?_ | refine vw_seq ?_ | refine vw_region (by kernel_rfl) ?_ | refine vw_cond rfl ?_ | refine vw_block ?_ | refine vw_exit ?_ | (apply vops_callM ent102 rfl; (case h => (intro w' hg; exact c_next (hC.at (cap := cap) hg hi1 hi2 hh1 hh2) (by omega))); (case hp => (repeat (first | exact pm_here | exact pm_last | apply pm_next | apply pm_past))); (rintro _ newM ⟨x, rfl, hx0, hx1, i', h', hi1, hi2, hh1, hh2, rfl⟩)))
      refine bs_dec (fun hx => ?_) (fun hx => ?_)
      · repeat (first | refine vops_q tyOk rfl ?_ | refine vops_nil ?_ | refine vw_seq ?_ | refine vw_region (by kernel_rfl) ?_ | refine vw_ret ?_ | refine vops_build0 tyOk rfl rfl (fun be2 hbe2 => ?_) | refine vops_litV (v := .slice (some ⟨be2, 0, none⟩) 0 0) tyOk rfl rfl (List.cons_ne_nil _ _) rfl rfl rfl (fun bu hbu => ?_) | (refine vops_appendV tyOk rfl rfl (List.cons_ne_nil _ _) rfl rfl (by decide) rfl hO (by repeat (first | exact pm_here | exact pm_last | apply pm_next | apply pm_past)) rfl (by repeat (first | exact mem_here | apply mem_next | apply mem_past)) rfl (by omega) (fun p2 c2 new2 hN2 => ?_); refine vops_nodup (fun hnd2 => ?_)))
        have hlen : (rows ++ [[]]).length = n + 1 + 1 := by rw [List.length_append, hrl]; rfl
        refine out2 (new := new2 ++ (ns ++ [[(be2, (⟨[], 2, 0, none⟩ : Blk))]]).flatten) rfl rfl rfl (OLe.nodup (by rw [List.flatten_append]; exact (by repeat (first | exact ole_nil | exact ole_refl | (apply ole_cons; (repeat (first | exact pm1_here | apply pm1_next | apply pm1_past))) | (apply ole_app; (repeat (first | exact pm_here | exact pm_last | apply pm_next | apply pm_past)))))) hnd2) (fun q hq => ?_) ⟨((n + 1 : Nat) : Int), rows ++ [[]], p2, c2, (by unfold In64; omega), (by omega), (fun r hr => ?_), (by rw [hlen]; rfl), vs ++ [.slice (some ⟨be2, 0, none⟩) 0 0], ns ++ [[(be2, (⟨[], 2, 0, none⟩ : Blk))]], new2, RowsAt.snoc NewI.empty hR, (by rw [hlen]; exact hN2), rfl⟩
        · rw [flat_snoc] at hq
          rcases List.mem_append.1 hq with hq | hq
          · exact (show Go.VL.Sub _ _ from (by repeat (first | exact sub_hereL | exact sub_refl | apply sub_cons | apply sub_app))) q hq
          · rcases List.mem_append.1 hq with hq | hq
            · exact (show Go.VL.Sub _ _ from (by repeat (first | exact sub_hereL | exact sub_refl | apply sub_cons | apply sub_app))) q hq
            · rw [List.mem_singleton.1 hq]; exact (by repeat (first | exact mem_here | apply mem_next | apply mem_past))
        · rcases List.mem_append.1 hr with hr | hr
          · have := hrr r hr; omega
          · rw [List.mem_singleton.1 hr]; simp
      · repeat (first | refine vops_q tyOk rfl ?_ | refine vops_nil ?_ | refine vw_seq ?_ | refine vw_region (by kernel_rfl) ?_ | refine vw_cond rfl ?_)
        refine bs_dec (fun hx1 => ?_) (fun hx1 => ?_)
        · obtain ⟨r0, rows', rfl⟩ : ∃ r0 rows', rows = r0 :: rows' := by
            cases rows with
            | nil => simp at hrl
            | cons r0 rows' => exact ⟨_, _, rfl⟩
          obtain ⟨u0, vs', n0, ns', rfl, rfl, hN0, hR'⟩ : ∃ u0 vs' n0 ns', vs = u0 :: vs' ∧ ns = n0 :: ns' ∧ NewI 2 r0 u0 n0 ∧ RowsAt 2 rows' vs' ns' := by
            match vs, ns, hR with
            | u0 :: vs', n0 :: ns', h => exact ⟨_, _, _, _, rfl, rfl, h.1, h.2⟩
          have hr0 := hrr r0 List.mem_cons_self
          obtain ⟨p0, c0, rfl⟩ := SlAt.form hN0
          obtain ⟨b0, rfl, rfl, hc0, hcm0, _⟩ := NewF.blk (NewI.f hN0) (by omega)
          obtain ⟨bo7, rfl, rfl⟩ : ∃ bo7, p7 = some ⟨bo7, 0, none⟩ ∧ outer = [(bo7, ⟨.slice (some ⟨b0, 0, none⟩) r0.length c0 :: vs', 28, c7 * 1, none⟩)] := by
            rcases hO.2 with ⟨_, h2, _⟩ | ⟨bb, cc, h1, _, _, h4⟩
            · omega
            · cases h1; exact ⟨bb, rfl, h4⟩
          rw [List.flatten_cons] at hnd ⊢
          rw [hr0] at hnd ⊢
          have hnd3 : (ids ([(bo7, (⟨.slice (some ⟨b0, 0, none⟩) (n + 1) c0 :: vs', 28, c7 * 1, none⟩ : Blk))] ++ ([(b0, ⟨ints r0, 2, c0 * 1, none⟩)] ++ ns'.flatten))).Nodup := OLe.nodup (ole_app (by repeat (first | exact pm_here | exact pm_last | apply pm_next | apply pm_past)) (ole_last (by repeat (first | exact pm_here | exact pm_last | apply pm_next | apply pm_past)))) hnd
          repeat (first | refine vops_q tyOk rfl ?_ | refine vops_nil ?_ | refine vw_seq ?_ | refine vw_region (by kernel_rfl) ?_ | refine vops_p tyOk rfl (by (try simp only [inR]); omega) ?_ | refine vw_ret ?_ | refine vops_litI [-1, ((n + 1 : Nat) : Int), 0, ((n + 1 : Nat) : Int) - 1] tyOk rfl rfl (List.cons_ne_nil _ _) (by rfl) rfl (by omega) (by omega) (fun bq hbq => ?_) | (apply vops_callM (own0 := Src b a cs.length cap i' h') ent100 rfl; (case hp => (repeat (first | exact pm_here | exact pm_last | apply pm_next | apply pm_past))); (case h => (intro w' hg; exact c_pick (l := [-1, ((n + 1 : Nat) : Int), 0, ((n + 1 : Nat) : Int) - 1]) hC hg hi1 hi2 hh1 hh2 (by repeat (first | exact mem_here | apply mem_next | apply mem_past)) rfl (by simp) (by simp))); (rintro _ newM ⟨x, hx, rfl, i', h', hi1, hi2, hh1, hh2, rfl⟩)) | refine vops_storeIM (o := 0) tyOk rfl rfl rfl rfl (by repeat (first | exact upd_here | apply upd_next | apply upd_past)) (by omega) ?_ | ((show VOps _ _ _ _ (⟨some _, Go.Op.load _ _, _, _, _, none⟩ :: _) _ _); refine vops_loadM tyOk rfl rfl rfl (by repeat (first | exact mem_here | apply mem_next | apply mem_past)) (by rfl) ?_))
          have hset : (r0.set 0 x).length = n + 1 := by rw [List.length_set, hr0]
          have hNs : NewI 2 (r0.set 0 x) (.slice (some ⟨b0, 0, none⟩) (n + 1) c0) [(b0, ⟨ints (r0.set 0 x), 2, c0 * 1, none⟩)] := by
            unfold NewI; rw [hset]; exact NewF.mk (by omega) (by omega) hcm0
          have hrl' : ((r0.set 0 x) :: rows').length = n + 1 := by rw [List.length_cons] at hrl ⊢; exact hrl
          refine out2 (new := [(bo7, ⟨.slice (some ⟨b0, 0, none⟩) (n + 1) c0 :: vs', 28, c7 * 1, none⟩)] ++ ([(b0, ⟨ints (r0.set 0 x), 2, c0 * 1, none⟩)] ++ ns'.flatten)) rfl rfl rfl (by simpa [ids] using hnd3) (fun q hq => ?_) ⟨((n + 1 : Nat) : Int), (r0.set 0 x) :: rows', some ⟨bo7, 0, none⟩, c7, (by unfold In64; omega), (by omega), (fun r hr => ?_), (by rw [hrl']; rfl), .slice (some ⟨b0, 0, none⟩) (n + 1) c0 :: vs', [(b0, ⟨ints (r0.set 0 x), 2, c0 * 1, none⟩)] :: ns', [(bo7, ⟨.slice (some ⟨b0, 0, none⟩) (n + 1) c0 :: vs', 28, c7 * 1, none⟩)], ⟨hNs, hR'⟩, (by rw [hrl']; rw [hr0] at hO; exact hO), rfl⟩
          · rcases List.mem_append.1 hq with hq | hq
            · exact (show Go.VL.Sub _ _ from (by repeat (first | exact sub_hereL | exact sub_refl | apply sub_cons | apply sub_app))) q hq
            · rcases List.mem_append.1 hq with hq | hq
              · exact (show Go.VL.Sub _ _ from (by repeat (first | exact sub_hereL | exact sub_refl | apply sub_cons | apply sub_app))) q hq
              · exact (show Go.VL.Sub _ _ from (by repeat (first | exact sub_hereL | exact sub_refl | apply sub_cons | apply sub_app))) q hq
          · rcases List.mem_cons.1 hr with rfl | hr
            · omega
            · have := hrr r (List.mem_cons_of_mem _ hr); omega
        · repeat (first | refine vops_q tyOk rfl ?_ | refine vops_nil ?_ | refine vw_seq ?_ | refine vw_region (by kernel_rfl) ?_ | refine vw_cond rfl ?_)
          refine bs_dec (fun hx2 => ?_) (fun hx2 => ?_)
          · repeat (first | refine vops_q tyOk rfl ?_ | refine vops_nil ?_ | refine vw_seq ?_ | refine vw_region (by kernel_rfl) ?_ | refine vops_p tyOk rfl (by (try simp only [inR]); omega) ?_ | refine vw_ret ?_ | refine vops_litI [0, 15, ((n + 1 : Nat) : Int) + 1] tyOk rfl rfl (List.cons_ne_nil _ _) (by rfl) rfl (by omega) (by omega) (fun bq hbq => ?_) | (apply vops_callM (own0 := Src b a cs.length cap i' h') ent100 rfl; (case hp => (repeat (first | exact pm_here | exact pm_last | apply pm_next | apply pm_past))); (case h => (intro w' hg; exact c_pick (l := [0, 15, ((n + 1 : Nat) : Int) + 1]) hC hg hi1 hi2 hh1 hh2 (by repeat (first | exact mem_here | apply mem_next | apply mem_past)) rfl (by simp) (by simp))); (rintro _ newM ⟨x, hx, rfl, i', h', hi1, hi2, hh1, hh2, rfl⟩)))
            simp only [List.mem_cons, List.not_mem_nil, or_false] at hx
            exact out2 (new := outer ++ ns.flatten) rfl rfl rfl (OLe.nodup (ole_app (by repeat (first | exact pm_here | exact pm_last | apply pm_next | apply pm_past)) (ole_last (by repeat (first | exact pm_here | exact pm_last | apply pm_next | apply pm_past)))) hnd) (fun q hq => (List.mem_append.1 hq).elim ((show Go.VL.Sub _ _ from (by repeat (first | exact sub_hereL | exact sub_refl | apply sub_cons | apply sub_app))) q) ((show Go.VL.Sub _ _ from (by repeat (first | exact sub_hereL | exact sub_refl | apply sub_cons | apply sub_app))) q)) ⟨x, rows, p7, c7, (by unfold In64; omega), (by omega), (fun r hr => by have := hrr r hr; omega), (by rw [hrl]; rfl), vs, ns, outer, hR, (by rw [hrl]; exact hO), rfl⟩
          · repeat (first | refine vops_q tyOk rfl ?_ | refine vops_nil ?_ | refine vw_seq ?_ | refine vw_region (by kernel_rfl) ?_ | refine vw_skip ?_ | refine vw_ret ?_)
            exact out2 (new := outer ++ ns.flatten) rfl rfl rfl (OLe.nodup (ole_app (by repeat (first | exact pm_here | exact pm_last | apply pm_next | apply pm_past)) (ole_last (by repeat (first | exact pm_here | exact pm_last | apply pm_next | apply pm_past)))) hnd) (fun q hq => (List.mem_append.1 hq).elim ((show Go.VL.Sub _ _ from (by repeat (first | exact sub_hereL | exact sub_refl | apply sub_cons | apply sub_app))) q) ((show Go.VL.Sub _ _ from (by repeat (first | exact sub_hereL | exact sub_refl | apply sub_cons | apply sub_app))) q)) ⟨((n + 1 : Nat) : Int), rows, p7, c7, (by unfold In64; omega), (by omega), (fun r hr => by have := hrr r hr; omega), (by rw [hrl]; rfl), vs, ns, outer, hR, (by rw [hrl]; exact hO), rfl⟩
  · clear hx
    repeat (first | refine vops_q tyOk rfl ?_ | refine vw_seq ?_ | refine vw_region (by kernel_rfl) ?_ | refine vw_skip ?_)
    refine vops_callM (own0 := Src b a cs.length cap i' h') ent101 rfl (by repeat (first | exact pm_here | exact pm_last | apply pm_next | apply pm_past)) (fun w' hg => c_l01DrawOrder b a cs cap i' h' (n + 1) w' (hC.at hg hi1 hi2 hh1 hh2) (by omega)) ?_
    clear hi1 hi2 hh1 hh2
    rintro _ newM ⟨o, newo, i', h', hO2, hNo, hi1, hi2, hh1, hh2, rfl⟩
    obtain ⟨po, co, rfl⟩ := SlAt.form hNo
    have hol := hO2.len
    have hob : ∀ x ∈ o, 0 ≤ x ∧ x ≤ 100 := fun x hx => by
      obtain ⟨k, hk, rfl⟩ := List.mem_map.1 (hO2.mem_iff.1 hx)
      have hk := List.mem_range.1 hk
      omega
    rw [hol] at hNo ⊢
    rw [List.append_assoc]
    have hNof : NewF 2 1 (n + 1) o (.slice po (n + 1) co) newo := by
      have := NewI.f (e := 2) (l := o) (v := .slice po (n + 1) co) (new := newo) (by rw [← hol]; rw [← hol] at hNo; exact hNo)
      rwa [hol] at this
    obtain ⟨bl, rfl, rfl, _, _, _⟩ := NewF.blk hNf (by omega)
    obtain ⟨bo, rfl, rfl, _, _, _⟩ := NewF.blk hNof (by omega)
    repeat (first | refine vops_q tyOk rfl ?_ | refine vops_nil ?_ | refine vw_seq ?_ | refine vw_region (by kernel_rfl) ?_ | refine vw_block ?_)
    refine vw_loopW (fun y f own => ∃ (i : Nat) (rows : List (List Int)) (p7 : Option Addr) (c7 : Nat) (vs : List Value) (ns : List Own) (outer : Own), i ≤ n + 1 ∧ y = n + 1 - i ∧ f 9 = .int .i64 i ∧ f 5 = .int .i64 ((n + 1 : Nat) : Int) ∧ f 6 = .slice (some ⟨bl, 0, none⟩) (n + 1) cl ∧ f 8 = .slice (some ⟨bo, 0, none⟩) (n + 1) co ∧ f 7 = .slice p7 i c7 ∧ f 4 = .pointer (some ⟨b, 0, none⟩) ∧ rows.length = i ∧ (∀ r ∈ rows, r.length = n + 1) ∧
        RowsAt 2 rows vs ns ∧ SlAt 28 1 (.slice p7 i c7) i vs outer [] ∧ own = Src b a cs.length cap i' h' ++ ((bl, ⟨ints l, 2, cl * 1, none⟩) :: ((bo, ⟨ints o, 2, co * 1, none⟩) :: (outer ++ ns.flatten)))) (n + 1)
      ⟨Src b a cs.length cap i' h' ++ ((bl, ⟨ints l, 2, cl * 1, none⟩) :: ((bo, ⟨ints o, 2, co * 1, none⟩) :: ([(be, ⟨[], 28, 0, none⟩)] ++ ([] : List Own).flatten))), (by repeat (first | exact ole_nil | exact ole_refl | (apply ole_cons; (repeat (first | exact pm1_here | apply pm1_next | apply pm1_past))) | (apply ole_app; (repeat (first | exact pm_here | exact pm_last | apply pm_next | apply pm_past))))), 0, [], some ⟨be, 0, none⟩, 0, [], [], [(be, ⟨[], 28, 0, none⟩)], by omega, by omega, rfl, rfl, rfl, rfl, rfl, rfl, rfl, (fun r hr => by cases hr), trivial, ⟨rfl, .inr ⟨be, 0, rfl, Nat.le_refl _, by decide, rfl⟩⟩, rfl⟩ ?_
    rintro y f own ⟨i, rows, p7, c7, vs, ns, outer, hi, rfl, h9, h5, h6, h8, h7, h4, hrl, hrr, hR, hO, rfl⟩
    rw [upd_of h9, upd_of h5, upd_of h6, upd_of h8, upd_of h7, upd_of h4]
    repeat (first | refine vops_q tyOk rfl ?_ | refine vops_nil ?_ | refine vw_seq ?_ | refine vw_region (by kernel_rfl) ?_ | refine vw_cond rfl ?_)
    refine bs_dec (fun hlt => ?_) (fun hlt => ?_)
    · have hin : i < n + 1 := by omega
      have hoi := hob _ (mem_getD (l := o) (i := i) (by omega))
      have hco : (ints o)[0 + (i : Int).toNat]? = some (.int .i64 (o.getD i 0)) := by rw [show 0 + (i : Int).toNat = i by omega]; exact ints_get (by omega)
      repeat (first | refine vw_seq ?_ | refine vw_region (by kernel_rfl) ?_ | refine vw_skip ?_ | refine vw_block ?_)
      refine vops_build0 tyOk rfl rfl (fun b10 hb10 => ?_)
      repeat (first | refine vops_q tyOk rfl ?_ | refine vops_nil ?_ | refine vw_seq ?_ | refine vw_region (by kernel_rfl) ?_ | refine vw_block ?_)
      refine vw_loopW (fun y f own => ∃ (k : Nat) (row : List Int) (p10 : Option Addr) (c10 : Nat) (X : Own), k ≤ n + 1 ∧ y = n + 1 - k ∧ f 11 = .int .i64 k ∧ f 10 = .slice p10 k c10 ∧ f 9 = .int .i64 i ∧ f 5 = .int .i64 ((n + 1 : Nat) : Int) ∧ f 6 = .slice (some ⟨bl, 0, none⟩) (n + 1) cl ∧ f 8 = .slice (some ⟨bo, 0, none⟩) (n + 1) co ∧ f 7 = .slice p7 i c7 ∧ f 4 = .pointer (some ⟨b, 0, none⟩) ∧ row.length = k ∧ NewF 2 1 k row (.slice p10 k c10) X ∧ own = X ++ (Src b a cs.length cap i' h' ++ ((bl, ⟨ints l, 2, cl * 1, none⟩) :: ((bo, ⟨ints o, 2, co * 1, none⟩) :: (outer ++ ns.flatten))))) (n + 1)
        ⟨_, ole_refl, 0, [], some ⟨b10, 0, none⟩, 0, [(b10, ⟨[], 2, 0, none⟩)], by omega, by omega, rfl, rfl, rfl, rfl, rfl, rfl, rfl, rfl, rfl, NewF.empty, rfl⟩ ?_
      rintro y f own ⟨k, row, p10, c10, X, hk, rfl, h11, h10, h9, h5, h6, h8, h7, h4, hrow, hX, rfl⟩
      rw [upd_of h11, upd_of h10, upd_of h9, upd_of h5, upd_of h6, upd_of h8, upd_of h7, upd_of h4]
      repeat (first | refine vops_q tyOk rfl ?_ | refine vops_nil ?_ | refine vw_seq ?_ | refine vw_region (by kernel_rfl) ?_ | refine vw_cond rfl ?_)
      refine bs_dec (fun hlt2 => ?_) (fun hlt2 => ?_)
      · have hkn : k < n + 1 := by omega
        have hlk := hlb _ (mem_getD (l := l) (i := k) (by omega))
        have hcl : (ints l)[0 + (k : Int).toNat]? = some (.int .i64 (l.getD k 0)) := by rw [show 0 + (k : Int).toNat = k by omega]; exact ints_get (by omega)
        repeat (first | refine vw_seq ?_ | refine vw_skip ?_ | refine vw_block ?_)
        refine vw_drawB [(bl, ⟨ints l, 2, cl * 1, none⟩), (bo, ⟨ints o, 2, co * 1, none⟩)] [0, 1, 2, 3, 4, 5, 6, 7, 8, 9, 10, 11, 12, 13, 14] (by kernel_rfl) (by kernel_rfl) (by kernel_rfl) rfl (by repeat (first | exact ole_nil | exact ole_refl | (apply ole_cons; (repeat (first | exact pm1_here | apply pm1_next | apply pm1_past))) | (apply ole_app; (repeat (first | exact pm_here | exact pm_last | apply pm_next | apply pm_past))))) ?_
        repeat' (first | refine vd_q tyOk rfl (by first | trivial | rfl) rfl (by kernel_rfl) (by kernel_rfl) ?_ | refine vd_p tyOk rfl (by first | trivial | rfl) rfl (by kernel_rfl) (by kernel_rfl) (by (try simp only [inR]); omega) ?_ | refine vops_nil ?_ | refine vd_nil (by kernel_rfl) ?_ | refine ⟨fun _ _ _ h => List.mem_cons_of_mem _ h, ?_⟩ | refine vd_load tyOk rfl (by first | trivial | rfl) rfl rfl rfl (by kernel_rfl) (by kernel_rfl) (by kernel_rfl) (sees_mem (by repeat (first | exact mem_here | apply mem_next | apply mem_past)) (by exact hco)) (by repeat (first | exact sub_hereL | exact sub_refl | apply sub_cons | apply sub_app)) ?_ | refine vd_load tyOk rfl (by first | trivial | rfl) rfl rfl rfl (by kernel_rfl) (by kernel_rfl) (by kernel_rfl) (sees_mem (by repeat (first | exact mem_here | apply mem_next | apply mem_past)) (by exact hcl)) (by repeat (first | exact sub_hereL | exact sub_refl | apply sub_cons | apply sub_app)) ?_ | refine vops_litI [_] tyOk rfl rfl (List.cons_ne_nil _ _) (by rfl) rfl (by omega) (by omega) (fun bt hbt => ?_) | refine vops_append1 (k := 1) tyOk rfl rfl (List.cons_ne_nil _ _) rfl rfl (by decide) rfl hX (by repeat (first | exact pm_here | exact pm_last | apply pm_next | apply pm_past)) rfl (by repeat (first | exact mem_here | apply mem_next | apply mem_past)) rfl (by omega) (fun p' cap' new' hN' => ?_) | refine ⟨fun _ p hp _ => (List.mem_cons.1 hp).elim (fun e => by rw [e]; exact (by repeat (first | exact mem_here | apply mem_next | apply mem_past))) (fun hp => by rw [List.mem_singleton.1 hp]; exact (by repeat (first | exact mem_here | apply mem_next | apply mem_past))), ?_⟩ | refine vd_one rfl (by kernel_rfl) (by kernel_rfl) rfl ?_)
        repeat (first | refine vops_q tyOk rfl ?_ | refine vops_nil ?_ | refine vw_region (by kernel_rfl) ?_ | refine vops_p tyOk rfl (by (try simp only [inR]); omega) ?_)
        exact ⟨n + 1 - (k + 1), by omega, new' ++ (Src b a cs.length cap i' h' ++ ((bl, ⟨ints l, 2, cl * 1, none⟩) :: ((bo, ⟨ints o, 2, co * 1, none⟩) :: (outer ++ ns.flatten)))), ole_app pm_here (ole_last (by repeat (first | exact pm_here | exact pm_last | apply pm_next | apply pm_past))), k + 1, _, p', cap', new', by omega, rfl, rfl, rfl, rfl, rfl, rfl, rfl, rfl, rfl, (by rw [List.length_append, hrow]; rfl), hN', rfl⟩
      · obtain rfl : k = n + 1 := by omega
        have hXI : NewI 2 row (.slice p10 (n + 1) c10) X := by unfold NewI; rw [hrow]; exact hX
        repeat (first | refine vops_q tyOk rfl ?_ | refine vops_nil ?_ | refine vw_region (by kernel_rfl) ?_ | refine vops_p tyOk rfl (by (try simp only [inR]); omega) ?_ | refine vw_exit ?_ | refine vops_litV (v := .slice p10 (n + 1) c10) tyOk rfl rfl (List.cons_ne_nil _ _) rfl rfl rfl (fun bu hbu => ?_) | refine vops_appendV tyOk rfl rfl (List.cons_ne_nil _ _) rfl rfl (by decide) rfl hO (by repeat (first | exact pm_here | exact pm_last | apply pm_next | apply pm_past)) rfl (by repeat (first | exact mem_here | apply mem_next | apply mem_past)) rfl (by omega) (fun p2 c2 new2 hN2 => ?_))
        refine ⟨n + 1 - (i + 1), by omega, Src b a cs.length cap i' h' ++ ((bl, ⟨ints l, 2, cl * 1, none⟩) :: ((bo, ⟨ints o, 2, co * 1, none⟩) :: (new2 ++ (ns ++ [X]).flatten))), (by rw [List.flatten_append]; exact (by repeat (first | exact ole_nil | exact ole_refl | (apply ole_cons; (repeat (first | exact pm1_here | apply pm1_next | apply pm1_past))) | (apply ole_app; (repeat (first | exact pm_here | exact pm_last | apply pm_next | apply pm_past)))))), i + 1, rows ++ [row], p2, c2, vs ++ [.slice p10 (n + 1) c10], ns ++ [X], new2, by omega, rfl, rfl, rfl, rfl, rfl, rfl, rfl, (by rw [List.length_append, hrl]; rfl), (fun r hr => ?_), RowsAt.snoc hXI hR, hN2, rfl⟩
        rcases List.mem_append.1 hr with hr | hr
        · exact hrr r hr
        · rw [List.mem_singleton.1 hr]; exact hrow
    · obtain rfl : i = n + 1 := by omega
      clear hlb hob hNf hNof hol hll
      refine vw_nodup (fun hnd => ?_)
      repeat (first | refine vops_q tyOk rfl ?_ | refine vops_nil ?_ | refine vw_seq ?_ | refine vw_region (by kernel_rfl) ?_ | refine vw_cond rfl ?_ | refine vw_block ?_ | refine vw_exit ?_ | (apply vops_callM ent102 rfl; (case h => (intro w' hg; exact c_next (hC.at (cap := cap) hg hi1 hi2 hh1 hh2) (by omega))); (case hp => (repeat (first | exact pm_here | exact pm_last | apply pm_next | apply pm_past))); (rintro _ newM ⟨x, rfl, hx0, hx1, i', h', hi1, hi2, hh1, hh2, rfl⟩)))
      refine bs_dec (fun hx => ?_) (fun hx => ?_)
      · repeat (first | refine vops_q tyOk rfl ?_ | refine vops_nil ?_ | refine vw_seq ?_ | refine vw_region (by kernel_rfl) ?_ | refine vw_ret ?_ | refine vops_build0 tyOk rfl rfl (fun be2 hbe2 => ?_) | refine vops_litV (v := .slice (some ⟨be2, 0, none⟩) 0 0) tyOk rfl rfl (List.cons_ne_nil _ _) rfl rfl rfl (fun bu hbu => ?_) | (refine vops_appendV tyOk rfl rfl (List.cons_ne_nil _ _) rfl rfl (by decide) rfl hO (by repeat (first | exact pm_here | exact pm_last | apply pm_next | apply pm_past)) rfl (by repeat (first | exact mem_here | apply mem_next | apply mem_past)) rfl (by omega) (fun p2 c2 new2 hN2 => ?_); refine vops_nodup (fun hnd2 => ?_)))
        have hlen : (rows ++ [[]]).length = n + 1 + 1 := by rw [List.length_append, hrl]; rfl
        refine out2 (new := new2 ++ (ns ++ [[(be2, (⟨[], 2, 0, none⟩ : Blk))]]).flatten) rfl rfl rfl (OLe.nodup (by rw [List.flatten_append]; exact (by repeat (first | exact ole_nil | exact ole_refl | (apply ole_cons; (repeat (first | exact pm1_here | apply pm1_next | apply pm1_past))) | (apply ole_app; (repeat (first | exact pm_here | exact pm_last | apply pm_next | apply pm_past)))))) hnd2) (fun q hq => ?_) ⟨((n + 1 : Nat) : Int), rows ++ [[]], p2, c2, (by unfold In64; omega), (by omega), (fun r hr => ?_), (by rw [hlen]; rfl), vs ++ [.slice (some ⟨be2, 0, none⟩) 0 0], ns ++ [[(be2, (⟨[], 2, 0, none⟩ : Blk))]], new2, RowsAt.snoc NewI.empty hR, (by rw [hlen]; exact hN2), rfl⟩
        · rw [flat_snoc] at hq
          rcases List.mem_append.1 hq with hq | hq
          · exact (show Go.VL.Sub _ _ from (by repeat (first | exact sub_hereL | exact sub_refl | apply sub_cons | apply sub_app))) q hq
          · rcases List.mem_append.1 hq with hq | hq
            · exact (show Go.VL.Sub _ _ from (by repeat (first | exact sub_hereL | exact sub_refl | apply sub_cons | apply sub_app))) q hq
            · rw [List.mem_singleton.1 hq]; exact (by repeat (first | exact mem_here | apply mem_next | apply mem_past))
        · rcases List.mem_append.1 hr with hr | hr
          · have := hrr r hr; omega
          · rw [List.mem_singleton.1 hr]; simp
      · repeat (first | refine vops_q tyOk rfl ?_ | refine vops_nil ?_ | refine vw_seq ?_ | refine vw_region (by kernel_rfl) ?_ | refine vw_cond rfl ?_)
        refine bs_dec (fun hx1 => ?_) (fun hx1 => ?_)
        · obtain ⟨r0, rows', rfl⟩ : ∃ r0 rows', rows = r0 :: rows' := by
            cases rows with
            | nil => simp at hrl
            | cons r0 rows' => exact ⟨_, _, rfl⟩
          obtain ⟨u0, vs', n0, ns', rfl, rfl, hN0, hR'⟩ : ∃ u0 vs' n0 ns', vs = u0 :: vs' ∧ ns = n0 :: ns' ∧ NewI 2 r0 u0 n0 ∧ RowsAt 2 rows' vs' ns' := by
            match vs, ns, hR with
            | u0 :: vs', n0 :: ns', h => exact ⟨_, _, _, _, rfl, rfl, h.1, h.2⟩
          have hr0 := hrr r0 List.mem_cons_self
          obtain ⟨p0, c0, rfl⟩ := SlAt.form hN0
          obtain ⟨b0, rfl, rfl, hc0, hcm0, _⟩ := NewF.blk (NewI.f hN0) (by omega)
          obtain ⟨bo7, rfl, rfl⟩ : ∃ bo7, p7 = some ⟨bo7, 0, none⟩ ∧ outer = [(bo7, ⟨.slice (some ⟨b0, 0, none⟩) r0.length c0 :: vs', 28, c7 * 1, none⟩)] := by
            rcases hO.2 with ⟨_, h2, _⟩ | ⟨bb, cc, h1, _, _, h4⟩
            · omega
            · cases h1; exact ⟨bb, rfl, h4⟩
          rw [List.flatten_cons] at hnd ⊢
          rw [hr0] at hnd ⊢
          have hnd3 : (ids ([(bo7, (⟨.slice (some ⟨b0, 0, none⟩) (n + 1) c0 :: vs', 28, c7 * 1, none⟩ : Blk))] ++ ([(b0, ⟨ints r0, 2, c0 * 1, none⟩)] ++ ns'.flatten))).Nodup := OLe.nodup (ole_app (by repeat (first | exact pm_here | exact pm_last | apply pm_next | apply pm_past)) (ole_last (by repeat (first | exact pm_here | exact pm_last | apply pm_next | apply pm_past)))) hnd
          repeat (first | refine vops_q tyOk rfl ?_ | refine vops_nil ?_ | refine vw_seq ?_ | refine vw_region (by kernel_rfl) ?_ | refine vops_p tyOk rfl (by (try simp only [inR]); omega) ?_ | refine vw_ret ?_ | refine vops_litI [-1, ((n + 1 : Nat) : Int), 0, ((n + 1 : Nat) : Int) - 1] tyOk rfl rfl (List.cons_ne_nil _ _) (by rfl) rfl (by omega) (by omega) (fun bq hbq => ?_) | (apply vops_callM (own0 := Src b a cs.length cap i' h') ent100 rfl; (case hp => (repeat (first | exact pm_here | exact pm_last | apply pm_next | apply pm_past))); (case h => (intro w' hg; exact c_pick (l := [-1, ((n + 1 : Nat) : Int), 0, ((n + 1 : Nat) : Int) - 1]) hC hg hi1 hi2 hh1 hh2 (by repeat (first | exact mem_here | apply mem_next | apply mem_past)) rfl (by simp) (by simp))); (rintro _ newM ⟨x, hx, rfl, i', h', hi1, hi2, hh1, hh2, rfl⟩)) | refine vops_storeIM (o := 0) tyOk rfl rfl rfl rfl (by repeat (first | exact upd_here | apply upd_next | apply upd_past)) (by omega) ?_ | ((show VOps _ _ _ _ (⟨some _, Go.Op.load _ _, _, _, _, none⟩ :: _) _ _); refine vops_loadM tyOk rfl rfl rfl (by repeat (first | exact mem_here | apply mem_next | apply mem_past)) (by rfl) ?_))
          have hset : (r0.set 0 x).length = n + 1 := by rw [List.length_set, hr0]
          have hNs : NewI 2 (r0.set 0 x) (.slice (some ⟨b0, 0, none⟩) (n + 1) c0) [(b0, ⟨ints (r0.set 0 x), 2, c0 * 1, none⟩)] := by
            unfold NewI; rw [hset]; exact NewF.mk (by omega) (by omega) hcm0
          have hrl' : ((r0.set 0 x) :: rows').length = n + 1 := by rw [List.length_cons] at hrl ⊢; exact hrl
          refine out2 (new := [(bo7, ⟨.slice (some ⟨b0, 0, none⟩) (n + 1) c0 :: vs', 28, c7 * 1, none⟩)] ++ ([(b0, ⟨ints (r0.set 0 x), 2, c0 * 1, none⟩)] ++ ns'.flatten)) rfl rfl rfl (by simpa [ids] using hnd3) (fun q hq => ?_) ⟨((n + 1 : Nat) : Int), (r0.set 0 x) :: rows', some ⟨bo7, 0, none⟩, c7, (by unfold In64; omega), (by omega), (fun r hr => ?_), (by rw [hrl']; rfl), .slice (some ⟨b0, 0, none⟩) (n + 1) c0 :: vs', [(b0, ⟨ints (r0.set 0 x), 2, c0 * 1, none⟩)] :: ns', [(bo7, ⟨.slice (some ⟨b0, 0, none⟩) (n + 1) c0 :: vs', 28, c7 * 1, none⟩)], ⟨hNs, hR'⟩, (by rw [hrl']; rw [hr0] at hO; exact hO), rfl⟩
          · rcases List.mem_append.1 hq with hq | hq
            · exact (show Go.VL.Sub _ _ from (by repeat (first | exact sub_hereL | exact sub_refl | apply sub_cons | apply sub_app))) q hq
            · rcases List.mem_append.1 hq with hq | hq
              · exact (show Go.VL.Sub _ _ from (by repeat (first | exact sub_hereL | exact sub_refl | apply sub_cons | apply sub_app))) q hq
              · exact (show Go.VL.Sub _ _ from (by repeat (first | exact sub_hereL | exact sub_refl | apply sub_cons | apply sub_app))) q hq
          · rcases List.mem_cons.1 hr with rfl | hr
            · omega
            · have := hrr r (List.mem_cons_of_mem _ hr); omega
        · repeat (first | refine vops_q tyOk rfl ?_ | refine vops_nil ?_ | refine vw_seq ?_ | refine vw_region (by kernel_rfl) ?_ | refine vw_cond rfl ?_)
          refine bs_dec (fun hx2 => ?_) (fun hx2 => ?_)
          · repeat (first | refine vops_q tyOk rfl ?_ | refine vops_nil ?_ | refine vw_seq ?_ | refine vw_region (by kernel_rfl) ?_ | refine vops_p tyOk rfl (by (try simp only [inR]); omega) ?_ | refine vw_ret ?_ | refine vops_litI [0, 15, ((n + 1 : Nat) : Int) + 1] tyOk rfl rfl (List.cons_ne_nil _ _) (by rfl) rfl (by omega) (by omega) (fun bq hbq => ?_) | (apply vops_callM (own0 := Src b a cs.length cap i' h') ent100 rfl; (case hp => (repeat (first | exact pm_here | exact pm_last | apply pm_next | apply pm_past))); (case h => (intro w' hg; exact c_pick (l := [0, 15, ((n + 1 : Nat) : Int) + 1]) hC hg hi1 hi2 hh1 hh2 (by repeat (first | exact mem_here | apply mem_next | apply mem_past)) rfl (by simp) (by simp))); (rintro _ newM ⟨x, hx, rfl, i', h', hi1, hi2, hh1, hh2, rfl⟩)))
            simp only [List.mem_cons, List.not_mem_nil, or_false] at hx
            exact out2 (new := outer ++ ns.flatten) rfl rfl rfl (OLe.nodup (ole_app (by repeat (first | exact pm_here | exact pm_last | apply pm_next | apply pm_past)) (ole_last (by repeat (first | exact pm_here | exact pm_last | apply pm_next | apply pm_past)))) hnd) (fun q hq => (List.mem_append.1 hq).elim ((show Go.VL.Sub _ _ from (by repeat (first | exact sub_hereL | exact sub_refl | apply sub_cons | apply sub_app))) q) ((show Go.VL.Sub _ _ from (by repeat (first | exact sub_hereL | exact sub_refl | apply sub_cons | apply sub_app))) q)) ⟨x, rows, p7, c7, (by unfold In64; omega), (by omega), (fun r hr => by have := hrr r hr; omega), (by rw [hrl]; rfl), vs, ns, outer, hR, (by rw [hrl]; exact hO), rfl⟩
          · repeat (first | refine vops_q tyOk rfl ?_ | refine vops_nil ?_ | refine vw_seq ?_ | refine vw_region (by kernel_rfl) ?_ | refine vw_skip ?_ | refine vw_ret ?_)
            exact out2 (new := outer ++ ns.flatten) rfl rfl rfl (OLe.nodup (ole_app (by repeat (first | exact pm_here | exact pm_last | apply pm_next | apply pm_past)) (ole_last (by repeat (first | exact pm_here | exact pm_last | apply pm_next | apply pm_past)))) hnd) (fun q hq => (List.mem_append.1 hq).elim ((show Go.VL.Sub _ _ from (by repeat (first | exact sub_hereL | exact sub_refl | apply sub_cons | apply sub_app))) q) ((show Go.VL.Sub _ _ from (by repeat (first | exact sub_hereL | exact sub_refl | apply sub_cons | apply sub_app))) q)) ⟨((n + 1 : Nat) : Int), rows, p7, c7, (by unfold In64; omega), (by omega), (fun r hr => by have := hrr r hr; omega), (by rw [hrl]; rfl), vs, ns, outer, hR, (by rw [hrl]; exact hO), rfl⟩
set_option maxRecDepth 100000 in
theorem c_DrawIsRowComplete (a : Option Addr) (cs : List Nat) (cap : Nat) (w : World) (hB : RdB w a cs) (hcs : ∀ c ∈ cs, c < 256) (hl : cs.length ≤ 1048576) :
    Calls Try.prog 52 [.slice a cs.length cap].toArray w (Res w GivNew) := by
  refine calls_of_vw Try.func52 rfl Try.ntmps52 (by simp) ?_
  repeat (first | refine vops_q tyOk rfl ?_ | refine vops_nil ?_ | refine vw_seq ?_ | refine vw_region (by kernel_rfl) ?_)
  apply vops_call ent126 rfl
  · intro w' hg; exact c_l09Given a cs cap w' (hB.same hg.fr) hcs hl
  rintro _ newG ⟨m, ls, p, c, h1, h2, h3, rfl, hN⟩
  refine vops_nodup (fun hnd => ?_)
  repeat (first | refine vops_q tyOk rfl ?_ | refine vops_nil ?_ | refine vw_seq ?_ | refine vw_region (by kernel_rfl) ?_ | refine vw_ret ?_)
  exact out2 (new := newG) rfl rfl rfl (OLe.nodup (ole_last (by repeat (first | exact pm_here | exact pm_last | apply pm_next | apply pm_past))) hnd) (by repeat (first | exact sub_hereL | exact sub_refl | apply sub_cons | apply sub_app)) ⟨m, ls, p, c, h1, h2, h3, rfl, hN⟩
set_option maxRecDepth 100000 in
theorem c_DrawSquareOfList (a : Option Addr) (cs : List Nat) (cap : Nat) (w : World) (hB : RdB w a cs) (hcs : ∀ c ∈ cs, c < 256) (hl : cs.length ≤ 1048576) :
    Calls Try.prog 42 [.slice a cs.length cap].toArray w (Res w LiNew) := by
  refine calls_of_vw Try.func42 rfl Try.ntmps42 (by simp) ?_
  repeat (first | refine vops_q tyOk rfl ?_ | refine vops_nil ?_ | refine vw_seq ?_ | refine vw_region (by kernel_rfl) ?_)
  apply vops_call ent114 rfl
  · intro w' hg; exact c_l09DrawList a cs cap w' (hB.same hg.fr) hcs hl
  rintro _ newG ⟨l, p, c, h1, rfl, hN⟩
  repeat (first | refine vops_q tyOk rfl ?_ | refine vops_nil ?_ | refine vw_ret ?_)
  exact out1 rfl rfl (SlAt.nodup hN) (by repeat (first | exact sub_hereL | exact sub_refl | apply sub_cons | apply sub_app)) ⟨l, p, c, h1, rfl, hN⟩
end Go.Proofs.Ytlnohlomanapeaa
