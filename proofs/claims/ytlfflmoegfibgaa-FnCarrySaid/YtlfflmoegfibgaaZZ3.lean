import Derived.Test.YtlfflmoegfibgaaZZ0
import Derived.Test.YtlfflmoegfibgaaZZ2
import Derived.Test.YtlfflmoegfibgaaVLTable
import Derived.Test.YtlfflmoegfibgaaVLCells
import Derived.Test.YtlfflmoegfibgaaVLA
import Derived.Test.YtlfflmoegfibgaaSX
import Derived.Test.YtlfflmoegfibgaaVLTabD
import Derived.Test.YtlfflmoegfibgaaVLPlay
import Derived.Test.YtlfflmoegfibgaaUL
import Derived.Test.YtlfflmoegfibgaaVLEv
/- Parts of the proof, one after another. No conditions of their own. -/
/- Parts of the proof, one after another. No conditions of their own. -/
/- A part of the proof: CA5. No conditions of its own. -/
namespace Go.Proofs.Ytlfflmoegfibgaa
open Go.VL
attribute [local irreducible] VWr VOps VD Calls

/-- The first k opponents of the digit round robin's round x. -/
def digP (x k : Nat) : List Int := lst 14 fun a => if a < k then ((a ^^^ x : Nat) : Int) else 0
theorem digP_length (x k : Nat) : (digP x k).length = 14 := lst_length _ _
theorem digP_zero (x : Nat) : digP x 0 = List.replicate 14 0 := by rw [lst_rep]; exact lst_congr fun i _ => if_neg (by omega)
theorem digP_set {x k : Nat} (_h : k < 14) : (digP x k).set k ((k ^^^ x : Nat) : Int) = digP x (k + 1) := by
  unfold digP
  rw [lst_set]
  refine lst_congr fun i _ => ?_
  by_cases h : i = k
  · subst h; rw [if_pos rfl, if_pos (by omega)]
  · rw [if_neg h]
    by_cases h2 : i < k
    · rw [if_pos h2, if_pos (by omega)]
    · rw [if_neg h2, if_neg (by omega)]
def digRows (n : Nat) (l : List Int) : List (List Int) := l.map fun x => digP x.toNat n
theorem digRows_length (n : Nat) (l : List Int) : (digRows n l).length = l.length := by simp [digRows]
theorem digRows14 (n : Nat) (l : List Int) : ∀ r ∈ digRows n l, r.length = 14 := fun r hr => by
  obtain ⟨x, _, rfl⟩ := List.mem_map.1 hr
  exact digP_length _ _
theorem digRows_take {n : Nat} {l : List Int} {i : Nat} (h : i < l.length) : ((digRows n l).take (i + 1)).flatten = ((digRows n l).take i).flatten ++ digP (l.getD i 0).toNat n := by
  have : (digRows n l)[i]? = some (digP (l.getD i 0).toNat n) := by
    rw [digRows, List.getElem?_map, List.getD_eq_getElem?_getD, List.getElem?_eq_getElem h]; rfl
  rw [List.take_add_one, this]; simp

set_option maxHeartbeats 2000000 in
set_option maxRecDepth 100000 in
theorem c_digitRobin (n : Nat) (hn : n ≤ 14) (v : Value) (l : List Int) (w : World) (hv : RdI w v l) (hl : l.length ≤ 1048576) (hD : ∀ x ∈ l, 0 ≤ x ∧ x < 1024) :
    Calls Try.prog 127 [.int .i64 n, v].toArray w (Res w (SchG 50 n (digRows n l))) := by
  obtain ⟨a, cap, rfl⟩ := hv.len
  refine calls_of_vw Try.func127 rfl Try.ntmps127 (by simp) ?_
  refine vw_seq (vw_region (by kernel_rfl) (vops_allocZ [.int .i64 0, .slice none 0 0] tyOk rfl rfl (by simp) (fun bz hbz => ?_)))
  repeat (first | refine vops_q tyOk rfl ?_ | refine vops_nil ?_ | refine vw_seq ?_ | refine vw_region (by kernel_rfl) ?_ | refine vops_run (fun w => x_build #[.int .i64 n, .slice none 0 0] rfl (by kernel_rfl) w) ?_)
  refine vops_allocZ [.int .i64 0, .slice none 0 0] tyOk rfl rfl (by simp) (fun bo hbo => ?_)
  repeat (first | refine vops_q tyOk rfl ?_ | refine vops_nil ?_ | refine vw_seq ?_ | refine vw_region (by kernel_rfl) ?_ | refine vw_block ?_ | ((show VOps _ _ _ _ (⟨none, Go.Op.store _ _ _, _, _, _, none⟩ :: _) _ _); refine vops_storeAM tyOk rfl rfl rfl (by first | rfl | (rw [ints_length]; first | assumption | omega | (rw [ints_length]; first | assumption | omega | simp [*])) | simp [*]) (by first | exact ints_one | simp [Value.oneCell']) (by repeat (first | exact upd_here | apply upd_next | apply upd_past)) (by first | rfl | (rw [ints_length]; first | assumption | omega | (rw [ints_length]; first | assumption | omega | simp [*])) | simp [*]) ?_))
  refine vw_loopW (fun y f own => ∃ (i : Nat) (p : Option Addr) (cp : Nat) (new : Own), i ≤ l.length ∧ y = l.length - i ∧ f 14 = .int .i64 i ∧ f 13 = .int .i64 l.length ∧ f 12 = .slice a l.length cap ∧ f 0 = .int .i64 n ∧ f 4 = .pointer (some ⟨bz, 0, none⟩) ∧ f 5 = .pointer (some ⟨bo, 0, none⟩) ∧
      NewF 50 14 i ((digRows n l).take i).flatten (.slice p i cp) new ∧
      own = new ++ [(bo, ⟨[.int .i64 n, .slice p i cp], 32, 2, none⟩), (bz, ⟨[.int .i64 0, .slice none 0 0], 32, 2, none⟩)]) l.length
    ⟨_, ole_refl, 0, none, 0, [], by omega, by omega, rfl, rfl, rfl, rfl, rfl, rfl, SlAt.nil, rfl⟩ ?_
  rintro y f own ⟨i, p, cp, new, hi, rfl, h14, h13, h12, h0, h4, h5, hN, rfl⟩
  rw [upd_of h14, upd_of h13, upd_of h12, upd_of h0, upd_of h4, upd_of h5]
  repeat (first | refine vops_q tyOk rfl ?_ | refine vops_nil ?_ | refine vw_seq ?_ | refine vw_region (by kernel_rfl) ?_ | refine vw_cond rfl ?_)
  refine bs_dec (fun hlt => ?_) (fun hlt => ?_)
  · have hil : i < l.length := by omega
    obtain ⟨b', o, cap', he, hcell⟩ := hv.at (i := i) hil
    cases he
    have hc := hcell i hil
    obtain ⟨hx0, hx1⟩ := hD _ (mem_getD hil)
    obtain ⟨x, hx⟩ : ∃ x : Nat, l.getD i 0 = (x : Int) := ⟨(l.getD i 0).toNat, by omega⟩
    have hst := digRows_take (n := n) hil
    rw [hx, Int.toNat_natCast] at hst
    rw [hx] at hc hx1
    repeat (first | refine vops_q tyOk rfl ?_ | refine vops_nil ?_ | refine vw_seq ?_ | refine vw_region (by kernel_rfl) ?_ | refine vops_p tyOk rfl (by (try simp only [inR]); omega) ?_ | refine vw_skip ?_ | refine vw_block ?_ | refine vops_load tyOk rfl rfl rfl (sees_old hc (by simp)) ?_)
    refine vops_allocZ (ints (List.replicate 14 0)) tyOk rfl rfl (by simp [ints]) (fun br hbr => ?_)
    repeat (first | refine vops_q tyOk rfl ?_ | refine vops_nil ?_ | refine vw_seq ?_ | refine vw_region (by kernel_rfl) ?_ | refine vw_block ?_)
    refine vw_loopW (fun y f own => ∃ k : Nat, k ≤ n ∧ y = n - k ∧ f 19 = .int .i64 k ∧ f 18 = .int .i64 n ∧ f 7 = .int .i64 x ∧ f 8 = .pointer (some ⟨br, 0, none⟩) ∧ f 14 = .int .i64 i ∧ f 13 = .int .i64 l.length ∧ f 12 = .slice (some ⟨b', o, none⟩) l.length cap ∧ f 0 = .int .i64 n ∧ f 4 = .pointer (some ⟨bz, 0, none⟩) ∧ f 5 = .pointer (some ⟨bo, 0, none⟩) ∧
        own = (br, ⟨ints (digP x k), 50, 14, none⟩) :: (new ++ [(bo, ⟨[.int .i64 n, .slice p i cp], 32, 2, none⟩), (bz, ⟨[.int .i64 0, .slice none 0 0], 32, 2, none⟩)])) n
      ⟨_, ole_refl, 0, by omega, by omega, rfl, rfl, rfl, rfl, rfl, rfl, rfl, rfl, rfl, rfl, by rw [digP_zero]; rfl⟩ ?_
    rintro y f own ⟨k, hk, rfl, h19, h18, h7, h8, h14, h13, h12, h0, h4, h5, rfl⟩
    rw [upd_of h19, upd_of h18, upd_of h7, upd_of h8, upd_of h14, upd_of h13, upd_of h12, upd_of h0, upd_of h4, upd_of h5]
    have hdl := digP_length x k
    repeat (first | refine vops_q tyOk rfl ?_ | refine vops_nil ?_ | refine vw_seq ?_ | refine vw_region (by kernel_rfl) ?_ | refine vw_cond rfl ?_)
    refine bs_dec (fun hlt2 => ?_) (fun hlt2 => ?_)
    · repeat (first | refine vops_q tyOk rfl ?_ | refine vops_nil ?_ | refine vw_seq ?_ | refine vw_region (by kernel_rfl) ?_ | refine vops_p tyOk rfl (by (try simp only [inR]); omega) ?_ | refine vw_skip ?_ | refine vw_block ?_ | refine vops_xor k x rfl rfl rfl rfl (by omega) (by omega) ?_ | ((show VOps _ _ _ _ (⟨none, Go.Op.store _ _ _, _, _, _, none⟩ :: _) _ _); refine vops_storeIM tyOk rfl rfl rfl rfl (by repeat (first | exact upd_here | apply upd_next | apply upd_past)) (by omega) ?_))
      refine ⟨n - (k + 1), by omega, _, ole_refl, k + 1, by omega, rfl, rfl, rfl, rfl, rfl, rfl, rfl, rfl, rfl, rfl, rfl, ?_⟩
      rw [← digP_set (x := x) (k := k) (by omega)]; rfl
    · obtain rfl : k = n := by omega
      repeat (first | refine vops_q tyOk rfl ?_ | refine vops_nil ?_ | refine vw_region (by kernel_rfl) ?_ | refine vops_p tyOk rfl (by (try simp only [inR]); omega) ?_ | refine vw_exit ?_ | refine vops_litR (k := 14) tyOk rfl rfl (List.cons_ne_nil _ _) rfl hdl rfl (by omega) (by omega) (fun be hbe => ?_) | refine vops_append1 (k := 14) tyOk rfl rfl (List.cons_ne_nil _ _) rfl rfl (by decide) rfl hN (by repeat (first | exact pm_here | exact pm_last | apply pm_next | apply pm_past)) rfl (by repeat (first | exact mem_here | apply mem_next | apply mem_past)) (by first | assumption | omega) (by omega) (fun p' cap' new' hN' => ?_) | ((show VOps _ _ _ _ (⟨some _, Go.Op.load _ _, _, _, _, none⟩ :: _) _ _); first | refine vops_loadM tyOk rfl rfl rfl (by repeat (first | exact mem_here | apply mem_next | apply mem_past)) (by rfl) ?_ | refine vops_loadNM tyOk rfl rfl rfl (by repeat (first | exact mem_here | apply mem_next | apply mem_past)) (by first | rfl | (rw [ints_length]; first | assumption | omega | (rw [ints_length]; first | assumption | omega | simp [*])) | simp [*]) ?_) | ((show VOps _ _ _ _ (⟨none, Go.Op.store _ _ _, _, _, _, none⟩ :: _) _ _); refine vops_storeM tyOk rfl rfl rfl rfl rfl (by repeat (first | exact upd_here | apply upd_next | apply upd_past)) (by simp) ?_))
      exact ⟨l.length - (i + 1), by omega, new' ++ [(bo, _), (bz, _)], (by repeat (first | exact ole_nil | exact ole_refl | (apply ole_cons; (repeat (first | exact pm1_here | apply pm1_next | apply pm1_past))) | (apply ole_app; (repeat (first | exact pm_here | exact pm_last | apply pm_next | apply pm_past))))), i + 1, p', cap', new', by omega, rfl, rfl, rfl, rfl, rfl, rfl, rfl, hN'.cast hst.symm, rfl⟩
  · have hik : i = (digRows n l).length := by rw [digRows_length]; omega
    repeat (first | refine vops_nil ?_ | refine vw_seq ?_ | refine vw_region (by kernel_rfl) ?_ | refine vw_ret ?_ | refine vw_exit ?_ | ((show VOps _ _ _ _ (⟨some _, Go.Op.load _ _, _, _, _, none⟩ :: _) _ _); refine vops_loadNM tyOk rfl rfl rfl (by repeat (first | exact mem_here | apply mem_next | apply mem_past)) (by first | rfl | (rw [ints_length]; first | assumption | omega | (rw [ints_length]; first | assumption | omega | simp [*])) | simp [*]) ?_) | ((show VOps _ _ _ _ (⟨none, Go.Op.store _ _ _, _, _, _, none⟩ :: _) _ _); refine vops_storeAM tyOk rfl rfl rfl (by first | rfl | (rw [ints_length]; first | assumption | omega | (rw [ints_length]; first | assumption | omega | simp [*])) | simp [*]) (by first | exact ints_one | simp [Value.oneCell']) (by repeat (first | exact upd_here | apply upd_next | apply upd_past)) (by first | rfl | (rw [ints_length]; first | assumption | omega | (rw [ints_length]; first | assumption | omega | simp [*])) | simp [*]) ?_))
    have hfin : NewR 50 14 (digRows n l) (.slice p i cp) new := NewF.r (m := 0) hN hik (by rw [List.take_of_length_le (by omega)])
    exact schG_ok tyOk rfl rfl rfl rfl rfl (by repeat (first | exact mem_here | apply mem_next | apply mem_past)) hik hfin (by repeat (first | exact sub_hereL | exact sub_refl | apply sub_cons | apply sub_app)) rfl rfl

set_option maxHeartbeats 2000000 in
set_option maxRecDepth 100000 in
theorem c_l09Robin (n : Nat) (hn : n ≤ 14) (v : Value) (l : List Int) (w : World) (hv : RdI w v l) (hl : l.length ≤ 1048576) (hD : ∀ x ∈ l, 0 ≤ x ∧ x < 1024) :
    Calls Try.prog 129 [.int .i64 n, v].toArray w (Res w (SchG 50 n (digRows n l))) := by
  obtain ⟨a, cap, rfl⟩ := hv.len
  refine calls_of_vw Try.func129 rfl Try.ntmps129 (by simp) ?_
  refine vw_seq (vw_region (by kernel_rfl) (vops_allocZ [.int .i64 0, .slice none 0 0] tyOk rfl rfl (by simp) (fun bz hbz => ?_)))
  repeat (first | refine vops_q tyOk rfl ?_ | refine vops_nil ?_ | refine vw_seq ?_ | refine vw_region (by kernel_rfl) ?_ | refine vops_build0 tyOk rfl rfl (fun be hbe => ?_) | refine vops_build2 rfl rfl (by kernel_rfl) ?_)
  refine vops_allocZ [.int .i64 0, .slice none 0 0] tyOk rfl rfl (by simp) (fun bo hbo => ?_)
  repeat (first | refine vops_q tyOk rfl ?_ | refine vops_nil ?_ | refine vw_seq ?_ | refine vw_region (by kernel_rfl) ?_ | refine vw_block ?_ | ((show VOps _ _ _ _ (⟨none, Go.Op.store _ _ _, _, _, _, none⟩ :: _) _ _); refine vops_storeAM tyOk rfl rfl rfl (by first | rfl | (rw [ints_length]; first | assumption | omega | (rw [ints_length]; first | assumption | omega | simp [*])) | simp [*]) (by first | exact ints_one | simp [Value.oneCell']) (by repeat (first | exact upd_here | apply upd_next | apply upd_past)) (by first | rfl | (rw [ints_length]; first | assumption | omega | (rw [ints_length]; first | assumption | omega | simp [*])) | simp [*]) ?_))
  refine vw_loopW (fun y f own => ∃ (i : Nat) (p : Option Addr) (cp : Nat) (new : Own), i ≤ l.length ∧ y = l.length - i ∧ f 6 = .int .i64 i ∧ f 1 = .slice a l.length cap ∧ f 0 = .int .i64 n ∧ f 4 = .pointer (some ⟨bz, 0, none⟩) ∧ f 5 = .pointer (some ⟨bo, 0, none⟩) ∧
      NewF 50 14 i ((digRows n l).take i).flatten (.slice p i cp) new ∧
      own = new ++ [(bo, ⟨[.int .i64 n, .slice p i cp], 32, 2, none⟩), (bz, ⟨[.int .i64 0, .slice none 0 0], 32, 2, none⟩)]) l.length
    ⟨[(be, _)] ++ [(bo, _), (bz, _)], (by repeat (first | exact ole_nil | exact ole_refl | (apply ole_cons; (repeat (first | exact pm1_here | apply pm1_next | apply pm1_past))) | (apply ole_app; (repeat (first | exact pm_here | exact pm_last | apply pm_next | apply pm_past))))), 0, _, _, [_], by omega, by omega, rfl, rfl, rfl, rfl, rfl, NewF.empty, rfl⟩ ?_
  rintro y f own ⟨i, p, cp, new, hi, rfl, h6, h1, h0, h4, h5, hN, rfl⟩
  rw [upd_of h6, upd_of h1, upd_of h0, upd_of h4, upd_of h5]
  repeat (first | refine vops_q tyOk rfl ?_ | refine vops_nil ?_ | refine vw_seq ?_ | refine vw_region (by kernel_rfl) ?_ | refine vw_cond rfl ?_)
  refine bs_dec (fun hlt => ?_) (fun hlt => ?_)
  · have hil : i < l.length := by omega
    obtain ⟨b', o, cap', he, hcell⟩ := hv.at (i := i) hil
    cases he
    have hc := hcell i hil
    obtain ⟨hx0, hx1⟩ := hD _ (mem_getD hil)
    obtain ⟨x, hx⟩ : ∃ x : Nat, l.getD i 0 = (x : Int) := ⟨(l.getD i 0).toNat, by omega⟩
    have hst := digRows_take (n := n) hil
    rw [hx, Int.toNat_natCast] at hst
    rw [hx] at hc hx1
    repeat (first | refine vw_seq ?_ | refine vw_region (by kernel_rfl) ?_ | refine vw_skip ?_ | refine vw_block ?_ | refine vops_buildZ tyOk rfl (by kernel_rfl) ?_)
    refine vops_allocZ (ints (List.replicate 14 0)) tyOk rfl rfl (by simp [ints]) (fun br hbr => ?_)
    repeat (first | refine vops_q tyOk rfl ?_ | refine vops_nil ?_ | refine vw_seq ?_ | refine vw_region (by kernel_rfl) ?_ | refine vw_block ?_ | ((show VOps _ _ _ _ (⟨none, Go.Op.store _ _ _, _, _, _, none⟩ :: _) _ _); refine vops_storeAM tyOk rfl rfl rfl (by first | rfl | (rw [ints_length]; first | assumption | omega | (rw [ints_length]; first | assumption | omega | simp [*])) | simp [*]) (by first | exact ints_one | simp [Value.oneCell']) (by repeat (first | exact upd_here | apply upd_next | apply upd_past)) (by first | rfl | (rw [ints_length]; first | assumption | omega | (rw [ints_length]; first | assumption | omega | simp [*])) | simp [*]) ?_))
    refine vw_loopW (fun y f own => ∃ k : Nat, k ≤ n ∧ y = n - k ∧ f 8 = .int .i64 k ∧ f 7 = .pointer (some ⟨br, 0, none⟩) ∧ f 6 = .int .i64 i ∧ f 1 = .slice (some ⟨b', o, none⟩) l.length cap ∧ f 0 = .int .i64 n ∧ f 4 = .pointer (some ⟨bz, 0, none⟩) ∧ f 5 = .pointer (some ⟨bo, 0, none⟩) ∧
        own = (br, ⟨ints (digP x k), 50, 14, none⟩) :: (new ++ [(bo, ⟨[.int .i64 n, .slice p i cp], 32, 2, none⟩), (bz, ⟨[.int .i64 0, .slice none 0 0], 32, 2, none⟩)])) n
      ⟨_, ole_refl, 0, by omega, by omega, rfl, rfl, rfl, rfl, rfl, rfl, rfl, by rw [digP_zero]; rfl⟩ ?_
    rintro y f own ⟨k, hk, rfl, h8, h7, h6, h1, h0, h4, h5, rfl⟩
    rw [upd_of h8, upd_of h7, upd_of h6, upd_of h1, upd_of h0, upd_of h4, upd_of h5]
    have hdl := digP_length x k
    repeat (first | refine vops_q tyOk rfl ?_ | refine vops_nil ?_ | refine vw_seq ?_ | refine vw_region (by kernel_rfl) ?_ | refine vw_cond rfl ?_)
    refine bs_dec (fun hlt2 => ?_) (fun hlt2 => ?_)
    · repeat (first | refine vops_q tyOk rfl ?_ | refine vops_nil ?_ | refine vw_seq ?_ | refine vw_region (by kernel_rfl) ?_ | refine vops_p tyOk rfl (by (try simp only [inR]); omega) ?_ | refine vw_skip ?_ | refine vw_block ?_ | refine vops_load tyOk rfl rfl rfl (sees_old hc (by simp)) ?_ | refine vops_xor k x rfl rfl rfl rfl (by omega) (by omega) ?_ | ((show VOps _ _ _ _ (⟨none, Go.Op.store _ _ _, _, _, _, none⟩ :: _) _ _); refine vops_storeIM tyOk rfl rfl rfl rfl (by repeat (first | exact upd_here | apply upd_next | apply upd_past)) (by omega) ?_))
      refine ⟨n - (k + 1), by omega, _, ole_refl, k + 1, by omega, rfl, rfl, rfl, rfl, rfl, rfl, rfl, rfl, ?_⟩
      rw [← digP_set (x := x) (k := k) (by omega)]; rfl
    · obtain rfl : k = n := by omega
      repeat (first | refine vops_q tyOk rfl ?_ | refine vops_nil ?_ | refine vw_region (by kernel_rfl) ?_ | refine vops_p tyOk rfl (by (try simp only [inR]); omega) ?_ | refine vw_exit ?_ | refine vops_litR (k := 14) tyOk rfl rfl (List.cons_ne_nil _ _) rfl hdl rfl (by omega) (by omega) (fun be hbe => ?_) | refine vops_append1 (k := 14) tyOk rfl rfl (List.cons_ne_nil _ _) rfl rfl (by decide) rfl hN (by repeat (first | exact pm_here | exact pm_last | apply pm_next | apply pm_past)) rfl (by repeat (first | exact mem_here | apply mem_next | apply mem_past)) (by first | assumption | omega) (by omega) (fun p' cap' new' hN' => ?_) | ((show VOps _ _ _ _ (⟨some _, Go.Op.load _ _, _, _, _, none⟩ :: _) _ _); first | refine vops_loadM tyOk rfl rfl rfl (by repeat (first | exact mem_here | apply mem_next | apply mem_past)) (by rfl) ?_ | refine vops_loadNM tyOk rfl rfl rfl (by repeat (first | exact mem_here | apply mem_next | apply mem_past)) (by first | rfl | (rw [ints_length]; first | assumption | omega | (rw [ints_length]; first | assumption | omega | simp [*])) | simp [*]) ?_) | ((show VOps _ _ _ _ (⟨none, Go.Op.store _ _ _, _, _, _, none⟩ :: _) _ _); refine vops_storeM tyOk rfl rfl rfl rfl rfl (by repeat (first | exact upd_here | apply upd_next | apply upd_past)) (by simp) ?_))
      exact ⟨l.length - (i + 1), by omega, new' ++ [(bo, _), (bz, _)], (by repeat (first | exact ole_nil | exact ole_refl | (apply ole_cons; (repeat (first | exact pm1_here | apply pm1_next | apply pm1_past))) | (apply ole_app; (repeat (first | exact pm_here | exact pm_last | apply pm_next | apply pm_past))))), i + 1, p', cap', new', by omega, rfl, rfl, rfl, rfl, rfl, rfl, hN'.cast hst.symm, rfl⟩
  · have hik : i = (digRows n l).length := by rw [digRows_length]; omega
    repeat (first | refine vops_nil ?_ | refine vw_seq ?_ | refine vw_region (by kernel_rfl) ?_ | refine vw_ret ?_ | refine vw_exit ?_ | ((show VOps _ _ _ _ (⟨some _, Go.Op.load _ _, _, _, _, none⟩ :: _) _ _); refine vops_loadNM tyOk rfl rfl rfl (by repeat (first | exact mem_here | apply mem_next | apply mem_past)) (by first | rfl | (rw [ints_length]; first | assumption | omega | (rw [ints_length]; first | assumption | omega | simp [*])) | simp [*]) ?_) | ((show VOps _ _ _ _ (⟨none, Go.Op.store _ _ _, _, _, _, none⟩ :: _) _ _); refine vops_storeAM tyOk rfl rfl rfl (by first | rfl | (rw [ints_length]; first | assumption | omega | (rw [ints_length]; first | assumption | omega | simp [*])) | simp [*]) (by first | exact ints_one | simp [Value.oneCell']) (by repeat (first | exact upd_here | apply upd_next | apply upd_past)) (by first | rfl | (rw [ints_length]; first | assumption | omega | (rw [ints_length]; first | assumption | omega | simp [*])) | simp [*]) ?_))
    have hfin : NewR 50 14 (digRows n l) (.slice p i cp) new := NewF.r (m := 0) hN hik (by rw [List.take_of_length_le (by omega)])
    exact schG_ok tyOk rfl rfl rfl rfl rfl (by repeat (first | exact mem_here | apply mem_next | apply mem_past)) hik hfin (by repeat (first | exact sub_hereL | exact sub_refl | apply sub_cons | apply sub_app)) rfl rfl
end Go.Proofs.Ytlfflmoegfibgaa

/- A part of the proof: CA6. No conditions of its own. -/
namespace Go.Proofs.Ytlfflmoegfibgaa
open Go.VL
attribute [local irreducible] VWr VOps VD Calls

/-- A number of teams and an order of digits. -/
def IsDig (n : Int) (l : List Int) : Prop := (n = 2 ∨ n = 4 ∨ n = 8) ∧ (l.length : Int) = n - 1 ∧ (∀ x ∈ l, 1 ≤ x ∧ x ≤ n - 1) ∧ l.Nodup
theorem c_hasDigits (n : Int) (w : World) : Calls Try.prog 124 [.int .i64 n].toArray w (Res w (Is (.bool (decide (n = 2 ∨ n = 4 ∨ n = 8))))) := by
  refine calls_of_vw Try.func124 rfl Try.ntmps124 (by simp) ?_
  repeat' (first | refine vops_q tyOk rfl ?_ | refine vops_nil ?_ | refine vw_seq ?_ | refine vw_region (by kernel_rfl) ?_ | refine vops_guardF rfl rfl ?_ | with_reducible refine bs_true ?_ | with_reducible refine bs_false ?_ | refine vw_ret ?_ | (with_reducible refine bs_dec (fun _ => ?_) (fun _ => ?_)) <;> try (exfalso; omega))
  all_goals first
    | exact rv_bool rfl rfl (decide_eq_true (by omega)).symm
    | exact rv_bool rfl rfl (decide_eq_false (by omega)).symm
    | exact rv_bool rfl rfl (decide_eq_decide.2 (by omega))
def digR0 (n : Int) (l : List Int) : (Int × List (List Int)) × Int := ((n, digRows n.toNat l), 0)
open Classical in
noncomputable def digR (n : Int) (l : List Int) : (Int × List (List Int)) × Int := if IsDig n l then digR0 n l else ((0, []), 2)
theorem digR_ok (n : Int) (l : List Int) (hl : l.length ≤ 1048576) : (digR n l).1.2.length ≤ 1048576 ∧ ∀ r ∈ (digR n l).1.2, r.length = 14 := by
  unfold digR
  split
  · exact ⟨by show (digRows _ _).length ≤ _; rw [digRows_length]; exact hl, digRows14 _ _⟩
  · simp
theorem dig_mk {n : Int} {l : List Int} (h1 : n = 2 ∨ n = 4 ∨ n = 8) (h2 : (l.length : Int) = n - 1) (h3 : DiffL n l) (h4 : ¬ (0 : Int) ∈ l) : IsDig n l :=
  ⟨h1, h2, fun x hx => by
    have h := h3.1 x hx
    have h0 : x ≠ 0 := fun e => h4 (e ▸ hx)
    omega, h3.2⟩
theorem dig_iff {n : Int} {l : List Int} (h : IsDig n l) : DiffL n l ∧ ¬ (0 : Int) ∈ l :=
  ⟨⟨fun x hx => by have := h.2.2.1 x hx; omega, h.2.2.2⟩, fun h0 => by have := h.2.2.1 0 h0; omega⟩
theorem IsDig.lt {n : Int} {l : List Int} (h : IsDig n l) : ∀ x ∈ l, 0 ≤ x ∧ x < 1024 := fun x hx => by
  have := h.2.2.1 x hx
  have := h.1
  omega

open Classical in
set_option maxHeartbeats 1000000 in
set_option maxRecDepth 100000 in
theorem c_impl_DigitRobin (n : Int) (v : Value) (l : List Int) (w : World) (hv : RdC w v l) (hl : l.length ≤ 1048576) :
    Calls Try.prog 62 [.int .i64 n, v].toArray w (Res w (PairS 50 (digR n l))) := by
  obtain ⟨a, cap, rfl, hcap⟩ := hv.len
  have hno : ¬ IsDig n l → digR n l = ((0, []), 2) := fun h => by rw [digR, if_neg h]
  refine calls_of_vw Try.func62 rfl Try.ntmps62 (by simp) ?_
  refine vw_seq (vw_region (by kernel_rfl) (vops_allocZ [.int .i64 0, .slice none 0 0] tyOk rfl rfl (by simp) (fun bz hbz => ?_)))
  by_cases hI : IsDig n l
  · obtain ⟨k, rfl⟩ : ∃ k : Nat, n = (k : Int) := ⟨n.toNat, by have := hI.1; omega⟩
    have hn := hI.1
    have hln := hI.2.1
    obtain ⟨hd1, hd0⟩ := dig_iff hI
    have hR : digR k l = digR0 k l := if_pos hI
    rw [hR]
    repeat' (first | refine vops_q tyOk rfl ?_ | refine vops_nil ?_ | refine vw_seq ?_ | refine vw_region (by kernel_rfl) ?_ | refine vops_guardF rfl rfl ?_ | with_reducible refine bs_true ?_ | with_reducible refine bs_false ?_ | refine vops_p tyOk rfl (by (try simp only [inR]); omega) ?_ | refine vw_cond rfl ?_ | refine vw_skip ?_ | refine vw_ret ?_ | (with_reducible refine bs_dec (fun _ => ?_) (fun _ => ?_)) <;> try (exfalso; omega) | (with_reducible refine bs_ndec (fun _ => ?_) (fun _ => ?_)) <;> try (exfalso; omega) | (apply vops_callp ent124 rfl; (intro w _; exact c_hasDigits _ w)) | (apply vops_callp ent125 rfl; (intro w' hg; exact c_areDifferent _ l _ w' (hv.same hg.fr) hl)) | (apply vops_callp ent126 rfl; (intro w' hg; exact c_has _ l 0 w' (hv.1.same hg.fr) hl)) | (apply vops_call ent127 rfl; (intro w' hg; exact c_digitRobin k (by omega) _ l w' (hv.1.same hg.fr) hl hI.lt); (rintro _ newN ⟨p, cp, rfl, hN⟩)) | ((show VOps _ _ _ _ (⟨none, Go.Op.store _ _ _, _, _, _, none⟩ :: _) _ _); refine vops_storeAM tyOk rfl rfl rfl (by first | rfl | (rw [ints_length]; first | assumption | omega | (rw [ints_length]; first | assumption | omega | simp [*])) | simp [*]) (by first | exact ints_one | simp [Value.oneCell']) (by repeat (first | exact upd_here | apply upd_next | apply upd_past)) (by first | rfl | (rw [ints_length]; first | assumption | omega | (rw [ints_length]; first | assumption | omega | simp [*])) | simp [*]) ?_) | refine vops_buildZ tyOk rfl (by kernel_rfl) ?_)
    all_goals first
      | (exfalso; omega)
      | exact absurd hd1 (by assumption)
      | exact absurd (by assumption) hd0
      | exact pairS_ok (c := 0) tyOk rfl rfl rfl rfl rfl (by repeat (first | exact mem_here | apply mem_next | apply mem_past)) rfl rfl (by assumption) (by repeat (first | exact sub_hereL | exact sub_refl | apply sub_cons | apply sub_app)) (by rw [digR0, Int.toNat_natCast])
  · repeat' (first | refine vops_q tyOk rfl ?_ | refine vops_nil ?_ | refine vw_seq ?_ | refine vw_region (by kernel_rfl) ?_ | refine vops_guardF rfl rfl ?_ | with_reducible refine bs_true ?_ | with_reducible refine bs_false ?_ | refine vops_p tyOk rfl (by (try simp only [inR]); omega) ?_ | refine vw_cond rfl ?_ | refine vw_skip ?_ | refine vw_ret ?_ | (with_reducible refine bs_dec (fun _ => ?_) (fun _ => ?_)) <;> try (exfalso; omega) | (with_reducible refine bs_ndec (fun _ => ?_) (fun _ => ?_)) <;> try (exfalso; omega) | (apply vops_callp ent124 rfl; (intro w _; exact c_hasDigits _ w)) | (apply vops_callp ent125 rfl; (intro w' hg; exact c_areDifferent _ l _ w' (hv.same hg.fr) hl)) | (apply vops_callp ent126 rfl; (intro w' hg; exact c_has _ l 0 w' (hv.1.same hg.fr) hl)) | ((show VOps _ _ _ _ (⟨none, Go.Op.store _ _ _, _, _, _, none⟩ :: _) _ _); refine vops_storeAM tyOk rfl rfl rfl (by first | rfl | (rw [ints_length]; first | assumption | omega | (rw [ints_length]; first | assumption | omega | simp [*])) | simp [*]) (by first | exact ints_one | simp [Value.oneCell']) (by repeat (first | exact upd_here | apply upd_next | apply upd_past)) (by first | rfl | (rw [ints_length]; first | assumption | omega | (rw [ints_length]; first | assumption | omega | simp [*])) | simp [*]) ?_) | refine vops_buildZ tyOk rfl (by kernel_rfl) ?_)
    all_goals first
      | exact pairS_err tyOk rfl rfl rfl rfl rfl (by repeat (first | exact mem_here | apply mem_next | apply mem_past)) rfl (hno hI)
      | exact absurd (dig_mk (by first | assumption | omega) (by omega) (by assumption) (by assumption)) hI

open Classical in
set_option maxHeartbeats 1000000 in
set_option maxRecDepth 100000 in
theorem c_l09Digits (n : Int) (v : Value) (l : List Int) (w : World) (hv : RdI w v l) (hl : l.length ≤ 1048576) :
    Calls Try.prog 128 [.int .i64 n, v].toArray w (Res w (Is (.bool (decide (IsDig n l))))) := by
  obtain ⟨a, cap, rfl⟩ := hv.len
  refine calls_of_vw Try.func128 rfl Try.ntmps128 (by simp) ?_
  by_cases hn : (n = 2 ∨ n = 4 ∨ n = 8) ∧ (l.length : Int) = n - 1
  rotate_left
  · repeat' (first | refine vops_q tyOk rfl ?_ | refine vops_nil ?_ | refine vw_seq ?_ | refine vw_region (by kernel_rfl) ?_ | refine vops_guardT rfl rfl ?_ | refine vops_guardF rfl rfl ?_ | with_reducible refine bs_true ?_ | with_reducible refine bs_false ?_ | refine vops_p tyOk rfl (by (try simp only [inR]); omega) ?_ | refine vw_cond rfl ?_ | refine vw_ret ?_ | (with_reducible refine bs_ndec (fun _ => ?_) (fun _ => ?_)) <;> try (exfalso; omega))
    all_goals first
      | (exfalso; omega)
      | exact rv_bool rfl rfl (decide_eq_false fun h => hn ⟨h.1, h.2.1⟩).symm
  obtain ⟨hn1, hn2⟩ := hn
  obtain ⟨k, hk⟩ : ∃ k : Nat, n - 1 = (k : Int) := ⟨(n - 1).toNat, by omega⟩
  repeat' (first | refine vops_q tyOk rfl ?_ | refine vops_nil ?_ | refine vw_seq ?_ | refine vw_region (by kernel_rfl) ?_ | refine vops_guardT rfl rfl ?_ | refine vops_guardF rfl rfl ?_ | with_reducible refine bs_true ?_ | with_reducible refine bs_false ?_ | refine vops_p tyOk rfl (by (try simp only [inR]); omega) ?_ | refine vw_cond rfl ?_ | refine vw_skip ?_ | (with_reducible refine bs_ndec (fun _ => ?_) (fun _ => ?_)) <;> try (exfalso; omega))
  all_goals first | (exfalso; omega) | skip
  all_goals (
    refine vops_build0 tyOk rfl rfl (fun be hbe => ?_)
    repeat (first | refine vops_q tyOk rfl ?_ | refine vops_nil ?_ | refine vw_seq ?_ | refine vw_region (by kernel_rfl) ?_ | refine vw_block ?_)
    refine vw_loopW (fun y f own => ∃ (i : Nat) (p : Option Addr) (c : Nat) (X : Own), i ≤ l.length ∧ y = l.length - i ∧ f 6 = .int .i64 i ∧ f 1 = .slice a l.length cap ∧ f 0 = .int .i64 n ∧ f 5 = .slice p i c ∧ NewI 2 ((l.take i).map fun x => x - 1) (.slice p i c) X ∧ own = X ∧ ∀ j : Nat, j < i → 1 ≤ l.getD j 0 ∧ l.getD j 0 ≤ n - 1) l.length
      ⟨_, ole_refl, 0, some ⟨be, 0, none⟩, 0, _, by omega, by omega, rfl, rfl, rfl, rfl, NewI.empty, rfl, fun j hj => by omega⟩ ?_
    rintro y f own ⟨i, p, c, X, hi, rfl, h6, h1, h0, h5, hX, rfl, hall⟩
    rw [upd_of h6, upd_of h1, upd_of h0, upd_of h5]
    have hli : ((l.take i).map fun x => x - 1).length = i := by rw [List.length_map, List.length_take]; omega
    repeat (first | refine vops_q tyOk rfl ?_ | refine vops_nil ?_ | refine vw_seq ?_ | refine vw_region (by kernel_rfl) ?_ | refine vw_cond rfl ?_)
    refine bs_dec (fun hlt => ?_) (fun hlt => ?_)
    · have hil : i < l.length := by omega
      obtain ⟨b', o, cap', he, hcell⟩ := hv.at (i := i) hil
      cases he
      have hc := hcell i hil
      repeat (first | refine vops_q tyOk rfl ?_ | refine vops_nil ?_ | refine vw_seq ?_ | refine vw_region (by kernel_rfl) ?_ | refine vops_p tyOk rfl (by (try simp only [inR]); omega) ?_ | refine vw_cond rfl ?_ | refine vw_skip ?_ | refine vw_block ?_ | refine vops_load tyOk rfl rfl rfl (sees_old hc (by simp)) ?_ | (apply vops_callp ent134 rfl; (intro w _; exact c_l01In _ _ _ w)))
      refine bs_ndec2 (fun h7 => ?_) (fun h7 => ?_)
      · repeat (first | refine vops_q tyOk rfl ?_ | refine vops_nil ?_ | refine vw_seq ?_ | refine vw_region (by kernel_rfl) ?_ | refine vw_ret ?_)
        exact rv_bool rfl rfl (decide_eq_false fun h => h7 (h.2.2.1 _ (mem_getD hil))).symm
      · have hXf : NewF 2 1 i ((l.take i).map fun x => x - 1) (.slice p i c) own := by
          have := NewI.f hX
          rwa [hli] at this
        repeat (first | refine vops_q tyOk rfl ?_ | refine vops_nil ?_ | refine vw_region (by kernel_rfl) ?_ | refine vops_p tyOk rfl (by (try simp only [inR]); omega) ?_ | refine vw_skip ?_ | refine vops_load tyOk rfl rfl rfl (sees_old hc (by simp)) ?_ | refine vops_litI [_] tyOk rfl rfl (List.cons_ne_nil _ _) (by rfl) rfl (by omega) (by omega) (fun bt hbt => ?_) | refine vops_append1 (k := 1) tyOk rfl rfl (List.cons_ne_nil _ _) rfl rfl (by decide) rfl hXf (by repeat (first | exact pm_here | exact pm_last | apply pm_next | apply pm_past)) rfl (by repeat (first | exact mem_here | apply mem_next | apply mem_past)) rfl (by omega) (fun p' cap' new' hN' => ?_))
        refine ⟨l.length - (i + 1), by omega, new', ⟨_, List.Perm.refl _⟩, i + 1, p', cap', new', by omega, rfl, rfl, rfl, rfl, rfl, ?_, rfl, fun j hj => ?_⟩
        · rw [take_snoc hil, List.map_append]
          exact NewI.snoc hN' hli.symm
        · by_cases hji : j = i
          · subst hji; exact h7
          · exact hall j (by omega)
    · obtain rfl : i = l.length := by omega
      rw [List.take_length] at hX hli
      have hmap : IsPerm (n - 1) (l.map fun x => x - 1) ↔ IsDig n l := by
        refine ⟨fun h => ⟨hn1, hn2, fun x hx => ?_, ?_⟩, fun h => ⟨by rw [List.length_map]; exact hn2, fun x hx => ?_, ?_⟩⟩
        · have := h.2.1 (x - 1) (List.mem_map.2 ⟨x, hx, rfl⟩); omega
        · have := h.2.2
          rw [List.nodup_iff_pairwise_ne] at this ⊢
          exact (List.pairwise_map.1 this).imp fun hab he => hab (by rw [he])
        · obtain ⟨z, hz, rfl⟩ := List.mem_map.1 hx
          have := h.2.2.1 z hz; omega
        · have := h.2.2.2
          rw [List.nodup_iff_pairwise_ne] at this ⊢
          exact List.pairwise_map.2 (this.imp fun hab he => hab (by omega))
      repeat (first | refine vops_q tyOk rfl ?_ | refine vops_nil ?_ | refine vw_seq ?_ | refine vw_region (by kernel_rfl) ?_ | refine vops_p tyOk rfl (by (try simp only [inR]); omega) ?_ | refine vw_ret ?_ | refine vw_exit ?_ | (apply vops_callp ent167 rfl; (intro w' hg; exact c_l01Order _ (l.map fun x => x - 1) _ w' (NewI.see hX (by repeat (first | exact sub_hereL | exact sub_refl | apply sub_cons | apply sub_app)) _ hg) (by omega) (by omega) (by omega))))
      exact rv_bool rfl rfl (decide_eq_decide.2 hmap))

open Classical in
set_option maxHeartbeats 1000000 in
set_option maxRecDepth 100000 in
theorem c_spec_DigitRobin (n : Int) (v : Value) (l : List Int) (w : World) (hv : RdI w v l) (hl : l.length ≤ 1048576) :
    Calls Try.prog 63 [.int .i64 n, v].toArray w (Res w (PairS 50 (digR n l))) := by
  obtain ⟨a, cap, rfl⟩ := hv.len
  refine calls_of_vw Try.func63 rfl Try.ntmps63 (by simp) ?_
  refine vw_seq (vw_region (by kernel_rfl) (vops_allocZ [.int .i64 0, .slice none 0 0] tyOk rfl rfl (by simp) (fun bz hbz => ?_)))
  repeat (first | refine vops_q tyOk rfl ?_ | refine vops_nil ?_ | refine vw_seq ?_ | refine vw_region (by kernel_rfl) ?_ | refine vw_cond rfl ?_ | (apply vops_callp ent128 rfl; (intro w' hg; exact c_l09Digits _ _ l w' (hv.same hg.fr) hl)))
  refine bs_ndec2 (fun h => ?_) (fun h => ?_)
  · repeat (first | refine vops_q tyOk rfl ?_ | refine vops_nil ?_ | refine vw_seq ?_ | refine vw_region (by kernel_rfl) ?_ | refine vw_ret ?_ | ((show VOps _ _ _ _ (⟨none, Go.Op.store _ _ _, _, _, _, none⟩ :: _) _ _); refine vops_storeAM tyOk rfl rfl rfl (by first | rfl | (rw [ints_length]; first | assumption | omega | (rw [ints_length]; first | assumption | omega | simp [*])) | simp [*]) (by first | exact ints_one | simp [Value.oneCell']) (by repeat (first | exact upd_here | apply upd_next | apply upd_past)) (by first | rfl | (rw [ints_length]; first | assumption | omega | (rw [ints_length]; first | assumption | omega | simp [*])) | simp [*]) ?_) | refine vops_buildZ tyOk rfl (by kernel_rfl) ?_)
    exact pairS_err tyOk rfl rfl rfl rfl rfl (by repeat (first | exact mem_here | apply mem_next | apply mem_past)) rfl (by rw [digR, if_neg h])
  obtain ⟨k, rfl⟩ : ∃ k : Nat, n = (k : Int) := ⟨n.toNat, by have := h.1; omega⟩
  have hn := h.1
  repeat (first | refine vops_q tyOk rfl ?_ | refine vops_nil ?_ | refine vw_seq ?_ | refine vw_region (by kernel_rfl) ?_ | refine vw_skip ?_ | refine vw_ret ?_ | (apply vops_call ent129 rfl; (intro w' hg; exact c_l09Robin k (by omega) _ l w' (hv.same hg.fr) hl h.lt); (rintro _ newN ⟨p, cp, rfl, hN⟩)) | ((show VOps _ _ _ _ (⟨none, Go.Op.store _ _ _, _, _, _, none⟩ :: _) _ _); refine vops_storeAM tyOk rfl rfl rfl (by first | rfl | (rw [ints_length]; first | assumption | omega | (rw [ints_length]; first | assumption | omega | simp [*])) | simp [*]) (by first | exact ints_one | simp [Value.oneCell']) (by repeat (first | exact upd_here | apply upd_next | apply upd_past)) (by first | rfl | (rw [ints_length]; first | assumption | omega | (rw [ints_length]; first | assumption | omega | simp [*])) | simp [*]) ?_))
  exact pairS_ok (c := 0) tyOk rfl rfl rfl rfl rfl (by repeat (first | exact mem_here | apply mem_next | apply mem_past)) rfl rfl (by assumption) (by repeat (first | exact sub_hereL | exact sub_refl | apply sub_cons | apply sub_app)) (by rw [digR, if_pos h, digR0, Int.toNat_natCast])
end Go.Proofs.Ytlfflmoegfibgaa


/- Parts of the proof, one after another. No conditions of their own. -/
/- A part of the proof: W16. No conditions of its own. -/
namespace Go.Proofs.Ytlfflmoegfibgaa
open Go.VL

/-! evenings made from a base round, and gaps -/
def shN (m i a : Nat) : Nat := if Nat.blt a m then (a + i) % m else a
def gapN (m a b : Nat) : Nat := if Nat.beq a m || Nat.beq b m then 0 else min ((a + m - b) % m) (m - (a + m - b) % m)
def metIn (m a b x y i : Nat) : Bool := (Nat.beq (shN m i a) x && Nat.beq (shN m i b) y) || (Nat.beq (shN m i a) y && Nat.beq (shN m i b) x)
def cntI (m a b x y : Nat) : Nat → Nat
  | 0 => 0
  | i + 1 => (if metIn m a b x y i then 1 else 0) + cntI m a b x y i
def allB (n : Nat) (p : Nat → Bool) : Bool := match n with | 0 => true | k + 1 => p k && allB k p
def lowG (n : Nat) : Nat := n % 4
def manyG (n : Nat) : Nat := n / 4 * 2
def gapCheck (n m : Nat) : Bool := allB n fun a => allB n fun b => Nat.beq a b || (Nat.ble (lowG n) (gapN m a b) && Nat.blt (gapN m a b) (lowG n + manyG n) && allB n fun x => allB n fun y => Nat.beq x y || Nat.beq (cntI m a b x y m) (if Nat.beq (gapN m a b) (gapN m x y) then 1 else 0))
def mOf (n : Nat) : Nat := n - 1 + n % 4
/-- The numbers of players for which base rounds are looked for. -/
def IsBaseN (n : Nat) : Prop := n = 4 ∨ n = 5 ∨ n = 8 ∨ n = 9
/-! sums over pairs -/
def sumP (f : List Int → Nat) : List (List Int) → Nat
  | [] => 0
  | p :: P => f p + sumP f P
/-- A round made from a base round. -/
def shI (m i : Nat) (x : Int) : Int := if x < (m : Int) then (x + (i : Int)) % (m : Int) else x
def madeT (m : Nat) (l : List Int) (k : Nat) : List (List Int) := (List.range k).map fun i => l.map (shI m i)
/-- How often the gap is g. -/
def gapC (m : Nat) (ds : List Nat) (l : List Int) (g : Nat) : Nat := ((relP ds l).filter fun p => Nat.beq (gapN m (p.getD 0 0).toNat (p.getD 1 0).toNat) g).length
/-! no gap too often -/
def sumN (f : Nat → Nat) : Nat → Nat
  | 0 => 0
  | k + 1 => sumN f k + f k
/-- No gap of partners twice, none of opponents three times. -/
def CanB (n : Nat) (l : List Int) : Prop := (∀ g, gapC (mOf n) [1] l g ≤ 1) ∧ ∀ g, gapC (mOf n) [2, 3] l g ≤ 2
/-- Nobody partner twice, nobody opponent three times, in the evening made from some tables. -/
def FitsB (n : Nat) (l : List Int) : Prop := ∀ x y, x < n → y < n → relN [1] (madeT (mOf n) l (mOf n)) x y ≤ 1 ∧ relN [2, 3] (madeT (mOf n) l (mOf n)) x y ≤ 2
/-- Each two related just so often. -/
def EachIs (n : Nat) (ds : List Nat) (es : List (List Int)) (c : Nat) : Prop := ∀ x y, x < n → y < n → x ≠ y → relN ds es x y = c
end Go.Proofs.Ytlfflmoegfibgaa


/- Parts of the proof, one after another. No conditions of their own. -/
/- A part of the proof: W6. No conditions of its own. -/
namespace Go.Proofs.Ytlfflmoegfibgaa
open Go.VL
attribute [local irreducible] VWr VOps VD Calls

/-- A list in the making. -/
def preW (k i : Nat) (g : Nat → Int) : List Int := lst k fun j => if j < i then g j else 0
/-- New numbers for the players. -/
def renRow (q r : List Int) : List Int := lst r.length fun j => q.getD (r.getD j 0).toNat 0
def renP (q : List Int) (es : List (List Int)) : List (List Int) := es.map (renRow q)
open Classical in
noncomputable def renPR (n : Int) (es : List (List Int)) (q : List Int) : (Int × List (List Int)) × Int :=
  if IsEv n es then (if IsPerm n q then ((n, renP q es), 0) else ((0, []), 2)) else ((0, []), 1)
end Go.Proofs.Ytlfflmoegfibgaa

/- A part of the proof: W8. No conditions of its own. -/
namespace Go.Proofs.Ytlfflmoegfibgaa
open Go.VL
attribute [local irreducible] VWr VOps VD Calls

end Go.Proofs.Ytlfflmoegfibgaa


/- Parts of the proof, one after another. No conditions of their own. -/
/- A part of the proof: W7. No conditions of its own. -/
namespace Go.Proofs.Ytlfflmoegfibgaa
open Go.VL
attribute [local irreducible] VWr VOps VD Calls

/-- A base round of n players. -/
def IsBase (n : Int) (q : List Int) : Prop := 4 ≤ n ∧ n ≤ 16 ∧ n % 4 ≤ 1 ∧ (q.length : Int) = n - n % 4 ∧ DiffL n q
open Classical in
noncomputable def madeR (n : Int) (q : List Int) : (Int × List (List Int)) × Int := if IsBase n q then ((n, madeT (mOf n.toNat) q (mOf n.toNat)), 0) else ((0, []), 2)
/-- A list, of which the first k have been turned. -/
def mixW (l k : Nat) (g h : Nat → Int) : List Int := lst l fun j => if j < k then g j else h j
end Go.Proofs.Ytlfflmoegfibgaa

/- A part of the proof: W7S. No conditions of its own. -/
namespace Go.Proofs.Ytlfflmoegfibgaa
open Go.VL
attribute [local irreducible] VWr VOps VD Calls

end Go.Proofs.Ytlfflmoegfibgaa

/- A part of the proof: W6S. No conditions of its own. -/
namespace Go.Proofs.Ytlfflmoegfibgaa
open Go.VL
attribute [local irreducible] VWr VOps VD Calls

end Go.Proofs.Ytlfflmoegfibgaa


/- Parts of the proof, one after another. No conditions of their own. -/
/- A part of the proof: W25. No conditions of its own. -/
namespace Go.Proofs.Ytlfflmoegfibgaa
open Go.VL
attribute [local irreducible] VWr VOps VD Calls
attribute [local irreducible] Src

/-- An evening that has been drawn, behind its source. -/
def DrawnE (b : Nat) (a : Option Addr) (n cap : Nat) (v : Value) (new : Own) : Prop := ∃ (m : Int) (ls : List (List Int)) (p : Option Addr) (c : Nat) (newE : Own) (i h : Int), -1000 ≤ m ∧ m ≤ 1000 ∧ ls.length ≤ 40 ∧ (∀ l ∈ ls, l.length ≤ 40) ∧ v = .agg #[.int .i64 m, .slice p ls.length c] ∧ NewE 38 ls (.slice p ls.length c) newE ∧ 0 ≤ i ∧ i ≤ n ∧ 0 ≤ h ∧ h < 18446744073709551616 ∧ new = Src b a n cap i h ++ newE

end Go.Proofs.Ytlfflmoegfibgaa

/- A part of the proof: W26. No conditions of its own. -/
namespace Go.Proofs.Ytlfflmoegfibgaa
open Go.VL
attribute [local irreducible] VWr VOps VD Calls

theorem SrcCtx.of {w : World} {own0 : Own} {b : Nat} {a : Option Addr} {cs : List Nat} (hB : RdB' w own0 a cs) (hb : b ∈ ids own0) (h1 : ∀ c ∈ cs, c < 256) (h2 : cs.length ≤ 1048576) : SrcCtx ⟨w, ids own0⟩ b a cs :=
  ⟨h1, h2, fun own w' hg _ => by
    rcases hB with hB | ⟨b2, o, e1, e2, e3⟩
    · exact .inl hB
    · exact .inr ⟨b2, o, e1, fun e => e2 (e ▸ hb), fun j x hx => hg.fr.cell e2 (e3 j x hx)⟩⟩
/-- The bytes lie in nothing of one's own. -/
theorem rdB_up {w w' : World} {own own0 : Own} {a : Option Addr} {cs : List Nat} (hB : RdB w a cs) (hg : Go.VL.Good ⟨w, []⟩ own w') (hs : Go.VL.Sub own0 own) : RdB' w' own0 a cs := by
  by_cases hc : cs = []
  · exact .inl hc
  rcases hB with hB | ⟨b2, o, h1, h3⟩
  · exact .inl hB
  · refine .inr ⟨b2, o, h1, fun hm => ?_, fun j x hx => hg.fr.cell (by simp) (h3 j x hx)⟩
    obtain ⟨c, t, rfl⟩ : ∃ c t, cs = c :: t := by
      cases cs with
      | nil => exact absurd rfl hc
      | cons c t => exact ⟨c, t, rfl⟩
    have hlt := World.block_lt_of_cell? _ _ (h3 0 _ rfl)
    obtain ⟨k, hk⟩ := mem_ids hm
    rcases hg.mine b2 k (hs _ hk) with h | h
    · cases h
    · have h4 : w.heap.size ≤ b2 := h
      have h5 : b2 < w.heap.size := hlt
      omega
/-- An evening that has been drawn, and perhaps spoilt, behind its source. -/
def DrawnB (b : Nat) (a : Option Addr) (n cap : Nat) (v : Value) (new : Own) : Prop := ∃ (m : Int) (ls : List (List Int)) (p : Option Addr) (c : Nat) (newE : Own) (i h : Int), -2000 ≤ m ∧ m ≤ 2000 ∧ ls.length ≤ 50 ∧ (∀ l ∈ ls, l.length ≤ 40) ∧ v = .agg #[.int .i64 m, .slice p ls.length c] ∧ NewE 38 ls (.slice p ls.length c) newE ∧ 0 ≤ i ∧ i ≤ n ∧ 0 ≤ h ∧ h < 18446744073709551616 ∧ new = Src b a n cap i h ++ newE

attribute [local irreducible] Src
end Go.Proofs.Ytlfflmoegfibgaa


