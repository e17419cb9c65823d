import Derived.Test.YtdgaabkgfbihpaaUE
import Derived.Test.YtdgaabkgfbihpaaSY
import Derived.Test.YtdgaabkgfbihpaaVLArr
import Derived.Test.YtdgaabkgfbihpaaUD
/- Parts of the proof, one after another. No conditions of their own. -/
/- A part of the proof: W14. No conditions of its own. -/
namespace Go.Proofs.Ytdgaabkgfbihpaa
open Go.VL
attribute [local irreducible] VWr VOps VD Calls

theorem tabOf_setRow {n : Nat} {g : Nat → Nat → Int} {a : Nat} {h : Nat → Int} : (tabOf n g).set a ((List.range n).map h) = tabOf n fun x y => if x = a then h y else g x y := by
  apply List.ext_getElem (by simp [tabOf])
  intro i h1 h2
  rw [List.getElem_set]
  simp only [tabOf, List.getElem_map, List.getElem_range]
  by_cases hi : a = i
  · subst hi; simp
  · rw [if_neg hi]
    apply List.map_congr_left
    intro y _
    rw [if_neg fun h => hi h.symm]
theorem ordW_snoc {ds : List Nat} {j d : Nat} (hj : ds[j]? = some d) (r : List Int) (k x y : Nat) : ordW (ds.take (j + 1)) r k x y = ordW (ds.take j) r k x y + (if r.getD k 0 = (x : Int) ∧ r.getD (k / 4 * 4 + (k % 4 ^^^ d)) 0 = (y : Int) then 1 else 0) := by
  rw [List.take_add_one, hj]
  unfold ordW
  rw [Option.toList_some, List.filter_append, List.length_append]
  congr 1
  by_cases h : r.getD k 0 = (x : Int) ∧ r.getD (k / 4 * 4 + (k % 4 ^^^ d)) 0 = (y : Int)
  · rw [if_pos h, List.filter_cons, if_pos (decide_eq_true h)]; rfl
  · rw [if_neg h, List.filter_cons, if_neg fun hh => h (of_decide_eq_true hh)]; rfl
theorem ordW_le (ds : List Nat) (r : List Int) (k x y : Nat) : ordW ds r k x y ≤ ds.length := List.length_filter_le _ _
theorem ordW_none {ds : List Nat} {r : List Int} {k x y : Nat} (h : r.getD k 0 ≠ (x : Int)) : ordW ds r k x y = 0 := by
  unfold ordW
  rw [List.length_eq_zero_iff, List.filter_eq_nil_iff]
  intro d _ hh
  exact h (of_decide_eq_true hh).1
theorem xor_at {k d len : Nat} (hk : k < len) (h4 : len % 4 = 0) (hd : d ≤ 3) : k / 4 * 4 + (k % 4 ^^^ d) < len := by
  have : k % 4 ^^^ d < 4 := Nat.xor_lt_two_pow (n := 2) (by omega) (by omega)
  omega
theorem ordC_le (ds : List Nat) (r : List Int) (x y : Nat) : ∀ k, ordC ds r x y k ≤ k * ds.length
  | 0 => by simp [ordC]
  | k + 1 => by
    have h1 := ordC_le ds r x y k
    have h2 := ordW_le ds r k x y
    rw [ordC, Nat.add_mul, Nat.one_mul]; omega
theorem relN_take_le {n : Int} {es : List (List Int)} (h : IsEv n es) {ds : List Nat} (hd : ds.length ≤ 3) (i x y : Nat) : relN ds (es.take i) x y ≤ 480 := by
  refine relN_le (n := n) ⟨h.1, h.2.1, ?_, fun r hr => h.2.2.2 r (List.mem_of_mem_take hr)⟩ hd x y
  have := h.2.2.1
  rw [List.length_take]; omega

set_option maxHeartbeats 4000000 in
set_option maxRecDepth 100000 in
theorem c_l06Table (k : Nat) (v u : Value) (es : List (List Int)) (ds : List Nat) (hE : IsEv k es) (hd : ∀ d ∈ ds, d = 1 ∨ d = 2 ∨ d = 3) (hds : ds.length ≤ 3) (w : World) (hv : RdII w v es) (hu : RdI w u (ds.map fun (d : Nat) => (d : Int))) :
    Calls Try.prog 167 [.agg #[.int .i64 k, v], u].toArray w (Res w (NewLL 42 2 (relT k ds es))) := by
  obtain ⟨a, cap, rfl⟩ := hv.len
  obtain ⟨au, capu, rfl⟩ := hu.len
  rw [List.length_map] at hu ⊢
  have hk4 := hE.1
  have hk16 := hE.2.1
  have h20 := hE.2.2.1
  refine calls_of_vw Try.func167 rfl Try.ntmps167 (by simp) ?_
  refine vw_seq (vw_region (by kernel_rfl) (vops_box [.int .i64 k, .slice a es.length cap] rfl (fun b2 hb2 => ?_)))
  repeat (first | refine vops_q tyOk rfl ?_ | refine vops_nil ?_ | refine vw_seq ?_ | refine vw_region (by kernel_rfl) ?_)
  refine vops_build0 tyOk rfl rfl (fun be hbe => ?_)
  repeat (first | refine vops_q tyOk rfl ?_ | refine vops_nil ?_ | refine vw_seq ?_ | refine vw_region (by kernel_rfl) ?_ | refine vw_block ?_)
  refine vw_loopW (fun y f own => ∃ (i : Nat) (p : Option Addr) (cp : Nat) (vs : List Value) (ns : List Own) (outer : Own), i ≤ k ∧ y = k - i ∧ f 6 = .int .i64 i ∧ f 2 = .pointer (some ⟨b2, 0, none⟩) ∧ f 1 = .slice au ds.length capu ∧ f 5 = .slice p i cp ∧
      Go.VL.RowsAt 2 ((tabOf k fun _ _ => 0).take i) vs ns ∧ SlAt 42 1 (.slice p i cp) i vs outer [] ∧ own = outer ++ (ns.flatten ++ [(b2, ⟨[.int .i64 k, .slice a es.length cap], 58, 2, none⟩)])) k
    ⟨[(be, _)] ++ ([] ++ [(b2, _)]), (by repeat (first | exact ole_nil | exact ole_refl | (apply ole_cons; (repeat (first | exact pm1_here | apply pm1_next | apply pm1_past))) | (apply ole_app; (repeat (first | exact pm_here | exact pm_last | apply pm_next | apply pm_past))))), 0, _, _, [], [], [(be, _)], by omega, by omega, rfl, rfl, rfl, rfl, by simp [Go.VL.RowsAt], SlAt.empty, rfl⟩ ?_
  rintro y f own ⟨i, p, cp, vs, ns, outer, hi, rfl, h6, h2, h1, h5, hRw, hO, rfl⟩
  rw [upd_of h6, upd_of h2, upd_of h1, upd_of h5]
  repeat (first | refine vops_q tyOk rfl ?_ | refine vops_nil ?_ | refine vw_seq ?_ | refine vw_region (by kernel_rfl) ?_ | refine vw_cond rfl ?_ | ((show VOps _ _ _ _ (⟨some _, Go.Op.load _ _, _, _, _, none⟩ :: _) _ _); refine vops_loadM tyOk rfl rfl rfl (by repeat (first | exact mem_here | apply mem_next | apply mem_past)) (by rfl) ?_))
  refine bs_dec (fun hlt => ?_) (fun hlt => ?_)
  · have hst : (tabOf k fun _ _ => 0).take (i + 1) = (tabOf k fun _ _ => 0).take i ++ [List.replicate k 0] := by
      rw [List.take_add_one, tabOf_get (by omega)]
      have : ((List.range k).map fun _ => (0 : Int)) = List.replicate k 0 := by
        apply List.ext_getElem (by simp)
        intro j h1 h2; simp
      rw [this]; rfl
    repeat (first | refine vops_q tyOk rfl ?_ | refine vops_nil ?_ | refine vw_seq ?_ | refine vw_region (by kernel_rfl) ?_ | refine vops_p tyOk rfl (by (try simp only [inR]); omega) ?_ | refine vw_skip ?_ | refine vw_block ?_ | refine vops_makeRows (k := 1) (n := k) tyOk rfl rfl rfl (by omega) rfl rfl rfl (by show 8 * _ ≤ _; omega) (by omega) (fun br hbr => ?_) | refine vops_litV tyOk rfl rfl (List.cons_ne_nil _ _) rfl rfl rfl (fun bt hbt => ?_) | refine vops_appendV tyOk rfl rfl (List.cons_ne_nil _ _) rfl rfl (by decide) rfl hO (by repeat (first | exact pm_here | exact pm_last | apply pm_next | apply pm_past)) rfl (by repeat (first | exact mem_here | apply mem_next | apply mem_past)) rfl (by omega) (fun p' cap' outer' hO' => ?_) | ((show VOps _ _ _ _ (⟨some _, Go.Op.load _ _, _, _, _, none⟩ :: _) _ _); refine vops_loadM tyOk rfl rfl rfl (by repeat (first | exact mem_here | apply mem_next | apply mem_past)) (by rfl) ?_))
    rw [Nat.mul_one]
    refine ⟨k - (i + 1), by omega, outer' ++ (ns.flatten ++ ((br, ⟨ints (List.replicate k 0), 2, k * 1, none⟩) :: [(b2, ⟨[.int .i64 k, .slice a es.length cap], 58, 2, none⟩)])), ?_, i + 1, p', cap', vs ++ [.slice (some ⟨br, 0, none⟩) k k], ns ++ [[(br, ⟨ints (List.replicate k 0), 2, k * 1, none⟩)]], outer', by omega, by omega, rfl, rfl, rfl, rfl, ?_, hO', ?_⟩
    · rw [Nat.mul_one]; exact (by repeat (first | exact ole_nil | exact ole_refl | (apply ole_cons; (repeat (first | exact pm1_here | apply pm1_next | apply pm1_past))) | (apply ole_app; (repeat (first | exact pm_here | exact pm_last | apply pm_next | apply pm_past)))))
    · rw [hst]
      exact RowsAt.snoc (NewI.lit (n := k) (cap := k) (by simp) (Nat.le_refl _) (by simp only [maxLen]; omega)) hRw
    · rw [flat_snoc, List.append_assoc]; rfl
  · obtain rfl : i = k := by omega
    rw [List.take_of_length_le (by rw [tabOf_length]; omega)] at hRw
    have hvl : vs.length = i := by rw [hRw.len.1, tabOf_length]
    obtain ⟨bo, rfl, rfl⟩ := outer_blk hO (by omega)
    have hT0 : TabAt 2 (tabOf i fun x y => (relN ds (es.take 0) x y : Int)) vs ns.flatten := ⟨ns, by
      rw [tabOf_congr (g := fun _ _ => 0) fun x y _ _ => by rw [List.take_zero, relN_nil]; rfl]; exact hRw, List.Perm.refl _⟩
    clear hRw
    repeat (first | refine vops_q tyOk rfl ?_ | refine vops_nil ?_ | refine vw_seq ?_ | refine vw_region (by kernel_rfl) ?_ | refine vw_block ?_ | refine vw_exit ?_)
    refine vw_loopW (fun y f own => ∃ (j : Nat) (X : Own), j ≤ es.length ∧ y = es.length - j ∧ f 7 = .int .i64 j ∧ f 5 = .slice (some ⟨bo, 0, none⟩) i cp ∧ f 2 = .pointer (some ⟨b2, 0, none⟩) ∧ f 1 = .slice au ds.length capu ∧ TabAt 2 (tabOf i fun x y => (relN ds (es.take j) x y : Int)) vs X ∧
        own = (bo, ⟨vs, 42, cp * 1, none⟩) :: (X ++ [(b2, ⟨[.int .i64 i, .slice a es.length cap], 58, 2, none⟩)])) es.length
      ⟨_, ole_refl, 0, ns.flatten, by omega, by omega, rfl, rfl, rfl, rfl, hT0, rfl⟩ ?_
    clear hT0
    rintro y f own ⟨j, X, hj, rfl, h7, h5, h2, h1, hT, rfl⟩
    rw [upd_of h7, upd_of h5, upd_of h2, upd_of h1]
    repeat (first | refine vops_q tyOk rfl ?_ | refine vops_nil ?_ | refine vw_seq ?_ | refine vw_region (by kernel_rfl) ?_ | refine vw_cond rfl ?_ | ((show VOps _ _ _ _ (⟨some _, Go.Op.load _ _, _, _, _, none⟩ :: _) _ _); refine vops_loadM tyOk rfl rfl rfl (by repeat (first | exact mem_here | apply mem_next | apply mem_past)) (by rfl) ?_))
    refine bs_dec (fun hlt2 => ?_) (fun hlt2 => ?_)
    · have hjl : j < es.length := by omega
      obtain ⟨b, o, cap', ur, capr, he, hcu, hur⟩ := rdRow hv (i := j) hjl
      cases he
      have hgj : es[j]? = some (es.getD j []) := by rw [List.getD_eq_getElem?_getD, List.getElem?_eq_getElem hjl]; rfl
      have hmem : es.getD j [] ∈ es := List.mem_of_getElem? hgj
      have hrl : (es.getD j []).length ≤ 16 := hE.len hmem
      have hrow := hE.2.2.2 _ hmem
      have hnext : ∀ x y : Nat, relN ds (es.take (j + 1)) x y = relN ds (es.take j) x y + ordC ds (es.getD j []) x y (es.getD j []).length := fun x y => by
        rw [List.take_add_one, hgj]
        exact relN_snoc (fun q hq => hE.2.2.2 q (List.mem_of_mem_take hq)) hrow hd x y
      generalize es.getD j [] = r at *
      have hr4 := hrow.1
      have hD := hrow.2
      repeat (first | refine vops_q tyOk rfl ?_ | refine vops_nil ?_ | refine vw_seq ?_ | refine vw_region (by kernel_rfl) ?_ | refine vops_p tyOk rfl (by (try simp only [inR]); omega) ?_ | refine vw_skip ?_ | refine vw_block ?_ | refine vops_load tyOk rfl rfl rfl (sees_old hcu (by simp)) ?_ | ((show VOps _ _ _ _ (⟨some _, Go.Op.load _ _, _, _, _, none⟩ :: _) _ _); refine vops_loadM tyOk rfl rfl rfl (by repeat (first | exact mem_here | apply mem_next | apply mem_past)) (by rfl) ?_))
      refine vw_loopW (fun y f own => ∃ (q : Nat) (X : Own), q ≤ r.length ∧ y = r.length - q ∧ f 9 = .int .i64 q ∧ f 8 = .slice ur r.length capr ∧ f 7 = .int .i64 j ∧ f 5 = .slice (some ⟨bo, 0, none⟩) i cp ∧ f 2 = .pointer (some ⟨b2, 0, none⟩) ∧ f 1 = .slice au ds.length capu ∧ TabAt 2 (tabOf i fun x y => (relN ds (es.take j) x y : Int) + (ordC ds r x y q : Int)) vs X ∧
          own = (bo, ⟨vs, 42, cp * 1, none⟩) :: (X ++ [(b2, ⟨[.int .i64 i, .slice (some ⟨b, o, none⟩) es.length cap], 58, 2, none⟩)])) r.length
        ⟨_, ole_refl, 0, X, by omega, by omega, rfl, rfl, rfl, rfl, rfl, rfl, by rw [tabOf_congr (g := fun x y => (relN ds (es.take j) x y : Int)) fun x y _ _ => by simp [ordC]]; exact hT, rfl⟩ ?_
      clear hT X
      rintro y f own ⟨q, X, hq, rfl, h9, h8, h7, h5, h2, h1, hT, rfl⟩
      rw [upd_of h9, upd_of h8, upd_of h7, upd_of h5, upd_of h2, upd_of h1]
      repeat (first | refine vops_q tyOk rfl ?_ | refine vops_nil ?_ | refine vw_seq ?_ | refine vw_region (by kernel_rfl) ?_ | refine vw_cond rfl ?_)
      refine bs_dec (fun hlt3 => ?_) (fun hlt3 => ?_)
      · have hqr : q < r.length := by omega
        obtain ⟨b3, o3, cap3, he, hcell⟩ := hur.at (i := q) hqr
        cases he
        have hc := hcell q hqr
        have hrg := hD.get hqr
        obtain ⟨x0, hx0⟩ : ∃ x0 : Nat, r.getD q 0 = (x0 : Int) := ⟨(r.getD q 0).toNat, by omega⟩
        obtain ⟨G, hG⟩ : ∃ G : Nat → Nat → Int, G = fun x y => (relN ds (es.take j) x y : Int) + (ordC ds r x y q : Int) := ⟨_, rfl⟩
        have hGb : ∀ x y, 0 ≤ G x y ∧ G x y ≤ 528 := fun x y => by
          have a1 := relN_take_le hE hds j x y
          have a2 := ordC_le ds r x y q
          have a3 : q * ds.length ≤ 16 * 3 := Nat.mul_le_mul (by omega) hds
          rw [hG]
          show 0 ≤ (relN ds (es.take j) x y : Int) + (ordC ds r x y q : Int) ∧ (relN ds (es.take j) x y : Int) + (ordC ds r x y q : Int) ≤ 528
          omega
        rw [← hG] at hT
        obtain ⟨br, cr, R, hv1, hp1, _, hnew1⟩ := hT.row (tabOf_get (a := x0) (by omega)) (by rw [row_length]; omega)
        rw [row_length] at hv1
        have hva := vals_get hv1 (show 0 + (r.getD q 0).toNat = x0 by omega)
        refine vw_perm (own' := (br, ⟨ints ((List.range i).map fun b => G x0 b), 2, cr * 1, none⟩) :: ((bo, ⟨vs, 42, cp * 1, none⟩) :: (R ++ [(b2, ⟨[.int .i64 i, .slice (some ⟨b, o, none⟩) es.length cap], 58, 2, none⟩)]))) (perm_pull (A := [(bo, ⟨vs, 42, cp * 1, none⟩)]) hp1) ?_
        repeat (first | refine vops_q tyOk rfl ?_ | refine vops_nil ?_ | refine vw_seq ?_ | refine vw_region (by kernel_rfl) ?_ | refine vops_p tyOk rfl (by (try simp only [inR]); omega) ?_ | refine vw_skip ?_ | refine vw_block ?_ | refine vops_load tyOk rfl rfl rfl (sees_old hc (by simp)) ?_ | refine vops_loadM tyOk rfl rfl rfl (by repeat (first | exact mem_here | apply mem_next | apply mem_past)) (by exact hva) ?_)
        refine vw_loopW (fun y f own => ∃ (z : Nat), z ≤ ds.length ∧ y = ds.length - z ∧ f 11 = .int .i64 z ∧ f 10 = .slice (some ⟨br, 0, none⟩) i cr ∧ f 9 = .int .i64 q ∧ f 8 = .slice (some ⟨b3, o3, none⟩) r.length capr ∧ f 7 = .int .i64 j ∧ f 5 = .slice (some ⟨bo, 0, none⟩) i cp ∧ f 2 = .pointer (some ⟨b2, 0, none⟩) ∧ f 1 = .slice au ds.length capu ∧
            own = (br, ⟨ints ((List.range i).map fun b => G x0 b + (ordW (ds.take z) r q x0 b : Int)), 2, cr * 1, none⟩) :: ((bo, ⟨vs, 42, cp * 1, none⟩) :: (R ++ [(b2, ⟨[.int .i64 i, .slice (some ⟨b, o, none⟩) es.length cap], 58, 2, none⟩)]))) ds.length
          ⟨_, ole_refl, 0, by omega, by omega, rfl, rfl, rfl, rfl, rfl, rfl, rfl, rfl, by
            have : (fun b => G x0 b + (ordW (ds.take 0) r q x0 b : Int)) = fun b => G x0 b := by funext b; simp [ordW]
            rw [this]⟩ ?_
        clear h9 h8 h7 h5 h2 h1 f
        rintro y f own ⟨z, hz, rfl, h11, h10, h9, h8, h7, h5, h2, h1, rfl⟩
        rw [upd_of h11, upd_of h10, upd_of h9, upd_of h8, upd_of h7, upd_of h5, upd_of h2, upd_of h1]
        repeat (first | refine vops_q tyOk rfl ?_ | refine vops_nil ?_ | refine vw_seq ?_ | refine vw_region (by kernel_rfl) ?_ | refine vw_cond rfl ?_)
        refine bs_dec (fun hlt4 => ?_) (fun hlt4 => ?_)
        · have hzd : z < ds.length := by omega
          obtain ⟨d, hzj⟩ : ∃ d, ds[z]? = some d := ⟨_, List.getElem?_eq_getElem hzd⟩
          have hdd := hd d (List.mem_of_getElem? hzj)
          obtain ⟨bu, ou, cu, he, hcw⟩ := hu.at (i := z) (by rw [List.length_map]; exact hzd)
          obtain rfl : au = some ⟨bu, ou, none⟩ := by injection he
          have hcz := hcw z (by rw [List.length_map]; exact hzd)
          have hdv : (ds.map fun (d : Nat) => (d : Int)).getD z 0 = (d : Int) := by rw [List.getD_eq_getElem?_getD, List.getElem?_map, hzj]; rfl
          rw [hdv] at hcz
          have hop := xor_at hqr hr4 (show d ≤ 3 by omega)
          obtain ⟨p2, hp2⟩ : ∃ p2, p2 = q / 4 * 4 + (q % 4 ^^^ d) := ⟨_, rfl⟩
          rw [← hp2] at hop
          have hco := hcell p2 hop
          have hrg2 := hD.get hop
          obtain ⟨y0, hy0⟩ : ∃ y0 : Nat, r.getD p2 0 = (y0 : Int) := ⟨(r.getD p2 0).toNat, by omega⟩
          have hidx : o3 + ((q : Int) / 4 * 4 + ((q % 4 ^^^ d : Nat) : Int)).toNat = o3 + p2 := by omega
          have hob := ordW_le (ds.take z) r q x0 y0
          rw [List.length_take] at hob
          have hGx := hGb x0 y0
          have hcell2 : (ints ((List.range i).map fun b => G x0 b + (ordW (ds.take z) r q x0 b : Int)))[0 + (r.getD p2 0).toNat]? = some (.int .i64 (G x0 y0 + (ordW (ds.take z) r q x0 y0 : Int))) := by
            rw [show 0 + (r.getD p2 0).toNat = y0 by omega, ints_get (by rw [row_length]; omega), row_get (by omega)]
          repeat (first | refine vops_q tyOk rfl ?_ | refine vops_nil ?_ | refine vw_seq ?_ | refine vw_region (by kernel_rfl) ?_ | refine vops_p tyOk rfl (by (try simp only [inR]); omega) ?_ | refine vw_skip ?_ | refine vw_block ?_ | refine vops_load tyOk rfl rfl rfl (sees_old hcz (by simp)) ?_ | refine vops_xor (q % 4) d rfl rfl (by omega) (by omega) (by omega) (by omega) ?_ | refine vops_load tyOk rfl rfl (by exact congrArg (fun x => Value.pointer (some ⟨b3, x, none⟩)) hidx) (sees_old hco (by simp)) ?_ | refine vops_loadM tyOk rfl rfl rfl (by repeat (first | exact mem_here | apply mem_next | apply mem_past)) (by exact hcell2) ?_ | refine vops_storeIM tyOk rfl rfl rfl rfl (by repeat (first | exact upd_here | apply upd_next | apply upd_past)) (by rw [row_length]; omega) ?_)
          refine ⟨ds.length - (z + 1), by omega, _, ole_refl, z + 1, by omega, rfl, rfl, rfl, rfl, rfl, rfl, rfl, rfl, rfl, ?_⟩
          have hrw : ((List.range i).map fun b => G x0 b + (ordW (ds.take z) r q x0 b : Int)).set (r.getD p2 0).toNat (G x0 y0 + (ordW (ds.take z) r q x0 y0 : Int) + 1) = (List.range i).map fun b => G x0 b + (ordW (ds.take (z + 1)) r q x0 b : Int) := by
            rw [show (r.getD p2 0).toNat = y0 by omega, row_set]
            apply List.map_congr_left
            intro b _
            rw [ordW_snoc hzj, ← hp2]
            by_cases hb : b = y0
            · subst hb
              rw [if_pos rfl, if_pos ⟨hx0, hy0⟩]; push_cast; omega
            · rw [if_neg hb, if_neg fun hh => hb (by have := hh.2; omega)]; omega
          rw [← hrw]
        · obtain rfl : z = ds.length := by omega
          rw [List.take_length]
          repeat (first | refine vops_q tyOk rfl ?_ | refine vops_nil ?_ | refine vw_region (by kernel_rfl) ?_ | refine vops_p tyOk rfl (by (try simp only [inR]); omega) ?_ | refine vw_exit ?_)
          have hT2 := hnew1 ((List.range i).map fun b => G x0 b + (ordW ds r q x0 b : Int)) (by rw [row_length, row_length])
          rw [show (tabOf i G).set x0 ((List.range i).map fun b => G x0 b + (ordW ds r q x0 b : Int)) = tabOf i fun x y => (relN ds (es.take j) x y : Int) + (ordC ds r x y (q + 1) : Int) by
            rw [tabOf_setRow]
            refine tabOf_congr fun x y _ _ => ?_
            by_cases hx : x = x0
            · subst hx
              rw [if_pos rfl, hG]
              show (relN ds (es.take j) x y : Int) + (ordC ds r x y q : Int) + _ = _
              rw [ordC]; push_cast; omega
            · rw [if_neg hx, hG]
              show (relN ds (es.take j) x y : Int) + (ordC ds r x y q : Int) = _
              rw [ordC, ordW_none (by omega)]; push_cast; omega] at hT2
          exact ⟨r.length - (q + 1), by omega, (bo, ⟨vs, 42, cp * 1, none⟩) :: (((br, ⟨ints ((List.range i).map fun b => G x0 b + (ordW ds r q x0 b : Int)), 2, cr * 1, none⟩) :: R) ++ [(b2, ⟨[.int .i64 i, .slice (some ⟨b, o, none⟩) es.length cap], 58, 2, none⟩)]), ole_perm (perm_pull (A := [(bo, ⟨vs, 42, cp * 1, none⟩)]) (List.Perm.refl _)).symm, q + 1, _, by omega, rfl, rfl, rfl, rfl, rfl, rfl, rfl, hT2, rfl⟩
      · obtain rfl : q = r.length := by omega
        repeat (first | refine vops_q tyOk rfl ?_ | refine vops_nil ?_ | refine vw_region (by kernel_rfl) ?_ | refine vops_p tyOk rfl (by (try simp only [inR]); omega) ?_ | refine vw_exit ?_)
        refine ⟨es.length - (j + 1), by omega, _, ole_refl, j + 1, X, by omega, rfl, rfl, rfl, rfl, rfl, ?_, rfl⟩
        rw [tabOf_congr (g := fun x y => (relN ds (es.take j) x y : Int) + (ordC ds r x y r.length : Int)) fun x y _ _ => by rw [hnext]; push_cast; rfl]
        exact hT
    · obtain rfl : j = es.length := by omega
      rw [List.take_length] at hT
      refine vw_nodup (fun hnd => ?_)
      repeat (first | refine vops_q tyOk rfl ?_ | refine vops_nil ?_ | refine vw_seq ?_ | refine vw_region (by kernel_rfl) ?_ | refine vw_ret ?_ | refine vw_exit ?_)
      obtain ⟨ns', hR', hp'⟩ := hT
      have hpp : ([(bo, (⟨vs, 42, cp * 1, none⟩ : Blk))] ++ ns'.flatten).Perm ((bo, ⟨vs, 42, cp * 1, none⟩) :: X) := List.Perm.cons _ hp'.symm
      refine outLL (outer := [(bo, ⟨vs, 42, cp * 1, none⟩)]) rfl rfl hR' hO (by unfold relT; rw [tabOf_length]) ?_ (fun x hx => ?_)
      · refine (hpp.map Prod.fst).nodup_iff.2 (nodup_sub hnd ?_)
        exact ((List.sublist_append_left _ _).cons_cons _)
      · have := hpp.mem_iff.1 hx
        rcases List.mem_cons.1 this with h | h
        · rw [h]; exact List.mem_cons_self
        · exact List.mem_cons_of_mem _ (List.mem_append_left _ h)

end Go.Proofs.Ytdgaabkgfbihpaa

/- A part of the proof: W15. No conditions of its own. -/
namespace Go.Proofs.Ytdgaabkgfbihpaa
open Go.VL
attribute [local irreducible] VWr VOps VD Calls

/-- As many rounds as a whist evening has, and as many players in each. -/
def WholeR (n : Int) (es : List (List Int)) : Prop := n % 4 ≤ 1 ∧ (es.length : Int) = n - 1 + n % 4 ∧ ∀ r ∈ es, (r.length : Int) = n - n % 4
def Whist (n : Int) (es : List (List Int)) : Prop := WholeR n es ∧ EachIs n.toNat [1] es 1 ∧ EachIs n.toNat [2, 3] es 2
open Classical in
noncomputable def whistR (n : Int) (es : List (List Int)) : Bool × Int := if IsEv n es then (decide (Whist n es), 0) else (false, 1)
open Classical in
noncomputable def tripleR (n : Int) (es : List (List Int)) : Bool × Int := if IsEv n es then (decide (Whist n es ∧ EachIs n.toNat [2] es 1), 0) else (false, 1)
theorem relT_row {k : Nat} {ds : List Nat} {es : List (List Int)} {x : Nat} (hx : x < k) : (relT k ds es).getD x [] = (List.range k).map fun y => (relN ds es x y : Int) := by
  unfold relT
  rw [List.getD_eq_getElem?_getD, tabOf_get hx]; rfl

open Classical in
set_option maxHeartbeats 1000000 in
set_option maxRecDepth 100000 in
theorem c_haveAll (k : Nat) (v : Value) (ds : List Nat) (es : List (List Int)) (c : Nat) (hk : k ≤ 100) (w : World) (hv : RdCC w v (relT k ds es)) :
    Calls Try.prog 261 [v, .int .i64 c].toArray w (Res w (Is (.bool (decide (EachIs k ds es c))))) := by
  obtain ⟨a, cap, rfl⟩ := hv.len
  have hlen : (relT k ds es).length = k := tabOf_length _ _
  rw [hlen]
  refine calls_of_vw Try.func261 rfl Try.ntmps261 (by simp) ?_
  repeat (first | refine vops_q tyOk rfl ?_ | refine vops_nil ?_ | refine vw_seq ?_ | refine vw_region (by kernel_rfl) ?_ | refine vw_block ?_)
  refine vw_loop (fun y f own => ∃ i : Nat, i ≤ k ∧ y = k - i ∧ f 11 = .int .i64 i ∧ f 10 = .int .i64 k ∧ f 9 = .slice a k cap ∧ f 1 = .int .i64 c ∧ own = [] ∧ ∀ x y : Nat, x < i → y < x → relN ds es x y = c) k
    ⟨0, by omega, by omega, rfl, rfl, rfl, rfl, rfl, fun x y hx => by omega⟩ ?_
  rintro y f own ⟨i, hi, rfl, h11, h10, h9, h1, rfl, hall⟩
  rw [upd_of h11, upd_of h10, upd_of h9, upd_of h1]
  repeat (first | refine vops_q tyOk rfl ?_ | refine vops_nil ?_ | refine vw_seq ?_ | refine vw_region (by kernel_rfl) ?_ | refine vw_cond rfl ?_)
  refine bs_dec (fun hlt => ?_) (fun hlt => ?_)
  · have hik : i < k := by omega
    obtain ⟨b, o, cap', u, cap2, he, hcu, hu⟩ := hv.row (i := i) (by omega)
    rw [hlen] at he
    cases he
    rw [relT_row hik, row_length] at hcu
    rw [relT_row hik, row_length] at hu
    have hcap2 : k ≤ cap2 := hu.2
    obtain ⟨b3, o3, cap3, he, hcell⟩ := hu.1.at (i := 0) (by rw [row_length]; omega)
    rw [row_length] at he
    obtain ⟨rfl, rfl⟩ : u = some ⟨b3, o3, none⟩ ∧ cap2 = cap3 := by injection he with h1 h2 h3; exact ⟨h1, h3⟩
    have hsl : sliced (some ⟨b3, o3, none⟩) (Int.toNat 0) (i : Int).toNat cap2 1 = .slice (some ⟨b3, o3, none⟩) i cap2 := by simp [sliced, Addr.add]
    have hni : (((i : Int).toNat - Int.toNat 0 : Nat) : Int) = (i : Int) := by omega
    repeat (first | refine vops_q tyOk rfl ?_ | refine vops_nil ?_ | refine vw_seq ?_ | refine vw_region (by kernel_rfl) ?_ | refine vops_p tyOk rfl (by (try simp only [inR]); omega) ?_ | refine vw_skip ?_ | refine vw_block ?_ | refine vops_load tyOk rfl rfl rfl (sees_old hcu (by simp)) ?_ | refine vops_slice tyOk rfl rfl rfl rfl rfl (by omega) ?_)
    refine vw_loop (fun y f own => ∃ j : Nat, j ≤ i ∧ y = i - j ∧ f 20 = .int .i64 j ∧ f 19 = .int .i64 i ∧ f 18 = .slice (some ⟨b3, o3, none⟩) i cap2 ∧ f 11 = .int .i64 i ∧ f 10 = .int .i64 k ∧ f 9 = .slice (some ⟨b, o, none⟩) k cap ∧ f 1 = .int .i64 c ∧ own = [] ∧ ∀ y : Nat, y < j → relN ds es i y = c) i
      ⟨0, by omega, by omega, rfl, congrArg (Value.int .i64) hni, hsl, rfl, rfl, rfl, rfl, rfl, fun y hy => by omega⟩ ?_
    rintro y f own ⟨j, hj, rfl, h20, h19, h18, h11, h10, h9, h1, rfl, hall2⟩
    rw [upd_of h20, upd_of h19, upd_of h18, upd_of h11, upd_of h10, upd_of h9, upd_of h1]
    repeat (first | refine vops_q tyOk rfl ?_ | refine vops_nil ?_ | refine vw_seq ?_ | refine vw_region (by kernel_rfl) ?_ | refine vw_cond rfl ?_)
    refine bs_dec (fun hlt2 => ?_) (fun hlt2 => ?_)
    · have hji : j < i := by omega
      have hc := hcell j (by rw [row_length]; omega)
      rw [row_get (by omega)] at hc
      repeat (first | refine vops_q tyOk rfl ?_ | refine vops_nil ?_ | refine vw_seq ?_ | refine vw_region (by kernel_rfl) ?_ | refine vops_p tyOk rfl (by (try simp only [inR]); omega) ?_ | refine vw_cond rfl ?_ | refine vw_skip ?_ | refine vw_block ?_ | refine vops_load tyOk rfl rfl rfl (sees_old hc (by simp)) ?_)
      refine bs_ndec2 (fun hne => ?_) (fun heq => ?_)
      · repeat (first | refine vops_q tyOk rfl ?_ | refine vops_nil ?_ | refine vw_seq ?_ | refine vw_region (by kernel_rfl) ?_ | refine vw_ret ?_)
        exact rv_bool rfl rfl (decide_eq_false fun hh => hne (by have := hh i j hik (by omega) (by omega); omega)).symm
      · repeat (first | refine vops_q tyOk rfl ?_ | refine vops_nil ?_ | refine vw_region (by kernel_rfl) ?_ | refine vops_p tyOk rfl (by (try simp only [inR]); omega) ?_ | refine vw_skip ?_)
        refine ⟨i - (j + 1), by omega, j + 1, by omega, rfl, rfl, rfl, rfl, rfl, rfl, rfl, rfl, rfl, fun y hy => ?_⟩
        by_cases hyj : y = j
        · subst hyj; omega
        · exact hall2 y (by omega)
    · obtain rfl : j = i := by omega
      repeat (first | refine vops_q tyOk rfl ?_ | refine vops_nil ?_ | refine vw_region (by kernel_rfl) ?_ | refine vops_p tyOk rfl (by (try simp only [inR]); omega) ?_ | refine vw_exit ?_)
      refine ⟨k - (j + 1), by omega, j + 1, by omega, rfl, rfl, rfl, rfl, rfl, rfl, fun x y hx hy => ?_⟩
      by_cases hxj : x = j
      · subst hxj; exact hall2 y hy
      · exact hall x y (by omega) hy
  · obtain rfl : i = k := by omega
    repeat (first | refine vops_q tyOk rfl ?_ | refine vops_nil ?_ | refine vw_seq ?_ | refine vw_region (by kernel_rfl) ?_ | refine vw_ret ?_ | refine vw_exit ?_)
    refine rv_bool rfl rfl (decide_eq_true (fun x y hx hy hxy => ?_)).symm
    rcases Nat.lt_or_gt_of_ne hxy with h | h
    · rw [relN_symm]; exact hall y x hy h
    · exact hall x y hx h

open Classical in
set_option maxHeartbeats 1000000 in
set_option maxRecDepth 100000 in
theorem c_l06Each (k : Nat) (v : Value) (ds : List Nat) (es : List (List Int)) (c : Nat) (hk : k ≤ 100) (w : World) (hv : RdII w v (relT k ds es)) :
    Calls Try.prog 166 [v, .int .i64 c].toArray w (Res w (Is (.bool (decide (EachIs k ds es c))))) := by
  obtain ⟨a, cap, rfl⟩ := hv.len
  have hlen : (relT k ds es).length = k := tabOf_length _ _
  rw [hlen]
  refine calls_of_vw Try.func166 rfl Try.ntmps166 (by simp) ?_
  repeat (first | refine vops_q tyOk rfl ?_ | refine vops_nil ?_ | refine vw_seq ?_ | refine vw_region (by kernel_rfl) ?_ | refine vw_block ?_)
  refine vw_loop (fun y f own => ∃ i : Nat, i ≤ k ∧ y = k - i ∧ f 5 = .int .i64 i ∧ f 0 = .slice a k cap ∧ f 1 = .int .i64 c ∧ own = [] ∧ ∀ x y : Nat, x < i → y < k → x ≠ y → relN ds es x y = c) k
    ⟨0, by omega, by omega, rfl, rfl, rfl, rfl, fun x y hx => by omega⟩ ?_
  rintro y f own ⟨i, hi, rfl, h5, h0, h1, rfl, hall⟩
  rw [upd_of h5, upd_of h0, upd_of h1]
  repeat (first | refine vops_q tyOk rfl ?_ | refine vops_nil ?_ | refine vw_seq ?_ | refine vw_region (by kernel_rfl) ?_ | refine vw_cond rfl ?_)
  refine bs_dec (fun hlt => ?_) (fun hlt => ?_)
  · have hik : i < k := by omega
    obtain ⟨b, o, cap', u, cap2, he, hcu, hu⟩ := rdRow hv (i := i) (by omega)
    rw [hlen] at he
    cases he
    rw [relT_row hik, row_length] at hcu
    rw [relT_row hik, row_length] at hu
    repeat (first | refine vops_q tyOk rfl ?_ | refine vops_nil ?_ | refine vw_seq ?_ | refine vw_region (by kernel_rfl) ?_ | refine vw_skip ?_ | refine vw_block ?_)
    refine vw_loop (fun y f own => ∃ j : Nat, j ≤ k ∧ y = k - j ∧ f 6 = .int .i64 j ∧ f 5 = .int .i64 i ∧ f 0 = .slice (some ⟨b, o, none⟩) k cap ∧ f 1 = .int .i64 c ∧ own = [] ∧ ∀ y : Nat, y < j → i ≠ y → relN ds es i y = c) k
      ⟨0, by omega, by omega, rfl, rfl, rfl, rfl, rfl, fun y hy => by omega⟩ ?_
    rintro y f own ⟨j, hj, rfl, h6, h5, h0, h1, rfl, hall2⟩
    rw [upd_of h6, upd_of h5, upd_of h0, upd_of h1]
    repeat (first | refine vops_q tyOk rfl ?_ | refine vops_nil ?_ | refine vw_seq ?_ | refine vw_region (by kernel_rfl) ?_ | refine vw_cond rfl ?_)
    refine bs_dec (fun hlt2 => ?_) (fun hlt2 => ?_)
    · have hjk : j < k := by omega
      obtain ⟨b3, o3, cap3, he, hcell⟩ := hu.at (i := j) (by rw [row_length]; omega)
      rw [row_length] at he
      cases he
      have hc := hcell j (by rw [row_length]; omega)
      rw [row_get hjk] at hc
      repeat' (first | refine vops_q tyOk rfl ?_ | refine vops_nil ?_ | refine vw_seq ?_ | refine vw_region (by kernel_rfl) ?_ | refine vops_guardT rfl rfl ?_ | with_reducible refine bs_true ?_ | with_reducible refine bs_false ?_ | refine vops_p tyOk rfl (by (try simp only [inR]); omega) ?_ | refine vw_cond rfl ?_ | refine vw_skip ?_ | refine vw_block ?_ | refine vw_ret ?_ | (with_reducible refine bs_ndec (fun _ => ?_) (fun _ => ?_)) <;> try (exfalso; omega) | refine vops_load tyOk rfl rfl rfl (sees_old hcu (by simp)) ?_ | refine vops_load tyOk rfl rfl rfl (sees_old hc (by simp)) ?_)
      all_goals first
        | exact rv_bool rfl rfl (decide_eq_false fun hh => by have := hh i j hik hjk (by omega); omega).symm
        | exact ⟨k - (j + 1), by omega, j + 1, by omega, rfl, rfl, rfl, rfl, rfl, rfl, fun y hy hne => by
            by_cases hyj : y = j
            · subst hyj; omega
            · exact hall2 y (by omega) hne⟩
    · obtain rfl : j = k := by omega
      repeat (first | refine vops_q tyOk rfl ?_ | refine vops_nil ?_ | refine vw_region (by kernel_rfl) ?_ | refine vops_p tyOk rfl (by (try simp only [inR]); omega) ?_ | refine vw_exit ?_)
      refine ⟨j - (i + 1), by omega, i + 1, by omega, rfl, rfl, rfl, rfl, rfl, fun x y hx hy hne => ?_⟩
      by_cases hxj : x = i
      · subst hxj; exact hall2 y hy hne
      · exact hall x y (by omega) hy hne
  · obtain rfl : i = k := by omega
    repeat (first | refine vops_q tyOk rfl ?_ | refine vops_nil ?_ | refine vw_seq ?_ | refine vw_region (by kernel_rfl) ?_ | refine vw_ret ?_ | refine vw_exit ?_)
    exact rv_bool rfl rfl (decide_eq_true (fun x y hx hy hxy => hall x y hx hy hxy)).symm
end Go.Proofs.Ytdgaabkgfbihpaa

/- A part of the proof: W18. No conditions of its own. -/
namespace Go.Proofs.Ytdgaabkgfbihpaa
open Go.VL
attribute [local irreducible] VWr VOps VD Calls

open Classical in
set_option maxHeartbeats 1000000 in
set_option maxRecDepth 100000 in
theorem c_hasWhole (k : Nat) (v : Value) (ls : List (List Int)) (hE : IsEv k ls) (w : World) (hv : RdII w v ls) :
    Calls Try.prog 258 [.agg #[.int .i64 k, v]].toArray w (Res w (Is (.bool (decide (WholeR k ls))))) := by
  obtain ⟨a, cap, rfl⟩ := hv.len
  have hk4 := hE.1
  have hk16 := hE.2.1
  have h20 := hE.2.2.1
  refine calls_of_vw Try.func258 rfl Try.ntmps258 (by simp) ?_
  refine vw_seq (vw_region (by kernel_rfl) (vops_box [.int .i64 k, .slice a ls.length cap] rfl (fun b1 hb1 => ?_)))
  have hf : ∀ {P : Prop}, ¬ ((k : Int) % 4 ≤ 1 ∧ (ls.length : Int) = (k : Int) - 1 + (k : Int) % 2) → (WholeR k ls → P) := fun h hw => absurd ⟨hw.1, by have := hw.2.1; have := hw.1; omega⟩ h
  repeat (first | refine vops_q tyOk rfl ?_ | refine vops_nil ?_ | refine vw_seq ?_)
  refine vw_draw [0, 1, 2, 3, 4, 5, 6, 7, 8, 9, 10, 11, 12] (by kernel_rfl) (by kernel_rfl) (by kernel_rfl) rfl ?_
  repeat' (first | refine vd_q tyOk rfl (by first | trivial | rfl) rfl (by kernel_rfl) (by kernel_rfl) ?_ | refine vd_p tyOk rfl (by first | trivial | rfl) rfl (by kernel_rfl) (by kernel_rfl) (by (try simp only [inR]); omega) ?_ | refine vd_skipT rfl rfl (by kernel_rfl) (by kernel_rfl) ?_ | refine vops_nil ?_ | refine vd_nil (by kernel_rfl) ?_ | refine ⟨fun _ _ _ h => h, ?_⟩ | refine vd_load tyOk rfl (by first | trivial | rfl) rfl rfl rfl (by kernel_rfl) (by kernel_rfl) (by kernel_rfl) (sees_mem (by repeat (first | exact mem_here | apply mem_next | apply mem_past)) (by rfl)) (by repeat (first | exact sub_hereL | exact sub_refl | apply sub_cons | apply sub_app)) ?_ | (apply vops_callp ent182 rfl; (intro w' hg; exact c_robinW _ (by omega) (by omega) w')) | refine vd_oneG rfl (by kernel_rfl) (by kernel_rfl) rfl ?_ | (refine vd_gsplit rfl rfl rfl ?_; (fail_if_success (with_reducible (first | refine bs_true ?_ | refine bs_false ?_))); with_reducible refine bs_dec (fun _ => ?_) (fun _ => ?_)) <;> try (exfalso; omega))
  all_goals repeat (first | refine vops_q tyOk rfl ?_ | refine vops_nil ?_ | refine vw_seq ?_ | refine vw_region (by kernel_rfl) ?_ | with_reducible refine bs_true ?_ | refine vw_cond rfl ?_ | refine vw_ret ?_)
  · rename_i h4
    exact rv_bool rfl rfl (decide_eq_false (hf (P := False) (by omega))).symm
  · rename_i h4
    refine bs_ndec2 (fun hl => ?_) (fun hl => ?_)
    · repeat (first | refine vops_q tyOk rfl ?_ | refine vops_nil ?_ | refine vw_seq ?_ | refine vw_region (by kernel_rfl) ?_ | refine vw_ret ?_)
      exact rv_bool rfl rfl (decide_eq_false (hf (P := False) (by omega))).symm
    repeat (first | refine vops_q tyOk rfl ?_ | refine vops_nil ?_ | refine vw_seq ?_ | refine vw_region (by kernel_rfl) ?_ | refine vw_skip ?_ | refine vw_block ?_ | ((show VOps _ _ _ _ (⟨some _, Go.Op.load _ _, _, _, _, none⟩ :: _) _ _); refine vops_loadM tyOk rfl rfl rfl (by repeat (first | exact mem_here | apply mem_next | apply mem_past)) (by rfl) ?_))
    refine vw_loop (fun y f own => ∃ i : Nat, i ≤ ls.length ∧ y = ls.length - i ∧ f 21 = .int .i64 i ∧ f 20 = .int .i64 ls.length ∧ f 19 = .slice a ls.length cap ∧ f 1 = .pointer (some ⟨b1, 0, none⟩) ∧ own = [(b1, ⟨[.int .i64 k, .slice a ls.length cap], 58, 2, none⟩)] ∧ ∀ j : Nat, j < i → ((ls.getD j []).length : Int) = k - k % 4) ls.length
      ⟨0, by omega, by omega, rfl, rfl, rfl, rfl, rfl, fun j hj => by omega⟩ ?_
    rintro y f own ⟨i, hi, rfl, h21, h20', h19, h1, rfl, hall⟩
    rw [upd_of h21, upd_of h20', upd_of h19, upd_of h1]
    repeat (first | refine vops_q tyOk rfl ?_ | refine vops_nil ?_ | refine vw_seq ?_ | refine vw_region (by kernel_rfl) ?_ | refine vw_cond rfl ?_)
    refine bs_dec (fun hlt => ?_) (fun hlt => ?_)
    · have hil : i < ls.length := by omega
      obtain ⟨b, o, cap', u, cap2, he, hcu, hu⟩ := rdRow hv (i := i) hil
      cases he
      have hmem : ls.getD i [] ∈ ls := by rw [List.getD_eq_getElem?_getD, List.getElem?_eq_getElem hil]; exact List.getElem_mem _
      repeat (first | refine vops_q tyOk rfl ?_ | refine vops_nil ?_ | refine vw_seq ?_ | refine vw_region (by kernel_rfl) ?_ | refine vops_p tyOk rfl (by (try simp only [inR]); omega) ?_ | refine vw_cond rfl ?_ | refine vw_skip ?_ | refine vw_block ?_ | refine vops_load tyOk rfl rfl rfl (sees_old hcu (by simp)) ?_ | (apply vops_callp ent173 rfl; (intro w' hg; exact c_playersOfBase _ (by omega) (by omega) w')) | ((show VOps _ _ _ _ (⟨some _, Go.Op.load _ _, _, _, _, none⟩ :: _) _ _); refine vops_loadM tyOk rfl rfl rfl (by repeat (first | exact mem_here | apply mem_next | apply mem_past)) (by rfl) ?_))
      refine bs_ndec2 (fun hne => ?_) (fun heq => ?_)
      · repeat (first | refine vops_q tyOk rfl ?_ | refine vops_nil ?_ | refine vw_seq ?_ | refine vw_region (by kernel_rfl) ?_ | refine vw_ret ?_)
        exact rv_bool rfl rfl (decide_eq_false fun hw => hne (hw.2.2 _ hmem)).symm
      · repeat (first | refine vops_q tyOk rfl ?_ | refine vops_nil ?_ | refine vw_region (by kernel_rfl) ?_ | refine vops_p tyOk rfl (by (try simp only [inR]); omega) ?_ | refine vw_skip ?_)
        refine ⟨ls.length - (i + 1), by omega, i + 1, by omega, rfl, rfl, rfl, rfl, rfl, rfl, fun j hj => ?_⟩
        by_cases hji : j = i
        · subst hji; exact heq
        · exact hall j (by omega)
    · obtain rfl : i = ls.length := by omega
      repeat (first | refine vops_q tyOk rfl ?_ | refine vops_nil ?_ | refine vw_seq ?_ | refine vw_region (by kernel_rfl) ?_ | refine vw_ret ?_ | refine vw_exit ?_)
      refine rv_bool rfl rfl (decide_eq_true ⟨by omega, by omega, fun r hr => ?_⟩).symm
      obtain ⟨j, hj⟩ := List.mem_iff_getElem?.1 hr
      have := hall j (List.getElem?_eq_some_iff.1 hj).1
      rwa [List.getD_eq_getElem?_getD, hj] at this

open Classical in
set_option maxHeartbeats 1000000 in
set_option maxRecDepth 100000 in
theorem c_hasPartners (k : Nat) (v : Value) (ls : List (List Int)) (hE : IsEv k ls) (w : World) (hv : RdII w v ls) :
    Calls Try.prog 259 [.agg #[.int .i64 k, v]].toArray w (Res w (Is (.bool (decide (EachIs k [1] ls 1))))) := by
  obtain ⟨a, cap, rfl⟩ := hv.len
  have hk16 := hE.2.1
  refine calls_of_vw Try.func259 rfl Try.ntmps259 (by simp) ?_
  refine vw_seq (vw_region (by kernel_rfl) (vops_box [.int .i64 k, .slice a ls.length cap] rfl (fun b1 hb1 => ?_)))
  repeat (first | refine vops_q tyOk rfl ?_ | refine vops_nil ?_ | refine vw_seq ?_ | refine vw_region (by kernel_rfl) ?_ | refine vw_ret ?_ | refine vops_litV tyOk rfl rfl (List.cons_ne_nil _ _) rfl rfl rfl (fun bl hbl => ?_) | (apply vops_call ent262 rfl; (intro w' hg; exact c_timesRelated k _ _ ls [1] hE (by simp) (by simp) w' (hv.same hg.fr) (rdFn_lit (ds := [1]) (by repeat (first | exact mem_here | apply mem_next | apply mem_past)) hg rfl)); (rintro _ newN hN)) | (apply vops_callp ent261 rfl; (intro w' hg; exact c_haveAll k _ [1] ls 1 (by omega) w' (hN.rdCC (by repeat (first | exact sub_hereL | exact sub_refl | apply sub_cons | apply sub_app)) hg))) | ((show VOps _ _ _ _ (⟨some _, Go.Op.load _ _, _, _, _, none⟩ :: _) _ _); refine vops_loadNM tyOk rfl rfl rfl (by repeat (first | exact mem_here | apply mem_next | apply mem_past)) (by first | rfl | (rw [ints_length]; first | assumption | omega | (rw [ints_length]; first | assumption | omega | simp [*])) | simp [*]) ?_))
  exact rv_bool rfl rfl rfl

open Classical in
set_option maxHeartbeats 1000000 in
set_option maxRecDepth 100000 in
theorem c_hasOpponents (k : Nat) (v : Value) (ls : List (List Int)) (hE : IsEv k ls) (w : World) (hv : RdII w v ls) :
    Calls Try.prog 260 [.agg #[.int .i64 k, v]].toArray w (Res w (Is (.bool (decide (EachIs k [2, 3] ls 2))))) := by
  obtain ⟨a, cap, rfl⟩ := hv.len
  have hk16 := hE.2.1
  refine calls_of_vw Try.func260 rfl Try.ntmps260 (by simp) ?_
  refine vw_seq (vw_region (by kernel_rfl) (vops_box [.int .i64 k, .slice a ls.length cap] rfl (fun b1 hb1 => ?_)))
  repeat (first | refine vops_q tyOk rfl ?_ | refine vops_nil ?_ | refine vw_seq ?_ | refine vw_region (by kernel_rfl) ?_ | refine vw_ret ?_ | refine vops_buildS [relV 2, relV 3] [relV 2, relV 3] tyOk rfl rfl (List.cons_ne_nil _ _) rfl rfl (by omega) (by decide) (by decide) two_rel rfl (fun bk hbk => ?_) | (apply vops_call ent262 rfl; (intro w' hg; exact c_timesRelated k _ _ ls [2, 3] hE (by simp) (by simp) w' (hv.same hg.fr) (rdFn_lit (ds := [2, 3]) (by repeat (first | exact mem_here | apply mem_next | apply mem_past)) hg rfl)); (rintro _ newN hN)) | (apply vops_callp ent261 rfl; (intro w' hg; exact c_haveAll k _ [2, 3] ls 2 (by omega) w' (hN.rdCC (by repeat (first | exact sub_hereL | exact sub_refl | apply sub_cons | apply sub_app)) hg))) | ((show VOps _ _ _ _ (⟨some _, Go.Op.load _ _, _, _, _, none⟩ :: _) _ _); refine vops_loadNM tyOk rfl rfl rfl (by repeat (first | exact mem_here | apply mem_next | apply mem_past)) (by first | rfl | (rw [ints_length]; first | assumption | omega | (rw [ints_length]; first | assumption | omega | simp [*])) | simp [*]) ?_))
  exact rv_bool rfl rfl rfl

open Classical in
set_option maxHeartbeats 1000000 in
set_option maxRecDepth 100000 in
theorem c_hasFirst (k : Nat) (v : Value) (ls : List (List Int)) (hE : IsEv k ls) (w : World) (hv : RdII w v ls) :
    Calls Try.prog 165 [.agg #[.int .i64 k, v]].toArray w (Res w (Is (.bool (decide (EachIs k [2] ls 1))))) := by
  obtain ⟨a, cap, rfl⟩ := hv.len
  have hk16 := hE.2.1
  refine calls_of_vw Try.func165 rfl Try.ntmps165 (by simp) ?_
  refine vw_seq (vw_region (by kernel_rfl) (vops_box [.int .i64 k, .slice a ls.length cap] rfl (fun b1 hb1 => ?_)))
  repeat (first | refine vops_q tyOk rfl ?_ | refine vops_nil ?_ | refine vw_seq ?_ | refine vw_region (by kernel_rfl) ?_ | refine vw_ret ?_ | refine vops_litV tyOk rfl rfl (List.cons_ne_nil _ _) rfl rfl rfl (fun bl hbl => ?_) | (apply vops_call ent262 rfl; (intro w' hg; exact c_timesRelated k _ _ ls [2] hE (by simp) (by simp) w' (hv.same hg.fr) (rdFn_lit (ds := [2]) (by repeat (first | exact mem_here | apply mem_next | apply mem_past)) hg rfl)); (rintro _ newN hN)) | (apply vops_callp ent261 rfl; (intro w' hg; exact c_haveAll k _ [2] ls 1 (by omega) w' (hN.rdCC (by repeat (first | exact sub_hereL | exact sub_refl | apply sub_cons | apply sub_app)) hg))) | ((show VOps _ _ _ _ (⟨some _, Go.Op.load _ _, _, _, _, none⟩ :: _) _ _); refine vops_loadNM tyOk rfl rfl rfl (by repeat (first | exact mem_here | apply mem_next | apply mem_past)) (by first | rfl | (rw [ints_length]; first | assumption | omega | (rw [ints_length]; first | assumption | omega | simp [*])) | simp [*]) ?_))
  exact rv_bool rfl rfl rfl

abbrev fnV (g : Nat) : Value := .func (.func g) #[] #[]
/-- What an evening has to pass. -/
def tests3 : List Value := [fnV 258, fnV 259, fnV 260]
theorem tests_one : ∀ v ∈ tests3, v.cells.size = 1 := by
  intro v hv
  rcases List.mem_cons.1 hv with rfl | hv
  · rfl
  rcases List.mem_cons.1 hv with rfl | hv
  · rfl
  · obtain rfl : v = _ := by simpa using hv
    rfl
theorem c_testsOfWhist (w : World) : Calls Try.prog 162 ([] : List Value).toArray w (Res w (fun v new => ∃ b, v = .slice (some ⟨b, 0, none⟩) 3 3 ∧ new = [(b, ⟨tests3, 149, 3 * 1, none⟩)])) := by
  refine calls_of_vw Try.func162 rfl Try.ntmps162 (by simp) ?_
  repeat (first | refine vops_q tyOk rfl ?_ | refine vops_nil ?_ | refine vw_seq ?_ | refine vw_region (by kernel_rfl) ?_ | refine vw_ret ?_ | refine vops_buildS tests3 tests3 tyOk rfl rfl (List.cons_ne_nil _ _) rfl rfl (by omega) (by decide) (by decide) tests_one rfl (fun bk hbk => ?_))
  exact out1 rfl rfl (by simp [ids]) (by repeat (first | exact sub_hereL | exact sub_refl | apply sub_cons | apply sub_app)) ⟨bk, rfl, rfl⟩
theorem slAt_tests (b : Nat) : SlAt 149 1 (.slice (some ⟨b, 0, none⟩) 3 3) 3 tests3 [(b, ⟨tests3, 149, 3 * 1, none⟩)] [] := ⟨rfl, .inr ⟨b, 3, rfl, Nat.le_refl _, by simp only [maxLen]; omega, rfl⟩⟩
/-- Tests that are read. -/
def RdTs (w : World) (v : Value) (fs : List (Nat × Bool)) : Prop := ∃ b o cap, v = .slice (some ⟨b, o, none⟩) fs.length cap ∧ ∀ (j : Nat) (p : Nat × Bool), fs[j]? = some p → w.cell? ⟨b, o + j, none⟩ = some (fnV p.1)
theorem rdTs_own {Γ : Ctx} {own : Own} {w : World} {b e n c m : Nat} {fs : List (Nat × Bool)} (hm : (b, (⟨fs.map fun p => fnV p.1, e, n, none⟩ : Blk)) ∈ own) (hg : Go.VL.Good Γ own w) (hc : m = fs.length) : RdTs w (.slice (some ⟨b, 0, none⟩) m c) fs := by
  subst hc
  refine ⟨b, 0, c, rfl, fun j p hj => ?_⟩
  rw [Nat.zero_add]
  exact cell_of_blk hg.ok hm (by simp [hj])
set_option maxHeartbeats 1000000 in
set_option maxRecDepth 100000 in
theorem c_passes (k : Nat) (a : Option Addr) (n cap : Nat) (t : Value) (fs : List (Nat × Bool)) (hl : fs.length ≤ 1000) (w : World) (ht : RdTs w t fs) (he : ∀ p ∈ fs, Ent Try.prog p.1)
    (hc : ∀ p ∈ fs, ∀ w', Fr [] w w' → Calls Try.prog p.1 [.agg #[.int .i64 k, .slice a n cap]].toArray w' (Res w' (Is (.bool p.2)))) :
    Calls Try.prog 161 [.agg #[.int .i64 k, .slice a n cap], t].toArray w (Res w (Is (.bool (fs.all (·.2))))) := by
  obtain ⟨b, o, capt, rfl, hcell⟩ := ht
  refine calls_of_vw Try.func161 rfl Try.ntmps161 (by simp) ?_
  refine vw_seq (vw_region (by kernel_rfl) (vops_box [.int .i64 k, .slice a n cap] rfl (fun b2 hb2 => ?_)))
  repeat (first | refine vops_q tyOk rfl ?_ | refine vops_nil ?_ | refine vw_seq ?_ | refine vw_region (by kernel_rfl) ?_ | refine vw_block ?_)
  refine vw_loop (fun y f own => ∃ i : Nat, i ≤ fs.length ∧ y = fs.length - i ∧ f 9 = .int .i64 i ∧ f 8 = .int .i64 fs.length ∧ f 7 = .slice (some ⟨b, o, none⟩) fs.length capt ∧ f 2 = .pointer (some ⟨b2, 0, none⟩) ∧ own = [(b2, ⟨[.int .i64 k, .slice a n cap], 58, 2, none⟩)] ∧ ∀ (j : Nat) (p : Nat × Bool), j < i → fs[j]? = some p → p.2 = true) fs.length
    ⟨0, by omega, by omega, rfl, rfl, rfl, rfl, rfl, fun j p hj => by omega⟩ ?_
  rintro y f own ⟨i, hi, rfl, h9, h8, h7, h2, rfl, hall⟩
  rw [upd_of h9, upd_of h8, upd_of h7, upd_of h2]
  repeat (first | refine vops_q tyOk rfl ?_ | refine vops_nil ?_ | refine vw_seq ?_ | refine vw_region (by kernel_rfl) ?_ | refine vw_cond rfl ?_)
  refine bs_dec (fun hlt => ?_) (fun hlt => ?_)
  · have hil : i < fs.length := by omega
    obtain ⟨p, hp⟩ : ∃ p, fs[i]? = some p := ⟨_, List.getElem?_eq_getElem hil⟩
    have hmem := List.mem_of_getElem? hp
    have hcp := hcell i p hp
    have hidx : o + (i : Int).toNat = o + i := by omega
    repeat (first | refine vops_q tyOk rfl ?_ | refine vops_nil ?_ | refine vw_seq ?_ | refine vw_region (by kernel_rfl) ?_ | refine vops_p tyOk rfl (by (try simp only [inR]); omega) ?_ | refine vw_cond rfl ?_ | refine vw_skip ?_ | refine vw_block ?_ | refine vops_load tyOk rfl rfl rfl (sees_old hcp (by simp)) ?_ | refine vops_callVp (lb := []) (he p hmem) rfl rfl (fun w' hg => hc p hmem w' hg.fr) ?_ | ((show VOps _ _ _ _ (⟨some _, Go.Op.load _ _, _, _, _, none⟩ :: _) _ _); refine vops_loadNM tyOk rfl rfl rfl (by repeat (first | exact mem_here | apply mem_next | apply mem_past)) (by first | rfl | (rw [ints_length]; first | assumption | omega | (rw [ints_length]; first | assumption | omega | simp [*])) | simp [*]) ?_))
    refine bs_nany (fun hb => ?_) (fun hb => ?_)
    · repeat (first | refine vops_q tyOk rfl ?_ | refine vops_nil ?_ | refine vw_region (by kernel_rfl) ?_ | refine vops_p tyOk rfl (by (try simp only [inR]); omega) ?_ | refine vw_skip ?_)
      refine ⟨fs.length - (i + 1), by omega, i + 1, by omega, rfl, rfl, rfl, rfl, rfl, rfl, fun j q hj hq => ?_⟩
      by_cases hji : j = i
      · subst hji
        obtain rfl : p = q := Option.some.inj (hp.symm.trans hq)
        exact hb
      · exact hall j q (by omega) hq
    · repeat (first | refine vops_q tyOk rfl ?_ | refine vops_nil ?_ | refine vw_seq ?_ | refine vw_region (by kernel_rfl) ?_ | refine vw_ret ?_)
      refine rv_bool rfl rfl ?_
      symm
      rw [List.all_eq_false]
      exact ⟨p, hmem, by rw [hb]; simp⟩
  · obtain rfl : i = fs.length := by omega
    repeat (first | refine vops_q tyOk rfl ?_ | refine vops_nil ?_ | refine vw_seq ?_ | refine vw_region (by kernel_rfl) ?_ | refine vw_ret ?_ | refine vw_exit ?_)
    refine rv_bool rfl rfl ?_
    symm
    rw [List.all_eq_true]
    intro p hp
    obtain ⟨j, hj⟩ := List.mem_iff_getElem?.1 hp
    exact hall j p (List.getElem?_eq_some_iff.1 hj).1 hj

open Classical in
/-- What an evening has to pass, and whether it does. -/
noncomputable def whistT (k : Nat) (es : List (List Int)) : List (Nat × Bool) := [(258, decide (WholeR k es)), (259, decide (EachIs k [1] es 1)), (260, decide (EachIs k [2, 3] es 2))]
open Classical in
noncomputable def tripleT (k : Nat) (es : List (List Int)) : List (Nat × Bool) := whistT k es ++ [(165, decide (EachIs k [2] es 1))]
theorem whist_ent (k : Nat) (es : List (List Int)) : ∀ p ∈ tripleT k es, Ent Try.prog p.1 := by
  intro p hp
  unfold tripleT whistT at hp
  simp only [List.cons_append, List.nil_append, List.mem_cons, List.not_mem_nil, or_false] at hp
  rcases hp with rfl | rfl | rfl | rfl
  · exact ent258
  · exact ent259
  · exact ent260
  · exact ent165
theorem whist_calls (k : Nat) (v : Value) (es : List (List Int)) (hE : IsEv k es) (w : World) (hv : RdII w v es) : ∀ p ∈ tripleT k es, ∀ w', Fr [] w w' → Calls Try.prog p.1 [.agg #[.int .i64 k, v]].toArray w' (Res w' (Is (.bool p.2))) := by
  intro p hp w' hf
  unfold tripleT whistT at hp
  simp only [List.cons_append, List.nil_append, List.mem_cons, List.not_mem_nil, or_false] at hp
  rcases hp with rfl | rfl | rfl | rfl
  · exact c_hasWhole k v es hE w' (hv.same hf)
  · exact c_hasPartners k v es hE w' (hv.same hf)
  · exact c_hasOpponents k v es hE w' (hv.same hf)
  · exact c_hasFirst k v es hE w' (hv.same hf)
open Classical in
theorem whistT_all (k : Nat) (es : List (List Int)) : (whistT k es).all (·.2) = decide (Whist k es) := by
  unfold whistT Whist
  rw [Int.toNat_natCast]
  simp [Bool.decide_and]
open Classical in
theorem tripleT_all (k : Nat) (es : List (List Int)) : (tripleT k es).all (·.2) = decide (Whist k es ∧ EachIs k [2] es 1) := by
  unfold tripleT
  rw [List.all_append, whistT_all]
  simp [Bool.decide_and]

open Classical in
set_option maxHeartbeats 1000000 in
set_option maxRecDepth 100000 in
theorem c_impl_IsWhist (m : Int) (v : Value) (ls : List (List Int)) (w : World) (hv : RdCC w v ls) (hl : ls.length ≤ 1048576) (hll : ∀ l ∈ ls, l.length ≤ 1048576) :
    Calls Try.prog 59 [.agg #[.int .i64 m, v]].toArray w (Res w (Is (.tuple #[.bool (whistR m ls).1, .int .i64 (whistR m ls).2]))) := by
  obtain ⟨a, cap, rfl⟩ := hv.len
  refine calls_of_vw Try.func59 rfl Try.ntmps59 (by simp) ?_
  refine vw_seq (vw_region (by kernel_rfl) (vops_box [.int .i64 m, .slice a ls.length cap] rfl (fun b1 hb1 => ?_)))
  repeat (first | refine vops_q tyOk rfl ?_ | refine vops_nil ?_ | refine vw_seq ?_ | refine vw_region (by kernel_rfl) ?_ | refine vw_cond rfl ?_ | (apply vops_callp ent160 rfl; (intro w' hg; exact c_IsEvening _ _ ls w' (hv.same hg.fr) hl hll)) | ((show VOps _ _ _ _ (⟨some _, Go.Op.load _ _, _, _, _, none⟩ :: _) _ _); refine vops_loadNM tyOk rfl rfl rfl (by repeat (first | exact mem_here | apply mem_next | apply mem_past)) (by first | rfl | (rw [ints_length]; first | assumption | omega | (rw [ints_length]; first | assumption | omega | simp [*])) | simp [*]) ?_))
  refine bs_ndec2 (fun h => ?_) (fun h => ?_)
  · repeat (first | refine vops_q tyOk rfl ?_ | refine vops_nil ?_ | refine vw_seq ?_ | refine vw_region (by kernel_rfl) ?_ | refine vw_ret ?_)
    exact out_bc rfl rfl rfl rfl (by rw [whistR, if_neg h])
  obtain ⟨k, rfl⟩ : ∃ k : Nat, m = (k : Int) := ⟨m.toNat, by have := h.1; omega⟩
  repeat (first | refine vw_seq ?_ | refine vw_skip ?_)
  refine vw_draw [0, 1, 2, 3, 4] (by kernel_rfl) (by kernel_rfl) (by kernel_rfl) rfl ?_
  repeat' (first | refine vd_q tyOk rfl (by first | trivial | rfl) rfl (by kernel_rfl) (by kernel_rfl) ?_ | refine vops_nil ?_ | refine vd_nil (by kernel_rfl) ?_ | refine ⟨fun _ _ _ h => h, ?_⟩ | refine ⟨fun _ _ _ h => List.mem_cons_of_mem _ h, ?_⟩ | refine vd_loadNM tyOk rfl (by first | trivial | rfl) rfl rfl rfl (by repeat (first | exact mem_here | apply mem_next | apply mem_past)) (by first | rfl | (rw [ints_length]; first | assumption | omega | (rw [ints_length]; first | assumption | omega | simp [*])) | simp [*]) (by kernel_rfl) (by kernel_rfl) (by kernel_rfl) (by repeat (first | exact sub_hereL | exact sub_refl | apply sub_cons | apply sub_app)) ?_ | (apply vops_call ent162 rfl; (intro w' hg; exact c_testsOfWhist w'); (rintro _ newN ⟨bt, rfl, rfl⟩)) | (apply vops_callp ent161 rfl; (intro w' hg; exact c_passes k a ls.length cap _ (whistT k ls) (by simp [whistT]) w' (rdTs_own (fs := whistT k ls) (by repeat (first | exact mem_here | apply mem_next | apply mem_past)) hg rfl) (fun p hp => whist_ent k ls p (List.mem_append_left _ hp)) (fun p hp => whist_calls k _ ls h w' (hv.rd.same hg.fr) p (List.mem_append_left _ hp)))) | refine vd_one rfl (by kernel_rfl) (by kernel_rfl) rfl ?_)
  rw [whistT_all]
  repeat (first | refine vw_ret ?_)
  exact out_bc rfl rfl rfl rfl (by rw [whistR, if_pos h])
open Classical in
set_option maxHeartbeats 1000000 in
set_option maxRecDepth 100000 in
theorem c_impl_IsTriple (m : Int) (v : Value) (ls : List (List Int)) (w : World) (hv : RdCC w v ls) (hl : ls.length ≤ 1048576) (hll : ∀ l ∈ ls, l.length ≤ 1048576) :
    Calls Try.prog 61 [.agg #[.int .i64 m, v]].toArray w (Res w (Is (.tuple #[.bool (tripleR m ls).1, .int .i64 (tripleR m ls).2]))) := by
  obtain ⟨a, cap, rfl⟩ := hv.len
  refine calls_of_vw Try.func61 rfl Try.ntmps61 (by simp) ?_
  refine vw_seq (vw_region (by kernel_rfl) (vops_box [.int .i64 m, .slice a ls.length cap] rfl (fun b1 hb1 => ?_)))
  repeat (first | refine vops_q tyOk rfl ?_ | refine vops_nil ?_ | refine vw_seq ?_ | refine vw_region (by kernel_rfl) ?_ | refine vw_cond rfl ?_ | (apply vops_callp ent160 rfl; (intro w' hg; exact c_IsEvening _ _ ls w' (hv.same hg.fr) hl hll)) | ((show VOps _ _ _ _ (⟨some _, Go.Op.load _ _, _, _, _, none⟩ :: _) _ _); refine vops_loadNM tyOk rfl rfl rfl (by repeat (first | exact mem_here | apply mem_next | apply mem_past)) (by first | rfl | (rw [ints_length]; first | assumption | omega | (rw [ints_length]; first | assumption | omega | simp [*])) | simp [*]) ?_))
  refine bs_ndec2 (fun h => ?_) (fun h => ?_)
  · repeat (first | refine vops_q tyOk rfl ?_ | refine vops_nil ?_ | refine vw_seq ?_ | refine vw_region (by kernel_rfl) ?_ | refine vw_ret ?_)
    exact out_bc rfl rfl rfl rfl (by rw [tripleR, if_neg h])
  obtain ⟨k, rfl⟩ : ∃ k : Nat, m = (k : Int) := ⟨m.toNat, by have := h.1; omega⟩
  repeat (first | refine vw_seq ?_ | refine vw_skip ?_)
  refine vw_draw [0, 1, 2, 3, 4, 5, 6] (by kernel_rfl) (by kernel_rfl) (by kernel_rfl) rfl ?_
  iterate 1 (first | refine vd_q tyOk rfl (by first | trivial | rfl) rfl (by kernel_rfl) (by kernel_rfl) ?_ | refine vd_p tyOk rfl (by first | trivial | rfl) rfl (by kernel_rfl) (by kernel_rfl) (by (try simp only [inR]); omega) ?_ | refine vd_skipT rfl rfl (by kernel_rfl) (by kernel_rfl) ?_ | refine vd_skipF rfl rfl (by kernel_rfl) (by kernel_rfl) ?_ | refine vd_skipU rfl rfl (by kernel_rfl) (by kernel_rfl) ?_ | refine vops_nil ?_ | refine vd_nil (by kernel_rfl) ?_ | refine ⟨fun _ _ _ h => h, ?_⟩ | refine ⟨fun _ _ _ h => List.mem_cons_of_mem _ h, ?_⟩ | refine ⟨fun _ _ _ h => List.mem_append_right _ h, ?_⟩ | refine vops_q tyOk rfl ?_ | refine vd_load tyOk rfl (by first | trivial | rfl) rfl rfl rfl (by kernel_rfl) (by kernel_rfl) (by kernel_rfl) (sees_mem (by repeat (first | exact mem_here | apply mem_next | apply mem_past)) (by rfl)) (by repeat (first | exact sub_hereL | exact sub_refl | apply sub_cons | apply sub_app)) ?_ | refine vd_load tyOk rfl (by first | trivial | rfl) rfl rfl rfl (by kernel_rfl) (by kernel_rfl) (by kernel_rfl) (sees_mem (k := ⟨ints _, _, _, none⟩) (by repeat (first | exact mem_here | apply mem_next | apply mem_past)) (by exact ints_get0 (by omega))) (by repeat (first | exact sub_hereL | exact sub_refl | apply sub_cons | apply sub_app)) ?_ | refine vd_loadNM tyOk rfl (by first | trivial | rfl) rfl rfl rfl (by repeat (first | exact mem_here | apply mem_next | apply mem_past)) (by first | rfl | (rw [ints_length]; first | assumption | omega | (rw [ints_length]; first | assumption | omega | simp [*])) | simp [*]) (by kernel_rfl) (by kernel_rfl) (by kernel_rfl) (by repeat (first | exact sub_hereL | exact sub_refl | apply sub_cons | apply sub_app)) ?_ | refine vd_build2 rfl (by first | trivial | rfl) rfl rfl (by kernel_rfl) (by kernel_rfl) (by kernel_rfl) ?_ | refine vd_slice tyOk rfl (by first | trivial | rfl) rfl rfl rfl rfl rfl (by kernel_rfl) (by kernel_rfl) (by omega) ?_ | refine ⟨fun h => Bool.noConfusion (show false = true from h), ?_⟩ | refine ⟨fun _ p hp _ => (show Go.VL.Sub _ _ from (by repeat (first | exact sub_hereL | exact sub_refl | apply sub_cons | apply sub_app))) p hp, ?_⟩ | fail | ((show VOps _ _ _ _ (⟨some _, Go.Op.load _ _, _, _, _, none⟩ :: _) _ _); first | refine vops_loadM tyOk rfl rfl rfl (by repeat (first | exact mem_here | apply mem_next | apply mem_past)) (by rfl) ?_ | refine vops_loadM tyOk rfl rfl rfl (by repeat (first | exact mem_here | apply mem_next | apply mem_past)) (by exact ints_get0 (by omega)) ?_ | refine vops_loadNM tyOk rfl rfl rfl (by repeat (first | exact mem_here | apply mem_next | apply mem_past)) (by first | rfl | (rw [ints_length]; first | assumption | omega | (rw [ints_length]; first | assumption | omega | simp [*])) | simp [*]) ?_) | ((show VOps _ _ _ _ (⟨none, Go.Op.store _ _ _, _, _, _, none⟩ :: _) _ _); first | refine vops_storeIM tyOk rfl rfl rfl rfl (by repeat (first | exact upd_here | apply upd_next | apply upd_past)) (by omega) ?_ | refine vops_storeM tyOk rfl rfl rfl rfl rfl (by repeat (first | exact upd_here | apply upd_next | apply upd_past)) (by simp) ?_ | refine vops_storeAM tyOk rfl rfl rfl (by first | rfl | (rw [ints_length]; first | assumption | omega | (rw [ints_length]; first | assumption | omega | simp [*])) | simp [*]) (by first | exact ints_one | simp [Value.oneCell']) (by repeat (first | exact upd_here | apply upd_next | apply upd_past)) (by first | rfl | (rw [ints_length]; first | assumption | omega | (rw [ints_length]; first | assumption | omega | simp [*])) | simp [*]) ?_) | refine vops_build2 rfl rfl (by kernel_rfl) ?_ | refine vops_buildZ tyOk rfl (by kernel_rfl) ?_ | refine vops_slice tyOk rfl rfl rfl rfl rfl (by omega) ?_ | refine vd_one rfl (by kernel_rfl) (by kernel_rfl) rfl ?_ | refine vd_oneG rfl (by kernel_rfl) (by kernel_rfl) rfl ?_ | (refine vd_gsplit rfl rfl rfl ?_; (fail_if_success (with_reducible (first | refine bs_true ?_ | refine bs_false ?_))); with_reducible refine bs_dec (fun _ => ?_) (fun _ => ?_)) <;> try (exfalso; omega) | (refine vd_gsplit rfl rfl rfl ?_; (fail_if_success (with_reducible (first | refine bs_true ?_ | refine bs_false ?_))); with_reducible refine bs_ndec (fun _ => ?_) (fun _ => ?_)) <;> try (exfalso; omega) | (refine vd_gsplit rfl rfl rfl ?_; (fail_if_success (with_reducible (first | refine bs_true ?_ | refine bs_false ?_))); with_reducible refine bs_nany (fun _ => ?_) (fun _ => ?_)) <;> try (exfalso; omega) | (refine vd_gsplit rfl rfl rfl ?_; (fail_if_success (with_reducible (first | refine bs_true ?_ | refine bs_false ?_))); with_reducible refine bs_any (fun _ => ?_) (fun _ => ?_)) <;> try (exfalso; omega))
  refine vd_two (j := 2) [2, 3, 4, 5, 6] [1, 3, 4, 5, 6] rfl rfl (by kernel_rfl) rfl rfl rfl rfl ?_ ?_
  all_goals
    repeat' (first | refine vops_nil ?_ | refine ⟨fun _ _ _ h => List.mem_cons_of_mem _ h, ?_⟩ | refine ⟨fun _ p hp _ => (show Go.VL.Sub _ _ from (by repeat (first | exact sub_hereL | exact sub_refl | apply sub_cons | apply sub_app))) p hp, ?_⟩ | (apply vops_call ent162 rfl; (intro w' hg; exact c_testsOfWhist w'); (rintro _ newN ⟨bt, rfl, rfl⟩)) | refine vops_litV (v := fnV 165) tyOk rfl rfl (List.cons_ne_nil _ _) rfl rfl rfl (fun bl hbl => ?_) | refine vops_appendV tyOk rfl rfl (List.cons_ne_nil _ _) rfl rfl (by decide) rfl (slAt_tests bt) (by repeat (first | exact pm_here | exact pm_last | apply pm_next | apply pm_past)) rfl (by repeat (first | exact mem_here | apply mem_next | apply mem_past)) rfl (by omega) (fun p' cap' new' hN' => ?_) | refine vd_one rfl (by kernel_rfl) (by kernel_rfl) rfl ?_)
    rcases hN'.2 with ⟨_, h0, _⟩ | ⟨bw, cw, he, _, _, rfl⟩
    · omega
    obtain ⟨rfl, rfl⟩ : p' = some ⟨bw, 0, none⟩ ∧ cap' = cw := by injection he with h1 h2 h3; exact ⟨h1, h3⟩
    repeat' (first | refine vd_q tyOk rfl (by first | trivial | rfl) rfl (by kernel_rfl) (by kernel_rfl) ?_ | refine vops_nil ?_ | refine vd_nil (by kernel_rfl) ?_ | refine ⟨fun _ _ _ h => h, ?_⟩ | (apply vops_callp ent161 rfl; (intro w' hg; exact c_passes k a ls.length cap _ (tripleT k ls) (by simp [tripleT, whistT]) w' (rdTs_own (fs := tripleT k ls) (by repeat (first | exact mem_here | apply mem_next | apply mem_past)) hg rfl) (whist_ent k ls) (whist_calls k _ ls h w' (hv.rd.same hg.fr)))))
    rw [tripleT_all]
    repeat (first | refine vw_ret ?_)
    exact out_bc rfl rfl rfl rfl (by rw [tripleR, if_pos h, Int.toNat_natCast])

open Classical in
set_option maxHeartbeats 1000000 in
set_option maxRecDepth 100000 in
theorem c_l06Whist (k : Nat) (v : Value) (ls : List (List Int)) (hE : IsEv k ls) (w : World) (hv : RdII w v ls) :
    Calls Try.prog 164 [.agg #[.int .i64 k, v]].toArray w (Res w (Is (.bool (decide (Whist k ls))))) := by
  obtain ⟨a, cap, rfl⟩ := hv.len
  have hk4 := hE.1
  have hk16 := hE.2.1
  have h20 := hE.2.2.1
  refine calls_of_vw Try.func164 rfl Try.ntmps164 (by simp) ?_
  refine vw_seq (vw_region (by kernel_rfl) (vops_box [.int .i64 k, .slice a ls.length cap] rfl (fun b1 hb1 => ?_)))
  by_cases hs : (k : Int) % 4 ≤ 1 ∧ (ls.length : Int) = (k : Int) - 1 + (k : Int) % 4
  rotate_left
  · repeat' (first | refine vops_q tyOk rfl ?_ | refine vops_nil ?_ | refine vw_seq ?_ | refine vw_region (by kernel_rfl) ?_ | refine vops_guardF rfl rfl ?_ | with_reducible refine bs_true ?_ | with_reducible refine bs_false ?_ | refine vops_p tyOk rfl (by (try simp only [inR]); omega) ?_ | refine vw_cond rfl ?_ | refine vw_ret ?_ | (with_reducible refine bs_dec (fun _ => ?_) (fun _ => ?_)) <;> try (exfalso; omega) | (with_reducible refine bs_ndec (fun _ => ?_) (fun _ => ?_)) <;> try (exfalso; omega) | ((show VOps _ _ _ _ (⟨some _, Go.Op.load _ _, _, _, _, none⟩ :: _) _ _); refine vops_loadM tyOk rfl rfl rfl (by repeat (first | exact mem_here | apply mem_next | apply mem_past)) (by rfl) ?_))
    all_goals exact rv_bool rfl rfl (decide_eq_false fun hw => hs ⟨hw.1.1, hw.1.2.1⟩).symm
  repeat' (first | refine vops_q tyOk rfl ?_ | refine vops_nil ?_ | refine vw_seq ?_ | refine vw_region (by kernel_rfl) ?_ | refine vops_guardF rfl rfl ?_ | with_reducible refine bs_false ?_ | refine vops_p tyOk rfl (by (try simp only [inR]); omega) ?_ | refine vw_cond rfl ?_ | refine vw_skip ?_ | refine vw_block ?_ | (with_reducible refine bs_dec (fun _ => ?_) (fun _ => ?_)) <;> try (exfalso; omega) | (with_reducible refine bs_ndec (fun _ => ?_) (fun _ => ?_)) <;> try (exfalso; omega) | ((show VOps _ _ _ _ (⟨some _, Go.Op.load _ _, _, _, _, none⟩ :: _) _ _); refine vops_loadM tyOk rfl rfl rfl (by repeat (first | exact mem_here | apply mem_next | apply mem_past)) (by rfl) ?_))
  all_goals first | (exfalso; omega) | skip
  refine vw_loop (fun y f own => ∃ i : Nat, i ≤ ls.length ∧ y = ls.length - i ∧ f 4 = .int .i64 i ∧ f 3 = .int .i64 k ∧ f 1 = .pointer (some ⟨b1, 0, none⟩) ∧ own = [(b1, ⟨[.int .i64 k, .slice a ls.length cap], 58, 2, none⟩)] ∧ ∀ j : Nat, j < i → ((ls.getD j []).length : Int) = k - k % 4) ls.length
    ⟨0, by omega, by omega, rfl, rfl, rfl, rfl, fun j hj => by omega⟩ ?_
  rintro y f own ⟨i, hi, rfl, h4, h3, h1, rfl, hall⟩
  rw [upd_of h4, upd_of h3, upd_of h1]
  repeat (first | refine vops_q tyOk rfl ?_ | refine vops_nil ?_ | refine vw_seq ?_ | refine vw_region (by kernel_rfl) ?_ | refine vw_cond rfl ?_ | ((show VOps _ _ _ _ (⟨some _, Go.Op.load _ _, _, _, _, none⟩ :: _) _ _); refine vops_loadM tyOk rfl rfl rfl (by repeat (first | exact mem_here | apply mem_next | apply mem_past)) (by rfl) ?_))
  refine bs_dec (fun hlt => ?_) (fun hlt => ?_)
  · have hil : i < ls.length := by omega
    obtain ⟨b, o, cap', u, cap2, he, hcu, hu⟩ := rdRow hv (i := i) hil
    cases he
    have hmem : ls.getD i [] ∈ ls := by rw [List.getD_eq_getElem?_getD, List.getElem?_eq_getElem hil]; exact List.getElem_mem _
    repeat (first | refine vops_q tyOk rfl ?_ | refine vops_nil ?_ | refine vw_seq ?_ | refine vw_region (by kernel_rfl) ?_ | refine vops_p tyOk rfl (by (try simp only [inR]); omega) ?_ | refine vw_cond rfl ?_ | refine vw_skip ?_ | refine vw_block ?_ | refine vops_load tyOk rfl rfl rfl (sees_old hcu (by simp)) ?_ | ((show VOps _ _ _ _ (⟨some _, Go.Op.load _ _, _, _, _, none⟩ :: _) _ _); refine vops_loadM tyOk rfl rfl rfl (by repeat (first | exact mem_here | apply mem_next | apply mem_past)) (by rfl) ?_))
    refine bs_ndec2 (fun hne => ?_) (fun heq => ?_)
    · repeat (first | refine vops_q tyOk rfl ?_ | refine vops_nil ?_ | refine vw_seq ?_ | refine vw_region (by kernel_rfl) ?_ | refine vw_ret ?_)
      exact rv_bool rfl rfl (decide_eq_false fun hw => hne (hw.1.2.2 _ hmem)).symm
    · repeat (first | refine vops_q tyOk rfl ?_ | refine vops_nil ?_ | refine vw_region (by kernel_rfl) ?_ | refine vops_p tyOk rfl (by (try simp only [inR]); omega) ?_ | refine vw_skip ?_)
      refine ⟨ls.length - (i + 1), by omega, i + 1, by omega, rfl, rfl, rfl, rfl, rfl, fun j hj => ?_⟩
      by_cases hji : j = i
      · subst hji; exact heq
      · exact hall j (by omega)
  · obtain rfl : i = ls.length := by omega
    have hW : WholeR k ls := ⟨hs.1, hs.2, fun r hr => by
      obtain ⟨j, hj⟩ := List.mem_iff_getElem?.1 hr
      have := hall j (List.getElem?_eq_some_iff.1 hj).1
      rwa [List.getD_eq_getElem?_getD, hj] at this⟩
    have hW2 : Whist k ls ↔ EachIs k [1] ls 1 ∧ EachIs k [2, 3] ls 2 := by
      unfold Whist
      rw [Int.toNat_natCast]
      exact ⟨fun h => h.2, fun h => ⟨hW, h⟩⟩
    rw [show decide (Whist k ls) = decide (EachIs k [1] ls 1 ∧ EachIs k [2, 3] ls 2) from decide_eq_decide.2 hW2]
    repeat' (first | refine vops_q tyOk rfl ?_ | refine vops_nil ?_ | refine vw_seq ?_ | refine vw_region (by kernel_rfl) ?_ | refine vops_guardT rfl rfl ?_ | with_reducible refine bs_true ?_ | with_reducible refine bs_false ?_ | refine vw_ret ?_ | refine vw_exit ?_ | (with_reducible refine bs_dec (fun _ => ?_) (fun _ => ?_)) <;> try (exfalso; omega) | refine vops_litI [_] tyOk rfl rfl (List.cons_ne_nil _ _) (by rfl) rfl (by omega) (by omega) (fun bt hbt => ?_) | refine vops_litI [_, _] tyOk rfl rfl (List.cons_ne_nil _ _) (by rfl) rfl (by omega) (by omega) (fun b1 hb1 => ?_) | (apply vops_call ent167 rfl; (intro w' hg; exact c_l06Table k _ _ ls [1] hE (by simp) (by simp) w' (hv.same hg.fr) (rdI_lit (l := [1]) (by repeat (first | exact mem_here | apply mem_next | apply mem_past)) hg rfl)); (rintro _ newN hN1)) | (apply vops_callp ent166 rfl; (intro w' hg; exact c_l06Each k _ [1] ls 1 (by omega) w' (hN1.rdG (by repeat (first | exact sub_hereL | exact sub_refl | apply sub_cons | apply sub_app)) hg))) | (apply vops_call ent167 rfl; (intro w' hg; exact c_l06Table k _ _ ls [2, 3] hE (by simp) (by simp) w' (hv.same hg.fr) (rdI_lit (l := [2, 3]) (by repeat (first | exact mem_here | apply mem_next | apply mem_past)) hg rfl)); (rintro _ newN hN2)) | (apply vops_callp ent166 rfl; (intro w' hg; exact c_l06Each k _ [2, 3] ls 2 (by omega) w' (hN2.rdG (by repeat (first | exact sub_hereL | exact sub_refl | apply sub_cons | apply sub_app)) hg))) | ((show VOps _ _ _ _ (⟨some _, Go.Op.load _ _, _, _, _, none⟩ :: _) _ _); refine vops_loadNM tyOk rfl rfl rfl (by repeat (first | exact mem_here | apply mem_next | apply mem_past)) (by first | rfl | (rw [ints_length]; first | assumption | omega | (rw [ints_length]; first | assumption | omega | simp [*])) | simp [*]) ?_))
    all_goals first | exact rv_bool rfl rfl (decide_eq_decide.2 ⟨fun h => ⟨by assumption, h⟩, fun h => h.2⟩) | exact rv_bool rfl rfl (decide_eq_false fun h => absurd h.1 (by assumption)).symm

open Classical in
theorem c_spec_IsWhist (m : Int) (v : Value) (ls : List (List Int)) (w : World) (hv : RdII w v ls) (hl : ls.length ≤ 1048576) (hll : ∀ l ∈ ls, l.length ≤ 1048576) :
    Calls Try.prog 60 [.agg #[.int .i64 m, v]].toArray w (Res w (Is (.tuple #[.bool (whistR m ls).1, .int .i64 (whistR m ls).2]))) := by
  obtain ⟨a, cap, rfl⟩ := hv.len
  refine calls_of_vw Try.func60 rfl Try.ntmps60 (by simp) ?_
  refine vw_seq (vw_region (by kernel_rfl) (vops_box [.int .i64 m, .slice a ls.length cap] rfl (fun b1 hb1 => ?_)))
  repeat (first | refine vops_q tyOk rfl ?_ | refine vops_nil ?_ | refine vw_seq ?_ | refine vw_region (by kernel_rfl) ?_ | refine vw_cond rfl ?_ | (apply vops_callp ent163 rfl; (intro w' hg; exact c_l06Is _ _ ls w' (hv.same hg.fr) hl hll)) | ((show VOps _ _ _ _ (⟨some _, Go.Op.load _ _, _, _, _, none⟩ :: _) _ _); refine vops_loadNM tyOk rfl rfl rfl (by repeat (first | exact mem_here | apply mem_next | apply mem_past)) (by first | rfl | (rw [ints_length]; first | assumption | omega | (rw [ints_length]; first | assumption | omega | simp [*])) | simp [*]) ?_))
  refine bs_ndec2 (fun h => ?_) (fun h => ?_)
  · repeat (first | refine vops_q tyOk rfl ?_ | refine vops_nil ?_ | refine vw_seq ?_ | refine vw_region (by kernel_rfl) ?_ | refine vw_ret ?_)
    exact out_bc rfl rfl rfl rfl (by rw [whistR, if_neg h])
  obtain ⟨k, rfl⟩ : ∃ k : Nat, m = (k : Int) := ⟨m.toNat, by have := h.1; omega⟩
  repeat (first | refine vops_q tyOk rfl ?_ | refine vops_nil ?_ | refine vw_seq ?_ | refine vw_region (by kernel_rfl) ?_ | refine vw_skip ?_ | refine vw_ret ?_ | (apply vops_callp ent164 rfl; (intro w' hg; exact c_l06Whist k _ ls h w' (hv.same hg.fr))) | ((show VOps _ _ _ _ (⟨some _, Go.Op.load _ _, _, _, _, none⟩ :: _) _ _); refine vops_loadNM tyOk rfl rfl rfl (by repeat (first | exact mem_here | apply mem_next | apply mem_past)) (by first | rfl | (rw [ints_length]; first | assumption | omega | (rw [ints_length]; first | assumption | omega | simp [*])) | simp [*]) ?_))
  exact out_bc rfl rfl rfl rfl (by rw [whistR, if_pos h])
open Classical in
set_option maxHeartbeats 1000000 in
theorem c_spec_IsTriple (m : Int) (v : Value) (ls : List (List Int)) (w : World) (hv : RdII w v ls) (hl : ls.length ≤ 1048576) (hll : ∀ l ∈ ls, l.length ≤ 1048576) :
    Calls Try.prog 62 [.agg #[.int .i64 m, v]].toArray w (Res w (Is (.tuple #[.bool (tripleR m ls).1, .int .i64 (tripleR m ls).2]))) := by
  obtain ⟨a, cap, rfl⟩ := hv.len
  refine calls_of_vw Try.func62 rfl Try.ntmps62 (by simp) ?_
  refine vw_seq (vw_region (by kernel_rfl) (vops_box [.int .i64 m, .slice a ls.length cap] rfl (fun b1 hb1 => ?_)))
  repeat (first | refine vops_q tyOk rfl ?_ | refine vops_nil ?_ | refine vw_seq ?_ | refine vw_region (by kernel_rfl) ?_ | refine vw_cond rfl ?_ | (apply vops_callp ent163 rfl; (intro w' hg; exact c_l06Is _ _ ls w' (hv.same hg.fr) hl hll)) | ((show VOps _ _ _ _ (⟨some _, Go.Op.load _ _, _, _, _, none⟩ :: _) _ _); refine vops_loadNM tyOk rfl rfl rfl (by repeat (first | exact mem_here | apply mem_next | apply mem_past)) (by first | rfl | (rw [ints_length]; first | assumption | omega | (rw [ints_length]; first | assumption | omega | simp [*])) | simp [*]) ?_))
  refine bs_ndec2 (fun h => ?_) (fun h => ?_)
  · repeat (first | refine vops_q tyOk rfl ?_ | refine vops_nil ?_ | refine vw_seq ?_ | refine vw_region (by kernel_rfl) ?_ | refine vw_ret ?_)
    exact out_bc rfl rfl rfl rfl (by rw [tripleR, if_neg h])
  obtain ⟨k, rfl⟩ : ∃ k : Nat, m = (k : Int) := ⟨m.toNat, by have := h.1; omega⟩
  have hk16 := h.2.1
  have hT : tripleR k ls = (decide (Whist k ls ∧ EachIs k [2] ls 1), 0) := by rw [tripleR, if_pos h, Int.toNat_natCast]
  rw [hT]
  repeat' (first | refine vops_q tyOk rfl ?_ | refine vops_nil ?_ | refine vw_seq ?_ | refine vw_region (by kernel_rfl) ?_ | refine vops_guardT rfl rfl ?_ | with_reducible refine bs_true ?_ | with_reducible refine bs_false ?_ | refine vw_skip ?_ | refine vw_ret ?_ | (with_reducible refine bs_dec (fun _ => ?_) (fun _ => ?_)) <;> try (exfalso; omega) | (apply vops_callp ent164 rfl; (intro w' hg; exact c_l06Whist k _ ls h w' (hv.same hg.fr))) | refine vops_litI [_] tyOk rfl rfl (List.cons_ne_nil _ _) (by rfl) rfl (by omega) (by omega) (fun bt hbt => ?_) | (apply vops_call ent167 rfl; (intro w' hg; exact c_l06Table k _ _ ls [2] h (by simp) (by simp) w' (hv.same hg.fr) (rdI_lit (l := [2]) (by repeat (first | exact mem_here | apply mem_next | apply mem_past)) hg rfl)); (rintro _ newN hN1)) | (apply vops_callp ent166 rfl; (intro w' hg; exact c_l06Each k _ [2] ls 1 (by omega) w' (hN1.rdG (by repeat (first | exact sub_hereL | exact sub_refl | apply sub_cons | apply sub_app)) hg))) | ((show VOps _ _ _ _ (⟨some _, Go.Op.load _ _, _, _, _, none⟩ :: _) _ _); refine vops_loadNM tyOk rfl rfl rfl (by repeat (first | exact mem_here | apply mem_next | apply mem_past)) (by first | rfl | (rw [ints_length]; first | assumption | omega | (rw [ints_length]; first | assumption | omega | simp [*])) | simp [*]) ?_))
  all_goals first | exact out_bc rfl rfl rfl (decide_eq_decide.2 ⟨fun h => ⟨by assumption, h⟩, fun h => h.2⟩) rfl | exact out_bc rfl rfl rfl (decide_eq_false fun h => absurd h.1 (by assumption)).symm rfl
end Go.Proofs.Ytdgaabkgfbihpaa

