import Derived.Test.YtlfflmoegfibgaaTA1
import Derived.Test.YtlfflmoegfibgaaSY
import Derived.Test.YtlfflmoegfibgaaVLClo
import Derived.Test.YtlfflmoegfibgaaVLA
/- A part of the proof: TA2. No conditions of its own. -/
namespace Go.Proofs.Ytlfflmoegfibgaa
open Go.VL
attribute [local irreducible] VWr VOps VD Calls

/-- How many pairs rounds have. -/
def gamesN (k : Nat) : List (List Int) → Nat
  | [] => 0
  | r :: rs => (pairsTo r k).length + gamesN k rs
theorem gamesN_snoc (k : Nat) : ∀ (rs : List (List Int)) (r : List Int), gamesN k (rs ++ [r]) = gamesN k rs + (pairsTo r k).length
  | [], r => by simp [gamesN]
  | x :: rs, r => by simp only [List.cons_append, gamesN, gamesN_snoc k rs r]; omega
theorem gamesN_le (k : Nat) : ∀ (rs : List (List Int)), gamesN k rs ≤ k * rs.length
  | [] => by simp [gamesN]
  | x :: rs => by
    have h1 := gamesN_le k rs
    have h2 := pairsTo_le x k
    simp only [gamesN, List.length_cons, Nat.mul_add, Nat.mul_one]; omega

set_option maxHeartbeats 2000000 in
set_option maxRecDepth 100000 in
theorem c_countGames (k : Nat) (v : Value) (rs : List (List Int)) (w : World) (hv : RdS w v rs) (hr : ∀ r ∈ rs, r.length = 14) (hk : k ≤ 14) (hl : rs.length ≤ 1048576) :
    Calls Try.prog 140 [.agg #[.int .i64 k, v]].toArray w (Res w (Is (.int .i64 (gamesN k rs : Nat)))) := by
  obtain ⟨a, cap, rfl⟩ := hv.len
  refine calls_of_vw Try.func140 rfl Try.ntmps140 (by simp) ?_
  refine vw_seq (vw_region (by kernel_rfl) (vops_box [.int .i64 k, .slice a rs.length cap] rfl (fun b1 hb1 => ?_)))
  repeat (first | refine vops_q tyOk rfl ?_ | refine vops_nil ?_ | refine vw_seq ?_ | refine vw_region (by kernel_rfl) ?_ | refine vw_block ?_ | refine vops_allocZ [.int .i64 0] tyOk rfl rfl (by simp) (fun b3 hb3 => ?_) | ((show VOps _ _ _ _ (⟨some _, Go.Op.load _ _, _, _, _, none⟩ :: _) _ _); refine vops_loadM tyOk rfl rfl rfl (by repeat (first | exact mem_here | apply mem_next | apply mem_past)) (by rfl) ?_))
  refine vw_loopW (fun m f own => ∃ i : Nat, i ≤ rs.length ∧ m = rs.length - i ∧ f 9 = .int .i64 i ∧ f 8 = .int .i64 rs.length ∧ f 7 = .slice a rs.length cap ∧ f 1 = .pointer (some ⟨b1, 0, none⟩) ∧ f 3 = .pointer (some ⟨b3, 0, none⟩) ∧
      own = [(b3, ⟨[.int .i64 (gamesN k (rs.take i) : Nat)], 2, 1, none⟩), (b1, ⟨[.int .i64 k, .slice a rs.length cap], 32, 2, none⟩)]) rs.length
    ⟨_, ole_refl, 0, by omega, by omega, rfl, rfl, rfl, rfl, rfl, by rfl⟩ ?_
  rintro m f own ⟨i, hi, rfl, h9, h8, h7, h1, h3, rfl⟩
  rw [upd_of h9, upd_of h8, upd_of h7, upd_of h1, upd_of h3]
  repeat (first | refine vops_q tyOk rfl ?_ | refine vops_nil ?_ | refine vw_seq ?_ | refine vw_region (by kernel_rfl) ?_ | refine vw_cond rfl ?_)
  refine bs_dec (fun hlt => ?_) (fun hlt => ?_)
  · obtain ⟨r, hri⟩ : ∃ r, rs[i]? = some r := ⟨_, List.getElem?_eq_getElem (by omega)⟩
    have hrl := hr r (List.mem_of_getElem? hri)
    obtain ⟨b2, o2, cap3, he, hrow⟩ := hv.row hr hri
    cases he
    have hP := pairsTo_le r k
    have hG := gamesN_le k (rs.take i)
    have hG2 : k * (rs.take i).length ≤ 14 * 1048576 := Nat.mul_le_mul hk (by rw [List.length_take]; omega)
    obtain ⟨G, hGd⟩ : ∃ G, G = gamesN k (rs.take i) := ⟨_, rfl⟩
    have hst : gamesN k (rs.take (i + 1)) = G + (pairsTo r k).length := by rw [List.take_add_one, hri, hGd]; exact gamesN_snoc k _ _
    rw [← hGd] at hG ⊢
    repeat (first | refine vops_q tyOk rfl ?_ | refine vops_nil ?_ | refine vw_seq ?_ | refine vw_region (by kernel_rfl) ?_ | refine vops_p tyOk rfl (by (try simp only [inR]); omega) ?_ | refine vw_skip ?_ | refine vw_block ?_ | refine vops_loadN tyOk (ints r) rfl rfl rfl (by rw [ints_length, hrl]) (fun j x hx => sees_old (hrow j x hx) (by simp)) ?_ | refine vops_allocZ (ints (List.replicate 14 0)) tyOk rfl rfl (by simp [ints]) (fun b5 hb5 => ?_) | refine vops_storeAM tyOk rfl rfl rfl (by rw [ints_length, hrl]) ints_one (by repeat (first | exact upd_here | apply upd_next | apply upd_past)) (by simp [ints, hrl]) ?_ | (apply vops_call ent145 rfl; (intro w' hg; exact c_pairsIn k r w'); (rintro _ newN ⟨c2, c4, rfl, rfl, hne⟩)) | refine vops_loadNM tyOk rfl rfl rfl (by repeat (first | exact mem_here | apply mem_next | apply mem_past)) (by rw [ints_length]; exact hrl) ?_ | ((show VOps _ _ _ _ (⟨some _, Go.Op.load _ _, _, _, _, none⟩ :: _) _ _); refine vops_loadM tyOk rfl rfl rfl (by repeat (first | exact mem_here | apply mem_next | apply mem_past)) (by rfl) ?_))
    refine vw_rangeFunc (ts := [17, 18]) (own0 := [(b5, ⟨ints r, 50, 14, none⟩), (b3, ⟨[.int .i64 (G : Nat)], 2, 1, none⟩), (b1, ⟨[.int .i64 k, .slice (some ⟨b2, o2, none⟩) rs.length cap], 32, 2, none⟩)]) (cap := PairsCap k r c2 c4) rfl ent175 (it_pairs k r (by omega) (by omega) hrl c2 c4) (by exact List.perm_append_comm) (by simp) (fun x hx => by
        obtain ⟨q, hq, rfl⟩ := List.mem_map.1 hx
        rw [ints_length, pairsTo_pair hq]; rfl)
      (fun q own => own = [(b5, ⟨ints r, 50, 14, none⟩), (b3, ⟨[.int .i64 ((G + q : Nat) : Int)], 2, 1, none⟩), (b1, ⟨[.int .i64 k, .slice (some ⟨b2, o2, none⟩) rs.length cap], 32, 2, none⟩)])
      (fun _ _ => False) rfl ?_ ?_ (fun c o h => h.elim)
    · rintro l q x ownc w1 hx rfl hg1
      have hq : q < (pairsTo r k).length := by
        have := (List.getElem?_eq_some_iff.1 hx).1
        simpa [pairVals] using this
      unfold pairVals at hx
      rw [List.getElem?_map] at hx
      obtain ⟨p, hp, rfl⟩ := Option.map_eq_some_iff.1 hx
      obtain ⟨a', ha', hlt', rfl⟩ := mem_pairs (List.mem_of_getElem? hp)
      simp only [ints, List.map_cons, List.map_nil, updL]
      repeat (first | refine vw_skip ?_)
      intro w2 hg2
      repeat (first | refine vops_nil ?_ | refine vw_region (by kernel_rfl) ?_ | refine vops_p tyOk rfl (by (try simp only [inR]); omega) ?_ | refine vw_block ?_ | ((show VOps _ _ _ _ (⟨some _, Go.Op.load _ _, _, _, _, none⟩ :: _) _ _); refine vops_loadM tyOk rfl rfl rfl (by repeat (first | exact mem_here | apply mem_next | apply mem_past)) (by rfl) ?_) | ((show VOps _ _ _ _ (⟨none, Go.Op.store _ _ _, _, _, _, none⟩ :: _) _ _); refine vops_storeM tyOk rfl rfl rfl rfl rfl (by repeat (first | exact upd_here | apply upd_next | apply upd_past)) (by simp) ?_))
      exact ⟨_, ole_refl, by rw [show ((G + q : Nat) : Int) + 1 = ((G + (q + 1) : Nat) : Int) by omega]; rfl⟩
    · rintro own' rfl
      have hlv : (pairVals k r).length = (pairsTo r k).length := by simp [pairVals]
      rw [hlv]
      repeat (first | refine vops_q tyOk rfl ?_ | refine vops_nil ?_ | refine vw_region (by kernel_rfl) ?_ | refine vops_p tyOk rfl (by (try simp only [inR]); omega) ?_)
      exact ⟨rs.length - (i + 1), by omega, [(b3, ⟨[.int .i64 ((G + (pairsTo r k).length : Nat) : Int)], 2, 1, none⟩), (b1, ⟨[.int .i64 k, .slice (some ⟨b2, o2, none⟩) rs.length cap], 32, 2, none⟩)], (by repeat (first | exact ole_nil | exact ole_refl | (apply ole_cons; (repeat (first | exact pm1_here | apply pm1_next | apply pm1_past))) | (apply ole_app; (repeat (first | exact pm_here | exact pm_last | apply pm_next | apply pm_past))))), i + 1, by omega, rfl, rfl, rfl, rfl, rfl, rfl, by rw [hst]⟩
  · obtain rfl : i = rs.length := by omega
    rw [List.take_length]
    repeat (first | refine vops_q tyOk rfl ?_ | refine vops_nil ?_ | refine vw_seq ?_ | refine vw_region (by kernel_rfl) ?_ | refine vw_ret ?_ | refine vw_exit ?_ | ((show VOps _ _ _ _ (⟨some _, Go.Op.load _ _, _, _, _, none⟩ :: _) _ _); refine vops_loadM tyOk rfl rfl rfl (by repeat (first | exact mem_here | apply mem_next | apply mem_past)) (by rfl) ?_))
    exact rv_int rfl rfl rfl

/-- Whether one of the numbers is of a kind: its place is told, or -1. -/
def FoundP (p : Int → Bool) (l : List Int) (v : Value) (new : Own) : Prop := new = [] ∧ ∃ z : Int, v = .int .i64 z ∧ (0 ≤ z ↔ l.any p = true)
set_option maxRecDepth 100000 in
theorem c_indexFunc (g : Nat) (p : Int → Bool) (he : Ent Try.prog g) (hc : ∀ x w, Calls Try.prog g [.int .i64 x].toArray w (Res w (Is (.bool (p x))))) (v : Value) (l : List Int) (w : World) (hv : RdI w v l) (hl : l.length ≤ 1048576) :
    Calls Try.prog 170 [v, .func (.func g) #[] #[]].toArray w (Res w (FoundP p l)) := by
  obtain ⟨a, cap, rfl⟩ := hv.len
  refine calls_of_vw Try.func170 rfl Try.ntmps170 (by simp) ?_
  repeat (first | refine vops_q tyOk rfl ?_ | refine vops_nil ?_ | refine vw_seq ?_ | refine vw_region (by kernel_rfl) ?_ | refine vw_block ?_)
  refine vw_loop (fun m f own => ∃ i : Nat, i ≤ l.length ∧ m = l.length - i ∧ f 8 = .int .i64 i ∧ f 7 = .int .i64 l.length ∧ f 0 = .slice a l.length cap ∧ f 1 = .func (.func g) #[] #[] ∧ own = [] ∧ ∀ j : Nat, j < i → p (l.getD j 0) = false) l.length
    ⟨0, by omega, by omega, rfl, rfl, rfl, rfl, rfl, fun j hj => by omega⟩ ?_
  rintro m f own ⟨i, hi, rfl, h8, h7, h0, h1, rfl, hall⟩
  rw [upd_of h8, upd_of h7, upd_of h0, upd_of h1]
  repeat (first | refine vops_q tyOk rfl ?_ | refine vops_nil ?_ | refine vw_seq ?_ | refine vw_region (by kernel_rfl) ?_ | refine vw_cond rfl ?_)
  refine bs_dec (fun hlt => ?_) (fun hlt => ?_)
  · have hil : i < l.length := by omega
    obtain ⟨b3, o3, cap4, he', hcell⟩ := hv.at (i := i) hil
    cases he'
    have hcx := hcell i hil
    repeat (first | refine vops_q tyOk rfl ?_ | refine vops_nil ?_ | refine vw_seq ?_ | refine vw_region (by kernel_rfl) ?_ | refine vops_p tyOk rfl (by (try simp only [inR]); omega) ?_ | refine vw_cond rfl ?_ | refine vw_skip ?_ | refine vw_block ?_ | refine vops_load tyOk rfl rfl rfl (sees_old hcx (by simp)) ?_ | refine vops_callVp (lb := []) he rfl rfl (fun w' _ => hc _ w') ?_)
    refine bs_any (fun hp => ?_) (fun hp => ?_)
    · repeat (first | refine vops_q tyOk rfl ?_ | refine vops_nil ?_ | refine vw_seq ?_ | refine vw_region (by kernel_rfl) ?_ | refine vw_ret ?_)
      refine out1 (new := []) rfl rfl List.nodup_nil (fun _ h => h) ⟨rfl, _, rfl, fun _ => List.any_eq_true.2 ⟨_, mem_getD hil, hp⟩, fun _ => by omega⟩
    · repeat (first | refine vops_q tyOk rfl ?_ | refine vops_nil ?_ | refine vw_region (by kernel_rfl) ?_ | refine vops_p tyOk rfl (by (try simp only [inR]); omega) ?_ | refine vw_skip ?_)
      refine ⟨l.length - (i + 1), by omega, i + 1, by omega, rfl, rfl, rfl, rfl, rfl, rfl, fun j hj => ?_⟩
      by_cases hji : j = i
      · subst hji; exact hp
      · exact hall j (by omega)
  · repeat (first | refine vops_q tyOk rfl ?_ | refine vops_nil ?_ | refine vw_seq ?_ | refine vw_region (by kernel_rfl) ?_ | refine vw_ret ?_ | refine vw_exit ?_)
    refine out1 (new := []) rfl rfl List.nodup_nil (fun _ h => h) ⟨rfl, _, rfl, fun h => by omega, fun h => ?_⟩
    obtain ⟨x, hx, hp⟩ := List.any_eq_true.1 h
    obtain ⟨q, hq, rfl⟩ := mem_getD' hx
    rw [hall q (by omega)] at hp; cases hp
theorem c_containsFunc (g : Nat) (p : Int → Bool) (he : Ent Try.prog g) (hc : ∀ x w, Calls Try.prog g [.int .i64 x].toArray w (Res w (Is (.bool (p x))))) (v : Value) (l : List Int) (w : World) (hv : RdI w v l) (hl : l.length ≤ 1048576) :
    Calls Try.prog 141 [v, .func (.func g) #[] #[]].toArray w (Res w (Is (.bool (l.any p)))) := by
  obtain ⟨a, cap, rfl⟩ := hv.len
  refine calls_of_vw Try.func141 rfl Try.ntmps141 (by simp) ?_
  repeat (first | refine vops_q tyOk rfl ?_ | refine vops_nil ?_ | refine vw_seq ?_ | refine vw_region (by kernel_rfl) ?_ | refine vw_ret ?_ | (apply vops_call ent170 rfl; (intro w' hg; exact c_indexFunc g p he hc _ l w' (hv.same hg.fr) hl); (rintro _ newN ⟨rfl, z, rfl, hz⟩)))
  exact rv_bool rfl rfl (by
    by_cases h : l.any p = true
    · rw [h]; exact decide_eq_true (hz.2 h)
    · rw [Bool.not_eq_true] at h; rw [h]; exact decide_eq_false fun h2 => by rw [hz.1 h2] at h; cases h)
/-- No result is such a number. -/
def noRes (x : Int) : Bool := decide (x < 0 ∨ 2 < x)
theorem c_isNoResult (x : Int) (w : World) : Calls Try.prog 142 [.int .i64 x].toArray w (Res w (Is (.bool (noRes x)))) := by
  refine calls_of_vw Try.func142 rfl Try.ntmps142 (by simp) ?_
  repeat' (first | refine vops_q tyOk rfl ?_ | refine vops_nil ?_ | refine vw_seq ?_ | refine vw_region (by kernel_rfl) ?_ | refine vops_guardF rfl rfl ?_ | with_reducible refine bs_true ?_ | with_reducible refine bs_false ?_ | refine vw_ret ?_ | (with_reducible refine bs_dec (fun _ => ?_) (fun _ => ?_)) <;> try (exfalso; omega))
  all_goals (refine rv_bool rfl rfl ?_; unfold noRes; simp; omega)
theorem noRes_any {l : List Int} : l.any noRes = false ↔ ∀ x ∈ l, 0 ≤ x ∧ x ≤ 2 := by
  rw [List.any_eq_false]
  constructor
  · intro h x hx
    have := h x hx
    simp only [noRes, decide_eq_true_eq] at this; omega
  · intro h x hx
    have := h x hx
    simp only [noRes, decide_eq_true_eq]; omega

open Classical in
set_option maxHeartbeats 2000000 in
set_option maxRecDepth 100000 in
theorem c_areResults (k : Nat) (v u : Value) (rs xs : List (List Int)) (hS : IsSch k rs) (w : World) (hv : RdS w v rs) (hu : RdII w u xs) (hr : ∀ r ∈ rs, r.length = 14) (hl2 : xs.length ≤ 1048576) (hll : ∀ l ∈ xs, l.length ≤ 1048576) (hcap : ∀ a m c, v = .slice a m c → m ≤ c) :
    Calls Try.prog 76 [.agg #[.int .i64 k, v], u].toArray w (Res w (Is (.bool (decide (IsRs k rs xs))))) := by
  obtain ⟨a, cap, rfl⟩ := hv.len
  obtain ⟨a2, cap2, rfl⟩ := hu.len
  have hnc := hcap _ _ _ rfl
  have hk2 := hS.1
  have hk14 := hS.2.1
  have hl40 := hS.2.2.1
  refine calls_of_vw Try.func76 rfl Try.ntmps76 (by simp) ?_
  refine vw_seq (vw_region (by kernel_rfl) (vops_box [.int .i64 k, .slice a rs.length cap] rfl (fun b0 hb0 => ?_)))
  repeat (first | refine vops_q tyOk rfl ?_ | refine vops_nil ?_ | refine vw_seq ?_ | refine vw_region (by kernel_rfl) ?_ | refine vw_cond rfl ?_ | ((show VOps _ _ _ _ (⟨some _, Go.Op.load _ _, _, _, _, none⟩ :: _) _ _); refine vops_loadM tyOk rfl rfl rfl (by repeat (first | exact mem_here | apply mem_next | apply mem_past)) (by rfl) ?_))
  refine bs_dec (fun hle => ?_) (fun hle => ?_)
  · repeat (first | refine vops_q tyOk rfl ?_ | refine vops_nil ?_ | refine vw_seq ?_ | refine vw_region (by kernel_rfl) ?_ | refine vw_ret ?_)
    exact rv_bool rfl rfl (decide_eq_false fun h => by have := h.1; omega).symm
  repeat (first | refine vops_q tyOk rfl ?_ | refine vops_nil ?_ | refine vw_seq ?_ | refine vw_region (by kernel_rfl) ?_ | refine vw_skip ?_ | refine vw_block ?_)
  refine vw_loopW (fun m f own => ∃ i : Nat, i ≤ xs.length ∧ m = xs.length - i ∧ f 16 = .int .i64 i ∧ f 15 = .int .i64 xs.length ∧ f 14 = .slice a2 xs.length cap2 ∧ f 2 = .pointer (some ⟨b0, 0, none⟩) ∧ own = [(b0, ⟨[.int .i64 k, .slice a rs.length cap], 32, 2, none⟩)] ∧ ∀ (j : Nat) (r l : List Int), j < i → rs[j]? = some r → xs[j]? = some l → RowR k r l) xs.length
    ⟨_, ole_refl, 0, by omega, by omega, rfl, rfl, rfl, rfl, rfl, fun j r l hj => by omega⟩ ?_
  rintro m f own ⟨i, hi, rfl, h16, h15, h14, h2, rfl, hall⟩
  rw [upd_of h16, upd_of h15, upd_of h14, upd_of h2]
  repeat (first | refine vops_q tyOk rfl ?_ | refine vops_nil ?_ | refine vw_seq ?_ | refine vw_region (by kernel_rfl) ?_ | refine vw_cond rfl ?_)
  refine bs_dec (fun hlt => ?_) (fun hlt => ?_)
  · obtain ⟨r, hri⟩ : ∃ r, rs[i]? = some r := ⟨_, List.getElem?_eq_getElem (by omega)⟩
    obtain ⟨l, hli⟩ : ∃ l, xs[i]? = some l := ⟨_, List.getElem?_eq_getElem (by omega)⟩
    have hl1 := hll l (List.mem_of_getElem? hli)
    obtain ⟨b', o, cap', x, he, hcu, hx⟩ := hu.at hli
    cases he
    obtain ⟨ax, capx, rfl⟩ := hx.len
    have hP := pairsTo_le r k
    have hone : (rs.take (i + 1)).drop i = [r] := by
      rw [List.take_add_one, hri, List.drop_append_of_le_length (by rw [List.length_take]; omega)]
      rw [List.drop_eq_nil_of_le (by rw [List.length_take]; omega)]; rfl
    have hpart : ∀ w', Fr [] w w' → RdS w' (sliced a i (i + 1) cap 14) [r] := fun w' hf => by
      have := RdS.part (k := 14) (l := i) (u := i + 1) (hv.same hf) hr rfl (by omega) (by omega) hnc
      rwa [hone] at this
    have hg1 : gamesN k [r] = (pairsTo r k).length := by simp [gamesN]
    have hr1 : ∀ q ∈ [r], q.length = 14 := fun q hq => by rw [List.mem_singleton.1 hq]; exact hr r (List.mem_of_getElem? hri)
    repeat (first | refine vops_q tyOk rfl ?_ | refine vops_nil ?_ | refine vw_seq ?_ | refine vw_region (by kernel_rfl) ?_ | refine vops_p tyOk rfl (by (try simp only [inR]); omega) ?_ | refine vw_skip ?_ | refine vw_block ?_ | refine vops_load tyOk rfl rfl rfl (sees_old hcu (by simp)) ?_)
    refine vw_draw [0, 1, 2, 3, 4, 5, 6, 7, 8, 9, 10] (by kernel_rfl) (by kernel_rfl) (by kernel_rfl) rfl ?_
    repeat' (first | refine vd_q tyOk rfl (by first | trivial | rfl) rfl (by kernel_rfl) (by kernel_rfl) ?_ | refine vd_p tyOk rfl (by first | trivial | rfl) rfl (by kernel_rfl) (by kernel_rfl) (by (try simp only [inR]); omega) ?_ | refine vops_nil ?_ | refine vd_nil (by kernel_rfl) ?_ | refine ⟨fun _ _ _ h => h, ?_⟩ | refine vd_load tyOk rfl (by first | trivial | rfl) rfl rfl rfl (by kernel_rfl) (by kernel_rfl) (by kernel_rfl) (sees_mem (by repeat (first | exact mem_here | apply mem_next | apply mem_past)) (by rfl)) (by repeat (first | exact sub_hereL | exact sub_refl | apply sub_cons | apply sub_app)) ?_ | refine vd_build2 rfl (by first | trivial | rfl) rfl rfl (by kernel_rfl) (by kernel_rfl) (by kernel_rfl) ?_ | refine vd_slice tyOk rfl (by first | trivial | rfl) rfl rfl rfl rfl rfl (by kernel_rfl) (by kernel_rfl) (by omega) ?_ | (apply vops_callp ent140 rfl; (intro w' hg; exact c_countGames k _ [r] w' (hpart w' hg.fr) hr1 (by omega) (by simp))) | refine vd_one rfl (by kernel_rfl) (by kernel_rfl) rfl ?_)
    rw [hg1]
    repeat (first | refine vops_q tyOk rfl ?_ | refine vw_seq ?_ | refine vw_region (by kernel_rfl) ?_ | refine vops_guardF rfl rfl ?_)
    refine bs_ndec2 (fun h6 => ?_) (fun h6 => ?_)
    · repeat (first | refine vops_q tyOk rfl ?_ | refine vops_nil ?_ | refine vw_seq ?_ | refine vw_region (by kernel_rfl) ?_ | refine vops_guardF rfl rfl ?_ | with_reducible refine bs_true ?_ | refine vw_cond rfl ?_ | refine vw_ret ?_)
      exact rv_bool rfl rfl (decide_eq_false fun h => h6 (by have := (h.2 i r l hri hli).1; rw [Int.toNat_natCast] at this; omega)).symm
    repeat (first | refine vops_q tyOk rfl ?_ | refine vops_nil ?_ | refine vops_guardF rfl rfl ?_ | with_reducible refine bs_false ?_ | refine vw_cond rfl ?_ | (apply vops_callp ent141 rfl; (intro w' hg; exact c_containsFunc 142 noRes ent142 c_isNoResult _ l w' (hx.same hg.fr) hl1)))
    refine bs_any (fun h7 => ?_) (fun h7 => ?_)
    · repeat (first | refine vops_q tyOk rfl ?_ | refine vops_nil ?_ | refine vw_seq ?_ | refine vw_region (by kernel_rfl) ?_ | refine vw_ret ?_)
      exact rv_bool rfl rfl (decide_eq_false fun h => by rw [noRes_any.2 (h.2 i r l hri hli).2] at h7; cases h7).symm
    repeat (first | refine vops_q tyOk rfl ?_ | refine vops_nil ?_ | refine vw_region (by kernel_rfl) ?_ | refine vops_p tyOk rfl (by (try simp only [inR]); omega) ?_ | refine vw_skip ?_)
    refine ⟨xs.length - (i + 1), by omega, _, ole_refl, i + 1, by omega, rfl, rfl, rfl, rfl, rfl, rfl, fun j2 r' l' hj2 hj3 hj4 => ?_⟩
    by_cases hji : j2 = i
    · subst hji
      obtain rfl : l = l' := Option.some.inj (hli.symm.trans hj4)
      obtain rfl : r = r' := Option.some.inj (hri.symm.trans hj3)
      exact ⟨by rw [Int.toNat_natCast]; omega, noRes_any.1 h7⟩
    · exact hall j2 r' l' (by omega) hj3 hj4
  · repeat (first | refine vops_q tyOk rfl ?_ | refine vops_nil ?_ | refine vw_seq ?_ | refine vw_region (by kernel_rfl) ?_ | refine vw_ret ?_ | refine vw_exit ?_)
    exact rv_bool rfl rfl (decide_eq_true ⟨by omega, fun j r l hj hj2 => hall j r l (by have := (List.getElem?_eq_some_iff.1 hj2).1; omega) hj hj2⟩).symm

open Classical in
theorem c_impl_AreResults (n : Int) (v u : Value) (rs xs : List (List Int)) (w : World) (hv : RdS w v rs) (hu : RdII w u xs) (hr : ∀ r ∈ rs, r.length = 14) (hl : rs.length ≤ 1048576) (hl2 : xs.length ≤ 1048576) (hll : ∀ l ∈ xs, l.length ≤ 1048576) (hcap : ∀ a m c, v = .slice a m c → m ≤ c) :
    Calls Try.prog 19 [.agg #[.int .i64 n, v], u].toArray w (Res w (Is (.tuple #[.bool (areRs n rs xs).1, .int .i64 (areRs n rs xs).2]))) := by
  obtain ⟨a, cap, rfl⟩ := hv.len
  obtain ⟨a2, cap2, rfl⟩ := hu.len
  refine calls_of_vw Try.func19 rfl Try.ntmps19 (by simp) ?_
  refine vw_seq (vw_region (by kernel_rfl) (vops_box [.int .i64 n, .slice a rs.length cap] rfl (fun b0 hb0 => ?_)))
  repeat (first | refine vops_q tyOk rfl ?_ | refine vops_nil ?_ | refine vw_seq ?_ | refine vw_region (by kernel_rfl) ?_ | refine vw_cond rfl ?_ | (apply vops_callp ent75 rfl; (intro w' hg; exact c_IsSchedule n _ rs w' (hv.same hg.fr) hr hl)) | ((show VOps _ _ _ _ (⟨some _, Go.Op.load _ _, _, _, _, none⟩ :: _) _ _); refine vops_loadNM tyOk rfl rfl rfl (by repeat (first | exact mem_here | apply mem_next | apply mem_past)) (by first | rfl | (rw [ints_length]; first | assumption | omega | (rw [ints_length]; first | assumption | omega | simp [*])) | simp [*]) ?_))
  refine bs_ndec2 (fun h => ?_) (fun h => ?_)
  · repeat (first | refine vops_q tyOk rfl ?_ | refine vops_nil ?_ | refine vw_seq ?_ | refine vw_region (by kernel_rfl) ?_ | refine vw_ret ?_)
    exact out_bv rfl rfl rfl rfl (by rw [areRs, if_neg h])
  have hn := h.1
  obtain ⟨k, rfl⟩ : ∃ k : Nat, n = (k : Int) := ⟨n.toNat, by omega⟩
  repeat (first | refine vops_q tyOk rfl ?_ | refine vops_nil ?_ | refine vw_seq ?_ | refine vw_region (by kernel_rfl) ?_ | refine vw_skip ?_ | refine vw_ret ?_ | (apply vops_callp ent76 rfl; (intro w' hg; exact c_areResults k _ _ rs xs h w' (hv.same hg.fr) (hu.same hg.fr) hr hl2 hll hcap)) | ((show VOps _ _ _ _ (⟨some _, Go.Op.load _ _, _, _, _, none⟩ :: _) _ _); refine vops_loadNM tyOk rfl rfl rfl (by repeat (first | exact mem_here | apply mem_next | apply mem_past)) (by first | rfl | (rw [ints_length]; first | assumption | omega | (rw [ints_length]; first | assumption | omega | simp [*])) | simp [*]) ?_))
  exact out_bv rfl rfl rfl rfl (by rw [areRs, if_pos h])
open Classical in
theorem c_codeOfResults (n : Int) (v u : Value) (rs xs : List (List Int)) (told : Prop) (w : World) (hv : RdS w v rs) (hu : RdII w u xs) (hr : ∀ r ∈ rs, r.length = 14) (hl : rs.length ≤ 1048576) (hl2 : xs.length ≤ 1048576) (hll : ∀ l ∈ xs, l.length ≤ 1048576) (hcap : ∀ a m c, v = .slice a m c → m ≤ c) :
    Calls Try.prog 80 [.agg #[.int .i64 n, v], u, .bool (decide told)].toArray w (Res w (Is (.int .i64 (rsC n rs xs told)))) := by
  obtain ⟨a, cap, rfl⟩ := hv.len
  obtain ⟨a2, cap2, rfl⟩ := hu.len
  refine calls_of_vw Try.func80 rfl Try.ntmps80 (by simp) ?_
  refine vw_seq (vw_region (by kernel_rfl) (vops_box [.int .i64 n, .slice a rs.length cap] rfl (fun b0 hb0 => ?_)))
  repeat (first | refine vops_q tyOk rfl ?_ | refine vops_nil ?_ | refine vw_seq ?_ | refine vw_region (by kernel_rfl) ?_ | refine vw_cond rfl ?_ | refine vw_block ?_ | (apply vops_callp ent75 rfl; (intro w' hg; exact c_IsSchedule n _ rs w' (hv.same hg.fr) hr hl)) | ((show VOps _ _ _ _ (⟨some _, Go.Op.load _ _, _, _, _, none⟩ :: _) _ _); refine vops_loadNM tyOk rfl rfl rfl (by repeat (first | exact mem_here | apply mem_next | apply mem_past)) (by first | rfl | (rw [ints_length]; first | assumption | omega | (rw [ints_length]; first | assumption | omega | simp [*])) | simp [*]) ?_))
  refine bs_ndec2 (fun h => ?_) (fun h => ?_)
  · repeat (first | refine vops_q tyOk rfl ?_ | refine vops_nil ?_ | refine vw_seq ?_ | refine vw_region (by kernel_rfl) ?_ | refine vw_ret ?_)
    exact rv_int rfl rfl (rsC_no h).symm
  have hn := h.1
  obtain ⟨k, rfl⟩ : ∃ k : Nat, n = (k : Int) := ⟨n.toNat, by omega⟩
  repeat (first | refine vops_q tyOk rfl ?_ | refine vw_seq ?_ | refine vw_region (by kernel_rfl) ?_ | refine vops_guardF rfl rfl ?_)
  refine bs_ndec2 (fun ht => ?_) (fun ht => ?_)
  · repeat (first | refine vops_q tyOk rfl ?_ | refine vops_nil ?_ | refine vw_seq ?_ | refine vw_region (by kernel_rfl) ?_ | refine vops_guardF rfl rfl ?_ | with_reducible refine bs_true ?_ | refine vw_cond rfl ?_ | refine vw_ret ?_)
    exact rv_int rfl rfl (rsC_two h fun hh => ht hh.1).symm
  repeat (first | refine vops_q tyOk rfl ?_ | refine vops_nil ?_ | refine vops_guardF rfl rfl ?_ | with_reducible refine bs_false ?_ | refine vw_cond rfl ?_ | (apply vops_callp ent76 rfl; (intro w' hg; exact c_areResults k _ _ rs xs h w' (hv.same hg.fr) (hu.same hg.fr) hr hl2 hll hcap)) | ((show VOps _ _ _ _ (⟨some _, Go.Op.load _ _, _, _, _, none⟩ :: _) _ _); refine vops_loadNM tyOk rfl rfl rfl (by repeat (first | exact mem_here | apply mem_next | apply mem_past)) (by first | rfl | (rw [ints_length]; first | assumption | omega | (rw [ints_length]; first | assumption | omega | simp [*])) | simp [*]) ?_))
  refine bs_ndec2 (fun hi => ?_) (fun hi => ?_)
  · repeat (first | refine vops_q tyOk rfl ?_ | refine vops_nil ?_ | refine vw_seq ?_ | refine vw_region (by kernel_rfl) ?_ | refine vw_ret ?_)
    exact rv_int rfl rfl (rsC_two h fun hh => hi hh.2).symm
  repeat (first | refine vops_q tyOk rfl ?_ | refine vops_nil ?_ | refine vw_seq ?_ | refine vw_region (by kernel_rfl) ?_ | refine vw_skip ?_ | refine vw_ret ?_)
  exact rv_int rfl rfl (rsC_ok h ht hi).symm
end Go.Proofs.Ytlfflmoegfibgaa
