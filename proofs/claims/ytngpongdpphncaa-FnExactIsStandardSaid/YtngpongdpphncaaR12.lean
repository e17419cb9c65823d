import Derived.Test.YtngpongdpphncaaR11
import Derived.Test.YtngpongdpphncaaVLArr
/- A part of the proof: R12. No conditions of its own. -/
namespace Go.Proofs.Ytngpongdpphncaa
open Go.VL
attribute [local irreducible] VWr VOps VD Calls

theorem getD_set (l : List Int) (i j : Nat) (x : Int) : (l.set i x).getD j 0 = if i = j ∧ i < l.length then x else l.getD j 0 := by
  rw [List.getD_eq_getElem?_getD, List.getElem?_set, List.getD_eq_getElem?_getD]
  by_cases h : i = j
  · subst h
    rw [if_pos rfl]
    by_cases h2 : i < l.length
    · rw [if_pos h2, if_pos ⟨rfl, h2⟩]; rfl
    · rw [if_neg h2, if_neg (fun e => h2 e.2), List.getElem?_eq_none (by omega)]
  · rw [if_neg h, if_neg (fun e => h e.1)]
theorem lay_get {r : List Int} (hr : r.length = 14) {a b : Int} (ha : 0 ≤ a ∧ a < 14) (hb : 0 ≤ b ∧ b < 14) (x : Nat) : (lay r [a, b]).getD x 0 = if (x : Int) = b then a else if (x : Int) = a then b else r.getD x 0 := by
  show ((r.set a.toNat b).set b.toNat a).getD x 0 = _
  rw [getD_set, getD_set, List.length_set]
  by_cases h1 : (x : Int) = b
  · rw [if_pos (by omega), if_pos h1]
  · rw [if_neg (by omega), if_neg h1]
    by_cases h2 : (x : Int) = a
    · rw [if_pos (by omega), if_pos h2]
    · rw [if_neg (by omega), if_neg h2]
theorem lay_rd {n : Int} {r : List Int} {a b : Int} (h : IsRd n r) (hr : r.length = 14) (ha : 0 ≤ a ∧ a < n) (hb : 0 ≤ b ∧ b < n) (hab : a ≠ b) (hc : canLay r [a, b]) : IsRd n (lay r [a, b]) := by
  obtain ⟨h2, h14, hall⟩ := h
  have hca : r.getD a.toNat 0 = a := hc.1
  have hcb : r.getD b.toNat 0 = b := hc.2
  refine ⟨h2, h14, fun x hx => ?_⟩
  have hg := lay_get hr (a := a) (b := b) (by omega) (by omega)
  obtain ⟨h0, h1⟩ := hall x hx
  refine ⟨fun hn => ?_, fun hn => ?_⟩
  · rw [hg, if_neg (by omega), if_neg (by omega)]; exact h0 hn
  · by_cases e1 : (x : Int) = b
    · rw [hg x, if_pos e1]
      refine ⟨by omega, by omega, ?_⟩
      rw [hg, if_neg (by omega), if_pos (by omega)]; exact e1.symm
    · by_cases e2 : (x : Int) = a
      · rw [hg x, if_neg e1, if_pos e2]
        refine ⟨by omega, by omega, ?_⟩
        rw [hg, if_pos (by omega)]; exact e2.symm
      · obtain ⟨y0, y1, y2⟩ := h1 hn
        rw [hg x, if_neg e1, if_neg e2]
        refine ⟨y0, y1, ?_⟩
        rw [hg, if_neg, if_neg, y2]
        · intro e
          have : (r.getD x 0).toNat = a.toNat := by omega
          rw [this, hca] at y2; omega
        · intro e
          have : (r.getD x 0).toNat = b.toNat := by omega
          rw [this, hcb] at y2; omega
theorem free_rd {n : Int} (h2 : 2 ≤ n) (h14 : n ≤ 14) : IsRd n (freeTo n) := by
  refine ⟨h2, h14, fun x hx => ⟨fun hn => ?_, fun hn => ?_⟩⟩
  · rw [freeTo_get n x hx, if_neg (by omega)]
  · rw [freeTo_get n x hx, if_pos hn]
    refine ⟨by omega, by omega, ?_⟩
    rw [Int.toNat_natCast, freeTo_get n x hx, if_pos hn]
theorem pair_form {p : List Int} (h : p.length = 2) : p = [p.getD 0 0, p.getD 1 0] := by
  match p, h with
  | [a, b], _ => rfl
theorem place_rd {n : Int} : ∀ (ps : List (List Int)) {r q : List Int}, IsRd n r → r.length = 14 → PairsOk n ps → place r ps = some q → IsRd n q
  | [], r, q, h, _, _, he => by
    have : r = q := by simpa [place] using he
    rw [← this]; exact h
  | p :: ps, r, q, h, hr, hp, he => by
    unfold place at he
    by_cases hc : canLay r p
    · rw [if_pos hc] at he
      obtain ⟨h2, ha, hb, hab⟩ := hp p (by simp)
      rw [pair_form h2] at he hc
      exact place_rd ps (lay_rd h hr ha hb hab hc) (by rw [lay_length]; exact hr) (fun x hx => hp x (by simp [hx])) he
    · rw [if_neg hc] at he; cases he
theorem rows_sch {k : Nat} {ls : List (List Int)} (h : IsSq k ls) (hr : Rows ((k : Int) + 1) ls) : IsSch ((k + 1 : Nat) : Int) (rowsTab ((k : Int) + 1) ls) := by
  have hk1 := h.1
  have hk13 := h.2.1
  have hln := h.2.2.2.1
  refine ⟨by omega, by omega, by unfold rowsTab; rw [List.length_map]; omega, fun i r hi => ?_⟩
  unfold rowsTab at hi
  rw [List.getElem?_map] at hi
  obtain ⟨l, hl, rfl⟩ := Option.map_eq_some_iff.1 hi
  have hm := List.mem_of_getElem? hl
  obtain ⟨ho, _⟩ := rowPairs_ok hk13 (h.2.2.2.2 l hm)
  cases hq : rowRd ((k : Int) + 1) l with
  | none => exact absurd hq (hr l hm)
  | some q =>
    unfold rowR; rw [hq]
    exact place_rd (n := ((k + 1 : Nat) : Int)) _ (free_rd (by omega) (by omega)) (freeTo_length _) ho hq
/-- A Room square. -/
def RoomP (k : Nat) (ls : List (List Int)) : Prop := (Rows ((k : Int) + 1) ls ∧ Rows ((k : Int) + 1) (transp k ls)) ∧ AllMeet (k + 1) (rowsTab ((k : Int) + 1) ls) ∧ AllMeet (k + 1) (rowsTab ((k : Int) + 1) (transp k ls))
open Classical in
theorem robin_rows {k : Nat} {ls : List (List Int)} (h : IsSq k ls) : (robin (rowsOf k ls).1.1 (rowsOf k ls).1.2).1 = decide (Rows ((k : Int) + 1) ls ∧ AllMeet (k + 1) (rowsTab ((k : Int) + 1) ls)) := by
  by_cases hr : Rows ((k : Int) + 1) ls
  · have e : rowsOf k ls = (((k : Int) + 1, rowsTab ((k : Int) + 1) ls), 0) := by rw [rowsOf, if_pos h, if_pos hr]
    rw [e]
    have hs := rows_sch h hr
    show (robin ((k + 1 : Nat) : Int) (rowsTab ((k : Int) + 1) ls)).1 = _
    rw [robin, if_pos hs, Int.toNat_natCast]
    exact decide_eq_decide.2 ⟨fun h => ⟨hr, h⟩, fun h => h.2⟩
  · have e : rowsOf k ls = ((0, []), 5) := by rw [rowsOf, if_pos h, if_neg hr]
    rw [e]
    have : ¬ IsSch 0 [] := fun h => by have := h.1; omega
    rw [robin, if_neg this]
    exact (decide_eq_false fun h => hr h.1).symm
open Classical in
theorem room_robin {k : Nat} {ls : List (List Int)} (h : IsSq k ls) : ((robin (rowsOf k ls).1.1 (rowsOf k ls).1.2).1 && (robin (colsOf k ls).1.1 (colsOf k ls).1.2).1) = decide (RoomP k ls) := by
  have e2 : colsOf k ls = rowsOf k (transp k ls) := by rw [colsOf, if_pos h]
  rw [e2, robin_rows h, robin_rows h.transp, ← Bool.decide_and]
  exact decide_eq_decide.2 ⟨fun h => ⟨⟨h.1.1, h.2.1⟩, h.1.2, h.2.2⟩, fun h => ⟨⟨h.1.1, h.2.1⟩, h.1.2, h.2.2⟩⟩

open Classical in
set_option maxHeartbeats 1000000 in
set_option maxRecDepth 100000 in
theorem c_isRoom (k : Nat) (v : Value) (ls : List (List Int)) (w : World) (hv : RdII w v ls) (hl : ls.length ≤ 1048576) (hll : ∀ l ∈ ls, l.length ≤ 1048576) (h64 : ∀ l ∈ ls, ∀ x ∈ l, In64 x) (h : IsSq k ls) :
    Calls Try.prog 92 [.agg #[.int .i64 k, v]].toArray w (Res w (Is (.bool (decide (RoomP k ls))))) := by
  obtain ⟨a, cap, rfl⟩ := hv.len
  refine calls_of_vw Try.func92 rfl Try.ntmps92 (by simp) ?_
  refine vw_seq (vw_region (by kernel_rfl) (vops_box [.int .i64 k, .slice a ls.length cap] rfl (fun b1 hb1 => ?_)))
  have hroom := room_robin h
  obtain ⟨r14, rlen⟩ := rowsOf_ok k ls
  obtain ⟨c14, clen⟩ := colsOf_ok k ls
  have cr := fun w' hf => c_impl_RowsOf k _ ls w' (hv.same hf) hl hll h64
  have cc := fun w' hf => c_impl_ColumnsOf k _ ls w' (hv.same hf) hl hll h64
  have hb1 : ∀ w' v', RdS w' v' (rowsOf k ls).1.2 → Calls Try.prog 136 [.agg #[.int .i64 (rowsOf k ls).1.1, v']].toArray w' (Res w' (Is (.tuple #[.bool (robin (rowsOf k ls).1.1 (rowsOf k ls).1.2).1, .int .i64 (robin (rowsOf k ls).1.1 (rowsOf k ls).1.2).2]))) := fun w' v' hv' => c_impl_IsRoundRobin _ v' _ w' hv' r14 rlen
  have hb2 : ∀ w' v', RdS w' v' (colsOf k ls).1.2 → Calls Try.prog 136 [.agg #[.int .i64 (colsOf k ls).1.1, v']].toArray w' (Res w' (Is (.tuple #[.bool (robin (colsOf k ls).1.1 (colsOf k ls).1.2).1, .int .i64 (robin (colsOf k ls).1.1 (colsOf k ls).1.2).2]))) := fun w' v' hv' => c_impl_IsRoundRobin _ v' _ w' hv' c14 clen
  obtain ⟨X, hX⟩ : ∃ X, X = robin (rowsOf k ls).1.1 (rowsOf k ls).1.2 := ⟨_, rfl⟩
  obtain ⟨Z, hZ⟩ : ∃ Z, Z = robin (colsOf k ls).1.1 (colsOf k ls).1.2 := ⟨_, rfl⟩
  rw [← hX] at hroom hb1
  rw [← hZ] at hroom hb2
  generalize rowsOf k ls = R at *
  generalize colsOf k ls = C at *
  obtain ⟨X1, X2⟩ := X
  obtain ⟨Z1, Z2⟩ := Z
  cases X1 <;> cases Z1
  all_goals repeat (first | refine vops_q tyOk rfl ?_ | refine vops_nil ?_ | refine vw_seq ?_ | refine vw_region (by kernel_rfl) ?_ | refine vops_guardT rfl rfl ?_ | refine vops_guardF rfl rfl ?_ | refine vops_guardU rfl rfl ?_ | with_reducible refine bs_nbeq rfl ?_ | with_reducible refine bs_true ?_ | with_reducible refine bs_false ?_ | with_reducible refine bs_ntrue ?_ | with_reducible refine bs_nfalse ?_ | refine vops_p tyOk rfl (by (try simp only [inR]); omega) ?_ | refine vw_cond rfl ?_ | refine vw_skip ?_ | refine vw_block ?_ | refine vw_ret ?_ | refine vw_exit ?_ | (apply vops_call ent42 rfl; (intro w' hg; exact cr w' hg.fr); (rintro _ newN ⟨p, cp, rfl, hN⟩)) | (apply vops_call ent48 rfl; (intro w' hg; exact cc w' hg.fr); (rintro _ newN ⟨p2, cp2, rfl, hN2⟩)) | refine vops_allocZ [.int .i64 0, .slice none 0 0] tyOk rfl rfl (by simp) (fun b4 hb4 => ?_) | (apply vops_callp ent136 rfl; (intro w' hg; exact hb1 w' _ (by exact NewR.see (by assumption) (by repeat (first | exact sub_hereL | exact sub_refl | apply sub_cons | apply sub_app)) _ hg))) | (apply vops_callp ent136 rfl; (intro w' hg; exact hb2 w' _ (by exact NewR.see (by assumption) (by repeat (first | exact sub_hereL | exact sub_refl | apply sub_cons | apply sub_app)) _ hg))) | refine vops_loadM tyOk rfl rfl rfl (by repeat (first | exact mem_here | apply mem_next | apply mem_past)) (by rfl) ?_ | refine vops_loadM tyOk rfl rfl rfl (by repeat (first | exact mem_here | apply mem_next | apply mem_past)) (by exact ints_get0 (by omega)) ?_ | refine vops_loadNM tyOk rfl rfl rfl (by repeat (first | exact mem_here | apply mem_next | apply mem_past)) (by first | rfl | (rw [ints_length]; first | assumption | omega | (rw [ints_length]; first | assumption | omega | simp [*])) | simp [*]) ?_ | refine vops_storeIM tyOk rfl rfl rfl rfl (by repeat (first | exact upd_here | apply upd_next | apply upd_past)) (by omega) ?_ | refine vops_storeM tyOk rfl rfl rfl rfl rfl (by repeat (first | exact upd_here | apply upd_next | apply upd_past)) (by simp) ?_ | refine vops_storeAM tyOk rfl rfl rfl (by first | rfl | (rw [ints_length]; first | assumption | omega | (rw [ints_length]; first | assumption | omega | simp [*])) | simp [*]) (by first | exact ints_one | simp [Value.oneCell']) (by repeat (first | exact upd_here | apply upd_next | apply upd_past)) (by first | rfl | (rw [ints_length]; first | assumption | omega | (rw [ints_length]; first | assumption | omega | simp [*])) | simp [*]) ?_ | refine vops_build2 rfl rfl (by kernel_rfl) ?_ | refine vops_buildZ tyOk rfl (by kernel_rfl) ?_ | refine vops_slice tyOk rfl rfl rfl rfl rfl (by omega) ?_)
  all_goals exact rv_bool rfl rfl hroom

open Classical in
set_option maxHeartbeats 1000000 in
set_option maxRecDepth 100000 in
theorem c_l04Room (k : Nat) (v : Value) (ls : List (List Int)) (w : World) (hv : RdII w v ls) (h : IsSq k ls) :
    Calls Try.prog 91 [.agg #[.int .i64 k, v]].toArray w (Res w (Is (.bool (decide (RoomP k ls))))) := by
  obtain ⟨a, cap, rfl⟩ := hv.len
  refine calls_of_vw Try.func91 rfl Try.ntmps91 (by simp) ?_
  refine vw_seq (vw_region (by kernel_rfl) (vops_box [.int .i64 k, .slice a ls.length cap] rfl (fun b1 hb1 => ?_)))
  have ht := h.transp
  by_cases h1 : Rows ((k : Int) + 1) ls
  case neg =>
    have e : rowsB ((k : Int) + 1) ls = ((0, []), false) := by rw [rowsB, if_neg h1]
    have hc : ∀ w', Fr [] w w' → Calls Try.prog 94 [.agg #[.int .i64 k, .slice a ls.length cap]].toArray w' (Res w' (PairSB 25 ((0, []), false))) := fun w' hf => by
      have := c_l04Rows k _ ls w' (hv.same hf) h; rwa [e] at this
    repeat (first | refine vops_q tyOk rfl ?_ | refine vops_nil ?_ | refine vw_seq ?_ | refine vw_region (by kernel_rfl) ?_ | refine vops_guardT rfl rfl ?_ | refine vops_guardF rfl rfl ?_ | refine vops_guardU rfl rfl ?_ | with_reducible refine bs_nbeq rfl ?_ | with_reducible refine bs_true ?_ | with_reducible refine bs_false ?_ | with_reducible refine bs_ntrue ?_ | with_reducible refine bs_nfalse ?_ | refine vops_p tyOk rfl (by (try simp only [inR]); omega) ?_ | refine vw_cond rfl ?_ | refine vw_skip ?_ | refine vw_block ?_ | refine vw_ret ?_ | refine vw_exit ?_ | (apply vops_call ent94 rfl; (intro w' hg; exact hc w' hg.fr); (rintro _ newN ⟨p, cp, rfl, hN⟩)) | (apply vops_call ent101 rfl; (intro w' hg; exact c_l04Transposed k _ ls w' (hv.same hg.fr) h); (rintro _ newN ⟨p1, cp1, rfl, hN1⟩)) | (apply vops_call ent94 rfl; (intro w' hg; exact c_l04Rows k _ _ w' (NewT.rdG (by assumption) (by repeat (first | exact sub_hereL | exact sub_refl | apply sub_cons | apply sub_app)) hg) ht); (rintro _ newN ⟨p2, cp2, rfl, hN2⟩)) | refine vops_allocZ [.int .i64 0, .slice none 0 0] tyOk rfl rfl (by simp) (fun b4 hb4 => ?_) | refine vops_loadM tyOk rfl rfl rfl (by repeat (first | exact mem_here | apply mem_next | apply mem_past)) (by rfl) ?_ | refine vops_loadM tyOk rfl rfl rfl (by repeat (first | exact mem_here | apply mem_next | apply mem_past)) (by exact ints_get0 (by omega)) ?_ | refine vops_loadNM tyOk rfl rfl rfl (by repeat (first | exact mem_here | apply mem_next | apply mem_past)) (by first | rfl | (rw [ints_length]; first | assumption | omega | (rw [ints_length]; first | assumption | omega | simp [*])) | simp [*]) ?_ | refine vops_storeIM tyOk rfl rfl rfl rfl (by repeat (first | exact upd_here | apply upd_next | apply upd_past)) (by omega) ?_ | refine vops_storeM tyOk rfl rfl rfl rfl rfl (by repeat (first | exact upd_here | apply upd_next | apply upd_past)) (by simp) ?_ | refine vops_storeAM tyOk rfl rfl rfl (by first | rfl | (rw [ints_length]; first | assumption | omega | (rw [ints_length]; first | assumption | omega | simp [*])) | simp [*]) (by first | exact ints_one | simp [Value.oneCell']) (by repeat (first | exact upd_here | apply upd_next | apply upd_past)) (by first | rfl | (rw [ints_length]; first | assumption | omega | (rw [ints_length]; first | assumption | omega | simp [*])) | simp [*]) ?_ | refine vops_build2 rfl rfl (by kernel_rfl) ?_ | refine vops_buildZ tyOk rfl (by kernel_rfl) ?_ | refine vops_slice tyOk rfl rfl rfl rfl rfl (by omega) ?_)
    exact rv_bool rfl rfl (decide_eq_false fun hh => h1 hh.1.1).symm
  have e : rowsB ((k : Int) + 1) ls = (((k : Int) + 1, rowsTab ((k : Int) + 1) ls), true) := by rw [rowsB, if_pos h1]
  have hc : ∀ w', Fr [] w w' → Calls Try.prog 94 [.agg #[.int .i64 k, .slice a ls.length cap]].toArray w' (Res w' (PairSB 25 (((k : Int) + 1, rowsTab ((k : Int) + 1) ls), true))) := fun w' hf => by
    have := c_l04Rows k _ ls w' (hv.same hf) h; rwa [e] at this
  by_cases h2 : Rows ((k : Int) + 1) (transp k ls)
  case neg =>
    have e2 : rowsB ((k : Int) + 1) (transp k ls) = ((0, []), false) := by rw [rowsB, if_neg h2]
    have hc2 : ∀ w' v', RdII w' v' (transp k ls) → Calls Try.prog 94 [.agg #[.int .i64 k, v']].toArray w' (Res w' (PairSB 25 ((0, []), false))) := fun w' v' hf => by
      have := c_l04Rows k v' _ w' hf ht; rwa [e2] at this
    repeat (first | refine vops_q tyOk rfl ?_ | refine vops_nil ?_ | refine vw_seq ?_ | refine vw_region (by kernel_rfl) ?_ | refine vops_guardT rfl rfl ?_ | refine vops_guardF rfl rfl ?_ | refine vops_guardU rfl rfl ?_ | with_reducible refine bs_nbeq rfl ?_ | with_reducible refine bs_true ?_ | with_reducible refine bs_false ?_ | with_reducible refine bs_ntrue ?_ | with_reducible refine bs_nfalse ?_ | refine vops_p tyOk rfl (by (try simp only [inR]); omega) ?_ | refine vw_cond rfl ?_ | refine vw_skip ?_ | refine vw_block ?_ | refine vw_ret ?_ | refine vw_exit ?_ | (apply vops_call ent94 rfl; (intro w' hg; exact hc w' hg.fr); (rintro _ newN ⟨p, cp, rfl, hN⟩)) | (apply vops_call ent101 rfl; (intro w' hg; exact c_l04Transposed k _ ls w' (hv.same hg.fr) h); (rintro _ newN ⟨p1, cp1, rfl, hN1⟩)) | (apply vops_call ent94 rfl; (intro w' hg; exact hc2 w' _ (NewT.rdG (by assumption) (by repeat (first | exact sub_hereL | exact sub_refl | apply sub_cons | apply sub_app)) hg)); (rintro _ newN ⟨p2, cp2, rfl, hN2⟩)) | refine vops_allocZ [.int .i64 0, .slice none 0 0] tyOk rfl rfl (by simp) (fun b4 hb4 => ?_) | refine vops_loadM tyOk rfl rfl rfl (by repeat (first | exact mem_here | apply mem_next | apply mem_past)) (by rfl) ?_ | refine vops_loadM tyOk rfl rfl rfl (by repeat (first | exact mem_here | apply mem_next | apply mem_past)) (by exact ints_get0 (by omega)) ?_ | refine vops_loadNM tyOk rfl rfl rfl (by repeat (first | exact mem_here | apply mem_next | apply mem_past)) (by first | rfl | (rw [ints_length]; first | assumption | omega | (rw [ints_length]; first | assumption | omega | simp [*])) | simp [*]) ?_ | refine vops_storeIM tyOk rfl rfl rfl rfl (by repeat (first | exact upd_here | apply upd_next | apply upd_past)) (by omega) ?_ | refine vops_storeM tyOk rfl rfl rfl rfl rfl (by repeat (first | exact upd_here | apply upd_next | apply upd_past)) (by simp) ?_ | refine vops_storeAM tyOk rfl rfl rfl (by first | rfl | (rw [ints_length]; first | assumption | omega | (rw [ints_length]; first | assumption | omega | simp [*])) | simp [*]) (by first | exact ints_one | simp [Value.oneCell']) (by repeat (first | exact upd_here | apply upd_next | apply upd_past)) (by first | rfl | (rw [ints_length]; first | assumption | omega | (rw [ints_length]; first | assumption | omega | simp [*])) | simp [*]) ?_ | refine vops_build2 rfl rfl (by kernel_rfl) ?_ | refine vops_buildZ tyOk rfl (by kernel_rfl) ?_ | refine vops_slice tyOk rfl rfl rfl rfl rfl (by omega) ?_)
    exact rv_bool rfl rfl (decide_eq_false fun hh => h2 hh.1.2).symm
  have e2 : rowsB ((k : Int) + 1) (transp k ls) = (((k : Int) + 1, rowsTab ((k : Int) + 1) (transp k ls)), true) := by rw [rowsB, if_pos h2]
  have hc2 : ∀ w' v', RdII w' v' (transp k ls) → Calls Try.prog 94 [.agg #[.int .i64 k, v']].toArray w' (Res w' (PairSB 25 (((k : Int) + 1, rowsTab ((k : Int) + 1) (transp k ls)), true))) := fun w' v' hf => by
    have := c_l04Rows k v' _ w' hf ht; rwa [e2] at this
  have s1 := rows_sch h h1
  have s2 := rows_sch ht h2
  have hd : decide (RoomP k ls) = (decide (AllMeet (k + 1) (rowsTab ((k : Int) + 1) ls)) && decide (AllMeet (k + 1) (rowsTab ((k : Int) + 1) (transp k ls)))) := by
    rw [← Bool.decide_and]
    exact decide_eq_decide.2 ⟨fun h => h.2, fun h => ⟨⟨h1, h2⟩, h⟩⟩
  have hr1 : ∀ w' v', RdS w' v' (rowsTab ((k : Int) + 1) ls) → Calls Try.prog 135 [.agg #[.int .i64 ((k : Int) + 1), v']].toArray w' (Res w' (Is (.bool (decide (AllMeet (k + 1) (rowsTab ((k : Int) + 1) ls)))))) := fun w' v' hv' => c_l01Robin (k + 1) v' _ s1 w' hv' (rowsTab_len h1)
  have hr2 : ∀ w' v', RdS w' v' (rowsTab ((k : Int) + 1) (transp k ls)) → Calls Try.prog 135 [.agg #[.int .i64 ((k : Int) + 1), v']].toArray w' (Res w' (Is (.bool (decide (AllMeet (k + 1) (rowsTab ((k : Int) + 1) (transp k ls))))))) := fun w' v' hv' => c_l01Robin (k + 1) v' _ s2 w' hv' (rowsTab_len h2)
  generalize decide (AllMeet (k + 1) (rowsTab ((k : Int) + 1) ls)) = B1 at *
  generalize decide (AllMeet (k + 1) (rowsTab ((k : Int) + 1) (transp k ls))) = B2 at *
  cases B1 <;> cases B2
  all_goals repeat (first | refine vops_q tyOk rfl ?_ | refine vops_nil ?_ | refine vw_seq ?_ | refine vw_region (by kernel_rfl) ?_ | refine vops_guardT rfl rfl ?_ | refine vops_guardF rfl rfl ?_ | refine vops_guardU rfl rfl ?_ | with_reducible refine bs_nbeq rfl ?_ | with_reducible refine bs_true ?_ | with_reducible refine bs_false ?_ | with_reducible refine bs_ntrue ?_ | with_reducible refine bs_nfalse ?_ | refine vops_p tyOk rfl (by (try simp only [inR]); omega) ?_ | refine vw_cond rfl ?_ | refine vw_skip ?_ | refine vw_block ?_ | refine vw_ret ?_ | refine vw_exit ?_ | (apply vops_call ent94 rfl; (intro w' hg; exact hc w' hg.fr); (rintro _ newN ⟨p, cp, rfl, hN⟩)) | (apply vops_call ent101 rfl; (intro w' hg; exact c_l04Transposed k _ ls w' (hv.same hg.fr) h); (rintro _ newN ⟨p1, cp1, rfl, hN1⟩)) | (apply vops_call ent94 rfl; (intro w' hg; exact hc2 w' _ (NewT.rdG (by assumption) (by repeat (first | exact sub_hereL | exact sub_refl | apply sub_cons | apply sub_app)) hg)); (rintro _ newN ⟨p2, cp2, rfl, hN2⟩)) | refine vops_allocZ [.int .i64 0, .slice none 0 0] tyOk rfl rfl (by simp) (fun b4 hb4 => ?_) | (apply vops_callp ent135 rfl; (intro w' hg; exact hr1 w' _ (by exact NewR.see (by assumption) (by repeat (first | exact sub_hereL | exact sub_refl | apply sub_cons | apply sub_app)) _ hg))) | (apply vops_callp ent135 rfl; (intro w' hg; exact hr2 w' _ (by exact NewR.see (by assumption) (by repeat (first | exact sub_hereL | exact sub_refl | apply sub_cons | apply sub_app)) _ hg))) | refine vops_loadM tyOk rfl rfl rfl (by repeat (first | exact mem_here | apply mem_next | apply mem_past)) (by rfl) ?_ | refine vops_loadM tyOk rfl rfl rfl (by repeat (first | exact mem_here | apply mem_next | apply mem_past)) (by exact ints_get0 (by omega)) ?_ | refine vops_loadNM tyOk rfl rfl rfl (by repeat (first | exact mem_here | apply mem_next | apply mem_past)) (by first | rfl | (rw [ints_length]; first | assumption | omega | (rw [ints_length]; first | assumption | omega | simp [*])) | simp [*]) ?_ | refine vops_storeIM tyOk rfl rfl rfl rfl (by repeat (first | exact upd_here | apply upd_next | apply upd_past)) (by omega) ?_ | refine vops_storeM tyOk rfl rfl rfl rfl rfl (by repeat (first | exact upd_here | apply upd_next | apply upd_past)) (by simp) ?_ | refine vops_storeAM tyOk rfl rfl rfl (by first | rfl | (rw [ints_length]; first | assumption | omega | (rw [ints_length]; first | assumption | omega | simp [*])) | simp [*]) (by first | exact ints_one | simp [Value.oneCell']) (by repeat (first | exact upd_here | apply upd_next | apply upd_past)) (by first | rfl | (rw [ints_length]; first | assumption | omega | (rw [ints_length]; first | assumption | omega | simp [*])) | simp [*]) ?_ | refine vops_build2 rfl rfl (by kernel_rfl) ?_ | refine vops_buildZ tyOk rfl (by kernel_rfl) ?_ | refine vops_slice tyOk rfl rfl rfl rfl rfl (by omega) ?_)
  all_goals exact rv_bool rfl rfl hd.symm
open Classical in
noncomputable def roomR (m : Int) (ls : List (List Int)) : Bool × Int := if IsSq m ls then (decide (RoomP m.toNat ls), 0) else (false, 1)
end Go.Proofs.Ytngpongdpphncaa
