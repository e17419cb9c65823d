import Derived.Test.YtlfflmoegfibgaaZZ3
import Derived.Test.YtlfflmoegfibgaaCD
import Derived.Test.YtlfflmoegfibgaaVLOrd
import Derived.Test.YtlfflmoegfibgaaVLA
import Derived.Test.YtlfflmoegfibgaaZZ1
import Derived.Test.YtlfflmoegfibgaaZZ0
import Derived.Test.YtlfflmoegfibgaaVLPlay
/- Parts of the proof, one after another. No conditions of their own. -/
/- A part of the proof: CB6. No conditions of its own. -/
namespace Go.Proofs.Ytlfflmoegfibgaa
open Go.VL
attribute [local irreducible] VWr VOps VD Calls

/-- A number that a list of different numbers below n lacks leaves it shorter than n. -/
theorem full_mem {n : Nat} {l : List Int} (hl : l.length = n) (hb : ∀ x ∈ l, 0 ≤ x ∧ x < n) (hnd : l.Nodup) {x : Nat} (hx : x < n) : (x : Int) ∈ l := by
  apply Classical.byContradiction
  intro hn
  have := pigeon n ((x : Int) :: l) (List.nodup_cons.2 ⟨hn, hnd⟩) (fun y hy => by
    rcases List.mem_cons.1 hy with rfl | hy
    · omega
    · exact hb y hy)
  rw [List.length_cons] at this
  omega
theorem dig_rd : ∀ n ∈ [2, 4, 8], ∀ x ∈ List.range n, x ≠ 0 → IsRd (n : Nat) (digP x n) := by
  have h : ([2, 4, 8].all fun n => (List.range n).all fun x => decide (x ≠ 0 → IsRd (n : Nat) (digP x n))) = true := by kernel_rfl
  simp only [List.all_eq_true, decide_eq_true_eq] at h
  exact h
theorem xor_iff : ∀ a ∈ List.range 8, ∀ b ∈ List.range 8, ∀ x ∈ List.range 8, (a ^^^ x = b ↔ x = a ^^^ b) := by
  have h : ((List.range 8).all fun a => (List.range 8).all fun b => (List.range 8).all fun x => decide (a ^^^ x = b ↔ x = a ^^^ b)) = true := by kernel_rfl
  simp only [List.all_eq_true, decide_eq_true_eq] at h
  exact h
theorem xor_lt : ∀ n ∈ [2, 4, 8], ∀ a ∈ List.range n, ∀ b ∈ List.range n, (a ^^^ b < n ∧ (a ≠ b → a ^^^ b ≠ 0)) := by
  have h : ([2, 4, 8].all fun n => (List.range n).all fun a => (List.range n).all fun b => decide (a ^^^ b < n ∧ (a ≠ b → a ^^^ b ≠ 0))) = true := by kernel_rfl
  simp only [List.all_eq_true, decide_eq_true_eq] at h
  exact h
theorem filter_one {l : List Int} (hnd : l.Nodup) {c : Int} (hc : c ∈ l) : (l.filter fun x => decide (x = c)).length = 1 := by
  induction l with
  | nil => cases hc
  | cons y l ih =>
    have h1 := List.nodup_cons.1 hnd
    rw [List.filter_cons]
    by_cases hy : y = c
    · subst hy
      have : l.filter (fun x => decide (x = y)) = [] := List.filter_eq_nil_iff.2 fun x hx => by
        have : x ≠ y := fun e => h1.1 (e ▸ hx)
        simpa using this
      simp [this]
    · rcases List.mem_cons.1 hc with h | h
      · exact absurd h.symm hy
      · simp [hy, ih h1.2 h]
theorem dig_even {n : Nat} {l : List Int} (hD : IsDig n l) : EvenR n (digRows n l) := by
  obtain ⟨h1, h2, h3, h4⟩ := hD
  have hn : n ∈ [2, 4, 8] := by simp; omega
  have hn8 : 2 ≤ n ∧ n ≤ 8 := by omega
  refine ⟨⟨by omega, by omega, by rw [digRows_length]; omega, fun i r hi => ?_⟩, ⟨by rw [digRows_length, robinR]; simp only [Int.toNat_natCast]; omega, fun a b ha hb hab => ?_⟩, by omega⟩
  · obtain ⟨x, hx, rfl⟩ := List.mem_map.1 (List.mem_of_getElem? hi)
    have := h3 x hx
    exact dig_rd n hn x.toNat (List.mem_range.2 (by omega)) (by omega)
  · rw [Int.toNat_natCast] at ha hb
    obtain ⟨hc1, hc2⟩ := xor_lt n hn a (List.mem_range.2 ha) b (List.mem_range.2 hb)
    have hc2 := hc2 hab
    rw [cnt, if_neg hab, digRows, List.filter_map, List.length_map]
    have e : l.filter ((fun r => decide (r.getD a 0 = (b : Int))) ∘ fun x => digP x.toNat n) = l.filter fun x => decide (x = ((a ^^^ b : Nat) : Int)) := by
      refine List.filter_congr fun x hx => ?_
      have hxb := h3 x hx
      have hv : (digP x.toNat n).getD a 0 = ((a ^^^ x.toNat : Nat) : Int) := by
        rw [digP, List.getD_eq_getElem?_getD, lst_get (by omega)]; simp [ha]
      show decide ((digP x.toNat n).getD a 0 = (b : Int)) = _
      rw [hv]
      have := xor_iff a (List.mem_range.2 (by omega)) b (List.mem_range.2 (by omega)) x.toNat (List.mem_range.2 (by omega))
      refine decide_eq_decide.2 ⟨fun h => ?_, fun h => ?_⟩
      · have := this.1 (by omega); omega
      · have := this.2 (by omega); omega
    rw [e]
    refine filter_one h4 ?_
    have hm := full_mem (n := n) (l := 0 :: l) (by simp; omega) (fun x hx => by
      rcases List.mem_cons.1 hx with rfl | hx
      · omega
      · have := h3 x hx; omega) (List.nodup_cons.2 ⟨fun h => by have := h3 0 h; omega, h4⟩) hc1
    rcases List.mem_cons.1 hm with h | h
    · omega
    · exact h
/-- The orders of digits, in their order. -/
def incL (t : List Int) : List Int := t.map fun x => x + 1
def digs (m : Nat) : List (List Int) := (ordR m m []).map incL
theorem digs_ok {m : Nat} (hn : m + 1 = 2 ∨ m + 1 = 4 ∨ m + 1 = 8) {o : List Int} (h : o ∈ digs m) : IsDig ((m + 1 : Nat) : Int) o ∧ o.length = m := by
  obtain ⟨t, ht, rfl⟩ := List.mem_map.1 h
  obtain ⟨a, b, c, _⟩ := ordR_good m m [] List.nodup_nil (fun x hx => by cases hx) t ht
  have hl : (incL t).length = m := by simp [incL, c]
  refine ⟨⟨by omega, by omega, fun x hx => ?_, List.pairwise_map.2 (a.imp fun hne he => hne (by omega))⟩, hl⟩
  obtain ⟨y, hy, rfl⟩ := List.mem_map.1 hx
  have := b y hy
  omega
def ones1 (l : List Int) : List (List Int) := l.map fun x => [x]
theorem arr_digs (m : Nat) : arrL m [] (ones1 (lst m fun x => (x : Int) + 1)) = (digs m).map ones1 := by
  have h := arrL_ones m m [] (by rw [freeN_zero]; simp)
  have h2 := arrL_map incL m [] (ones1 (freeN m [])) (by rw [ones1, List.length_map, freeN_zero]; simp)
  have e : (ones1 (freeN m [])).map incL = ones1 (lst m fun x => (x : Int) + 1) := by
    rw [freeN_zero, ones1, ones1, lst, List.map_map, List.map_map, List.map_map]; rfl
  rw [e, List.map_nil] at h2
  rw [h2, show arrL m [] (ones1 (freeN m [])) = (ordR m m []).map ones1 from h, List.map_map, digs, List.map_map]
  refine List.map_congr_left fun t _ => ?_
  simp only [Function.comp, ones1, incL, List.map_map]; rfl
end Go.Proofs.Ytlfflmoegfibgaa

/- A part of the proof: CB9. No conditions of its own. -/
namespace Go.Proofs.Ytlfflmoegfibgaa
open Go.VL
attribute [local irreducible] VWr VOps VD Calls

theorem nodup_len : ∀ (l l' : List Int), l.Nodup → (∀ x ∈ l, x ∈ l') → l.length ≤ l'.length
  | [], _, _, _ => Nat.zero_le _
  | x :: l, l', h, hs => by
    have h1 := List.nodup_cons.1 h
    have hx := hs x List.mem_cons_self
    have := nodup_len l (l'.erase x) h1.2 (fun y hy => (List.mem_erase_of_ne (fun e => h1.1 (by rw [← e]; exact hy))).2 (hs y (List.mem_cons_of_mem _ hy)))
    rw [List.length_erase_of_mem hx] at this
    have := List.length_pos_of_mem hx
    rw [List.length_cons]; omega
/-- Whom team 0 meets, round by round. -/
theorem first_inj {k : Nat} {rs : List (List Int)} (hE : EvenR k rs) {i j : Nat} {r : List Int} (hi : rs[i]? = some r) (hj : rs[j]? = some r) : i = j := by
  apply Classical.byContradiction
  intro hne
  obtain ⟨hS, ⟨hlen, hmeet⟩, hev⟩ := hE
  rw [Int.toNat_natCast] at hlen hmeet
  obtain ⟨h2, h14, hkl⟩ := EvenR.len ⟨hS, ⟨hlen, hmeet⟩, hev⟩
  obtain ⟨col, hcol⟩ : ∃ col, col = rs.map fun r => r.getD 0 0 := ⟨_, rfl⟩
  have hcl : col.length = rs.length := by rw [hcol, List.length_map]
  have hci : col[i]? = some (r.getD 0 0) := by rw [hcol, List.getElem?_map, hi]; rfl
  have hcj : col[j]? = some (r.getD 0 0) := by rw [hcol, List.getElem?_map, hj]; rfl
  have hjl := (List.getElem?_eq_some_iff.1 hcj).1
  have hmem : ∀ b : Nat, 0 < b → b < k → (b : Int) ∈ col := fun b hb0 hbk => by
    have := hmeet 0 b (by omega) hbk (by omega)
    rw [cnt, if_neg (by omega)] at this
    have hpos : 0 < (rs.filter fun r => decide (r.getD 0 0 = (b : Int))).length := by omega
    obtain ⟨q, hq⟩ := List.exists_mem_of_length_pos hpos
    obtain ⟨hq1, hq2⟩ := List.mem_filter.1 hq
    rw [hcol]
    exact List.mem_map.2 ⟨q, hq1, by simpa using hq2⟩
  have hsub : ∀ x ∈ (List.range (k - 1)).map (fun b : Nat => ((b + 1 : Nat) : Int)), x ∈ col.eraseIdx j := fun x hx => by
    obtain ⟨b, hb, rfl⟩ := List.mem_map.1 hx
    have hb := List.mem_range.1 hb
    obtain ⟨t, ht⟩ := List.mem_iff_getElem?.1 (hmem (b + 1) (by omega) (by omega))
    refine List.mem_eraseIdx_iff_getElem?.2 ?_
    by_cases htj : t = j
    · subst htj
      rw [hcj] at ht
      exact ⟨i, hne, by rw [hci]; exact ht⟩
    · exact ⟨t, htj, ht⟩
  have hnd : ((List.range (k - 1)).map (fun b : Nat => ((b + 1 : Nat) : Int))).Nodup := List.pairwise_map.2 (List.Pairwise.imp (fun {a b} h h2 => h (by omega)) List.nodup_range)
  have := nodup_len _ _ hnd hsub
  rw [List.length_map, List.length_range, List.length_eraseIdx_of_lt hjl, hcl] at this
  omega
theorem range_perm {m : Nat} {q : List Int} (hl : q.length = m) (hb : ∀ x ∈ q, 0 ≤ x ∧ x < m) (hnd : q.Nodup) : q.Perm ((List.range m).map fun x : Nat => (x : Int)) := by
  refine (List.perm_ext_iff_of_nodup hnd (List.pairwise_map.2 (List.Pairwise.imp (fun {a b} h h2 => h (by omega)) List.nodup_range))).2 fun x => ⟨fun hx => ?_, fun hx => ?_⟩
  · have := hb x hx
    exact List.mem_map.2 ⟨x.toNat, List.mem_range.2 (by omega), by omega⟩
  · obtain ⟨y, hy, rfl⟩ := List.mem_map.1 hx
    exact full_mem hl hb hnd (List.mem_range.1 hy)
theorem reord_perm {rs : List (List Int)} {q : List Int} (hl : q.length = rs.length) (hb : ∀ x ∈ q, 0 ≤ x ∧ x < rs.length) (hnd : q.Nodup) : (reord rs q).Perm rs := by
  have h := (range_perm hl hb hnd).map fun x => rs.getD x.toNat []
  have e : ((List.range rs.length).map fun x : Nat => (x : Int)).map (fun x => rs.getD x.toNat []) = rs := by
    rw [List.map_map]
    apply List.ext_getElem (by simp)
    intro i h1 h2
    simp [List.getElem?_eq_getElem h2]
  rw [e] at h
  exact h
theorem reord_even {k : Nat} {rs : List (List Int)} {q : List Int} (hE : EvenR k rs) (hl : q.length = rs.length) (hb : ∀ x ∈ q, 0 ≤ x ∧ x < rs.length) (hnd : q.Nodup) : EvenR k (reord rs q) := by
  have hp := reord_perm hl hb hnd
  obtain ⟨⟨a1, a2, a3, a4⟩, ⟨b1, b2⟩, c⟩ := hE
  refine ⟨⟨a1, a2, by rw [hp.length_eq]; exact a3, fun i r hi => ?_⟩, ⟨by rw [hp.length_eq]; exact b1, fun a b ha hb' hab => ?_⟩, c⟩
  · obtain ⟨j, hj⟩ := List.mem_iff_getElem?.1 (hp.mem_iff.1 (List.mem_of_getElem? hi))
    exact a4 j r hj
  · have := b2 a b ha hb' hab
    rw [cnt, if_neg hab] at this ⊢
    rw [(hp.filter _).length_eq]; exact this
def ones9 (l : List Int) : List (List Int) := l.map fun x => [x]
/-- The orders of the rounds that arrangements yield. -/
theorem arr_reord {d : Nat} {rs : List (List Int)} (hl : rs.length = d + 1) : arrL d [rs.getD 0 []] (rs.drop 1) = (ordR (d + 1) d [0]).map (reord rs) := by
  have hf : (freeN (d + 1) [0]).length = d := by rw [freeN_one]; simp
  have h := arrL_ones (d + 1) d [0] hf
  have h2 := arrL_map (fun r => rs.getD (r.getD 0 0).toNat []) d (ones9 [0]) (ones9 (freeN (d + 1) [0])) (by rw [ones9, List.length_map, hf])
  have e1 : (ones9 [0]).map (fun r => rs.getD (r.getD 0 0).toNat []) = [rs.getD 0 []] := rfl
  have e2 : (ones9 (freeN (d + 1) [0])).map (fun r => rs.getD (r.getD 0 0).toNat []) = rs.drop 1 := by
    rw [freeN_one, ones9, List.map_map, List.map_map]
    apply List.ext_getElem (by simp; omega)
    intro i h1 h2
    have h3 : i + 1 < rs.length := by simp at h1; omega
    simp only [List.getElem_map, List.getElem_range, Function.comp, List.getElem_drop]
    show rs.getD (((i + 1 : Nat) : Int)).toNat [] = _
    rw [Int.toNat_natCast, List.getD_eq_getElem?_getD, List.getElem?_eq_getElem h3]
    simp [Nat.add_comm]
  rw [e1, e2] at h2
  rw [h2, show arrL d (ones9 [0]) (ones9 (freeN (d + 1) [0])) = (ordR (d + 1) d [0]).map ones9 from h, List.map_map]
  refine List.map_congr_left fun q _ => ?_
  simp only [Function.comp, ones9, List.map_map, reord]; rfl
theorem rs_split {rs : List (List Int)} {d : Nat} (hl : rs.length = d + 1) : [rs.getD 0 []] ++ rs.drop 1 = rs := by
  match rs, hl with
  | r :: rs, _ => rfl
theorem ord_at {d : Nat} {q : List Int} (h : q ∈ ordR (d + 1) d [0]) : q.length = d + 1 ∧ (∀ x ∈ q, 0 ≤ x ∧ x < ((d + 1 : Nat) : Int)) ∧ q.Nodup := by
  obtain ⟨a, b, c, _⟩ := ordR_good (d + 1) d [0] (by simp) (fun x hx => by rw [List.mem_singleton] at hx; omega) q h
  exact ⟨by rw [c]; simp; omega, b, a⟩

/-- Where the first least one of the first i costs stands. -/
def bIdx (c : Nat → Int) : Nat → Nat
  | 0 => 0
  | i + 1 => if i = 0 then 0 else if c i < c (bIdx c i) then i else bIdx c i
theorem bIdx_lt (c : Nat → Int) : ∀ i, 0 < i → bIdx c i < i
  | 1, _ => by simp [bIdx]
  | i + 2, _ => by
    have := bIdx_lt c (i + 1) (by omega)
    rw [bIdx, if_neg (by omega)]
    split <;> omega
end Go.Proofs.Ytlfflmoegfibgaa

/- A part of the proof: CB10. No conditions of its own. -/
namespace Go.Proofs.Ytlfflmoegfibgaa
open Go.VL
attribute [local irreducible] VWr VOps VD Calls

open Classical in
set_option maxHeartbeats 2000000 in
set_option maxRecDepth 100000 in
theorem c_indexR (v : Value) (rs : List (List Int)) (r : List Int) (x : Nat) (w : World) (hv : RdS w v rs) (hr : ∀ r ∈ rs, r.length = 14) (hl : rs.length ≤ 1048576) (hx : rs[x]? = some r) (hfst : ∀ j, rs[j]? = some r → j = x) :
    Calls Try.prog 163 [v, .agg (ints r).toArray].toArray w (Res w (Is (.int .i64 x))) := by
  obtain ⟨a, cap, rfl⟩ := hv.len
  have hr14 := hr r (List.mem_of_getElem? hx)
  have hxl := (List.getElem?_eq_some_iff.1 hx).1
  refine calls_of_vw Try.func163 rfl Try.ntmps163 (by simp) ?_
  refine vw_seq (vw_region (by kernel_rfl) (vops_box (ints r) rfl (fun b3 hb3 => ?_)))
  repeat (first | refine vops_q tyOk rfl ?_ | refine vops_nil ?_ | refine vw_seq ?_ | refine vw_region (by kernel_rfl) ?_ | refine vw_block ?_)
  refine vw_loop (fun y f own => ∃ i : Nat, i ≤ x ∧ y = x - i ∧ f 8 = .int .i64 i ∧ f 7 = .int .i64 rs.length ∧ f 0 = .slice a rs.length cap ∧ f 3 = .pointer (some ⟨b3, 0, none⟩) ∧ own = [(b3, ⟨ints r, 50, (ints r).length, none⟩)]) x
    ⟨0, by omega, by omega, rfl, rfl, rfl, rfl, rfl⟩ ?_
  rintro y f own ⟨i, hi, rfl, h8, h7, h0, h3, rfl⟩
  rw [upd_of h8, upd_of h7, upd_of h0, upd_of h3]
  repeat (first | refine vops_q tyOk rfl ?_ | refine vops_nil ?_ | refine vw_seq ?_ | refine vw_region (by kernel_rfl) ?_ | refine vw_cond rfl ?_)
  refine bs_dec (fun hlt => ?_) (fun hlt => absurd (show (i : Int) < rs.length by omega) hlt)
  obtain ⟨q, hq⟩ : ∃ q, rs[i]? = some q := ⟨_, List.getElem?_eq_getElem (by omega)⟩
  have hq14 := hr q (List.mem_of_getElem? hq)
  obtain ⟨b', o, cap', he, hcell⟩ := hv.row hr hq
  cases he
  repeat (first | refine vops_q tyOk rfl ?_ | refine vops_nil ?_ | refine vw_seq ?_ | refine vw_region (by kernel_rfl) ?_ | refine vw_skip ?_ | refine vw_block ?_)
  refine vw_draw [0, 1, 2, 3, 4, 5] (by kernel_rfl) (by kernel_rfl) (by kernel_rfl) rfl ?_
  repeat' (first | refine vd_q tyOk rfl (by first | trivial | rfl) rfl (by kernel_rfl) (by kernel_rfl) ?_ | refine vd_p tyOk rfl (by first | trivial | rfl) rfl (by kernel_rfl) (by kernel_rfl) (by (try simp only [inR]); omega) ?_ | refine vd_nil (by kernel_rfl) ?_ | refine vd_loadNM tyOk rfl (by first | trivial | rfl) rfl rfl rfl (by repeat (first | exact mem_here | apply mem_next | apply mem_past)) (by rw [ints_length, hr14]) (by kernel_rfl) (by kernel_rfl) (by kernel_rfl) (by repeat (first | exact sub_hereL | exact sub_refl | apply sub_cons | apply sub_app)) ?_ | refine vd_loadN tyOk (ints q) rfl (by first | trivial | rfl) rfl rfl rfl (by rw [ints_length, hq14]) (by kernel_rfl) (by kernel_rfl) (by kernel_rfl) (fun j x hx => sees_old (hcell j x hx) (by simp)) (by repeat (first | exact sub_hereL | exact sub_refl | apply sub_cons | apply sub_app)) ?_ | refine vd_eqA tyOk rfl (by first | trivial | rfl) rfl rfl rfl rfl rfl (by kernel_rfl) (by omega) (by omega) (by kernel_rfl) (by kernel_rfl) ?_)
  repeat (first | refine vw_cond rfl ?_)
  refine bs_dec (fun he => ?_) (fun he => ?_)
  · subst he
    obtain rfl := hfst i hq
    repeat (first | refine vops_q tyOk rfl ?_ | refine vops_nil ?_ | refine vw_seq ?_ | refine vw_region (by kernel_rfl) ?_ | refine vw_ret ?_)
    exact rv_int rfl rfl rfl
  · have hne : i ≠ x := fun h => he (by subst h; exact Option.some.inj (hx.symm.trans hq))
    repeat (first | refine vops_q tyOk rfl ?_ | refine vops_nil ?_ | refine vw_region (by kernel_rfl) ?_ | refine vops_p tyOk rfl (by (try simp only [inR]); omega) ?_ | refine vw_skip ?_)
    exact ⟨x - (i + 1), by omega, i + 1, by omega, rfl, rfl, rfl, rfl, rfl, rfl⟩

open Classical in
set_option maxHeartbeats 2000000 in
set_option maxRecDepth 100000 in
theorem c_placesOf (n : Int) (v u : Value) (rs : List (List Int)) (q : List Int) (w : World) (hv : RdS w v rs) (hu : RdS w u (reord rs q)) (hr : ∀ r ∈ rs, r.length = 14) (hl : rs.length ≤ 100) (hl2 : q.length ≤ 100) (hq : ∀ x ∈ q, 0 ≤ x ∧ x < rs.length) (hinj : ∀ (i j : Nat) (r : List Int), rs[i]? = some r → rs[j]? = some r → i = j) :
    Calls Try.prog 109 [.agg #[.int .i64 n, v], u].toArray w (Res w (NewI 2 q)) := by
  obtain ⟨a, cap, rfl⟩ := hv.len
  obtain ⟨a2, cap2, rfl⟩ := hu.len
  rw [reord_length]
  refine calls_of_vw Try.func109 rfl Try.ntmps109 (by simp) ?_
  refine vw_seq (vw_region (by kernel_rfl) (vops_box [.int .i64 n, .slice a rs.length cap] rfl (fun b2 hb2 => ?_)))
  have hr2 := reord14 hr hq
  repeat (first | refine vops_q tyOk rfl ?_ | refine vops_nil ?_ | refine vw_seq ?_ | refine vw_region (by kernel_rfl) ?_ | refine vw_block ?_)
  refine vw_loopW (fun y f own => ∃ (i : Nat) (p : Option Addr) (c : Nat) (X : Own), i ≤ q.length ∧ y = q.length - i ∧ f 10 = .int .i64 i ∧ f 9 = .int .i64 q.length ∧ f 8 = .slice a2 q.length cap2 ∧ f 5 = .slice p i c ∧ f 2 = .pointer (some ⟨b2, 0, none⟩) ∧ NewI 2 (q.take i) (.slice p i c) X ∧ own = X ++ [(b2, ⟨[.int .i64 n, .slice a rs.length cap], 32, 2, none⟩)]) q.length
    ⟨_, ole_refl, 0, none, 0, [], by omega, by omega, rfl, rfl, rfl, rfl, rfl, NewI.nil, rfl⟩ ?_
  rintro y f own ⟨i, p, c, X, hi, rfl, h10, h9, h8, h5, h2, hX, rfl⟩
  rw [upd_of h10, upd_of h9, upd_of h8, upd_of h5, upd_of h2]
  have hti : (q.take i).length = i := by rw [List.length_take]; omega
  repeat (first | refine vops_q tyOk rfl ?_ | refine vops_nil ?_ | refine vw_seq ?_ | refine vw_region (by kernel_rfl) ?_ | refine vw_cond rfl ?_)
  refine bs_dec (fun hlt => ?_) (fun hlt => ?_)
  · have hiq : i < q.length := by omega
    obtain ⟨hx0, hx1⟩ := hq _ (mem_getD (l := q) (i := i) hiq)
    obtain ⟨r, hrx⟩ : ∃ r, rs[(q.getD i 0).toNat]? = some r := ⟨_, List.getElem?_eq_getElem (by omega)⟩
    have hri := reord_get (rs := rs) (q := q) hiq hrx
    have hr14 := hr r (List.mem_of_getElem? hrx)
    obtain ⟨b', o, cap', he, hcell⟩ := hu.row hr2 hri
    cases he
    have hXf : NewF 2 1 i (q.take i) (.slice p i c) X := by
      have := NewI.f hX
      rwa [hti] at this
    have hcast : (((q.getD i 0).toNat : Nat) : Int) = q.getD i 0 := by omega
    repeat (first | refine vops_q tyOk rfl ?_ | refine vops_nil ?_ | refine vw_seq ?_ | refine vw_region (by kernel_rfl) ?_ | refine vops_p tyOk rfl (by (try simp only [inR]); omega) ?_ | refine vw_skip ?_ | refine vw_block ?_ | refine vops_loadN tyOk (ints r) rfl rfl rfl (by rw [ints_length, hr14]) (fun j x hx => sees_old (hcell j x hx) (by simp)) ?_ | refine vops_allocZ (ints (List.replicate 14 0)) tyOk rfl rfl (by simp [ints]) (fun b7 hb7 => ?_) | refine vops_storeAM tyOk rfl rfl rfl (by rw [ints_length, hr14]) ints_one (by repeat (first | exact upd_here | apply upd_next | apply upd_past)) (by simp [ints, hr14]) ?_ | (apply vops_callp ent163 rfl; (intro w' hg; exact c_indexR _ rs r (q.getD i 0).toNat w' (hv.same hg.fr) hr (by omega) hrx (fun j hj => hinj _ _ r hj hrx))) | refine vops_litI [_] tyOk rfl rfl (List.cons_ne_nil _ _) (by rfl) rfl (by omega) (by omega) (fun bt hbt => ?_) | refine vops_append1 (k := 1) tyOk rfl rfl (List.cons_ne_nil _ _) rfl rfl (by decide) rfl hXf (by repeat (first | exact pm_here | exact pm_last | apply pm_next | apply pm_past)) rfl (by repeat (first | exact mem_here | apply mem_next | apply mem_past)) rfl (by omega) (fun p' cap' new' hN' => ?_) | ((show VOps _ _ _ _ (⟨some _, Go.Op.load _ _, _, _, _, none⟩ :: _) _ _); first | refine vops_loadM tyOk rfl rfl rfl (by repeat (first | exact mem_here | apply mem_next | apply mem_past)) (by rfl) ?_ | refine vops_loadNM tyOk rfl rfl rfl (by repeat (first | exact mem_here | apply mem_next | apply mem_past)) (by first | rfl | (rw [ints_length]; first | assumption | omega | (rw [ints_length]; first | assumption | omega | simp [*])) | simp [*]) ?_))
    rw [hcast] at hN'
    refine ⟨q.length - (i + 1), by omega, new' ++ [(b2, ⟨[.int .i64 n, .slice a rs.length cap], 32, 2, none⟩)], ole_app pm_here (ole_last (by repeat (first | exact pm_here | exact pm_last | apply pm_next | apply pm_past))), i + 1, p', cap', new', by omega, rfl, rfl, rfl, rfl, rfl, rfl, ?_, rfl⟩
    have htk : q.take (i + 1) = q.take i ++ [q.getD i 0] := by rw [List.take_add_one, List.getD_eq_getElem?_getD, List.getElem?_eq_getElem hiq]; rfl
    rw [htk]
    exact NewI.snoc hN' hti.symm
  · obtain rfl : i = q.length := by omega
    rw [List.take_length] at hX
    repeat (first | refine vops_q tyOk rfl ?_ | refine vops_nil ?_ | refine vw_seq ?_ | refine vw_region (by kernel_rfl) ?_ | refine vw_ret ?_ | refine vw_exit ?_)
    exact out1 rfl rfl (SlAt.nodup hX) (by repeat (first | exact sub_hereL | exact sub_refl | apply sub_cons | apply sub_app)) hX
end Go.Proofs.Ytlfflmoegfibgaa

/- Parts of the proof, one after another. No conditions of their own. -/
/- A part of the proof: CA16. No conditions of its own. -/
namespace Go.Proofs.Ytlfflmoegfibgaa
open Go.VL
attribute [local irreducible] VWr VOps VD Calls

theorem rep_zeroT (n a : Nat) : List.replicate n 0 = (List.range n).map fun _ => (0 : Int) := by
  have _ := a
  apply List.ext_getElem (by simp)
  intro j h1 h2
  simp
/-- .. as the spec counts: whom the first z teams lead to. -/
def carS (k : Nat) (rs : List (List Int)) (j z x y : Nat) : Int := carN k rs j x y + if x < k ∧ (rs.getD j []).getD x 0 < (z : Int) ∧ nxR rs j x = (y : Int) then 1 else 0

set_option maxHeartbeats 4000000 in
set_option maxRecDepth 100000 in
theorem c_l09Matrix (k : Nat) (v : Value) (rs : List (List Int)) (hE : EvenR k rs) (w : World) (hv : RdS w v rs) (hr : ∀ r ∈ rs, r.length = 14) :
    Calls Try.prog 113 [.agg #[.int .i64 k, v]].toArray w (Res w (NewLL 38 2 (tabOf k (carN k rs rs.length)))) := by
  obtain ⟨a, cap, rfl⟩ := hv.len
  obtain ⟨hk2, hk14, hkl⟩ := hE.len
  have hS := hE.1
  refine calls_of_vw Try.func113 rfl Try.ntmps113 (by simp) ?_
  refine vw_seq (vw_region (by kernel_rfl) (vops_box [.int .i64 k, .slice a rs.length cap] rfl (fun b1 hb1 => ?_)))
  repeat (first | refine vops_q tyOk rfl ?_ | refine vops_nil ?_ | refine vw_seq ?_)
  refine vw_draw [1, 2, 3, 0, 4, 5] (by kernel_rfl) (by kernel_rfl) (by kernel_rfl) rfl ?_
  repeat' (first | refine vd_q tyOk rfl (by first | trivial | rfl) rfl (by kernel_rfl) (by kernel_rfl) ?_ | refine vops_nil ?_ | refine vd_nil (by kernel_rfl) ?_ | refine ⟨fun _ _ _ h => List.mem_cons_of_mem _ h, ?_⟩ | refine vd_load tyOk rfl (by first | trivial | rfl) rfl rfl rfl (by kernel_rfl) (by kernel_rfl) (by kernel_rfl) (sees_mem (by repeat (first | exact mem_here | apply mem_next | apply mem_past)) (by rfl)) (by repeat (first | exact sub_hereL | exact sub_refl | apply sub_cons | apply sub_app)) ?_ | refine vops_build0 tyOk rfl rfl (fun be hbe => ?_) | refine vd_one rfl (by kernel_rfl) (by kernel_rfl) rfl ?_)
  repeat (first | refine vops_q tyOk rfl ?_ | refine vops_nil ?_ | refine vw_seq ?_ | refine vw_region (by kernel_rfl) ?_ | refine vw_block ?_)
  refine vw_loopW (fun y f own => ∃ (i : Nat) (p : Option Addr) (cp : Nat) (vs : List Value) (ns : List Own) (outer : Own), i ≤ k ∧ y = k - i ∧ f 5 = .int .i64 i ∧ f 4 = .int .i64 rs.length ∧ f 1 = .pointer (some ⟨b1, 0, none⟩) ∧ f 3 = .slice p i cp ∧
      Go.VL.RowsAt 2 ((tabOf k fun _ _ => 0).take i) vs ns ∧ SlAt 38 1 (.slice p i cp) i vs outer [] ∧ own = outer ++ (ns.flatten ++ [(b1, ⟨[.int .i64 k, .slice a rs.length cap], 32, 2, none⟩)])) k
    ⟨[(be, _)] ++ ([] ++ [(b1, _)]), (by repeat (first | exact ole_nil | exact ole_refl | (apply ole_cons; (repeat (first | exact pm1_here | apply pm1_next | apply pm1_past))) | (apply ole_app; (repeat (first | exact pm_here | exact pm_last | apply pm_next | apply pm_past))))), 0, _, _, [], [], [(be, _)], by omega, by omega, rfl, rfl, rfl, rfl, by simp [Go.VL.RowsAt], SlAt.empty, rfl⟩ ?_
  rintro y f own ⟨i, p, cp, vs, ns, outer, hi, rfl, h5, h4, h1, h3, hRw, hO, rfl⟩
  rw [upd_of h5, upd_of h4, upd_of h1, upd_of h3]
  repeat (first | refine vops_q tyOk rfl ?_ | refine vops_nil ?_ | refine vw_seq ?_ | refine vw_region (by kernel_rfl) ?_ | refine vw_cond rfl ?_ | ((show VOps _ _ _ _ (⟨some _, Go.Op.load _ _, _, _, _, none⟩ :: _) _ _); refine vops_loadM tyOk rfl rfl rfl (by repeat (first | exact mem_here | apply mem_next | apply mem_past)) (by rfl) ?_))
  refine bs_dec (fun hlt => ?_) (fun hlt => ?_)
  · have hst : (tabOf k fun _ _ => 0).take (i + 1) = (tabOf k fun _ _ => 0).take i ++ [List.replicate k 0] := by
      rw [List.take_add_one, tabOf_get (by omega), rep_zeroT k k]; rfl
    repeat (first | refine vops_q tyOk rfl ?_ | refine vops_nil ?_ | refine vw_seq ?_ | refine vw_region (by kernel_rfl) ?_ | refine vops_p tyOk rfl (by (try simp only [inR]); omega) ?_ | refine vw_skip ?_ | refine vw_block ?_ | refine vops_makeRows (k := 1) (n := k) tyOk rfl rfl rfl (by omega) rfl rfl rfl (by show 8 * _ ≤ _; omega) (by omega) (fun br hbr => ?_) | refine vops_litV tyOk rfl rfl (List.cons_ne_nil _ _) rfl rfl rfl (fun bt hbt => ?_) | refine vops_appendV tyOk rfl rfl (List.cons_ne_nil _ _) rfl rfl (by decide) rfl hO (by repeat (first | exact pm_here | exact pm_last | apply pm_next | apply pm_past)) rfl (by repeat (first | exact mem_here | apply mem_next | apply mem_past)) rfl (by omega) (fun p' cap' outer' hO' => ?_) | ((show VOps _ _ _ _ (⟨some _, Go.Op.load _ _, _, _, _, none⟩ :: _) _ _); refine vops_loadM tyOk rfl rfl rfl (by repeat (first | exact mem_here | apply mem_next | apply mem_past)) (by rfl) ?_))
    rw [Nat.mul_one]
    refine ⟨k - (i + 1), by omega, outer' ++ (ns.flatten ++ ((br, ⟨ints (List.replicate k 0), 2, k * 1, none⟩) :: [(b1, ⟨[.int .i64 k, .slice a rs.length cap], 32, 2, none⟩)])), ?_, i + 1, p', cap', vs ++ [.slice (some ⟨br, 0, none⟩) k k], ns ++ [[(br, ⟨ints (List.replicate k 0), 2, k * 1, none⟩)]], outer', by omega, by omega, rfl, rfl, rfl, rfl, ?_, hO', ?_⟩
    · rw [Nat.mul_one]; exact (by repeat (first | exact ole_nil | exact ole_refl | (apply ole_cons; (repeat (first | exact pm1_here | apply pm1_next | apply pm1_past))) | (apply ole_app; (repeat (first | exact pm_here | exact pm_last | apply pm_next | apply pm_past)))))
    · rw [hst]
      exact RowsAt.snoc (NewI.lit (n := k) (cap := k) (by simp) (Nat.le_refl _) (by simp only [maxLen]; omega)) hRw
    · rw [flat_snoc, List.append_assoc]; rfl
  · obtain rfl : i = k := by omega
    rw [List.take_of_length_le (by rw [tabOf_length]; omega)] at hRw
    have hvl : vs.length = i := by rw [hRw.len.1, tabOf_length]
    obtain ⟨bo, rfl, rfl⟩ := outer_blk hO (by omega)
    have hT0 : TabAt 2 (tabOf i (carN i rs 0)) vs ns.flatten := ⟨ns, hRw, List.Perm.refl _⟩
    clear hRw
    refine vw_nodup (fun hnd0 => ?_)
    repeat (first | refine vops_q tyOk rfl ?_ | refine vops_nil ?_ | refine vw_seq ?_ | refine vw_region (by kernel_rfl) ?_ | refine vw_block ?_ | refine vw_exit ?_)
    refine vw_loopW (fun y f own => ∃ (j : Nat) (X : Own), j ≤ rs.length ∧ y = rs.length - j ∧ f 6 = .int .i64 j ∧ f 4 = .int .i64 rs.length ∧ f 3 = .slice (some ⟨bo, 0, none⟩) i cp ∧ f 1 = .pointer (some ⟨b1, 0, none⟩) ∧ TabAt 2 (tabOf i (carN i rs j)) vs X ∧ (ids ((bo, (⟨vs, 38, cp * 1, none⟩ : Blk)) :: X)).Nodup ∧
        own = (bo, ⟨vs, 38, cp * 1, none⟩) :: (X ++ [(b1, ⟨[.int .i64 i, .slice a rs.length cap], 32, 2, none⟩)])) rs.length
      ⟨_, ole_refl, 0, ns.flatten, by omega, by omega, rfl, rfl, rfl, rfl, hT0, nodup_sub hnd0 (List.Sublist.cons_cons _ (List.sublist_append_left _ _)), rfl⟩ ?_
    clear hT0 hnd0
    rintro y f own ⟨j, X, hj, rfl, h6, h4, h3, h1, hT, hnd, rfl⟩
    rw [upd_of h6, upd_of h4, upd_of h3, upd_of h1]
    repeat (first | refine vops_q tyOk rfl ?_ | refine vops_nil ?_ | refine vw_seq ?_ | refine vw_region (by kernel_rfl) ?_ | refine vw_cond rfl ?_)
    refine bs_dec (fun hlt2 => ?_) (fun hlt2 => ?_)
    · have hjl : j < rs.length := by omega
      have hrd := (sch_get hS hjl).2
      have hrl := hr _ (List.mem_of_getElem? (sch_get hS hjl).1)
      have hm : (j + 1) % rs.length < rs.length := Nat.mod_lt _ (by omega)
      have hxd := (sch_get hS hm).2
      have hxl := hr _ (List.mem_of_getElem? (sch_get hS hm).1)
      obtain ⟨b2, o, cap', he, hrow⟩ := hv.row hr (sch_get hS hjl).1
      cases he
      obtain ⟨b2', o', cap', he, hrow2⟩ := hv.row hr (sch_get hS hm).1
      cases he
      have hnx : ∀ x, nxR rs j x = (rs.getD ((j + 1) % rs.length) []).getD ((rs.getD j []).getD x 0).toNat 0 := fun x => rfl
      have hcs : ∀ z x y, carS i rs j z x y = carN i rs j x y + if x < i ∧ (rs.getD j []).getD x 0 < (z : Int) ∧ nxR rs j x = (y : Int) then 1 else 0 := fun z x y => rfl
      have hcn : ∀ x y, carN i rs (j + 1) x y = carN i rs j x y + if x < i ∧ nxR rs j x = (y : Int) then 1 else 0 := fun x y => rfl
      have hcl := fun x y => carN_le i rs x y j
      have hjm : ((j : Int) + 1) % (rs.length : Int) = (((j + 1) % rs.length : Nat) : Int) := by push_cast; rfl
      generalize rs.getD j [] = r at *
      generalize rs.getD ((j + 1) % rs.length) [] = nx at *
      generalize (j + 1) % rs.length = m at *
      repeat (first | refine vops_q tyOk rfl ?_ | refine vops_nil ?_ | refine vw_seq ?_ | refine vw_region (by kernel_rfl) ?_ | refine vw_skip ?_ | refine vw_block ?_)
      refine vw_loopW (fun y f own => ∃ (z : Nat) (X : Own), z ≤ i ∧ y = i - z ∧ f 7 = .int .i64 z ∧ f 6 = .int .i64 j ∧ f 4 = .int .i64 rs.length ∧ f 3 = .slice (some ⟨bo, 0, none⟩) i cp ∧ f 1 = .pointer (some ⟨b1, 0, none⟩) ∧ TabAt 2 (tabOf i (carS i rs j z)) vs X ∧ (ids ((bo, (⟨vs, 38, cp * 1, none⟩ : Blk)) :: X)).Nodup ∧
          own = (bo, ⟨vs, 38, cp * 1, none⟩) :: (X ++ [(b1, ⟨[.int .i64 i, .slice (some ⟨b2, o, none⟩) rs.length cap], 32, 2, none⟩)])) i
        ⟨_, ole_refl, 0, X, by omega, by omega, rfl, rfl, rfl, rfl, rfl, by rw [tabOf_congr (g := carN i rs j) fun x y hx _ => by rw [hcs, if_neg (by have := (rd_at hrd hx).1; omega)]; omega]; exact hT, hnd, rfl⟩ ?_
      clear hT X hnd
      rintro y f own ⟨z, X, hz, rfl, h7, h6, h4, h3, h1, hT, hnd, rfl⟩
      rw [upd_of h7, upd_of h6, upd_of h4, upd_of h3, upd_of h1]
      repeat (first | refine vops_q tyOk rfl ?_ | refine vops_nil ?_ | refine vw_seq ?_ | refine vw_region (by kernel_rfl) ?_ | refine vw_cond rfl ?_ | ((show VOps _ _ _ _ (⟨some _, Go.Op.load _ _, _, _, _, none⟩ :: _) _ _); refine vops_loadM tyOk rfl rfl rfl (by repeat (first | exact mem_here | apply mem_next | apply mem_past)) (by rfl) ?_))
      refine bs_dec (fun hlt3 => ?_) (fun hlt3 => ?_)
      · have hzi : z < i := by omega
        obtain ⟨e0, e1, e2⟩ := rd_at hrd hzi
        obtain ⟨A, hA⟩ : ∃ A : Nat, r.getD z 0 = (A : Int) := ⟨(r.getD z 0).toNat, by omega⟩
        obtain ⟨f0, f1, _⟩ := rd_at hxd hzi
        obtain ⟨B, hB⟩ : ∃ B : Nat, nx.getD z 0 = (B : Int) := ⟨(nx.getD z 0).toNat, by omega⟩
        rw [hA] at e0 e1 e2
        rw [Int.toNat_natCast] at e2
        rw [hB] at f0 f1
        have hAi : A < i := by omega
        have hBi : B < i := by omega
        have hnA : nxR rs j A = B := by rw [hnx, e2, Int.toNat_natCast, hB]
        have hG : ∀ x y, x < i → carS i rs j (z + 1) x y = if x = A ∧ y = B then carS i rs j z A B + 1 else carS i rs j z x y := fun x y hx => by
          rw [hcs, hcs, hcs]
          obtain ⟨d0, d1, d2⟩ := rd_at hrd hx
          by_cases h : x = A ∧ y = B
          · obtain ⟨rfl, rfl⟩ := h
            rw [if_pos (show x < i ∧ r.getD x 0 < ((z + 1 : Nat) : Int) ∧ nxR rs j x = (y : Int) from ⟨hx, by rw [e2]; push_cast; omega, hnA⟩), if_pos (show x = x ∧ y = y from ⟨rfl, rfl⟩), if_neg (show ¬ (x < i ∧ r.getD x 0 < (z : Int) ∧ nxR rs j x = (y : Int)) from fun h => by have := h.2.1; rw [e2] at this; omega)]
            omega
          · rw [if_neg h]
            congr 1
            by_cases h2 : x < i ∧ r.getD x 0 < (z : Int) ∧ nxR rs j x = (y : Int)
            · rw [if_pos h2, if_pos ⟨hx, by have := h2.2.1; push_cast; omega, h2.2.2⟩]
            · rw [if_neg h2, if_neg]
              rintro ⟨h3, h4, h5⟩
              push_cast at h4
              by_cases h6 : r.getD x 0 = (z : Int)
              · have hxA : x = A := by rw [h6, Int.toNat_natCast, hA] at d2; omega
                subst hxA
                rw [hnA] at h5
                exact h ⟨rfl, by omega⟩
              · exact h2 ⟨h3, by omega, h5⟩
        have hGb : 0 ≤ carS i rs j z A B ∧ carS i rs j z A B ≤ 100 := by
          have := hcl A B
          rw [hcs]; split <;> omega
        have hld : ∀ t, t = (z : Int).toNat → w.cell? ⟨b2, o + j * 14 + t, none⟩ = some (.int .i64 A) := fun t ht => by
          rw [show t = z by omega, ← hA]; exact hrow z _ (ints_get (by omega))
        have hm0 : 0 ≤ ((j : Int) + 1) % (rs.length : Int) ∧ ((j : Int) + 1) % (rs.length : Int) < rs.length := by rw [hjm]; omega
        have hld2 : w.cell? ⟨b2, o + (((j : Int) + 1) % (rs.length : Int)).toNat * 14 + (z : Int).toNat, none⟩ = some (.int .i64 B) := by
          rw [hjm, show (m : Int).toNat = m by omega, show (z : Int).toNat = z by omega, ← hB]; exact hrow2 z _ (ints_get (by omega))
        obtain ⟨G, hGd⟩ : ∃ G : Nat → Nat → Int, G = carS i rs j z := ⟨_, rfl⟩
        rw [← hGd] at hT hGb
        obtain ⟨br, cr, R, hv1, hp1, _, hnew1⟩ := hT.row (tabOf_get (a := A) (by omega)) (by rw [row_length]; omega)
        rw [row_length] at hv1
        have hva := vals_get hv1 (show 0 + (A : Int).toNat = A by omega)
        have hcell : (ints ((List.range i).map fun b => G A b))[0 + (B : Int).toNat]? = some (.int .i64 (G A B)) := by
          rw [show 0 + (B : Int).toNat = B by omega, ints_get (by rw [row_length]; omega), row_get (by omega)]
        refine vw_perm (own' := (br, ⟨ints ((List.range i).map fun b => G A b), 2, cr * 1, none⟩) :: ((bo, ⟨vs, 38, cp * 1, none⟩) :: (R ++ [(b1, ⟨[.int .i64 i, .slice (some ⟨b2, o, none⟩) rs.length cap], 32, 2, none⟩)]))) (perm_pull (A := [(bo, ⟨vs, 38, cp * 1, none⟩)]) hp1) ?_
        repeat (first | refine vops_q tyOk rfl ?_ | refine vops_nil ?_ | refine vw_seq ?_ | refine vw_region (by kernel_rfl) ?_ | refine vops_p tyOk rfl (by (try simp only [inR]); omega) ?_ | refine vw_skip ?_ | refine vw_block ?_ | refine vops_load tyOk rfl rfl rfl (sees_old (hld _ rfl) (by simp)) ?_ | refine vops_loadM tyOk rfl rfl rfl (by repeat (first | exact mem_here | apply mem_next | apply mem_past)) (by exact hva) ?_ | ((show VOps _ _ _ _ (⟨some _, Go.Op.load _ _, _, _, _, none⟩ :: _) _ _); refine vops_loadM tyOk rfl rfl rfl (by repeat (first | exact mem_here | apply mem_next | apply mem_past)) (by rfl) ?_))
        refine vw_draw [0, 1, 2, 3, 4, 5, 6, 7, 8, 9, 10, 11, 12, 13, 14, 15] (by kernel_rfl) (by kernel_rfl) (by kernel_rfl) rfl ?_
        repeat' (first | refine vd_q tyOk rfl (by first | trivial | rfl) rfl (by kernel_rfl) (by kernel_rfl) ?_ | refine vd_p tyOk rfl (by first | trivial | rfl) rfl (by kernel_rfl) (by kernel_rfl) (by (try simp only [inR]); omega) ?_ | refine vops_nil ?_ | refine vd_load tyOk rfl (by first | trivial | rfl) rfl rfl rfl (by kernel_rfl) (by kernel_rfl) (by kernel_rfl) (sees_mem (by repeat (first | exact mem_here | apply mem_next | apply mem_past)) rfl) (by repeat (first | exact sub_hereL | exact sub_refl | apply sub_cons | apply sub_app)) ?_ | refine vd_load tyOk rfl (by first | trivial | rfl) rfl rfl rfl (by kernel_rfl) (by kernel_rfl) (by kernel_rfl) (sees_old hld2 (by simp)) (by repeat (first | exact sub_hereL | exact sub_refl | apply sub_cons | apply sub_app)) ?_ | refine vd_load tyOk rfl (by first | trivial | rfl) rfl rfl rfl (by kernel_rfl) (by kernel_rfl) (by kernel_rfl) (sees_mem (by repeat (first | exact mem_here | apply mem_next | apply mem_past)) (by exact hcell)) (by repeat (first | exact sub_hereL | exact sub_refl | apply sub_cons | apply sub_app)) ?_ | refine vops_storeIM tyOk rfl rfl rfl rfl (by repeat (first | exact upd_here | apply upd_next | apply upd_past)) (by rw [row_length]; omega) ?_ | refine vd_one rfl (by kernel_rfl) (by kernel_rfl) rfl ?_)
        repeat' (first | refine vd_q tyOk rfl (by first | trivial | rfl) rfl (by kernel_rfl) (by kernel_rfl) ?_ | refine vd_p tyOk rfl (by first | trivial | rfl) rfl (by kernel_rfl) (by kernel_rfl) (by (try simp only [inR]); omega) ?_ | refine vd_skipT rfl rfl (by kernel_rfl) (by kernel_rfl) ?_ | refine vd_skipF rfl rfl (by kernel_rfl) (by kernel_rfl) ?_ | refine vd_skipU rfl rfl (by kernel_rfl) (by kernel_rfl) ?_ | refine vops_nil ?_ | refine vd_nil (by kernel_rfl) ?_ | refine ⟨fun _ _ _ h => h, ?_⟩ | refine ⟨fun _ _ _ h => List.mem_cons_of_mem _ h, ?_⟩ | refine ⟨fun _ _ _ h => List.mem_append_right _ h, ?_⟩ | refine vops_q tyOk rfl ?_ | refine vd_load tyOk rfl (by first | trivial | rfl) rfl rfl rfl (by kernel_rfl) (by kernel_rfl) (by kernel_rfl) (sees_mem (by repeat (first | exact mem_here | apply mem_next | apply mem_past)) (by rfl)) (by repeat (first | exact sub_hereL | exact sub_refl | apply sub_cons | apply sub_app)) ?_ | refine vd_load tyOk rfl (by first | trivial | rfl) rfl rfl rfl (by kernel_rfl) (by kernel_rfl) (by kernel_rfl) (sees_mem (k := ⟨ints _, _, _, none⟩) (by repeat (first | exact mem_here | apply mem_next | apply mem_past)) (by exact ints_get0 (by omega))) (by repeat (first | exact sub_hereL | exact sub_refl | apply sub_cons | apply sub_app)) ?_ | refine vd_loadNM tyOk rfl (by first | trivial | rfl) rfl rfl rfl (by repeat (first | exact mem_here | apply mem_next | apply mem_past)) (by first | rfl | (rw [ints_length]; first | assumption | omega | (rw [ints_length]; first | assumption | omega | simp [*])) | simp [*]) (by kernel_rfl) (by kernel_rfl) (by kernel_rfl) (by repeat (first | exact sub_hereL | exact sub_refl | apply sub_cons | apply sub_app)) ?_ | refine vd_build2 rfl (by first | trivial | rfl) rfl rfl (by kernel_rfl) (by kernel_rfl) (by kernel_rfl) ?_ | refine vd_slice tyOk rfl (by first | trivial | rfl) rfl rfl rfl rfl rfl (by kernel_rfl) (by kernel_rfl) (by omega) ?_ | refine ⟨fun h => Bool.noConfusion (show false = true from h), ?_⟩ | refine ⟨fun _ p hp _ => (show Go.VL.Sub _ _ from (by repeat (first | exact sub_hereL | exact sub_refl | apply sub_cons | apply sub_app))) p hp, ?_⟩ | ((show VOps _ _ _ _ (⟨some _, Go.Op.load _ _, _, _, _, none⟩ :: _) _ _); first | refine vops_loadM tyOk rfl rfl rfl (by repeat (first | exact mem_here | apply mem_next | apply mem_past)) (by rfl) ?_ | refine vops_loadM tyOk rfl rfl rfl (by repeat (first | exact mem_here | apply mem_next | apply mem_past)) (by exact ints_get0 (by omega)) ?_ | refine vops_loadNM tyOk rfl rfl rfl (by repeat (first | exact mem_here | apply mem_next | apply mem_past)) (by first | rfl | (rw [ints_length]; first | assumption | omega | (rw [ints_length]; first | assumption | omega | simp [*])) | simp [*]) ?_) | ((show VOps _ _ _ _ (⟨none, Go.Op.store _ _ _, _, _, _, none⟩ :: _) _ _); first | refine vops_storeIM tyOk rfl rfl rfl rfl (by repeat (first | exact upd_here | apply upd_next | apply upd_past)) (by omega) ?_ | refine vops_storeM tyOk rfl rfl rfl rfl rfl (by repeat (first | exact upd_here | apply upd_next | apply upd_past)) (by simp) ?_ | refine vops_storeAM tyOk rfl rfl rfl (by first | rfl | (rw [ints_length]; first | assumption | omega | (rw [ints_length]; first | assumption | omega | simp [*])) | simp [*]) (by first | exact ints_one | simp [Value.oneCell']) (by repeat (first | exact upd_here | apply upd_next | apply upd_past)) (by first | rfl | (rw [ints_length]; first | assumption | omega | (rw [ints_length]; first | assumption | omega | simp [*])) | simp [*]) ?_) | refine vops_build2 rfl rfl (by kernel_rfl) ?_ | refine vops_buildZ tyOk rfl (by kernel_rfl) ?_ | refine vops_slice tyOk rfl rfl rfl rfl rfl (by omega) ?_ | refine vd_one rfl (by kernel_rfl) (by kernel_rfl) rfl ?_ | refine vd_oneG rfl (by kernel_rfl) (by kernel_rfl) rfl ?_ | (refine vd_gsplit rfl rfl rfl ?_; (fail_if_success (with_reducible (first | refine bs_true ?_ | refine bs_false ?_))); with_reducible refine bs_dec (fun _ => ?_) (fun _ => ?_)) <;> try (exfalso; omega) | (refine vd_gsplit rfl rfl rfl ?_; (fail_if_success (with_reducible (first | refine bs_true ?_ | refine bs_false ?_))); with_reducible refine bs_ndec (fun _ => ?_) (fun _ => ?_)) <;> try (exfalso; omega) | (refine vd_gsplit rfl rfl rfl ?_; (fail_if_success (with_reducible (first | refine bs_true ?_ | refine bs_false ?_))); with_reducible refine bs_nany (fun _ => ?_) (fun _ => ?_)) <;> try (exfalso; omega) | (refine vd_gsplit rfl rfl rfl ?_; (fail_if_success (with_reducible (first | refine bs_true ?_ | refine bs_false ?_))); with_reducible refine bs_any (fun _ => ?_) (fun _ => ?_)) <;> try (exfalso; omega))
        repeat (first | refine vops_q tyOk rfl ?_ | refine vops_nil ?_ | refine vw_region (by kernel_rfl) ?_ | refine vops_p tyOk rfl (by (try simp only [inR]); omega) ?_)
        have hT2 := hnew1 (((List.range i).map fun b => G A b).set (B : Int).toNat (G A B + 1)) (by rw [List.length_set])
        rw [show (tabOf i G).set A (((List.range i).map fun b => G A b).set (B : Int).toNat (G A B + 1)) = tabOf i (carS i rs j (z + 1)) by
          rw [Int.toNat_natCast, tabOf_set, hGd]
          exact tabOf_congr fun x y hx _ => (hG x y hx).symm] at hT2
        refine ⟨i - (z + 1), by omega, _, ole_perm ?_, z + 1, _, by omega, rfl, rfl, rfl, rfl, rfl, rfl, hT2, ?_, rfl⟩
        · exact (List.perm_middle (l₁ := [(bo, (⟨vs, 38, cp * 1, none⟩ : Blk))])).symm
        · have hids : (ids X).Perm (br :: ids R) := hp1.map Prod.fst
          exact ((hids.cons bo).nodup_iff).1 hnd
      · obtain rfl : z = i := by omega
        repeat (first | refine vops_q tyOk rfl ?_ | refine vops_nil ?_ | refine vw_region (by kernel_rfl) ?_ | refine vops_p tyOk rfl (by (try simp only [inR]); omega) ?_ | refine vw_exit ?_)
        refine ⟨rs.length - (j + 1), by omega, _, ole_refl, j + 1, X, by omega, rfl, rfl, rfl, rfl, rfl, ?_, hnd, rfl⟩
        rw [tabOf_congr (f := carN z rs (j + 1)) (g := carS z rs j z) fun x y hx _ => by
          rw [hcn, hcs]
          congr 1
          by_cases h : x < z ∧ nxR rs j x = (y : Int)
          · rw [if_pos h, if_pos ⟨h.1, (rd_at hrd hx).2.1, h.2⟩]
          · rw [if_neg h, if_neg fun h2 => h ⟨h2.1, h2.2.2⟩]]
        exact hT
    · obtain rfl : j = rs.length := by omega
      obtain ⟨ns', hR', hp'⟩ := hT
      repeat (first | refine vops_q tyOk rfl ?_ | refine vops_nil ?_ | refine vw_seq ?_ | refine vw_region (by kernel_rfl) ?_ | refine vw_ret ?_ | refine vw_exit ?_)
      have hpp : ((bo, (⟨vs, 38, cp * 1, none⟩ : Blk)) :: X).Perm ((bo, (⟨vs, 38, cp * 1, none⟩ : Blk)) :: ns'.flatten) := hp'.cons _
      refine outLL (outer := [(bo, ⟨vs, 38, cp * 1, none⟩)]) rfl rfl hR' ?_ (by rw [tabOf_length]) (((hpp.map Prod.fst).nodup_iff).1 hnd) (fun q hq => ?_)
      · exact hO
      · have h := hpp.mem_iff.2 hq
        exact List.mem_append_left _ h
end Go.Proofs.Ytlfflmoegfibgaa

/- A part of the proof: CA17. No conditions of its own. -/
namespace Go.Proofs.Ytlfflmoegfibgaa
open Go.VL
attribute [local irreducible] VWr VOps VD Calls

set_option maxRecDepth 100000 in
theorem c_cloneL (v : Value) (l : List Int) (w : World) (hv : RdI w v l) (hl : l.length ≤ 1048576) : Calls Try.prog 165 [v].toArray w (Res w (NewI 2 l)) := by
  obtain ⟨a, cap, rfl⟩ := hv.len
  refine calls_of_vw Try.func165 rfl Try.ntmps165 (by simp) ?_
  cases a with
  | none =>
    have hl0 : l = [] := by
      rcases hv with ⟨_, _, _, h⟩ | ⟨_, _, _, h, _⟩
      · exact h
      · cases h
    subst hl0
    repeat (first | refine vops_q tyOk rfl ?_ | refine vops_nil ?_ | refine vw_seq ?_ | refine vw_region (by kernel_rfl) ?_ | refine vw_cond rfl ?_ | refine vops_isNil tyOk rfl rfl rfl ?_)
    refine bs_true ?_
    repeat (first | refine vops_q tyOk rfl ?_ | refine vops_nil ?_ | refine vw_seq ?_ | refine vw_region (by kernel_rfl) ?_ | refine vw_ret ?_)
    exact out1 rfl rfl (new := []) List.nodup_nil sub_nil NewI.nil
  | some a =>
    repeat (first | refine vops_q tyOk rfl ?_ | refine vops_nil ?_ | refine vw_seq ?_ | refine vw_region (by kernel_rfl) ?_ | refine vw_cond rfl ?_ | refine vops_isNil tyOk rfl rfl rfl ?_)
    refine bs_false ?_
    repeat (first | refine vops_q tyOk rfl ?_ | refine vops_nil ?_ | refine vw_seq ?_ | refine vw_region (by kernel_rfl) ?_ | refine vw_skip ?_ | refine vw_ret ?_ | refine vops_build0 tyOk rfl rfl (fun be hbe => ?_) | refine vops_appendL (k := 1) (q := []) (q2 := l) tyOk rfl rfl (List.cons_ne_nil _ _) rfl rfl (by decide) rfl NewF.empty (by repeat (first | exact pm_here | exact pm_last | apply pm_next | apply pm_past)) rfl (fun w' hg => rdI_F (hv.same hg.fr)) (by omega) (fun p' cap' new' hN' => ?_))
    have hN2 : NewI 2 l (.slice p' (0 + l.length) cap') new' := by
      have h2 : NewF 2 1 (0 + l.length) l (.slice p' (0 + l.length) cap') new' := by simpa using hN'
      rw [Nat.zero_add] at h2 ⊢
      exact h2
    exact out1 rfl rfl (SlAt.nodup hN2) (by repeat (first | exact sub_hereL | exact sub_refl | apply sub_cons | apply sub_app)) hN2


theorem tabOf_row {n : Nat} {g : Nat → Nat → Int} {a : Nat} (h : a < n) : (tabOf n g)[a]? = some (lst n (g a)) := tabOf_get h
theorem tabOf_take {n : Nat} {g : Nat → Nat → Int} {a : Nat} (h : a < n) : (tabOf n g).take (a + 1) = (tabOf n g).take a ++ [lst n (g a)] := by rw [List.take_add_one, tabOf_row h]; rfl
/-- A row of a matrix, read. -/
theorem rdI_mat {Γ : Ctx} {own : Own} {w : World} {b e N o : Nat} {x : Int} {n a : Nat} {g : Nat → Nat → Int} (hm : (b, (⟨ints (matN x 14 14 g), e, N, none⟩ : Blk)) ∈ own) (hg : Go.VL.Good Γ own w) (hn : n ≤ 14) (ha : a < 14) (ho : o = 1 + a * 14) : RdI w (.slice (some ⟨b, o, none⟩) n 14) (lst n (g a)) := by
  subst ho
  refine .inr ⟨b, 1 + a * 14, 14, by rw [lst_length], fun j v hj => ?_⟩
  have hjn : j < n := by have := (List.getElem?_eq_some_iff.1 hj).1; rwa [ints_length, lst_length] at this
  refine cell_of_blk hg.ok hm ?_
  rw [matN_get ha (by omega)]
  have h2 := ints_get' (lst_get (n := n) (h := g a) hjn)
  rw [h2] at hj
  exact hj

set_option maxHeartbeats 4000000 in
set_option maxRecDepth 100000 in
theorem c_rowsM (n : Nat) (hn : n ≤ 14) (h0 : 0 < n) (g : Nat → Nat → Int) (w : World) :
    Calls Try.prog 117 [mvM n g].toArray w (Res w (NewLL 38 2 (tabOf n g))) := by
  refine calls_of_vw Try.func117 rfl Try.ntmps117 (by simp) ?_
  refine vw_seq (vw_region (by kernel_rfl) (vops_box (ints (matN n 14 14 g)) rfl (fun b1 hb1 => ?_)))
  have hl1 : (ints (matN n 14 14 g)).length = 197 := by rw [ints_length, matN_length]
  have hM0 : (ints (matN n 14 14 g))[0 + 0]? = some (.int .i64 n) := rfl
  repeat (first | refine vops_q tyOk rfl ?_ | refine vops_nil ?_ | refine vw_seq ?_ | refine vw_region (by kernel_rfl) ?_ | refine vops_loadM tyOk rfl rfl rfl (by repeat (first | exact mem_here | apply mem_next | apply mem_past)) (by exact hM0) ?_)
  refine vops_make (n := n) tyOk rfl rfl (List.cons_ne_nil _ _) rfl rfl (by show 24 * _ ≤ _; omega) (by omega) (fun bo hbo => ?_)
  have hmade : (madeCells ([Value.slice none 0 0] : List Value).toArray (n * 1)).toList = List.replicate n (Value.slice none 0 0) := by
    rw [Nat.mul_one]; exact made_same _ 1 _ (by omega)
  repeat (first | refine vops_q tyOk rfl ?_ | refine vops_nil ?_ | refine vw_seq ?_ | refine vw_region (by kernel_rfl) ?_ | refine vw_block ?_)
  refine vw_loopW (fun y f own => ∃ (i : Nat) (vs : List Value) (ns : List Own), i ≤ n ∧ y = n - i ∧ f 10 = .int .i64 i ∧ f 9 = .int .i64 n ∧ f 3 = .slice (some ⟨bo, 0, none⟩) n n ∧ f 1 = .pointer (some ⟨b1, 0, none⟩) ∧ RowsAt 2 ((tabOf n g).take i) vs ns ∧
      own = (bo, ⟨vs ++ List.replicate (n - i) (.slice none 0 0), 38, n * 1, none⟩) :: (ns.flatten ++ [(b1, ⟨ints (matN n 14 14 g), 114, (ints (matN n 14 14 g)).length, none⟩)])) n
    ⟨_, ole_refl, 0, [], [], by omega, by omega, rfl, rfl, rfl, rfl, by simp [RowsAt], by rw [List.nil_append, Nat.sub_zero, ← hmade]; rfl⟩ ?_
  rintro y f own ⟨i, vs, ns, hi, rfl, h10, h9, h3, h1, hRw, rfl⟩
  rw [upd_of h10, upd_of h9, upd_of h3, upd_of h1]
  have hvl : vs.length = i := by rw [hRw.len.1, List.length_take, tabOf_length]; omega
  repeat (first | refine vops_q tyOk rfl ?_ | refine vops_nil ?_ | refine vw_seq ?_ | refine vw_region (by kernel_rfl) ?_ | refine vw_cond rfl ?_)
  refine bs_dec (fun hlt => ?_) (fun hlt => ?_)
  · have hin : i < n := by omega
    have hrep : List.replicate (n - i) (Value.slice none 0 0) = .slice none 0 0 :: List.replicate (n - (i + 1)) (.slice none 0 0) := by
      rw [show n - i = (n - (i + 1)) + 1 by omega, List.replicate_succ]
    have hidx : 0 + (i : Int).toNat = i := by omega
    have hlc : (lst n (g i)).length = n := lst_length _ _
    have hoff : 0 + 1 + (i : Int).toNat * 14 = 1 + i * 14 := by omega
    repeat (first | refine vops_q tyOk rfl ?_ | refine vops_nil ?_ | refine vw_seq ?_ | refine vw_region (by kernel_rfl) ?_ | refine vw_skip ?_ | refine vw_block ?_)
    refine vw_draw [0, 1, 2, 3, 4, 5, 6, 7, 8, 9, 10] (by kernel_rfl) (by kernel_rfl) (by kernel_rfl) rfl ?_
    repeat' (first | refine vd_q tyOk rfl (by first | trivial | rfl) rfl (by kernel_rfl) (by kernel_rfl) ?_ | refine vd_p tyOk rfl (by first | trivial | rfl) rfl (by kernel_rfl) (by kernel_rfl) (by (try simp only [inR]); omega) ?_ | refine vops_nil ?_ | refine ⟨fun _ _ _ h => List.mem_append_right _ h, ?_⟩ | refine vd_run rfl (by first | trivial | rfl) (fun w => x_sliceArrTo (m := n) tyOk rfl rfl rfl rfl (by omega) w) (by kernel_rfl) (by kernel_rfl) ?_ | refine vd_load tyOk rfl (by first | trivial | rfl) rfl rfl rfl (by kernel_rfl) (by kernel_rfl) (by kernel_rfl) (sees_mem (by repeat (first | exact mem_here | apply mem_next | apply mem_past)) (by exact hM0)) (by repeat (first | exact sub_hereL | exact sub_refl | apply sub_cons | apply sub_app)) ?_ | (apply vops_call ent165 rfl; (intro w' hg; exact c_cloneL _ (lst n (g i)) w' (rdI_mat (by repeat (first | exact mem_here | apply mem_next | apply mem_past)) hg (by omega) (a := i) (by omega) hoff) (by omega)); (intro _ newN hN; obtain ⟨pN, cN, rfl⟩ := SlAt.form hN)) | refine vops_storeM (o := i) tyOk rfl rfl (by exact congrArg (fun x => Value.pointer (some ⟨bo, x, none⟩)) hidx) rfl rfl (by repeat (first | exact upd_here | apply upd_next | apply upd_past)) (by rw [List.length_append, List.length_replicate]; omega) ?_ | refine vd_one rfl (by kernel_rfl) (by kernel_rfl) rfl ?_)
    repeat' (first | refine vd_q tyOk rfl (by first | trivial | rfl) rfl (by kernel_rfl) (by kernel_rfl) ?_ | refine vd_p tyOk rfl (by first | trivial | rfl) rfl (by kernel_rfl) (by kernel_rfl) (by (try simp only [inR]); omega) ?_ | refine vd_skipT rfl rfl (by kernel_rfl) (by kernel_rfl) ?_ | refine vd_skipF rfl rfl (by kernel_rfl) (by kernel_rfl) ?_ | refine vd_skipU rfl rfl (by kernel_rfl) (by kernel_rfl) ?_ | refine vops_nil ?_ | refine vd_nil (by kernel_rfl) ?_ | refine ⟨fun _ _ _ h => h, ?_⟩ | refine ⟨fun _ _ _ h => List.mem_cons_of_mem _ h, ?_⟩ | refine ⟨fun _ _ _ h => List.mem_append_right _ h, ?_⟩ | refine vops_q tyOk rfl ?_ | refine vd_load tyOk rfl (by first | trivial | rfl) rfl rfl rfl (by kernel_rfl) (by kernel_rfl) (by kernel_rfl) (sees_mem (by repeat (first | exact mem_here | apply mem_next | apply mem_past)) (by rfl)) (by repeat (first | exact sub_hereL | exact sub_refl | apply sub_cons | apply sub_app)) ?_ | refine vd_load tyOk rfl (by first | trivial | rfl) rfl rfl rfl (by kernel_rfl) (by kernel_rfl) (by kernel_rfl) (sees_mem (k := ⟨ints _, _, _, none⟩) (by repeat (first | exact mem_here | apply mem_next | apply mem_past)) (by exact ints_get0 (by omega))) (by repeat (first | exact sub_hereL | exact sub_refl | apply sub_cons | apply sub_app)) ?_ | refine vd_loadNM tyOk rfl (by first | trivial | rfl) rfl rfl rfl (by repeat (first | exact mem_here | apply mem_next | apply mem_past)) (by first | rfl | (rw [ints_length]; first | assumption | omega | (rw [ints_length]; first | assumption | omega | simp [*])) | simp [*]) (by kernel_rfl) (by kernel_rfl) (by kernel_rfl) (by repeat (first | exact sub_hereL | exact sub_refl | apply sub_cons | apply sub_app)) ?_ | refine vd_build2 rfl (by first | trivial | rfl) rfl rfl (by kernel_rfl) (by kernel_rfl) (by kernel_rfl) ?_ | refine vd_slice tyOk rfl (by first | trivial | rfl) rfl rfl rfl rfl rfl (by kernel_rfl) (by kernel_rfl) (by omega) ?_ | refine ⟨fun h => Bool.noConfusion (show false = true from h), ?_⟩ | refine ⟨fun _ p hp _ => (show Go.VL.Sub _ _ from (by repeat (first | exact sub_hereL | exact sub_refl | apply sub_cons | apply sub_app))) p hp, ?_⟩ | ((show VOps _ _ _ _ (⟨some _, Go.Op.load _ _, _, _, _, none⟩ :: _) _ _); first | refine vops_loadM tyOk rfl rfl rfl (by repeat (first | exact mem_here | apply mem_next | apply mem_past)) (by rfl) ?_ | refine vops_loadM tyOk rfl rfl rfl (by repeat (first | exact mem_here | apply mem_next | apply mem_past)) (by exact ints_get0 (by omega)) ?_ | refine vops_loadNM tyOk rfl rfl rfl (by repeat (first | exact mem_here | apply mem_next | apply mem_past)) (by first | rfl | (rw [ints_length]; first | assumption | omega | (rw [ints_length]; first | assumption | omega | simp [*])) | simp [*]) ?_) | ((show VOps _ _ _ _ (⟨none, Go.Op.store _ _ _, _, _, _, none⟩ :: _) _ _); first | refine vops_storeIM tyOk rfl rfl rfl rfl (by repeat (first | exact upd_here | apply upd_next | apply upd_past)) (by omega) ?_ | refine vops_storeM tyOk rfl rfl rfl rfl rfl (by repeat (first | exact upd_here | apply upd_next | apply upd_past)) (by simp) ?_ | refine vops_storeAM tyOk rfl rfl rfl (by first | rfl | (rw [ints_length]; first | assumption | omega | (rw [ints_length]; first | assumption | omega | simp [*])) | simp [*]) (by first | exact ints_one | simp [Value.oneCell']) (by repeat (first | exact upd_here | apply upd_next | apply upd_past)) (by first | rfl | (rw [ints_length]; first | assumption | omega | (rw [ints_length]; first | assumption | omega | simp [*])) | simp [*]) ?_) | refine vops_build2 rfl rfl (by kernel_rfl) ?_ | refine vops_buildZ tyOk rfl (by kernel_rfl) ?_ | refine vops_slice tyOk rfl rfl rfl rfl rfl (by omega) ?_ | refine vd_one rfl (by kernel_rfl) (by kernel_rfl) rfl ?_ | refine vd_oneG rfl (by kernel_rfl) (by kernel_rfl) rfl ?_ | (refine vd_gsplit rfl rfl rfl ?_; (fail_if_success (with_reducible (first | refine bs_true ?_ | refine bs_false ?_))); with_reducible refine bs_dec (fun _ => ?_) (fun _ => ?_)) <;> try (exfalso; omega) | (refine vd_gsplit rfl rfl rfl ?_; (fail_if_success (with_reducible (first | refine bs_true ?_ | refine bs_false ?_))); with_reducible refine bs_ndec (fun _ => ?_) (fun _ => ?_)) <;> try (exfalso; omega) | (refine vd_gsplit rfl rfl rfl ?_; (fail_if_success (with_reducible (first | refine bs_true ?_ | refine bs_false ?_))); with_reducible refine bs_nany (fun _ => ?_) (fun _ => ?_)) <;> try (exfalso; omega) | (refine vd_gsplit rfl rfl rfl ?_; (fail_if_success (with_reducible (first | refine bs_true ?_ | refine bs_false ?_))); with_reducible refine bs_any (fun _ => ?_) (fun _ => ?_)) <;> try (exfalso; omega))
    repeat (first | refine vops_q tyOk rfl ?_ | refine vops_nil ?_ | refine vw_region (by kernel_rfl) ?_ | refine vops_p tyOk rfl (by (try simp only [inR]); omega) ?_)
    refine ⟨n - (i + 1), by omega, (bo, ⟨(vs ++ [.slice pN (lst n (g i)).length cN]) ++ List.replicate (n - (i + 1)) (.slice none 0 0), 38, n * 1, none⟩) :: ((ns ++ [newN]).flatten ++ [(b1, ⟨ints (matN n 14 14 g), 114, (ints (matN n 14 14 g)).length, none⟩)]), ?_, i + 1, vs ++ [.slice pN (lst n (g i)).length cN], ns ++ [newN], by omega, rfl, rfl, rfl, rfl, rfl, by rw [tabOf_take hin]; exact RowsAt.snoc hN hRw, rfl⟩
    rw [hrep, set_next hvl, flat_snoc, List.append_assoc ns.flatten]
    exact (by repeat (first | exact ole_nil | exact ole_refl | (apply ole_cons; (repeat (first | exact pm1_here | apply pm1_next | apply pm1_past))) | (apply ole_app; (repeat (first | exact pm_here | exact pm_last | apply pm_next | apply pm_past)))))
  · obtain rfl : i = n := by omega
    rw [List.take_of_length_le (by rw [tabOf_length]; omega)] at hRw
    rw [Nat.sub_self, List.replicate_zero, List.append_nil]
    refine vw_nodup (fun hnd => ?_)
    repeat (first | refine vops_q tyOk rfl ?_ | refine vops_nil ?_ | refine vw_seq ?_ | refine vw_region (by kernel_rfl) ?_ | refine vw_ret ?_ | refine vw_exit ?_)
    exact outLL (outer := [(bo, ⟨vs, 38, i * 1, none⟩)]) rfl rfl hRw ⟨by rw [hvl, Nat.mul_one], .inr ⟨bo, i, rfl, by omega, by simp only [maxLen]; omega, rfl⟩⟩ (by rw [tabOf_length]) (nodup_sub hnd (List.Sublist.cons_cons _ (List.sublist_append_left _ _))) (fun q hq => by
      rcases List.mem_cons.1 hq with rfl | h
      · exact List.mem_cons_self
      · exact List.mem_cons_of_mem _ (List.mem_append_left _ h))
end Go.Proofs.Ytlfflmoegfibgaa


