import Derived.Test.YtnammdmiljjhjaaGA
import Derived.Test.YtnammdmiljjhjaaGC
import Derived.Test.YtnammdmiljjhjaaGD
import Derived.Test.YtnammdmiljjhjaaVLSortX
import Derived.Test.YtnammdmiljjhjaaVLA
import Derived.Test.YtnammdmiljjhjaaUC
/- Parts of the proof, one after another. No conditions of their own. -/
/- A part of the proof: X13. No conditions of its own. -/
namespace Go.Proofs.Ytnammdmiljjhjaa
open Go.VL
attribute [local irreducible] VWr VOps VD Calls

def cmpI (x y : Int) : Int := if x < y then -1 else if y < x then 1 else 0
theorem c_isNaN (x : Int) (w : World) : Calls Try.prog 129 [.int .i64 x].toArray w (Res w (Is (.bool false))) := by
  refine calls_of_vw Try.func129 rfl Try.ntmps129 (by simp) ?_
  repeat (first | refine vops_q tyOk rfl ?_ | refine vops_nil ?_ | refine vw_seq ?_ | refine vw_region (by kernel_rfl) ?_ | refine vw_ret ?_)
  exact rv_bool rfl rfl (by simp)
set_option maxRecDepth 100000 in
theorem c_cmp (x y : Int) (w : World) : Calls Try.prog 98 [.int .i64 x, .int .i64 y].toArray w (Res w (Is (.int .i64 (cmpI x y)))) := by
  refine calls_of_vw Try.func98 rfl Try.ntmps98 (by simp) ?_
  unfold cmpI
  repeat' (first | refine vops_q tyOk rfl ?_ | refine vops_nil ?_ | refine vw_seq ?_ | refine vw_region (by kernel_rfl) ?_ | with_reducible refine bs_false ?_ | refine vw_cond rfl ?_ | refine vw_skip ?_ | refine vw_ret ?_ | (with_reducible refine bs_dec (fun _ => ?_) (fun _ => ?_)) <;> try (exfalso; omega) | (apply vops_callp ent129 rfl; (intro w _; exact c_isNaN _ w)))
  · exact rv_int rfl rfl (by rw [if_pos (by assumption)])
  · exact rv_int rfl rfl (by rw [if_neg (by assumption), if_pos (by assumption)])
  · exact rv_int rfl rfl (by rw [if_neg (by assumption), if_neg (by assumption)])
set_option maxHeartbeats 1000000 in
set_option maxRecDepth 100000 in
theorem c_compare (v u : Value) (A B : List Int) (w : World) (hv : RdI w v A) (hu : RdI w u B) (hl : A.length = B.length) (h0 : 0 < A.length) (h1 : A.length ≤ 1000) (hAB : A.getD 0 0 ≠ B.getD 0 0 ∨ A = B) :
    Calls Try.prog 71 [v, u].toArray w (Res w (Is (.int .i64 (cmpI (A.getD 0 0) (B.getD 0 0))))) := by
  obtain ⟨b, o, cap, rfl, hcell⟩ := hv.at (i := 0) h0
  obtain ⟨b2, o2, cap2, rfl, hcell2⟩ := hu.at (i := 0) (by omega)
  refine calls_of_vw Try.func71 rfl Try.ntmps71 (by simp) ?_
  rw [← hl]
  repeat (first | refine vops_q tyOk rfl ?_ | refine vops_nil ?_ | refine vw_seq ?_ | refine vw_region (by kernel_rfl) ?_ | refine vw_block ?_)
  refine vw_loop (fun y f own => ∃ i : Nat, i ≤ A.length ∧ y = A.length - i ∧ f 11 = .int .i64 i ∧ f 10 = .int .i64 A.length ∧ f 9 = .slice (some ⟨b, o, none⟩) A.length cap ∧ f 0 = .slice (some ⟨b, o, none⟩) A.length cap ∧ f 1 = .slice (some ⟨b2, o2, none⟩) A.length cap2 ∧ own = [] ∧ (A = B ∨ i = 0)) A.length
    ⟨0, by omega, by omega, rfl, rfl, rfl, rfl, rfl, rfl, .inr rfl⟩ ?_
  rintro y f own ⟨i, hi, rfl, h11, h10, h9, h0', h1', rfl, hor⟩
  rw [upd_of h11, upd_of h10, upd_of h9, upd_of h0', upd_of h1']
  repeat (first | refine vops_q tyOk rfl ?_ | refine vops_nil ?_ | refine vw_seq ?_ | refine vw_region (by kernel_rfl) ?_ | refine vw_cond rfl ?_)
  refine bs_dec (fun hlt => ?_) (fun hlt => ?_)
  · have hil : i < A.length := by omega
    have hcA := hcell i hil
    have hcB := hcell2 i (by omega)
    repeat (first | refine vops_q tyOk rfl ?_ | refine vops_nil ?_ | refine vw_seq ?_ | refine vw_region (by kernel_rfl) ?_ | refine vops_p tyOk rfl (by (try simp only [inR]); omega) ?_ | refine vw_cond rfl ?_ | refine vw_skip ?_ | refine vw_block ?_ | refine vops_load tyOk rfl rfl rfl (sees_old hcA (by simp)) ?_)
    refine bs_dec (fun h => ?_) (fun h => ?_)
    · exfalso; omega
    repeat (first | refine vops_q tyOk rfl ?_ | refine vops_nil ?_ | refine vw_seq ?_ | refine vw_region (by kernel_rfl) ?_ | refine vops_p tyOk rfl (by (try simp only [inR]); omega) ?_ | refine vw_cond rfl ?_ | refine vw_skip ?_ | refine vops_load tyOk rfl rfl rfl (sees_old hcB (by simp)) ?_ | (apply vops_callp ent98 rfl; (intro w _; exact c_cmp _ _ w)))
    refine bs_ndec2 (fun hne => ?_) (fun heq => ?_)
    · repeat (first | refine vops_q tyOk rfl ?_ | refine vops_nil ?_ | refine vw_seq ?_ | refine vw_region (by kernel_rfl) ?_ | refine vw_ret ?_)
      refine rv_int rfl rfl ?_
      rcases hor with h | h
      · exfalso; apply hne; rw [h]; unfold cmpI; simp
      · rw [h]
    · repeat (first | refine vops_q tyOk rfl ?_ | refine vops_nil ?_ | refine vw_region (by kernel_rfl) ?_ | refine vops_p tyOk rfl (by (try simp only [inR]); omega) ?_ | refine vw_skip ?_)
      refine ⟨A.length - (i + 1), by omega, i + 1, by omega, rfl, rfl, rfl, rfl, rfl, rfl, rfl, .inl ?_⟩
      rcases hor with h | h
      · exact h
      · rcases hAB with h2 | h2
        · exfalso
          subst h
          unfold cmpI at heq
          split at heq
          · omega
          · split at heq
            · omega
            · apply h2; omega
        · exact h2
  · have hAe : A = B := by
      rcases hor with h | h
      · exact h
      · omega
    repeat (first | refine vops_q tyOk rfl ?_ | refine vops_nil ?_ | refine vw_seq ?_ | refine vw_region (by kernel_rfl) ?_ | refine vw_cond rfl ?_ | refine vw_exit ?_)
    refine bs_dec (fun h => ?_) (fun h => ?_)
    · exfalso; omega
    repeat (first | refine vops_q tyOk rfl ?_ | refine vops_nil ?_ | refine vw_seq ?_ | refine vw_region (by kernel_rfl) ?_ | refine vw_skip ?_ | refine vw_ret ?_)
    exact rv_int rfl rfl (by rw [hAe]; unfold cmpI; simp)

/-- The library's sort, at a part of a list of one's own. -/
theorem sortPart_get {l : List Int} {s g : Nat} (h : s + g ≤ l.length) (i : Nat) : (l.take s ++ sortL ((l.drop s).take g) ++ l.drop (s + g)).getD i 0 = if s ≤ i ∧ i < s + (sortL ((l.drop s).take g)).length then (sortL ((l.drop s).take g)).getD (i - s) 0 else l.getD i 0 := by
  have hl1 : (l.take s).length = s := by rw [List.length_take]; omega
  have hl2 : (sortL ((l.drop s).take g)).length = g := by rw [sortL_length, List.length_take, List.length_drop]; omega
  rw [hl2, List.append_assoc]
  generalize sortL ((l.drop s).take g) = S at *
  simp only [List.getD_eq_getElem?_getD]
  by_cases h1 : i < s
  · rw [if_neg (by omega), List.getElem?_append_left (by omega), List.getElem?_take_of_lt h1]
  · rw [List.getElem?_append_right (by omega), hl1]
    by_cases h2 : i < s + g
    · rw [if_pos (by omega), List.getElem?_append_left (by omega)]
    · rw [if_neg (by omega), List.getElem?_append_right (by omega), hl2, List.getElem?_drop, show s + g + (i - s - g) = i by omega]
theorem c_sortPart (b e cap : Nat) (l : List Int) (s g : Nat) (h : s + g ≤ l.length) (hg : 0 < g) (w : World) (ho : OwnOk [(b, (⟨ints l, e, cap, none⟩ : Blk))] w) (hl : l.length ≤ 1048576) (c : Nat) :
    Calls Try.prog 61 [.slice (some ⟨b, s, none⟩) g c].toArray w (ResM w [(b, ⟨ints l, e, cap, none⟩)] (fun u new => u = .tuple #[] ∧ new = [(b, ⟨ints (l.take s ++ sortL ((l.drop s).take g) ++ l.drop (s + g)), e, cap, none⟩)])) := by
  have hb : b < w.heap.size := ho.lt (ids_mem List.mem_cons_self)
  have hzl : ((l.drop s).take g).length = g := by rw [List.length_take, List.length_drop]; omega
  have h1 := AnyG.slices_Sort_int Try.sortI b s c ((l.drop s).take g) w (holds_part ho (by omega) (fun j hj => ⟨by omega, by
    simp only [List.getD_eq_getElem?_getD]
    rw [List.getElem?_take_of_lt (by omega), List.getElem?_drop]⟩)) hb (by omega)
  rw [hzl] at h1
  refine Calls.mono (show Calls Try.prog 61 _ w _ from h1) ?_
  rintro en w' ⟨rfl, n, os, rfl⟩
  have hl2 : (sortL ((l.drop s).take g)).length = g := by rw [sortL_length]; exact hzl
  refine resM_part ho ?_ (fun i _ => ?_)
  · rw [List.length_append, List.length_append, hl2, List.length_take, List.length_drop]; omega
  · exact sortPart_get h i

theorem resM_monoX {w w' : World} {own0 : Own} {S S' : Value → Own → Prop} {e : Ending} (h : ResM w own0 S e w') (hs : ∀ v new, S v new → S' v new) : ResM w own0 S' e w' := by
  obtain ⟨v, new, h1, h2, h3, h4, h5⟩ := h
  exact ⟨v, new, h1, h2, h3, h4, hs v new h5⟩
/-! slices.SortFunc with slices.Compare, at the groups of a round -/
open Go.Sort Go.Proofs
def encG (g : Nat) (b k : Nat) : Fin (k + 1) → Value := fun i => .slice (some ⟨b, 0 + g * i.val, none⟩) g g
def cfG (k : Nat) (h : Nat → Int) : Fin (k + 1) → Fin (k + 1) → Int := fun x y => cmpI (h x.val) (h y.val)
theorem ltG (k : Nat) (h : Nat → Int) (x y : Fin (k + 1)) : ltOf (cfG k h) x y = decide (h x.val < h y.val) := by
  unfold ltOf cfG cmpI
  by_cases h1 : h x.val < h y.val
  · simp [h1]
  · by_cases h2 : h y.val < h x.val <;> simp [h1, h2]
theorem swoG (k : Nat) (h : Nat → Int) : SWO (ltOf (cfG k h)) where
  irrefl x := by rw [ltG]; simp
  trans x y z h1 h2 := by rw [ltG] at *; simp at *; omega
  ntrans x y z h1 h2 := by rw [ltG] at *; simp at *; omega
theorem fin_vals (k : Nat) : (Array.ofFn (n := k + 1) id).toList.map (fun i : Fin (k + 1) => i.val) = List.range (k + 1) := by
  apply List.ext_getElem (by simp)
  intro i h1 h2
  simp only [List.getElem_map, Array.getElem_toList, Array.getElem_ofFn, id, List.getElem_range]
theorem c_sortGroups (g b k e cap : Nat) (bo : Nat) (hne : b ≠ bo) (G : Nat → List Int) (hG : ∀ i, i ≤ k → (G i).length = g) (hg0 : 0 < g) (hg1 : g ≤ 1000) (hk : k ≤ 1000) (hinj : ∀ i j, i ≤ k → j ≤ k → (G i).getD 0 0 = (G j).getD 0 0 → i = j) (w : World)
    (ho : OwnOk [(bo, (⟨(List.range (k + 1)).map (partG g (some ⟨b, 0, none⟩)), e, cap, none⟩ : Blk))] w) (hr : ∀ i, i ≤ k → ∀ j, j < g → w.cell? ⟨b, 0 + g * i + j, none⟩ = some (.int .i64 ((G i).getD j 0))) (c : Nat) :
    Calls Try.prog 70 [.slice (some ⟨bo, 0, none⟩) (k + 1) c, .func (.func 71) #[] #[]].toArray w (ResM w [(bo, ⟨(List.range (k + 1)).map (partG g (some ⟨b, 0, none⟩)), e, cap, none⟩)] (fun u new => u = .tuple #[] ∧ ∃ l : List Nat, l.Perm (List.range (k + 1)) ∧ l.Pairwise (fun i j => (G i).getD 0 0 < (G j).getD 0 0) ∧ new = [(bo, ⟨l.map (partG g (some ⟨b, 0, none⟩)), e, cap, none⟩)])) := by
  have hb : bo < w.heap.size := ho.lt (ids_mem List.mem_cons_self)
  have hdsz : (Array.ofFn (n := k + 1) id).size = k + 1 := by simp
  obtain ⟨arr, hr1, hr2, hr3⟩ := ho.row List.mem_cons_self rfl
  have hH : Holds (encG g b k) w bo 0 (Array.ofFn (n := k + 1) id) := by
    intro j hj
    rw [hdsz] at hj
    refine ⟨?_, frozen_of_row w bo (0 + j) arr e hr1⟩
    have hc : ((List.range (k + 1)).map (partG g (some ⟨b, 0, none⟩)))[j]? = some (partG g (some ⟨b, 0, none⟩) j) := by simp [hj]
    have := cell_of_blk ho List.mem_cons_self hc
    rw [Nat.zero_add, this]
    have e1 : (Array.ofFn (n := k + 1) id)[j]! = ⟨j, hj⟩ := by simp [hj]
    rw [e1]; rfl
  have hcmp : CmpLays1 Try.prog 71 #[] (encG g b k) (cfG k fun i => (G i).getD 0 0) bo 0 (Array.ofFn (n := k + 1) id).size w := by
    intro m os dk hdk x y
    have hfr : Fr [bo] w (sortWorld (encG g b k) w bo 0 m dk os) := fr_sortWorld (encG g b k)
    have rd : ∀ i : Fin (k + 1), RdI (sortWorld (encG g b k) w bo 0 m dk os) (encG g b k i) (G i.val) := fun i => by
      have hi := i.isLt
      have hl := hG i.val (by omega)
      refine .inr ⟨b, 0 + g * i.val, g, by rw [hl]; rfl, fun j z hz => ?_⟩
      have hj : j < (G i.val).length := by have := (List.getElem?_eq_some_iff.1 hz).1; rwa [ints_length] at this
      rw [ints_get hj] at hz
      cases hz
      exact hfr.cell (by simpa using hne) (hr i.val (by omega) j (by omega))
    have hx := x.isLt
    have hy := y.isLt
    have hlx := hG x.val (by omega)
    have hly := hG y.val (by omega)
    have hcall := c_compare _ _ _ _ _ (rd x) (rd y) (by rw [hlx, hly]) (by omega) (by omega) (by
      by_cases hh : (G x.val).getD 0 0 = (G y.val).getD 0 0
      · right
        rw [hinj x.val y.val (by omega) (by omega) hh]
      · exact .inl hh)
    have e0 : (#[encG g b k x, encG g b k y] ++ #[] : Array Value) = [encG g b k x, encG g b k y].toArray := by simp
    rw [e0]
    refine hcall.mono ?_
    rintro en w' ⟨v, new, rfl, h1, _, _, h4, _⟩
    obtain ⟨q, os', hq⟩ := grow_of_fr h1
    exact ⟨by rw [h4]; rfl, q, os', hq⟩
  have h := Any.slices_SortFunc Try.sortF (encG g b k) (fun _ => rfl) (cfG k fun i => (G i).getD 0 0) (swoG k _) 71 #[] bo 0 c (Array.ofFn (n := k + 1) id) w (fun args w => run_callFunc ent71 args w) hcmp hH hb (by rw [hdsz]; omega)
  rw [hdsz] at h
  refine Calls.mono (show Calls Try.prog 70 _ w _ from h) ?_
  rintro en w' ⟨rfl, d', n, os, hp, hs, rfl⟩
  obtain ⟨hp1, _, hp3⟩ := hp
  rw [hdsz] at hp1
  have hperm : d'.toList.Perm (Array.ofFn (n := k + 1) id).toList := by
    have a1 : (d'.extract 0 (k + 1)) = d' := by
      apply Array.ext (by simp [hp1])
      intro i h1 h2
      simp
    have a2 : ((Array.ofFn (n := k + 1) id).extract 0 (k + 1)) = Array.ofFn (n := k + 1) id := by
      apply Array.ext (by simp)
      intro i h1 h2
      simp
    rw [a1, a2] at hp3
    exact hp3
  have hdl : d'.toList.length = k + 1 := by simpa using hp1
  have hget : ∀ i, i < k + 1 → ∀ x, d'.toList[i]? = some x → d'[i]! = x := fun i hi x hx => by
    have : d'[i]? = some x := by simpa using hx
    simp [getElem!_def, this]
  have hnd : (d'.toList.map fun i : Fin (k + 1) => i.val).Nodup := by
    rw [((hperm.map _).trans (by rw [fin_vals])).nodup_iff]; exact List.nodup_range
  show ResM _ _ _ _ (Go.Sort.grow (Go.Sort.putRow (encG g b k) (Go.Sort.ahead w n) bo 0 d') os)
  refine resM_monoX (resM_putRowG (encG g b k) (cells' := (d'.toList.map fun i : Fin (k + 1) => i.val).map (partG g (some ⟨b, 0, none⟩))) ho hb (by simp [hp1]) ⟨arr, hr1, hr2, hr3⟩ (fun i u hu => ?_)) ?_
  · have hi : i < k + 1 := by have := (List.getElem?_eq_some_iff.1 hu).1; simpa [hp1] using this
    rw [if_pos ⟨Nat.zero_le _, by rw [hp1]; omega⟩, Nat.sub_zero]
    rw [List.getElem?_map, List.getElem?_map] at hu
    obtain ⟨y, hy, rfl⟩ := Option.map_eq_some_iff.1 hu
    obtain ⟨x, hx, rfl⟩ := Option.map_eq_some_iff.1 hy
    rw [hget i hi x hx]; rfl
  · rintro u new ⟨rfl, rfl⟩
    refine ⟨rfl, _, (hperm.map _).trans (by rw [fin_vals]), ?_, rfl⟩
    rw [List.pairwise_iff_getElem]
    intro i j hi hj hij
    have hi' : i < k + 1 := by simpa [hp1] using hi
    have hj' : j < k + 1 := by simpa [hp1] using hj
    have e1 := hget i hi' _ (List.getElem?_eq_getElem (by omega))
    have e2 := hget j hj' _ (List.getElem?_eq_getElem (by omega))
    have := hs i j (Nat.zero_le _) hij hj'
    rw [ltG, e1, e2] at this
    have hle : ¬ (G (d'.toList[j]).val).getD 0 0 < (G (d'.toList[i]).val).getD 0 0 := of_decide_eq_false this
    simp only [List.getElem_map]
    rcases Int.lt_or_eq_of_le (Int.not_lt.1 hle) with h | h
    · exact h
    · exfalso
      have hv := hinj _ _ (by omega) (by omega) h
      have := (List.getElem?_inj (i := i) (j := j) (by simpa [hp1] using hi') hnd).1 (by
        rw [List.getElem?_eq_getElem hi, List.getElem?_eq_getElem hj, List.getElem_map, List.getElem_map, hv])
      omega
end Go.Proofs.Ytnammdmiljjhjaa

/- A part of the proof: X14M. No conditions of its own. -/
namespace Go.Proofs.Ytnammdmiljjhjaa
open Go.VL

/-! tidy rounds -/
/-- The group i of a round, in order. -/
def Gs (g : Nat) (r : List Int) (i : Nat) : List Int := sortL ((r.drop (g * i)).take g)
def srtL (g : Nat) (r : List Int) (i : Nat) : List Int := ((List.range i).map (Gs g r)).flatten ++ r.drop (g * i)
theorem Gs_length {g m i : Nat} {r : List Int} (h : r.length = g * m) (hi : i < m) : (Gs g r i).length = g := by
  have := Nat.mul_le_mul_left g (show i + 1 ≤ m by omega)
  rw [Nat.mul_add, Nat.mul_one] at this
  unfold Gs
  rw [sortL_length, List.length_take, List.length_drop]; omega
theorem flatG_length {g m : Nat} {r : List Int} (h : r.length = g * m) : ∀ i, i ≤ m → (((List.range i).map (Gs g r)).flatten).length = g * i
  | 0, _ => by simp
  | i + 1, hi => by
    rw [List.range_succ, List.map_append, List.flatten_append, List.length_append, flatG_length h i (by omega)]
    simp only [List.map_cons, List.map_nil, List.flatten_cons, List.flatten_nil, List.append_nil]
    rw [Gs_length h (by omega), Nat.mul_add, Nat.mul_one]
theorem srtL_length {g m i : Nat} {r : List Int} (h : r.length = g * m) (hi : i ≤ m) : (srtL g r i).length = r.length := by
  have := Nat.mul_le_mul_left g hi
  unfold srtL
  rw [List.length_append, flatG_length h i hi, List.length_drop]; omega
theorem srtL_step {g m i : Nat} {r : List Int} (h : r.length = g * m) (hi : i < m) : (srtL g r i).take (g * i) ++ sortL (((srtL g r i).drop (g * i)).take g) ++ (srtL g r i).drop (g * i + g) = srtL g r (i + 1) := by
  have hl := flatG_length h i (by omega)
  unfold srtL
  have e1 : (((List.range i).map (Gs g r)).flatten ++ r.drop (g * i)).take (g * i) = ((List.range i).map (Gs g r)).flatten := List.take_left' hl
  have e2 : (((List.range i).map (Gs g r)).flatten ++ r.drop (g * i)).drop (g * i) = r.drop (g * i) := List.drop_left' hl
  have e3 : (((List.range i).map (Gs g r)).flatten ++ r.drop (g * i)).drop (g * i + g) = r.drop (g * i + g) := by
    rw [← List.drop_drop, e2, List.drop_drop]
  rw [e1, e2, e3, List.range_succ, List.map_append, List.flatten_append]
  simp only [List.map_cons, List.map_nil, List.flatten_cons, List.flatten_nil, List.append_nil]
  rw [Nat.mul_add, Nat.mul_one]; rfl
theorem srtL_all {g m : Nat} {r : List Int} (h : r.length = g * m) : srtL g r m = ((List.range m).map (Gs g r)).flatten := by
  unfold srtL
  rw [List.drop_eq_nil_of_le (by omega), List.append_nil]
theorem srtL_get {g m : Nat} {r : List Int} (h : r.length = g * m) {i j : Nat} (hj : j < g) : ∀ s, i < s → s ≤ m → (((List.range s).map (Gs g r)).flatten).getD (g * i + j) 0 = (Gs g r i).getD j 0
  | 0, hi, _ => by omega
  | s + 1, hi, hs => by
    have hl := flatG_length h s (by omega)
    rw [List.range_succ, List.map_append, List.flatten_append]
    simp only [List.map_cons, List.map_nil, List.flatten_cons, List.flatten_nil, List.append_nil]
    simp only [List.getD_eq_getElem?_getD]
    by_cases e : i = s
    · subst e
      rw [List.getElem?_append_right (by omega), hl, show g * i + j - g * i = j by omega]
    · have := Nat.mul_le_mul_left g (show i + 1 ≤ s by omega)
      rw [Nat.mul_add, Nat.mul_one] at this
      rw [List.getElem?_append_left (show g * i + j < (((List.range s).map (Gs g r)).flatten).length by rw [hl]; omega)]
      have := srtL_get (i := i) h hj s (by omega) (by omega)
      simpa only [List.getD_eq_getElem?_getD] using this
/-- The least of the group of x. -/
def hdG (g : Nat) (r : List Int) (x : Nat) : Int := (sortL (grpAt g r x)).getD 0 0
theorem grp_of_pos {g : Nat} {r : List Int} {x : Nat} : sortL (grpAt g r x) = Gs g r (posI r x / g) := by unfold Gs grpAt; rw [Nat.mul_comm]
theorem mem_part {r : List Int} {s g : Nat} {y : Int} (h : s + g ≤ r.length) : y ∈ (r.drop s).take g ↔ ∃ t, s ≤ t ∧ t < s + g ∧ r.getD t 0 = y := by
  constructor
  · intro hy
    obtain ⟨j, hj⟩ := List.mem_iff_getElem?.1 hy
    have hjl := (List.getElem?_eq_some_iff.1 hj).1
    rw [List.length_take, List.length_drop] at hjl
    rw [List.getElem?_take_of_lt (by omega), List.getElem?_drop] at hj
    exact ⟨s + j, by omega, by omega, by rw [List.getD_eq_getElem?_getD, hj]; rfl⟩
  · rintro ⟨t, h1, h2, rfl⟩
    refine List.mem_iff_getElem?.2 ⟨t - s, ?_⟩
    rw [List.getElem?_take_of_lt (by omega), List.getElem?_drop, show s + (t - s) = t by omega, List.getElem?_eq_getElem (by omega), List.getD_eq_getElem?_getD, List.getElem?_eq_getElem (by omega)]; rfl
theorem mem_Gs {n g m : Nat} {r : List Int} (h : IsPerm n r) (hg : 0 < g) (hm : g * m = n) {i y : Nat} (hi : i < m) (hy : y < n) : (y : Int) ∈ Gs g r i ↔ posI r y / g = i := by
  have hl := h.1
  have hb := Nat.mul_le_mul_left g (show i + 1 ≤ m by omega)
  rw [Nat.mul_add, Nat.mul_one] at hb
  unfold Gs
  rw [(sortL_perm _).mem_iff, mem_part (by omega), div_between hg]
  constructor
  · rintro ⟨t, h1, h2, h3⟩
    rw [(getD_iff h (by omega)).1 h3]; exact ⟨h1, h2⟩
  · rintro ⟨h1, h2⟩
    exact ⟨posI r y, h1, h2, pos_get h hy⟩
theorem Gs_nat {n g : Nat} {r : List Int} (h : IsPerm n r) {i : Nat} {y : Int} (hy : y ∈ Gs g r i) : 0 ≤ y ∧ y < n := by
  unfold Gs at hy
  rw [(sortL_perm _).mem_iff] at hy
  exact h.2.1 y (List.mem_of_mem_drop (List.mem_of_mem_take hy))
theorem Gs_head {n g m : Nat} {r : List Int} (h : IsPerm n r) (hg : 0 < g) (hm : g * m = n) {i : Nat} (hi : i < m) : ∃ a : Nat, a < n ∧ (Gs g r i).getD 0 0 = (a : Int) ∧ posI r a / g = i ∧ ∀ y : Nat, y < n → posI r y / g = i → a ≤ y := by
  have hl : (Gs g r i).length = g := Gs_length (m := m) (by have := h.1; omega) hi
  have hmem := mem_getD (l := Gs g r i) (i := 0) (by omega)
  have hn := Gs_nat h hmem
  obtain ⟨a, ha⟩ : ∃ a : Nat, (Gs g r i).getD 0 0 = (a : Int) := ⟨((Gs g r i).getD 0 0).toNat, by omega⟩
  rw [ha] at hmem hn
  refine ⟨a, by omega, ha, (mem_Gs h hg hm hi (by omega)).1 hmem, fun y hy hp => ?_⟩
  have hym := (mem_Gs h hg hm hi hy).2 hp
  have hs : (Gs g r i).Pairwise (· ≤ ·) := sortL_sorted _
  obtain ⟨j, hj⟩ := List.mem_iff_getElem?.1 hym
  have hjl := (List.getElem?_eq_some_iff.1 hj).1
  have hjv : (Gs g r i).getD j 0 = (y : Int) := by rw [List.getD_eq_getElem?_getD, hj]; rfl
  by_cases e : j = 0
  · subst e; rw [ha] at hjv; omega
  · have := (List.pairwise_iff_getElem.1 hs) 0 j (by omega) hjl (by omega)
    have e0 : (Gs g r i)[0] = (Gs g r i).getD 0 0 := by rw [List.getD_eq_getElem?_getD, List.getElem?_eq_getElem (by omega)]; rfl
    have e1 : (Gs g r i)[j] = (Gs g r i).getD j 0 := by rw [List.getD_eq_getElem?_getD, List.getElem?_eq_getElem hjl]; rfl
    rw [e0, e1, ha, hjv] at this
    omega
/-- The groups whose least player is below a, in order. -/
def tdTo (g : Nat) (r : List Int) : Nat → List (List Int)
  | 0 => []
  | a + 1 => if hdG g r a = (a : Int) then tdTo g r a ++ [sortL (grpAt g r a)] else tdTo g r a
theorem tdTo_mem {g : Nat} {r : List Int} : ∀ {a : Nat} {l : List Int}, l ∈ tdTo g r a → ∃ x, x < a ∧ hdG g r x = (x : Int) ∧ l = sortL (grpAt g r x)
  | 0, l, h => by cases h
  | a + 1, l, h => by
    rw [tdTo] at h
    split at h
    · rename_i hh
      rcases List.mem_append.1 h with h | h
      · obtain ⟨x, h1, h2, h3⟩ := tdTo_mem h; exact ⟨x, by omega, h2, h3⟩
      · exact ⟨a, by omega, hh, List.mem_singleton.1 h⟩
    · obtain ⟨x, h1, h2, h3⟩ := tdTo_mem h; exact ⟨x, by omega, h2, h3⟩
theorem tdTo_in {g : Nat} {r : List Int} {x : Nat} (hx : hdG g r x = (x : Int)) : ∀ {a : Nat}, x < a → sortL (grpAt g r x) ∈ tdTo g r a
  | 0, h => by omega
  | a + 1, h => by
    rw [tdTo]
    by_cases e : x = a
    · subst e; rw [if_pos hx]; simp
    · have := tdTo_in hx (a := a) (by omega)
      split
      · exact List.mem_append_left _ this
      · exact this
theorem tdTo_sorted (g : Nat) (r : List Int) : ∀ a, (tdTo g r a).Pairwise (fun A B => A.getD 0 0 < B.getD 0 0)
  | 0 => List.Pairwise.nil
  | a + 1 => by
    rw [tdTo]
    split
    · rename_i hh
      rw [List.pairwise_append]
      refine ⟨tdTo_sorted g r a, by simp, fun A hA B hB => ?_⟩
      obtain ⟨x, h1, h2, rfl⟩ := tdTo_mem hA
      rw [List.mem_singleton.1 hB]
      have e1 : (sortL (grpAt g r x)).getD 0 0 = (x : Int) := h2
      have e2 : (sortL (grpAt g r a)).getD 0 0 = (a : Int) := hh
      rw [e1, e2]; omega
    · exact tdTo_sorted g r a
/-- Groups in the order of their least players are those that are found one after the other. -/
theorem tidy_eq {n g m : Nat} {r : List Int} (h : IsPerm n r) (hg : 0 < g) (hm : g * m = n) {l : List Nat} (hp : l.Perm (List.range m)) (hs : l.Pairwise (fun i j => (Gs g r i).getD 0 0 < (Gs g r j).getD 0 0)) : l.map (Gs g r) = tdTo g r n := by
  have hs1 : (l.map (Gs g r)).Pairwise (fun A B => A.getD 0 0 < B.getD 0 0) := List.pairwise_map.2 hs
  have hs2 := tdTo_sorted g r n
  have nd : ∀ {L : List (List Int)}, L.Pairwise (fun A B => A.getD 0 0 < B.getD 0 0) → L.Nodup := fun hL => hL.imp fun hh e => by rw [e] at hh; omega
  refine List.Perm.eq_of_pairwise (fun A B _ _ h1 h2 => by omega) hs1 hs2 ((List.perm_ext_iff_of_nodup (nd hs1) (nd hs2)).2 fun A => ?_)
  constructor
  · intro hA
    obtain ⟨i, hi, rfl⟩ := List.mem_map.1 hA
    have him : i < m := List.mem_range.1 (hp.mem_iff.1 hi)
    obtain ⟨a, h1, h2, h3, _⟩ := Gs_head h hg hm him
    have e : sortL (grpAt g r a) = Gs g r i := by rw [grp_of_pos, h3]
    have := tdTo_in (g := g) (r := r) (x := a) (by unfold hdG; rw [e, h2]) (a := n) h1
    rwa [e] at this
  · intro hA
    obtain ⟨x, h1, _, rfl⟩ := tdTo_mem hA
    have hp1 := pos_lt h h1
    have him : posI r x / g < m := Nat.div_lt_of_lt_mul (by omega)
    rw [grp_of_pos]
    exact List.mem_map.2 ⟨_, hp.mem_iff.2 (List.mem_range.2 him), rfl⟩
theorem hdG_facts {n g m : Nat} {r : List Int} (h : IsPerm n r) (hg : 0 < g) (hm : g * m = n) {x : Nat} (hx : x < n) : ∃ a : Nat, a < n ∧ hdG g r x = (a : Int) ∧ posI r a / g = posI r x / g ∧ a ≤ x ∧ hdG g r a = (a : Int) := by
  have hp1 := pos_lt h hx
  have him : posI r x / g < m := Nat.div_lt_of_lt_mul (by omega)
  obtain ⟨a, h1, h2, h3, h4⟩ := Gs_head h hg hm him
  refine ⟨a, h1, by unfold hdG; rw [grp_of_pos, h2], h3, h4 x hx rfl, ?_⟩
  unfold hdG
  rw [grp_of_pos, h3, h2]
theorem tdFlat_len {n g m : Nat} {r : List Int} (h : IsPerm n r) (hg : 0 < g) (hm : g * m = n) (hn : n ≤ 25) : ∀ a, a ≤ n → (tdTo g r a).flatten.length ≤ a * 25
  | 0, _ => by simp [tdTo]
  | a + 1, ha => by
    have ih := tdFlat_len h hg hm hn a (by omega)
    have hgn : g ≤ 25 := by
      rcases Nat.eq_zero_or_pos m with e | e
      · subst e; omega
      · have := Nat.le_mul_of_pos_right g e; omega
    rw [tdTo]
    split
    · rw [List.flatten_append, List.length_append]
      have : (sortL (grpAt g r a)).length ≤ g := by rw [sortL_length]; unfold grpAt; rw [List.length_take]; omega
      simp only [List.flatten_cons, List.flatten_nil, List.append_nil]
      omega
    · omega
end Go.Proofs.Ytnammdmiljjhjaa

