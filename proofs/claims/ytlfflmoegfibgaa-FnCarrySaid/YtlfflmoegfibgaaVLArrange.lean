import Derived.Test.YtlfflmoegfibgaaVLRanC
import Derived.Test.YtlfflmoegfibgaaVLNb
import Derived.Test.YtlfflmoegfibgaaVLTake
import Derived.Test.YtlfflmoegfibgaaVLGrp
/-! Arrangements of lists that are yielded one after another, each in memory that is used again. -/
namespace Go.VL
open Go.RowKit
section
variable {P : Program} {T : Nat → Option TI} {Γ : Ctx} {ops : Array Oper} {Q : (Nat → Value) → Own → Prop} {rest : List Oper} {f : Nat → Value} {own : Own}
variable {ty : TypeId} {pos : String} {aft : Array Edge}
/-- An append of one's own that keeps what stands for the elder list. -/
theorem vops_appendUs (hT : TyOk P T) {d t e a b : Nat} {z : List Value} {x y : Operand} {ei : TI} {n m c : Nat} {cells news : List Value} {ob oo : Nat} {rest' : Own} (ht : T t = some ⟨.slice e, a, b, z⟩) (he : T e = some ei) (hz : ei.zero ≠ [])
    (hzl : ei.zero.length = ei.size)
    (hs : SlAt e ei.size (ev f x) n cells own rest') (hy : ev f y = .slice (some ⟨ob, oo, none⟩) m c) (hl : news.length = m * ei.size) (hnews : SeesL Γ own ob oo news) (h1 : ∀ u ∈ news, u.oneCell' = true)
    (hm : 0 < m) (h63 : n + m ≤ maxLen) (hbytes : (n + m) * ei.bytes ≤ 140737488355328)
    (k : ∀ v bl new0 keep, SlAt e ei.size v (n + m) (cells ++ news) [bl] [] → (new0 ++ keep) ++ rest' = own → (∀ (A : Own) w, OwnOk (A ++ [bl]) w → OwnOk (A ++ new0) w) → (∀ b ∈ ids new0, b ∈ ids [bl]) → VOps P Γ ops Q rest (upd f d v) (bl :: (keep ++ rest'))) :
    VOps P Γ ops Q (⟨some d, .call ⟨.builtin .append, #[x, y], #[t, t]⟩, ty, pos, aft, none⟩ :: rest) f own :=
  vops_go fun w hg => by
    obtain ⟨xi, zv, i1, i2, i3, i4, i5⟩ := hT.full he hz
    have hzs : zv.cells.size = ei.size := by rw [← Array.length_toList, i5, hzl]
    have h63' : n + m ≤ 9223372036854775807 := by simp only [maxLen] at h63; omega
    have hlen : (cells ++ news).length = (n + m) * ei.size := by rw [List.length_append, hs.1, hl, Nat.add_mul]
    have hnw : ∀ j u, news[j]? = some u → w.cell? ((⟨ob, oo, none⟩ : Addr).add j) = some u := fun j u hu => by rw [Addr.add_lit]; exact hnews j u hu w hg
    have run : ∀ {v : Value} {w' : World}, (Builtin.append_ #[t, t] ty #[ev f x, ev f y]).run P w = .ok v w' →
        (execOp (ev f) ⟨some d, .call ⟨.builtin .append, #[x, y], #[t, t]⟩, ty, pos, aft, none⟩).run P w = .ok (.value v) w' := fun h => by
      unfold execOp
      simp only [resolve, invoke, builtin, Sem.run_bind, Sem.run_pure, Result.andThen_ok, List.map_toArray, List.map_cons, List.map_nil, h]
    have fin : ∀ (old : Nat) (keep : Own), old < n + m → keep ++ rest' = own → ∀ arr : Array Value, arr.toList = cells ++ news ++ (Builtin.zeroCells zv.cells (grownCap w (n + m) old e - (n + m))).toList →
        ∃ own', Good Γ own' (w.drew.alloc (.cells arr e)) ∧ (Fr (ids own) w (w.drew.alloc (.cells arr e)) ∧ ∀ b ∈ ids own', b ∈ ids own ∨ w.heap.size ≤ b) ∧
          VOps P Γ ops Q rest (upd f d (.slice (some ⟨w.heap.size, 0, none⟩) (n + m) (grownCap w (n + m) old e))) own' := fun old keep ho hkeep arr harr => by
      have hge := grownCap_ge w (n + m) old e
      have hcm : grownCap w (n + m) old e ≤ maxLen := grownCap_le_maxLen w (n + m) old e h63
      have hsz : arr.size = grownCap w (n + m) old e * ei.size := by
        rw [← Array.length_toList, harr, List.length_append, hlen, Array.length_toList, size_zeroCells, hzs, ← Nat.add_mul]
        congr 1; omega
      refine ⟨(w.heap.size, ⟨cells ++ news, e, grownCap w (n + m) old e * ei.size, none⟩) :: (keep ++ rest'), by rw [hkeep]; exact hg.drew.newP arr e hsz (prefix_get harr), ⟨⟨rfl, rfl, rfl, Nat.le_succ _, by simp, fun k hk _ => heap_alloc_old w.drew _ hk⟩, fun b hb => ?_⟩, k _ _ [] keep ⟨hlen, .inr ⟨_, _, rfl, hge, hcm, rfl⟩⟩ (by rw [List.nil_append]; exact hkeep) (fun A w h => by rw [List.append_nil]; exact h.sub (by have := h.nodup; rw [ids_app] at this; exact (List.nodup_append.1 this).1) fun p hp => List.mem_append_left _ hp) (fun b hb => by cases hb)⟩
      rw [hkeep] at hb
      rcases List.mem_cons.1 hb with h | h
      · exact .inr (Nat.le_of_eq h.symm)
      · exact .inl h
    rcases hs.2 with ⟨hv, hn, hrest⟩ | ⟨g, cap, hv, hnc, hcm, hrest⟩
    · subst hrest
      subst hn
      have hc : cells = [] := List.eq_nil_of_length_eq_zero (by simpa using hs.1)
      subst hc
      have hr := run_append_nil (P := P) w t ty e xi zv (hT.slice ht) i1 i4 ⟨ob, oo, none⟩ m c news (by rw [i2]; exact hl) hnw hm (by omega) (by rw [i3]; simp only [Nat.zero_add] at hbytes; omega)
      rw [← hv, ← hy] at hr
      rw [run hr]
      have := fin 0 [] (by omega) rfl (news.toArray ++ Builtin.zeroCells zv.cells (grownCap w m 0 e - m)) (by simp)
      simpa [RunsTo] using this
    · subst hrest
      obtain ⟨arr, a1, a2, a3⟩ := hg.ok.row (List.mem_cons_self) rfl
      have a2' : arr.size = cap * ei.size := a2
      have hcell : ∀ j u, cells[j]? = some u → w.cell? ((⟨g, 0, none⟩ : Addr).add j) = some u := fun j u hu => by
        rw [Addr.add_lit, Nat.zero_add]; exact cell_of_blk hg.ok List.mem_cons_self hu
      by_cases hroom : n + m ≤ cap
      · have hle : (n + m) * ei.size ≤ cap * ei.size := Nat.mul_le_mul_right _ hroom
        have htake : arr.toList.take (n * ei.size) = cells := by
          apply List.ext_getElem?
          intro j
          by_cases hj : j < cells.length
          · have := a3 j _ (List.getElem?_eq_getElem hj)
            have hj2 : j < n * ei.size := by rw [← hs.1]; exact hj
            rw [List.getElem?_eq_getElem hj, ← this, List.getElem?_take_of_lt hj2]; simp
          · have hB : cells.length ≤ j := by omega
            have hA : (arr.toList.take (n * ei.size)).length ≤ j := by rw [List.length_take, ← hs.1]; omega
            rw [List.getElem?_eq_none hA, List.getElem?_eq_none hB]
        have hr := run_append_room (P := P) w t ty e xi (hT.slice ht) i1 g n cap arr a1 ⟨ob, oo, none⟩ m c news (by rw [i2]; exact hl) hnw h1 hroom (by rw [i2, a2', hl, ← Nat.add_mul]; exact hle)
        rw [← hv, ← hy, i2, htake] at hr
        rw [run hr]
        have hfr : Fr [g] w (w.setRow g (cells ++ news ++ arr.toList.drop (n * ei.size + news.length)).toArray) := ⟨rfl, rfl, rfl, Nat.le_refl _, by simp, fun c hc hne => setRow_other w g c _ (by simpa using hne)⟩
        have hsz : (cells ++ news ++ arr.toList.drop (n * ei.size + news.length)).length = cap * ei.size := by
          rw [List.length_append, hlen, List.length_drop, Array.length_toList, a2', hl, ← Nat.add_mul]; omega
        refine ⟨_, hg.write (i := 0) (k' := ⟨cells ++ news, e, cap * ei.size, none⟩) rfl hfr (Blk.ofRow ⟨_, setRow_heap w g arr _ _ _ a1, by simpa using hsz, prefix_get (r := arr.toList.drop (n * ei.size + news.length)) rfl⟩), ⟨hfr.mono (fun x hx => ?_), fun c hc => .inl hc⟩, k _ _ [(g, ⟨cells, e, cap * ei.size, none⟩)] [] ⟨hlen, .inr ⟨g, cap, rfl, hroom, hcm, rfl⟩⟩ rfl (fun A w h => ⟨by have h' := h.nodup; rw [ids_app] at h' ⊢; exact h', fun b kb hb => ?_⟩) (fun b hb => hb)⟩
        · have e : x = g := by simpa using hx
          rw [e]; exact List.mem_cons_self
        · rcases List.mem_append.1 hb with h1 | h1
          · exact h.blk b kb (List.mem_append_left _ h1)
          · cases List.mem_singleton.1 h1
            exact at_take ⟨news, rfl⟩ (h.blk g _ (List.mem_append_right _ List.mem_cons_self))
      · have hr := run_append_grow (P := P) w t ty e xi zv (hT.slice ht) i1 i4 ⟨g, 0, none⟩ n cap cells (by rw [i2]; exact hs.1) hcell ⟨ob, oo, none⟩ m c news (by rw [i2]; exact hl) hnw (by omega) (by omega) (by rw [i3]; exact growslice_fits (by omega) hbytes)
        rw [← hv, ← hy] at hr
        rw [run hr]
        exact fin cap [(g, ⟨cells, e, cap * ei.size, none⟩)] (by omega) rfl _ (by simp)

/-- One element behind a list of one's own: what stands for the elder list afterwards. -/
theorem vops_appendUk {k : Nat} (hT : TyOk P T) {d t e a b : Nat} {z : List Value} {x y : Operand} {ei : TI} {n c ob e' c' : Nat} {q r : List Int} {v0 : Value} {new R : Own}
    (ht : T t = some ⟨.slice e, a, b, z⟩) (he : T e = some ei) (hz : ei.zero ≠ []) (hzl : ei.zero.length = ei.size) (hk : ei.size = k) (hbt : ei.bytes ≤ 1000)
    (hx : ev f x = v0) (hN : NewF e k n q v0 new) (hp : own.Perm (new ++ R))
    (hy : ev f y = .slice (some ⟨ob, 0, none⟩) 1 c) (hm : (ob, (⟨ints r, e', c', none⟩ : Blk)) ∈ own) (hrl : r.length = k) (hn : n ≤ 1073741824)
    (kk : ∀ p cap bl new0 keep, NewF e k (n + 1) (q ++ r) (.slice p (n + 1) cap) [bl] → new0 ++ keep = new → (∀ (A : Own) w, OwnOk (A ++ [bl]) w → OwnOk (A ++ new0) w) → (∀ b ∈ ids new0, b ∈ ids [bl]) →
      VOps P Γ ops Q rest (upd f d (.slice p (n + 1) cap)) (bl :: (keep ++ R))) :
    VOps P Γ ops Q (⟨some d, .call ⟨.builtin .append, #[x, y], #[t, t]⟩, ty, pos, aft, none⟩ :: rest) f own := by
  subst hk
  subst hx
  refine vops_perm hp (vops_appendUs (cells := ints q) (news := ints r) hT ht he hz hzl (slAt_rest hN) hy (by rw [ints_length, hrl, Nat.one_mul]) (fun j v hj w hg => (show Sees Γ own ob (0 + j) v by rw [Nat.zero_add]; exact sees_mem hm hj) w (hg.perm hp.symm)) ints_one (by omega) (by simp only [maxLen]; omega) ?_ (fun v bl new0 keep h h1 h2 h3 => ?_))
  · calc (n + 1) * ei.bytes ≤ 1073741825 * 1000 := Nat.mul_le_mul (by omega) hbt
      _ ≤ _ := by omega
  · obtain ⟨p, cap, rfl⟩ := h.form
    refine kk p cap bl new0 keep ?_ (List.append_cancel_right h1) h2 h3
    have : ints (q ++ r) = ints q ++ ints r := by simp [ints]
    unfold NewF; rw [this]; exact h
end

/-! mathematics -/
/-- All but the j-th. -/
def restAt (left : List (List Int)) (j : Nat) : List (List Int) := left.take j ++ left.drop (j + 1)
/-- All orders of n things that are left, behind those that stand. -/
def arrL : Nat → List (List Int) → List (List Int) → List (List (List Int))
  | 0, pre, _ => [pre]
  | n + 1, pre, left => (List.range left.length).flatMap fun j => arrL n (pre ++ [left.getD j []]) (restAt left j)
/-- .. as far as the j-th of those that are left. -/
def arrTo (n : Nat) (pre left : List (List Int)) (k : Nat) : List (List (List Int)) := (List.range k).flatMap fun j => arrL n (pre ++ [left.getD j []]) (restAt left j)
theorem arrTo_succ (n : Nat) (pre left : List (List Int)) (k : Nat) : arrTo n pre left (k + 1) = arrTo n pre left k ++ arrL n (pre ++ [left.getD k []]) (restAt left k) := by
  simp [arrTo, List.range_succ]
theorem arrL_succ (n : Nat) (pre left : List (List Int)) : arrL (n + 1) pre left = arrTo n pre left left.length := rfl
theorem arrTo_mono (n : Nat) (pre left : List (List Int)) {k m : Nat} (h : k ≤ m) : ∃ t, arrTo n pre left m = arrTo n pre left k ++ t := by
  obtain ⟨d, rfl⟩ : ∃ d, m = k + d := ⟨m - k, by omega⟩
  clear h
  induction d with
  | zero => exact ⟨[], by simp⟩
  | succ d ih =>
    obtain ⟨t, ht⟩ := ih
    exact ⟨t ++ arrL n (pre ++ [left.getD (k + d) []]) (restAt left (k + d)), by rw [show k + (d + 1) = k + d + 1 by omega, arrTo_succ, ht, List.append_assoc]⟩
theorem arrTo_at {n : Nat} {pre left : List (List Int)} {j i : Nat} (hj : j < left.length) (hi : i < (arrL n (pre ++ [left.getD j []]) (restAt left j)).length) :
    (arrTo n pre left j).length + i < (arrL (n + 1) pre left).length ∧ (arrL (n + 1) pre left).getD ((arrTo n pre left j).length + i) [] = (arrL n (pre ++ [left.getD j []]) (restAt left j)).getD i [] := by
  obtain ⟨t, ht⟩ := arrTo_mono n pre left (k := j + 1) (m := left.length) (by omega)
  rw [arrL_succ, ht, arrTo_succ]
  refine ⟨by simp only [List.length_append]; omega, ?_⟩
  rw [List.append_assoc, List.getD_eq_getElem?_getD, List.getElem?_append_right (by omega), Nat.add_sub_cancel_left, List.getElem?_append_left hi, ← List.getD_eq_getElem?_getD]
theorem restAt_length {left : List (List Int)} {j : Nat} (h : j < left.length) : (restAt left j).length + 1 = left.length := by
  simp only [restAt, List.length_append, List.length_take, List.length_drop]; omega
theorem restAt_mem {left : List (List Int)} {j : Nat} {r : List Int} (h : r ∈ restAt left j) : r ∈ left := by
  rcases List.mem_append.1 h with h | h
  · exact List.mem_of_mem_take h
  · exact List.mem_of_mem_drop h

/-! contents -/
/-- n elements of k numbers each are read, in no block of W. -/
def RdFWi (w : World) (k n : Nat) (v : Value) (q : List Int) (W : List Nat) : Prop :=
  n = 0 ∨ ∃ b o cap, v = .slice (some ⟨b, o, none⟩) n cap ∧ b ∉ W ∧ ∀ j, j < n * k → w.cell? ⟨b, o + j, none⟩ = some (.int .i64 (q.getD j 0))
theorem RdFWi.later {w w' : World} {W : List Nat} {own : Own} {v : Value} {k n : Nat} {q : List Int} (hk : 0 < k) (h : RdFWi w k n v q W) (hg : Go.VL.Good ⟨w, W⟩ own w') : RdFW w' k n v q own := by
  rcases h with h | ⟨b, o, cap, h1, h2, h3⟩
  · exact .inl h
  · refine n.eq_zero_or_pos.elim (fun h0 => .inl h0) fun h0 => .inr ⟨b, o, cap, h1, (old_stays hg (h3 0 (Nat.mul_pos h0 hk)) h2).2, fun j hj => (old_stays hg (h3 j hj) h2).1⟩
theorem RdFWi.sub {w : World} {v : Value} {k n : Nat} {q : List Int} {W W' : List Nat} (h : RdFWi w k n v q W) (hs : ∀ b ∈ W', b ∈ W) : RdFWi w k n v q W' := by
  rcases h with h | ⟨b, o, cap, h1, h2, h3⟩
  · exact .inl h
  · exact .inr ⟨b, o, cap, h1, fun hb => h2 (hs b hb), h3⟩
theorem newF_cap {e k n : Nat} {q : List Int} {a : Option Addr} {c : Nat} {new : Own} (h : NewF e k n q (.slice a n c) new) : n ≤ c := by
  rcases h.2 with ⟨_, h2, _⟩ | ⟨_, _, h1, h2, _⟩
  · omega
  · cases h1; exact h2
/-- A slice whose n elements are the rows L, of k numbers each. -/
def KA (k n : Nat) (L : List (List Int)) (w : World) (x : List Value) (W : List Nat) : Prop := ∃ a cap, x = [.slice a n cap] ∧ n ≤ cap ∧ RdFWi w k n (.slice a n cap) L.flatten W
theorem KA.sub {k n : Nat} {L : List (List Int)} {w : World} {x : List Value} {W W' : List Nat} (h : KA k n L w x W) (hs : ∀ b ∈ W', b ∈ W) : KA k n L w x W' := by
  obtain ⟨a, cap, h1, h0, h2⟩ := h
  exact ⟨a, cap, h1, h0, h2.sub hs⟩
theorem rdFW_S {w : World} {k n : Nat} {v : Value} {L : List (List Int)} {own : Own} (h : RdFW w k n v L.flatten own) (hk : ∀ r ∈ L, r.length = k) (hn : n = L.length) (hv : ∃ a c, v = .slice a n c) : RdS w v L := by
  rcases h with h | ⟨b, o, cap, h1, h2, h3⟩
  · obtain ⟨a, c, rfl⟩ := hv
    subst h
    exact .inl ⟨a, c, rfl, List.eq_nil_of_length_eq_zero hn.symm⟩
  · refine .inr ⟨b, o, cap, by rw [← hn]; exact h1, fun j x hx => ?_⟩
    have hj : j < L.flatten.length := by have := (List.getElem?_eq_some_iff.1 hx).1; rwa [ints_length] at this
    rw [ints_get hj] at hx
    cases hx
    exact h3 j (by rw [flat_length hk] at hj; rw [hn]; exact hj)
end Go.VL
