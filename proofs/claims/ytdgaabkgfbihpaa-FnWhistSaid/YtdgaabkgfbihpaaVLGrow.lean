import Derived.Test.YtdgaabkgfbihpaaVLPlay
import Derived.Test.YtdgaabkgfbihpaaVLTake
/-! a list of one's own, of which an elder, shorter one is still read -/
namespace Go.VL
open Go.RowKit
section
variable {P : Program} {T : Nat → Option TI} {Γ : Ctx} {ops : Array Oper} {Q : (Nat → Value) → Own → Prop} {rest : List Oper} {f : Nat → Value} {own : Own}
variable {ty : TypeId} {pos : String} {aft : Array Edge}
/-- One number behind a list of one's own: in its block, or in a new one, and the elder list stays. -/
theorem vops_appendC (hT : TyOk P T) {d t e a b n c g cap ob e' c' : Nat} {z : List Value} {x y : Operand} {ei : TI} {l : List Int} {q : Int} {R : Own} (ht : T t = some ⟨.slice e, a, b, z⟩) (he : T e = some ei) (hz : ei.zero ≠ []) (hzl : ei.zero.length = ei.size) (hs1 : ei.size = 1) (hbt : ei.bytes ≤ 1000)
    (hx : ev f x = .slice (some ⟨g, 0, none⟩) n cap) (hn : n = l.length) (hp : own.Perm ((g, ⟨ints l, e, cap * 1, none⟩) :: R)) (hy : ev f y = .slice (some ⟨ob, 0, none⟩) 1 c) (hm : (ob, (⟨[.int .i64 q], e', c', none⟩ : Blk)) ∈ R) (hcm : n ≤ 1073741824)
    (k1 : n + 1 ≤ cap → VOps P Γ ops Q rest (upd f d (.slice (some ⟨g, 0, none⟩) (n + 1) cap)) ((g, ⟨ints (l ++ [q]), e, cap * 1, none⟩) :: R))
    (k2 : ∀ b' cap', n + 1 ≤ cap' → cap' ≤ maxLen → VOps P Γ ops Q rest (upd f d (.slice (some ⟨b', 0, none⟩) (n + 1) cap')) ((b', ⟨ints (l ++ [q]), e, cap' * 1, none⟩) :: (g, ⟨ints l, e, cap * 1, none⟩) :: R)) :
    VOps P Γ ops Q (⟨some d, .call ⟨.builtin .append, #[x, y], #[t, t]⟩, ty, pos, aft, none⟩ :: rest) f own :=
  vops_perm hp (vops_go fun w hg => by
    subst hn
    obtain ⟨xi, zv, i1, i2, i3, i4, i5⟩ := hT.full he hz
    have hzs : zv.cells.size = ei.size := by rw [← Array.length_toList, i5, hzl]
    have hsize : xi.size = 1 := by rw [i2, hs1]
    have e1 : ints (l ++ [q]) = ints l ++ [.int .i64 q] := by simp [ints]
    have hnw : ∀ (j : Nat) (u : Value), ([Value.int .i64 q] : List Value)[j]? = some u → w.cell? ((⟨ob, 0, none⟩ : Addr).add j) = some u := fun j u hu => by
      rw [Addr.add_lit, Nat.zero_add]; exact cell_of_blk hg.ok (List.mem_cons_of_mem _ hm) hu
    have hcell : ∀ (j : Nat) (u : Value), (ints l)[j]? = some u → w.cell? ((⟨g, 0, none⟩ : Addr).add j) = some u := fun j u hu => by
      rw [Addr.add_lit, Nat.zero_add]; exact cell_of_blk hg.ok List.mem_cons_self hu
    have run : ∀ {v : Value} {w' : World}, (Builtin.append_ #[t, t] ty #[ev f x, ev f y]).run P w = .ok v w' →
        (execOp (ev f) ⟨some d, .call ⟨.builtin .append, #[x, y], #[t, t]⟩, ty, pos, aft, none⟩).run P w = .ok (.value v) w' := fun h => by
      unfold execOp
      simp only [resolve, invoke, builtin, Sem.run_bind, Sem.run_pure, Result.andThen_ok, List.map_toArray, List.map_cons, List.map_nil, h]
    have hone : ∀ u ∈ ([Value.int .i64 q] : List Value), u.oneCell' = true := by
      intro u hu
      obtain rfl : u = Value.int .i64 q := by simpa using hu
      rfl
    obtain ⟨arr, a1, a2, a3⟩ := hg.ok.row (List.mem_cons_self) rfl
    have a2' : arr.size = cap := by have h : arr.size = cap * 1 := a2; omega
    have hlr : (ints l).length = l.length := ints_length l
    by_cases hroom : l.length + 1 ≤ cap
    · have htake : arr.toList.take (l.length * 1) = ints l := by
        apply List.ext_getElem?
        intro j
        by_cases hj : j < (ints l).length
        · have := a3 j _ (List.getElem?_eq_getElem hj)
          rw [List.getElem?_eq_getElem hj, ← this, List.getElem?_take_of_lt (by omega)]; simp
        · have hA : (arr.toList.take (l.length * 1)).length ≤ j := by rw [List.length_take]; omega
          rw [List.getElem?_eq_none hA, List.getElem?_eq_none (by omega)]
      have hr := run_append_room (P := P) w t ty e xi (hT.slice ht) i1 g l.length cap arr a1 ⟨ob, 0, none⟩ 1 c [.int .i64 q] (by rw [hsize]; rfl) hnw hone hroom (by rw [hsize]; simp; omega)
      rw [← hx, ← hy, hsize, htake] at hr
      rw [run hr]
      have hfr : Fr [g] w (w.setRow g (ints l ++ [Value.int .i64 q] ++ arr.toList.drop (l.length * 1 + 1)).toArray) := ⟨rfl, rfl, rfl, by simp, fun c hc hne => setRow_other w g c _ (by simpa using hne)⟩
      have hsz : (ints l ++ [Value.int .i64 q] ++ arr.toList.drop (l.length * 1 + 1)).length = cap * 1 := by
        have a4 : arr.toList.length = cap := by rw [Array.length_toList]; exact a2'
        rw [List.length_append, List.length_append, List.length_drop, a4, hlr, List.length_singleton]; omega
      refine ⟨_, hg.write (i := 0) (k' := ⟨ints (l ++ [q]), e, cap * 1, none⟩) rfl hfr (Blk.ofRow ⟨_, setRow_heap w g arr _ _ _ a1, by simpa using hsz, by rw [e1]; exact prefix_get (r := arr.toList.drop (l.length * 1 + 1)) rfl⟩), ⟨hfr.mono (fun x hx => ?_), fun c hc => .inl hc⟩, k1 hroom⟩
      have e : x = g := by simpa using hx
      rw [e]; exact List.mem_cons_self
    · have hbytes : (l.length + 1) * ei.bytes ≤ 140737488355328 := by
        calc (l.length + 1) * ei.bytes ≤ 1073741825 * 1000 := Nat.mul_le_mul (by omega) hbt
          _ ≤ _ := by omega
      have hr := run_append_grow (P := P) w t ty e xi zv (hT.slice ht) i1 i4 ⟨g, 0, none⟩ l.length cap (ints l) (by rw [hsize]; omega) hcell ⟨ob, 0, none⟩ 1 c [.int .i64 q] (by rw [hsize]; rfl) hnw (by omega) (by omega) (by rw [i3]; exact growslice_fits (by omega) hbytes)
      rw [← hx, ← hy] at hr
      rw [run hr]
      have hge := grownCap_ge w (l.length + 1) cap e
      have hcm2 : grownCap w (l.length + 1) cap e ≤ maxLen := grownCap_le_maxLen w (l.length + 1) cap e (by simp only [maxLen]; omega)
      refine ⟨(w.heap.size, ⟨ints (l ++ [q]), e, grownCap w (l.length + 1) cap e * 1, none⟩) :: (g, ⟨ints l, e, cap * 1, none⟩) :: R, hg.drew.newP _ e ?_ ?_, ⟨⟨rfl, rfl, rfl, by simp, fun k hk _ => heap_alloc_old w.drew _ hk⟩, fun b hb => ?_⟩, k2 _ _ hge hcm2⟩
      · rw [← Array.length_toList]
        simp [size_zeroCells, hzs, hs1, hlr]; omega
      · rw [e1]
        exact prefix_get (r := (Builtin.zeroCells zv.cells (grownCap w (l.length + 1) cap e - (l.length + 1))).toList) (by simp)
      · rcases List.mem_cons.1 hb with h | h
        · exact .inr (Nat.le_of_eq h.symm)
        · exact .inl h)
/-- One number behind a list of one's own, which may be nil: what stands for the elder list afterwards. -/
theorem vops_appendU (hT : TyOk P T) {d t e a b c ob e' c' : Nat} {z : List Value} {x y : Operand} {ei : TI} {l : List Int} {q : Int} {v : Value} {new R : Own} (ht : T t = some ⟨.slice e, a, b, z⟩) (he : T e = some ei) (hz : ei.zero ≠ []) (hzl : ei.zero.length = ei.size) (hs1 : ei.size = 1) (hbt : ei.bytes ≤ 1000)
    (hx : ev f x = v) (hN : NewI e l v new) (hp : own.Perm (new ++ R)) (hy : ev f y = .slice (some ⟨ob, 0, none⟩) 1 c) (hm : (ob, (⟨[.int .i64 q], e', c', none⟩ : Blk)) ∈ R) (hcm : l.length ≤ 1048576)
    (kk : ∀ p' cap' new' new0 keep, NewI e (l ++ [q]) (.slice p' (l.length + 1) cap') new' → new0 ++ keep = new → (∀ w, OwnOk new' w → OwnOk new0 w) → (∀ b ∈ ids new0, b ∈ ids new') →
      VOps P Γ ops Q rest (upd f d (.slice p' (l.length + 1) cap')) (new' ++ (keep ++ R))) :
    VOps P Γ ops Q (⟨some d, .call ⟨.builtin .append, #[x, y], #[t, t]⟩, ty, pos, aft, none⟩ :: rest) f own := by
  have hln : (l ++ [q]).length = l.length + 1 := by simp
  have hpre : ints l <+: ints (l ++ [q]) := ⟨[.int .i64 q], by simp [ints]⟩
  rcases hN.2 with ⟨h1, h2, h3⟩ | ⟨g, cap, h1, h2, h3, h4⟩
  · have hl : l = [] := List.eq_nil_of_length_eq_zero h2
    subst h1; subst h3; subst hl
    refine vops_append1 (k := 1) (r := [q]) hT ht he hz hzl hs1 hbt hx (NewI.f NewI.nil) hp hy (hp.mem_iff.2 hm) rfl (by simp) (fun p' cap' new' hN' => ?_)
    exact kk p' cap' new' [] [] hN' rfl (fun w h => ⟨List.nodup_nil, fun _ _ h => by cases h⟩) (fun _ h => by cases h)
  · subst h1; subst h4
    refine vops_appendC hT (g := g) (n := l.length) (R := R) ht he hz hzl hs1 hbt hx rfl hp hy hm (by omega) (fun hroom => ?_) (fun b' cap' h5 h6 => ?_)
    · refine kk _ _ [(g, ⟨ints (l ++ [q]), e, cap * 1, none⟩)] [(g, ⟨ints l, e, cap * 1, none⟩)] [] ?_ rfl (fun w hw => ⟨hw.nodup, fun b' k hk => ?_⟩) (fun _ h => h)
      · show SlAt e 1 _ (l ++ [q]).length _ _ _
        rw [hln]
        exact ⟨by rw [ints_length, hln, Nat.mul_one], .inr ⟨g, cap, rfl, hroom, h3, rfl⟩⟩
      · cases List.mem_singleton.1 hk
        exact at_take hpre (hw.blk g _ List.mem_cons_self)
    · refine kk _ _ [(b', ⟨ints (l ++ [q]), e, cap' * 1, none⟩)] [] [(g, ⟨ints l, e, cap * 1, none⟩)] ?_ rfl (fun w h => ⟨List.nodup_nil, fun _ _ h => by cases h⟩) (fun _ h => by cases h)
      show SlAt e 1 _ (l ++ [q]).length _ _ _
      rw [hln]
      exact ⟨by rw [ints_length, hln, Nat.mul_one], .inr ⟨b', cap', rfl, h5, h6, rfl⟩⟩
end
end Go.VL
