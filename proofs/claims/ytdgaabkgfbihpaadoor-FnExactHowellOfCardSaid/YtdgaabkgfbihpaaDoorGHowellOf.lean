import Derived.Test.YtdgaabkgfbihpaaDoorVC
import Derived.Test.YtdgaabkgfbihpaaDoorDR
import Derived.Test.YtdgaabkgfbihpaaDoorVLArr
/- For every modulus, every list of pairs and every list of numbers, the law of HowellOf returns true: the program and its model answer alike, nothing that was handed in is written, and the answer owns its memory. Conditions: none besides those of the given statement (the two errors of the checks of starters lie as the program's text lays them). -/
namespace Go.Proofs.YtdgaabkgfbihpaaDoor
open Go.VL Go.ChangeShapes Go.WideShapes Go.ChangeAt Go.RowKit
attribute [local irreducible] VWr VOps VD Calls


set_option maxHeartbeats 1000000 in
theorem fnExactHowellOf_closed : joinedFacts Tryd.pinned.checked.prog 3 Tryd.f3 Rows.fnExactHowellOfSpec Rows.fnExactHowellOfRow = true :=
  andT (andT (andT (andT (andT (andT (andT (andT (andT (andT (andT (andT (andT (andT (andT (andT (andT (andT (andT (andT (andT (andT (andT (andT (andT (andT (andT (andT (andT (andT (andT ((by as_aux_lemma => kernel_rfl)) laidOut) mapsRow) (by as_aux_lemma => kernel_rfl)) (by as_aux_lemma => kernel_rfl)) (by as_aux_lemma => kernel_rfl)) (by as_aux_lemma => kernel_rfl)) (by as_aux_lemma => kernel_rfl)) (by as_aux_lemma => kernel_rfl)) (by as_aux_lemma => kernel_rfl)) (by as_aux_lemma => kernel_rfl)) (by as_aux_lemma => kernel_rfl)) (by as_aux_lemma => kernel_rfl)) (by as_aux_lemma => kernel_rfl)) (by as_aux_lemma => kernel_rfl)) (by as_aux_lemma => kernel_rfl)) (by as_aux_lemma => kernel_rfl)) (by as_aux_lemma => kernel_rfl)) (by as_aux_lemma => kernel_rfl)) (by as_aux_lemma => kernel_rfl)) (by as_aux_lemma => kernel_rfl)) (by as_aux_lemma => kernel_rfl)) (by as_aux_lemma => kernel_rfl)) (by as_aux_lemma => kernel_rfl)) heard) enters) (beqT lifts.symm)) (beqT made)) (by as_aux_lemma => kernel_rfl)) (by as_aux_lemma => kernel_rfl)) (by as_aux_lemma => kernel_rfl)) (by as_aux_lemma => kernel_rfl)


/-! ### the statement -/
set_option maxRecDepth 100000 in
theorem fnExactHowellOf_lifted (os : Os) (started : os.Started) (H : Type) (enc : TypeId × Value → H) :
    ReturnsInHanded {} Tryd.checked os 3 .any (fun w args => (Rows.fnExactHowellOfSpec.pre enc Tryd.prog Tryd.f3 [] false w args ∧ laidMetH Tryd.prog laidE w) ∧ sizedMet enc Tryd.prog Tryd.f3 (OpenSpec.ofChange Rows.fnExactHowellOfSpec) false w args)
      (Rows.fnExactHowellOfSpec.post enc Tryd.prog Tryd.f3 false true false false) := by
  refine returnsInHanded_of_change_and (C := Tryd.checked) (X := fun w _ => laidMetH Tryd.prog laidE w) (fun _ _ _ hh h => h.of_heap hh) own started (by kernel_rfl) Tryd.func3
    (ChangeSpec.witness_at (enc := enc) (C := Tryd.checked) (os := os) (X := fun w _ => laidMetH Tryd.prog laidE w) false (laidWorld os) #[.int .i64 0, .slice none 0 0, .slice none 0 0] 8 rfl (by kernel_rfl) (by kernel_rfl) (by kernel_rfl) (by kernel_rfl) (by kernel_rfl) (laid_met os _)) ?_
  intro W base args ds gs before hval0 hW _ _ hL _
  have hval : ∀ (j : Nat) t v, Tryd.f3.params[j]? = some t → args[j]? = some v → Value.okWide Tryd.prog W .any base t v := hval0
  have hW' := hW
  obtain ⟨p, q, hA0, hV0, rfl, hfz, hnd⟩ := hW
  have hA : DataW.TrodAll enc Tryd.prog W 0 (fun _ => true) true Tryd.f3.params.toList args.toList ds p := hA0
  have hV : DataW.TrodVars enc Tryd.prog W (fun _ => true) ["loop.example/g01379/impl.errNotAsTold", "loop.example/g01379/impl.errNoStarter"] gs q := hV0
  rw [Tryd.params3] at hA hval
  obtain ⟨e0, e1, herr, hv0, hv1⟩ := errs_of_laid hL
  obtain ⟨rfl, rfl⟩ := hV.unique (varsE enc hv0 hv1 _)
  obtain ⟨v0, vs0, d0, ds0, p0, q0, hargs, rfl, rfl, h0, r0⟩ := trodAll_cons hA
  obtain ⟨v1, vs1, d1, ds1, p1, q1, rfl, rfl, rfl, h1, r1⟩ := trodAll_cons r0
  obtain ⟨v2, vs2, d2, ds2, p2, q2, rfl, rfl, rfl, h2, r2⟩ := trodAll_cons r1
  obtain ⟨rfl, rfl, rfl⟩ := trodAll_nil r2
  obtain rfl : args = #[v0, v1, v2] := by cases args; simp_all
  have lt0 := trod_lt h0
  have k0 := h0
  have lt1 := trod_lt h1
  have k1 := h1
  have lt2 := trod_lt h2
  have k2 := h2
  obtain ⟨a0, rfl, rfl, rfl, w0⟩ := open_int (TyOk.und tyOk (t := 2) rfl (fun _ h => h)) (hval 0 2 v0 rfl rfl) h0
  obtain ⟨rs1, rd1, lm1, llm1⟩ := o_rows tyOk (t := 22) rfl rfl rfl (hval 1 22 v1 rfl rfl) h1
  obtain ⟨rs2, rd2, lm2⟩ := o_ints tyOk (t := 23) rfl rfl (hval 2 23 v2 rfl rfl) h2
  clear hA0 hV0 hval0
  refine (below_of_res (c_FnExactHowellOf a0 v1 rs1 lm1 llm1 v2 rs2 lm2 e0 e1 W herr rd1 rd2)).mono fun e W' ⟨he, bel⟩ => ?_
  subst he
  have b0 := World.block_lt_of_cell? _ _ herr.g0
  have b1 := World.block_lt_of_cell? _ _ herr.g1
  exact ⟨_, rfl, _, _, _, [], _, [.cell 0 0, .cell 1 0], hW', trodAll_mk1 (shut_bool Tryd.underlying4 _), (trodAll_cons_mk (Below.trod laidOut (by kernel_rfl) (of_decide_eq_true (by kernel_rfl)) k0 bel lt0) (trodAll_cons_mk (Below.trod laidOut (by kernel_rfl) (of_decide_eq_true (by kernel_rfl)) k1 bel lt1) (trodAll_cons_mk (Below.trod laidOut (by kernel_rfl) (of_decide_eq_true (by kernel_rfl)) k2 bel lt2) trodAll_mk0))), varsE enc (var?_below bel gE0 b0 hv0) (var?_below bel gE1 b1 hv1) _, bel.frame _, fun h => by cases h⟩

theorem fnExactHowellOf_over : Rows.fnExactHowellOfRow.holds Tryd.pinned (OpenSpec.ofChange Rows.fnExactHowellOfSpec) :=
  OpenClaim.holds_of_wide 3 Tryd.f3 rfl rfl rfl rfl rfl rfl rfl ⟨rfl, rfl, rfl, rfl, rfl⟩ rfl rfl rfl rfl rfl (by as_aux_lemma => kernel_rfl) Tryd.func3 fnExactHowellOf_closed
    (of_decide_eq_true (by kernel_rfl)) (by unfold Func.isWrapper; first | (rw [if_pos (by decide +kernel)]; kernel_rfl) | (rw [if_neg (by decide +kernel)]; exact ⟨rfl, rfl⟩))
    (fun os started H enc _ => fnExactHowellOf_lifted os started H enc)

theorem fnExactHowellOf_plain (f : FuncId) (fn : Func) (hf : Tryd.pinned.checked.prog.funcNamed "loop.example/g01379/laws.FnExactHowellOf" = some f) (hfn : Tryd.pinned.checked.prog.funcs[f]? = some fn) :
    true = Tryd.pinned.checked.prog.looks [] ∧ ∀ (j : Nat) t, fn.params[j]? = some t → Tryd.pinned.checked.prog.wantsStandIn t = false := by
  obtain rfl : f = 3 := Option.some.inj ((show Tryd.prog.funcNamed "loop.example/g01379/laws.FnExactHowellOf" = some 3 by kernel_rfl).symm.trans hf) |>.symm
  obtain rfl : fn = Tryd.f3 := (Option.some.inj (Tryd.func3.symm.trans hfn)).symm
  refine ⟨by kernel_rfl, fun j t ht => ?_⟩
  rw [Tryd.params3] at ht
  have hm : t ∈ [2, 22, 23] := by simpa using Array.mem_of_getElem? ht
  have hall : ([2, 22, 23].all fun u => !Tryd.prog.wantsStandIn u) = true := by kernel_rfl
  exact (show Tryd.prog.wantsStandIn t = false by simpa using List.all_eq_true.1 hall t hm)

theorem fnExactHowellOf_holds : Rows.FnExactHowellOfCardSaid :=
  Claim7.holds_tied_plain_at .later [] _ _ _ _ fnExactHowellOf_over (fun _ h => by cases h) (by kernel_rfl) (fun _ h => by cases h) fnExactHowellOf_row_tie rfl ⟨rfl, rfl⟩ (by kernel_rfl) rfl fnExactHowellOf_plain (by kernel_rfl)

end Go.Proofs.YtdgaabkgfbihpaaDoor
