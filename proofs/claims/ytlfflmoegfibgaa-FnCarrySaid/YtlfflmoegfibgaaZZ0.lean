import Derived.Test.YtlfflmoegfibgaaSX
import Derived.Test.YtlfflmoegfibgaaVLTable
import Derived.Test.YtlfflmoegfibgaaVLA
import Derived.Test.YtlfflmoegfibgaaVLLol
import Derived.Test.YtlfflmoegfibgaaVLCells
import Derived.Test.YtlfflmoegfibgaaCBI
import Derived.Test.YtlfflmoegfibgaaVLOrd
import Derived.Test.YtlfflmoegfibgaaCBR
import Derived.Test.YtlfflmoegfibgaaSA
import Derived.Test.YtlfflmoegfibgaaVLSquare
import Derived.Test.YtlfflmoegfibgaaVLNb
import Derived.Test.YtlfflmoegfibgaaVLPanic
import Derived.Test.YtlfflmoegfibgaaVLMatrix
import Derived.Test.YtlfflmoegfibgaaVLEv
import Derived.Test.YtlfflmoegfibgaaVLSum
import Derived.Test.YtlfflmoegfibgaaVLBytes
import Derived.Test.YtlfflmoegfibgaaUL
import Derived.Test.YtlfflmoegfibgaaVLTrip
import Derived.Test.YtlfflmoegfibgaaVLBB
/- Parts of the proof, one after another. No conditions of their own. -/
/- A part of the proof: CA1. No conditions of its own. -/
namespace Go.Proofs.Ytlfflmoegfibgaa
open Go.VL
attribute [local irreducible] VWr VOps VD Calls

/-- A list of all numbers below its length, which fits. -/
def IsWhole (l : List Int) : Prop := 1 ≤ l.length ∧ l.length ≤ 14 ∧ IsPerm l.length l
/-- The zigzag's number at the place k. -/
def zigC (n k : Nat) : Int := if k % 2 = 0 then ((k / 2 : Nat) : Int) else (n : Int) - 1 - ((k / 2 : Nat) : Int)
def zigR (n : Int) : List Int × Int := if 1 ≤ n ∧ n ≤ 14 then (lst n.toNat (zigC n.toNat), 0) else ([], 2)
end Go.Proofs.Ytlfflmoegfibgaa

/- A part of the proof: CA2. No conditions of its own. -/
namespace Go.Proofs.Ytlfflmoegfibgaa
open Go.VL
attribute [local irreducible] VWr VOps VD Calls

/-- The square of a list: the number at the row i and the column k. -/
def sqC (l : List Int) (i k : Nat) : Int := ((i : Int) + l.getD k 0) % (l.length : Int)
open Classical in
noncomputable def sqLR (l : List Int) : List (List Int) × Int := if IsWhole l then (tabN l.length l.length (sqC l), 0) else ([], 2)
end Go.Proofs.Ytlfflmoegfibgaa

/- A part of the proof: CB2I. No conditions of its own. -/
namespace Go.Proofs.Ytlfflmoegfibgaa
open Go.VL
attribute [local irreducible] VWr VOps VD Calls

set_option maxRecDepth 100000 in
theorem c_cloneOI (v : Value) (n : Nat) (q : List Int) (w : World) (hv : RF 1 w v (n, q)) (hn : n ≤ 1048576) : Calls Try.prog 133 [v].toArray w (Res w (NewF 2 1 n q)) := by
  obtain ⟨a, cap, rfl⟩ := RdF.len hv
  refine calls_of_vw Try.func133 rfl Try.ntmps133 (by simp) ?_
  cases a with
  | none =>
    have hq0 : n = 0 ∧ q = [] := by
      rcases hv with ⟨_, _, _, h1, h2⟩ | ⟨_, _, _, h, _⟩
      · exact ⟨h1, h2⟩
      · cases h
    obtain ⟨h1, rfl⟩ := hq0
    have h1 : n = 0 := h1
    subst h1
    repeat (first | refine vops_q tyOk rfl ?_ | refine vops_nil ?_ | refine vw_seq ?_ | refine vw_region (by kernel_rfl) ?_ | refine vw_cond rfl ?_ | refine vops_isNil tyOk rfl rfl rfl ?_)
    refine bs_true ?_
    repeat (first | refine vops_q tyOk rfl ?_ | refine vops_nil ?_ | refine vw_seq ?_ | refine vw_region (by kernel_rfl) ?_ | refine vw_ret ?_)
    exact out1 rfl rfl (new := []) List.nodup_nil sub_nil SlAt.nil
  | some a =>
    repeat (first | refine vops_q tyOk rfl ?_ | refine vops_nil ?_ | refine vw_seq ?_ | refine vw_region (by kernel_rfl) ?_ | refine vw_cond rfl ?_ | refine vops_isNil tyOk rfl rfl rfl ?_)
    refine bs_false ?_
    repeat (first | refine vops_q tyOk rfl ?_ | refine vops_nil ?_ | refine vw_seq ?_ | refine vw_region (by kernel_rfl) ?_ | refine vw_skip ?_ | refine vw_ret ?_ | refine vops_build0 tyOk rfl rfl (fun be hbe => ?_) | refine vops_appendL (k := 1) (q := []) (q2 := q) tyOk rfl rfl (List.cons_ne_nil _ _) rfl rfl (by decide) rfl NewF.empty (by repeat (first | exact pm_here | exact pm_last | apply pm_next | apply pm_past)) rfl (fun w' hg => RF.same hv hg.fr) (by omega) (fun p' cap' new' hN' => ?_))
    rw [Nat.zero_add, List.nil_append] at hN'
    rw [Nat.zero_add]
    exact out1 rfl rfl (SlAt.nodup hN') (by repeat (first | exact sub_hereL | exact sub_refl | apply sub_cons | apply sub_app)) hN'

def ArBI (v : Value) (kept b2 b3 : Nat) : Own := [(b3, ⟨[.int .i64 kept], 3, 1, none⟩), (b2, ⟨[v], 135, 1, none⟩)]
def ArFI (v : Value) (kept : Nat) (u : Value) (new : Own) : Prop := ∃ b2 b3, u = .func (.func 168) #[] [.pointer (some ⟨b2, 0, none⟩), .pointer (some ⟨b3, 0, none⟩)].toArray ∧ new = ArBI v kept b2 b3 ∧ b2 ≠ b3
set_option maxRecDepth 100000 in
theorem c_arrangementsI (a : Option Addr) (n cap kept : Nat) (w : World) : Calls Try.prog 132 [.slice a n cap, .int .i64 kept].toArray w (Res w (ArFI (.slice a n cap) kept)) := by
  refine calls_of_vw Try.func132 rfl Try.ntmps132 (by simp) ?_
  refine vw_seq (vw_region (by kernel_rfl) (vops_box [.slice a n cap] rfl (fun b2 hb2 => vops_box [.int .i64 kept] rfl (fun b3 hb3 => ?_))))
  have hne : b2 ≠ b3 := fun h => hb3 (by rw [h]; simp [ids])
  repeat (first | refine vops_q tyOk rfl ?_ | refine vops_nil ?_ | refine vw_seq ?_ | refine vw_region (by kernel_rfl) ?_ | refine vw_ret ?_ | refine vops_mkf rfl ?_)
  refine out1 rfl rfl ?_ (fun _ h => h) ⟨b2, b3, rfl, rfl, hne⟩
  simp [ids, Ne.symm hne]
set_option maxHeartbeats 2000000 in
set_option maxRecDepth 100000 in
theorem it_arrI (a : Option Addr) (n cap kept : Nat) (pre left : List (List Int)) (hpl : pre.length = kept) (hll : left.length = n - kept) (hkn : kept ≤ n) (hnc : n ≤ cap) (h20 : n ≤ 20) (hw : ∀ r ∈ pre ++ left, r.length = 1) (b2 b3 : Nat) (ex : Own) :
    IterC Try.prog 168 [.pointer (some ⟨b2, 0, none⟩), .pointer (some ⟨b3, 0, none⟩)] (arrL (n - kept) pre left).length (fun i => KA 1 n ((arrL (n - kept) pre left).getD i [])) (ArBI (.slice a n cap) kept b2 b3 ++ ex) (fun w own => RdFW w 1 n (.slice a n cap) (pre ++ left).flatten own) := by
  intro Γ l J Jx own0 w hc hcp hdis hT h0 hy
  have hr2 : w.cell? ⟨b2, 0, none⟩ = some (.slice a n cap) := cell_of_blk hcp (List.mem_append_left _ (List.mem_cons_of_mem _ List.mem_cons_self)) rfl
  have hr3 : w.cell? ⟨b3, 0, none⟩ = some (.int .i64 kept) := cell_of_blk hcp (List.mem_append_left _ List.mem_cons_self) rfl
  have hd2 : b2 ∉ ids own0 := hdis b2 (by simp [ids, ArBI])
  have hd3 : b3 ∉ ids own0 := hdis b3 (by simp [ids, ArBI])
  have hnl : n = (pre ++ left).length := by rw [List.length_append]; omega
  have hS : ∀ w' own', Go.VL.Good ⟨w, ids own0⟩ own' w' → RdS w' (.slice a n cap) (pre ++ left) := fun w' own' hg => rdFW_S (RdFW.later (by omega) hT hg) hw hnl ⟨_, _, rfl⟩
  have hpt : (pre ++ left).take kept = pre := by rw [← hpl, List.take_left]
  have hp1 : ∀ w' own', Go.VL.Good ⟨w, ids own0⟩ own' w' → RF 1 w' (sliced a (Int.toNat 0) (kept : Int).toNat cap 1) (kept, pre.flatten) := fun w' own' hg => by
    have h := rdS_f (RdS.part (k := 1) (l := 0) (u := kept) (hS w' own' hg) hw hnl (by omega) hkn hnc) (fun r hr => hw r (List.mem_of_mem_take (List.mem_of_mem_drop hr)))
    rw [List.drop_zero, hpt, hpl] at h
    exact h
  have hpre : pre.flatten.length = kept * 1 := by rw [flat_length (k := 1) (fun r hr => hw r (List.mem_append_left _ hr)), hpl]
  have hp2 : RdFW w 1 (n - kept) (sliced a (kept : Int).toNat (n : Int).toNat cap 1) left.flatten own0 := rdFW_drop (pre := pre) hT hpre hkn hnc
  obtain ⟨la, lc, e2, hlc⟩ : ∃ la lc, sliced a (kept : Int).toNat (n : Int).toNat cap 1 = .slice la (n - kept) lc ∧ n - kept ≤ lc := ⟨_, _, rfl, by simp only [Int.toNat_natCast]; omega⟩
  rw [e2] at hp2
  refine calls_of_vwM Try.func168 rfl Try.ntmps168 (by simp) hc.ok ?_
  skip
  refine vw_drawB [] [0, 1, 2, 4, 5, 6, 7, 3, 8] (by kernel_rfl) (by kernel_rfl) (by kernel_rfl) rfl (by repeat (first | exact ole_nil | exact ole_refl | (apply ole_cons; (repeat (first | exact pm1_here | apply pm1_next | apply pm1_past))) | (apply ole_app; (repeat (first | exact pm_here | exact pm_last | apply pm_next | apply pm_past))))) ?_
  repeat' (first | refine vd_q tyOk rfl (by first | trivial | rfl) rfl (by kernel_rfl) (by kernel_rfl) ?_ | refine vops_nil ?_ | refine ⟨fun _ _ _ h => List.mem_append_right _ h, ?_⟩ | refine vd_load tyOk rfl (by first | trivial | rfl) rfl rfl rfl (by kernel_rfl) (by kernel_rfl) (by kernel_rfl) (sees_old hr2 hd2) (by repeat (first | exact sub_hereL | exact sub_refl | apply sub_cons | apply sub_app)) ?_ | refine vd_load tyOk rfl (by first | trivial | rfl) rfl rfl rfl (by kernel_rfl) (by kernel_rfl) (by kernel_rfl) (sees_old hr3 hd3) (by repeat (first | exact sub_hereL | exact sub_refl | apply sub_cons | apply sub_app)) ?_ | refine vd_slice tyOk rfl (by first | trivial | rfl) rfl rfl rfl rfl rfl (by kernel_rfl) (by kernel_rfl) (by omega) ?_ | (apply vops_call ent133 rfl; (intro w' hg; exact c_cloneOI _ kept pre.flatten w' (hp1 w' _ hg) (by omega)); (intro _ newC hC; obtain ⟨pC, cC, rfl⟩ := SlAt.form hC)) | refine vd_one rfl (by kernel_rfl) (by kernel_rfl) rfl ?_)
  refine vops_callM (own0 := own0 ++ newC) (S := fun v new => (∃ J', new = J' ++ newC ∧ ((v = .bool true ∧ J (0 + (arrL (n - kept) pre left).length) J') ∨ (v = .bool false ∧ Jx J'))) ∧ (ids new).Nodup) ent169 rfl perm_comm0 (fun w' hg => ?_) ?_
  · show Calls _ _ ([.slice pC kept cC, sliced a (kept : Int).toNat (n : Int).toNat cap 1, .func (.yield l) #[] #[]] : List Value).toArray w' _
    rw [e2]
    have hgN : Go.VL.Good ⟨w, ids own0⟩ (own0 ++ newC) w' := by simpa using hg
    have := resM_nd (c_arrangeI (n - kept) pre left kept pre.flatten pC cC la lc n Γ l 0 J Jx own0 newC w' hll hpl.symm rfl (by omega) h20 (fun r hr => hw r (List.mem_append_right _ hr)) hlc hC (RdFW.later (by omega) hp2 hgN) (hc.onto hgN) h0 (fun i hi own hJi => by rw [Nat.zero_add] at hJi ⊢; exact hy i hi own hJi))
    simpa using this
  · rintro v new ⟨⟨oJ', rfl, hres⟩, hnd⟩
    have hnd2 : (ids oJ').Nodup := by rw [ids_app] at hnd; exact (List.nodup_append.1 hnd).1
    refine vops_nil ⟨fun _ p hp => absurd hp List.not_mem_nil, ?_⟩
    repeat' (first | refine vd_nil (by kernel_rfl) ?_)
    refine outNoneN rfl hnd2 (fun _ h => List.mem_append_left _ (List.mem_append_left _ h)) ?_
    rcases hres with ⟨_, h⟩ | ⟨_, h⟩
    · rw [Nat.zero_add] at h; exact .inl h
    · exact .inr h

set_option maxHeartbeats 1000000 in
set_option maxRecDepth 100000 in
theorem c_numbersBelow (n : Nat) (hn : n ≤ 100) (w : World) :
    Calls Try.prog 131 [.int .i64 n].toArray w (Res w (NewF 2 1 n (lst n fun x => (x : Int)))) := by
  refine calls_of_vw Try.func131 rfl Try.ntmps131 (by simp) ?_
  repeat (first | refine vops_q tyOk rfl ?_ | refine vops_nil ?_ | refine vw_seq ?_ | refine vw_region (by kernel_rfl) ?_)
  refine vops_makeRows (k := 1) (n := n) tyOk rfl rfl rfl (by decide) rfl rfl rfl (by show 8 * _ ≤ _; omega) (by omega) (fun bo hbo => ?_)
  repeat (first | refine vops_q tyOk rfl ?_ | refine vops_nil ?_ | refine vw_seq ?_ | refine vw_region (by kernel_rfl) ?_ | refine vw_block ?_)
  refine vw_loop (fun y f own => ∃ i : Nat, i ≤ n ∧ y = n - i ∧ f 8 = .int .i64 i ∧ f 7 = .int .i64 n ∧ f 3 = .slice (some ⟨bo, 0, none⟩) n n ∧ own = [(bo, ⟨ints (lst i (fun x => (x : Int)) ++ List.replicate (n - i) 0), 2, n * 1, none⟩)]) n
    ⟨0, by omega, by omega, rfl, rfl, rfl, by rw [Nat.mul_one]; rfl⟩ ?_
  rintro y f own ⟨i, hi, rfl, h8, h7, h3, rfl⟩
  rw [upd_of h8, upd_of h7, upd_of h3]
  repeat (first | refine vops_q tyOk rfl ?_ | refine vops_nil ?_ | refine vw_seq ?_ | refine vw_region (by kernel_rfl) ?_ | refine vw_cond rfl ?_)
  refine bs_dec (fun hlt => ?_) (fun hlt => ?_)
  · have hin : i < n := by omega
    have hset : (lst i (fun x => (x : Int)) ++ List.replicate (n - i) 0).set i (i : Int) = lst (i + 1) (fun x => (x : Int)) ++ List.replicate (n - (i + 1)) 0 := by
      rw [show n - i = (n - (i + 1)) + 1 by omega, List.replicate_succ, set_next (lst_length _ _), lst_succ]
    repeat (first | refine vops_q tyOk rfl ?_ | refine vops_nil ?_ | refine vw_seq ?_ | refine vw_region (by kernel_rfl) ?_ | refine vops_p tyOk rfl (by (try simp only [inR]); omega) ?_ | refine vw_skip ?_ | refine vw_block ?_ | refine vops_storeIM (o := i) tyOk rfl rfl (by exact congrArg (fun x => Value.pointer (some ⟨bo, x, none⟩)) (show 0 + (i : Int).toNat = 0 + i by omega)) rfl (by repeat (first | exact upd_here | apply upd_next | apply upd_past)) (by simp [lst_length]; omega) ?_)
    rw [hset]
    exact ⟨n - (i + 1), by omega, i + 1, by omega, rfl, rfl, rfl, rfl, rfl⟩
  · obtain rfl : i = n := by omega
    repeat (first | refine vops_q tyOk rfl ?_ | refine vops_nil ?_ | refine vw_seq ?_ | refine vw_region (by kernel_rfl) ?_ | refine vw_ret ?_ | refine vw_exit ?_)
    rw [Nat.sub_self, List.replicate_zero, List.append_nil]
    refine out1 rfl rfl (by simp [ids]) (fun _ h => h) ⟨by rw [ints_length, lst_length, Nat.mul_one], .inr ⟨bo, i, rfl, Nat.le_refl _, by simp only [maxLen]; omega, rfl⟩⟩
end Go.Proofs.Ytlfflmoegfibgaa

/- A part of the proof: CB2R. No conditions of its own. -/
namespace Go.Proofs.Ytlfflmoegfibgaa
open Go.VL
attribute [local irreducible] VWr VOps VD Calls

set_option maxRecDepth 100000 in
theorem c_cloneOR (v : Value) (n : Nat) (q : List Int) (w : World) (hv : RF 14 w v (n, q)) (hn : n ≤ 1048576) : Calls Try.prog 108 [v].toArray w (Res w (NewF 50 14 n q)) := by
  obtain ⟨a, cap, rfl⟩ := RdF.len hv
  refine calls_of_vw Try.func108 rfl Try.ntmps108 (by simp) ?_
  cases a with
  | none =>
    have hq0 : n = 0 ∧ q = [] := by
      rcases hv with ⟨_, _, _, h1, h2⟩ | ⟨_, _, _, h, _⟩
      · exact ⟨h1, h2⟩
      · cases h
    obtain ⟨h1, rfl⟩ := hq0
    have h1 : n = 0 := h1
    subst h1
    repeat (first | refine vops_q tyOk rfl ?_ | refine vops_nil ?_ | refine vw_seq ?_ | refine vw_region (by kernel_rfl) ?_ | refine vw_cond rfl ?_ | refine vops_isNil tyOk rfl rfl rfl ?_)
    refine bs_true ?_
    repeat (first | refine vops_q tyOk rfl ?_ | refine vops_nil ?_ | refine vw_seq ?_ | refine vw_region (by kernel_rfl) ?_ | refine vw_ret ?_)
    exact out1 rfl rfl (new := []) List.nodup_nil sub_nil SlAt.nil
  | some a =>
    repeat (first | refine vops_q tyOk rfl ?_ | refine vops_nil ?_ | refine vw_seq ?_ | refine vw_region (by kernel_rfl) ?_ | refine vw_cond rfl ?_ | refine vops_isNil tyOk rfl rfl rfl ?_)
    refine bs_false ?_
    repeat (first | refine vops_q tyOk rfl ?_ | refine vops_nil ?_ | refine vw_seq ?_ | refine vw_region (by kernel_rfl) ?_ | refine vw_skip ?_ | refine vw_ret ?_ | refine vops_build0 tyOk rfl rfl (fun be hbe => ?_) | refine vops_appendL (k := 14) (q := []) (q2 := q) tyOk rfl rfl (List.cons_ne_nil _ _) rfl rfl (by decide) rfl NewF.empty (by repeat (first | exact pm_here | exact pm_last | apply pm_next | apply pm_past)) rfl (fun w' hg => RF.same hv hg.fr) (by omega) (fun p' cap' new' hN' => ?_))
    rw [Nat.zero_add, List.nil_append] at hN'
    rw [Nat.zero_add]
    exact out1 rfl rfl (SlAt.nodup hN') (by repeat (first | exact sub_hereL | exact sub_refl | apply sub_cons | apply sub_app)) hN'

def ArBR (v : Value) (kept b2 b3 : Nat) : Own := [(b3, ⟨[.int .i64 kept], 3, 1, none⟩), (b2, ⟨[v], 108, 1, none⟩)]
def ArFR (v : Value) (kept : Nat) (u : Value) (new : Own) : Prop := ∃ b2 b3, u = .func (.func 158) #[] [.pointer (some ⟨b2, 0, none⟩), .pointer (some ⟨b3, 0, none⟩)].toArray ∧ new = ArBR v kept b2 b3 ∧ b2 ≠ b3
set_option maxRecDepth 100000 in
theorem c_arrangementsR (a : Option Addr) (n cap kept : Nat) (w : World) : Calls Try.prog 105 [.slice a n cap, .int .i64 kept].toArray w (Res w (ArFR (.slice a n cap) kept)) := by
  refine calls_of_vw Try.func105 rfl Try.ntmps105 (by simp) ?_
  refine vw_seq (vw_region (by kernel_rfl) (vops_box [.slice a n cap] rfl (fun b2 hb2 => vops_box [.int .i64 kept] rfl (fun b3 hb3 => ?_))))
  have hne : b2 ≠ b3 := fun h => hb3 (by rw [h]; simp [ids])
  repeat (first | refine vops_q tyOk rfl ?_ | refine vops_nil ?_ | refine vw_seq ?_ | refine vw_region (by kernel_rfl) ?_ | refine vw_ret ?_ | refine vops_mkf rfl ?_)
  refine out1 rfl rfl ?_ (fun _ h => h) ⟨b2, b3, rfl, rfl, hne⟩
  simp [ids, Ne.symm hne]
set_option maxHeartbeats 2000000 in
set_option maxRecDepth 100000 in
theorem it_arrR (a : Option Addr) (n cap kept : Nat) (pre left : List (List Int)) (hpl : pre.length = kept) (hll : left.length = n - kept) (hkn : kept ≤ n) (hnc : n ≤ cap) (h20 : n ≤ 20) (hw : ∀ r ∈ pre ++ left, r.length = 14) (b2 b3 : Nat) (ex : Own) :
    IterC Try.prog 158 [.pointer (some ⟨b2, 0, none⟩), .pointer (some ⟨b3, 0, none⟩)] (arrL (n - kept) pre left).length (fun i => KA 14 n ((arrL (n - kept) pre left).getD i [])) (ArBR (.slice a n cap) kept b2 b3 ++ ex) (fun w own => RdFW w 14 n (.slice a n cap) (pre ++ left).flatten own) := by
  intro Γ l J Jx own0 w hc hcp hdis hT h0 hy
  have hr2 : w.cell? ⟨b2, 0, none⟩ = some (.slice a n cap) := cell_of_blk hcp (List.mem_append_left _ (List.mem_cons_of_mem _ List.mem_cons_self)) rfl
  have hr3 : w.cell? ⟨b3, 0, none⟩ = some (.int .i64 kept) := cell_of_blk hcp (List.mem_append_left _ List.mem_cons_self) rfl
  have hd2 : b2 ∉ ids own0 := hdis b2 (by simp [ids, ArBR])
  have hd3 : b3 ∉ ids own0 := hdis b3 (by simp [ids, ArBR])
  have hnl : n = (pre ++ left).length := by rw [List.length_append]; omega
  have hS : ∀ w' own', Go.VL.Good ⟨w, ids own0⟩ own' w' → RdS w' (.slice a n cap) (pre ++ left) := fun w' own' hg => rdFW_S (RdFW.later (by omega) hT hg) hw hnl ⟨_, _, rfl⟩
  have hpt : (pre ++ left).take kept = pre := by rw [← hpl, List.take_left]
  have hp1 : ∀ w' own', Go.VL.Good ⟨w, ids own0⟩ own' w' → RF 14 w' (sliced a (Int.toNat 0) (kept : Int).toNat cap 14) (kept, pre.flatten) := fun w' own' hg => by
    have h := rdS_f (RdS.part (k := 14) (l := 0) (u := kept) (hS w' own' hg) hw hnl (by omega) hkn hnc) (fun r hr => hw r (List.mem_of_mem_take (List.mem_of_mem_drop hr)))
    rw [List.drop_zero, hpt, hpl] at h
    exact h
  have hpre : pre.flatten.length = kept * 14 := by rw [flat_length (k := 14) (fun r hr => hw r (List.mem_append_left _ hr)), hpl]
  have hp2 : RdFW w 14 (n - kept) (sliced a (kept : Int).toNat (n : Int).toNat cap 14) left.flatten own0 := rdFW_drop (pre := pre) hT hpre hkn hnc
  obtain ⟨la, lc, e2, hlc⟩ : ∃ la lc, sliced a (kept : Int).toNat (n : Int).toNat cap 14 = .slice la (n - kept) lc ∧ n - kept ≤ lc := ⟨_, _, rfl, by simp only [Int.toNat_natCast]; omega⟩
  rw [e2] at hp2
  refine calls_of_vwM Try.func158 rfl Try.ntmps158 (by simp) hc.ok ?_
  skip
  refine vw_drawB [] [0, 1, 2, 4, 5, 6, 7, 3, 8] (by kernel_rfl) (by kernel_rfl) (by kernel_rfl) rfl (by repeat (first | exact ole_nil | exact ole_refl | (apply ole_cons; (repeat (first | exact pm1_here | apply pm1_next | apply pm1_past))) | (apply ole_app; (repeat (first | exact pm_here | exact pm_last | apply pm_next | apply pm_past))))) ?_
  repeat' (first | refine vd_q tyOk rfl (by first | trivial | rfl) rfl (by kernel_rfl) (by kernel_rfl) ?_ | refine vops_nil ?_ | refine ⟨fun _ _ _ h => List.mem_append_right _ h, ?_⟩ | refine vd_load tyOk rfl (by first | trivial | rfl) rfl rfl rfl (by kernel_rfl) (by kernel_rfl) (by kernel_rfl) (sees_old hr2 hd2) (by repeat (first | exact sub_hereL | exact sub_refl | apply sub_cons | apply sub_app)) ?_ | refine vd_load tyOk rfl (by first | trivial | rfl) rfl rfl rfl (by kernel_rfl) (by kernel_rfl) (by kernel_rfl) (sees_old hr3 hd3) (by repeat (first | exact sub_hereL | exact sub_refl | apply sub_cons | apply sub_app)) ?_ | refine vd_slice tyOk rfl (by first | trivial | rfl) rfl rfl rfl rfl rfl (by kernel_rfl) (by kernel_rfl) (by omega) ?_ | (apply vops_call ent108 rfl; (intro w' hg; exact c_cloneOR _ kept pre.flatten w' (hp1 w' _ hg) (by omega)); (intro _ newC hC; obtain ⟨pC, cC, rfl⟩ := SlAt.form hC)) | refine vd_one rfl (by kernel_rfl) (by kernel_rfl) rfl ?_)
  refine vops_callM (own0 := own0 ++ newC) (S := fun v new => (∃ J', new = J' ++ newC ∧ ((v = .bool true ∧ J (0 + (arrL (n - kept) pre left).length) J') ∨ (v = .bool false ∧ Jx J'))) ∧ (ids new).Nodup) ent159 rfl perm_comm0 (fun w' hg => ?_) ?_
  · show Calls _ _ ([.slice pC kept cC, sliced a (kept : Int).toNat (n : Int).toNat cap 14, .func (.yield l) #[] #[]] : List Value).toArray w' _
    rw [e2]
    have hgN : Go.VL.Good ⟨w, ids own0⟩ (own0 ++ newC) w' := by simpa using hg
    have := resM_nd (c_arrangeR (n - kept) pre left kept pre.flatten pC cC la lc n Γ l 0 J Jx own0 newC w' hll hpl.symm rfl (by omega) h20 (fun r hr => hw r (List.mem_append_right _ hr)) hlc hC (RdFW.later (by omega) hp2 hgN) (hc.onto hgN) h0 (fun i hi own hJi => by rw [Nat.zero_add] at hJi ⊢; exact hy i hi own hJi))
    simpa using this
  · rintro v new ⟨⟨oJ', rfl, hres⟩, hnd⟩
    have hnd2 : (ids oJ').Nodup := by rw [ids_app] at hnd; exact (List.nodup_append.1 hnd).1
    refine vops_nil ⟨fun _ p hp => absurd hp List.not_mem_nil, ?_⟩
    repeat' (first | refine vd_nil (by kernel_rfl) ?_)
    refine outNoneN rfl hnd2 (fun _ h => List.mem_append_left _ (List.mem_append_left _ h)) ?_
    rcases hres with ⟨_, h⟩ | ⟨_, h⟩
    · rw [Nat.zero_add] at h; exact .inl h
    · exact .inr h
end Go.Proofs.Ytlfflmoegfibgaa

/- Parts of the proof, one after another. No conditions of their own. -/
/- A part of the proof: CA7. No conditions of its own. -/
namespace Go.Proofs.Ytlfflmoegfibgaa
open Go.VL
attribute [local irreducible] VWr VOps VD Calls

/-- A row of n numbers below n. -/
def RowN (n : Int) (l : List Int) : Prop := (l.length : Int) = n ∧ ∀ x ∈ l, 0 ≤ x ∧ x ≤ n - 1
/-- n rows of them. -/
def RowsN (n : Int) (ls : List (List Int)) : Prop := 1 ≤ n ∧ n ≤ 14 ∧ (ls.length : Int) = n ∧ ∀ l ∈ ls, RowN n l
end Go.Proofs.Ytlfflmoegfibgaa

/- A part of the proof: CA8. No conditions of its own. -/
namespace Go.Proofs.Ytlfflmoegfibgaa
open Go.VL
attribute [local irreducible] VWr VOps VD Calls

/-- The numbers at the place k. -/
def colOf (ls : List (List Int)) (k : Nat) : List Int := ls.map fun l => l.getD k 0
/-- A square. -/
def SqOk (ls : List (List Int)) : Prop := ∀ (k : Nat) (l : List Int), ls[k]? = some l → IsPerm ls.length l ∧ IsPerm ls.length (colOf ls k)
open Classical in
noncomputable def sqOfR (n : Int) (ls : List (List Int)) : Bool × Int := if RowsN n ls then (decide (SqOk ls), 0) else (false, 2)
end Go.Proofs.Ytlfflmoegfibgaa


/- Parts of the proof, one after another. No conditions of their own. -/
/- A part of the proof: CA3. No conditions of its own. -/
namespace Go.Proofs.Ytlfflmoegfibgaa
open Go.VL
attribute [local irreducible] VWr VOps VD Calls

/-- Each number and the one behind it. -/
def nbP (t : List Int) : List (List Value) := (List.range (t.length - 1)).map fun k => ints [t.getD k 0, t.getD (k + 1) 0]
def NbB (v : Value) (b : Nat) : Own := [(b, ⟨[v], 135, 1, none⟩)]
/-- The steps of a list, modulo n. -/
def stepsOf (t : List Int) (m : Nat) : List Int := (List.range m).map fun k => (t.getD (k + 1) 0 - t.getD k 0 + t.length) % t.length
/-- All steps are different. -/
def Steps (t : List Int) : Prop := (stepsOf t (t.length - 1)).Nodup
open Classical in
noncomputable def stepR (t : List Int) : Bool × Int := if IsWhole t then (decide (Steps t), 0) else (false, 2)
end Go.Proofs.Ytlfflmoegfibgaa

/- A part of the proof: CA4. No conditions of its own. -/
namespace Go.Proofs.Ytlfflmoegfibgaa
open Go.VL
attribute [local irreducible] VWr VOps VD Calls

end Go.Proofs.Ytlfflmoegfibgaa


/- A part of the proof: CA9. No conditions of its own. -/
namespace Go.Proofs.Ytlfflmoegfibgaa
open Go.VL
attribute [local irreducible] VWr VOps VD Calls

theorem matN_congr {n : Int} {m k : Nat} {g g' : Nat → Nat → Int} (e : ∀ i j, i < m → j < k → g i j = g' i j) : matN n m k g = matN n m k g' := by
  unfold matN; rw [flatN_congr e]
theorem matN_inj {n : Int} {m k : Nat} {g g' : Nat → Nat → Int} (e : matN n m k g = matN n m k g') {i j : Nat} (hi : i < m) (hj : j < k) : g i j = g' i j := by
  have h1 := matN_get (n := n) (g := g) hi hj
  rw [e, matN_get hi hj] at h1
  injection h1 with h1
  injection h1 with _ h1
  exact h1.symm
abbrev mvM (n : Nat) (g : Nat → Nat → Int) : Value := .agg (ints (matN n 14 14 g)).toArray
/-- A balanced matrix, as far as the row i and there the column j. -/
def balP (n i j x y : Nat) : Int := if x < n ∧ y < n ∧ x ≠ y ∧ (x < i ∨ x = i ∧ y < j) then 1 else 0
theorem balP_step {n i j : Nat} (h : i ≠ j) (hi : i < n) (hj : j < n) (x y : Nat) : (if x = i ∧ y = j then 1 else balP n i j x y) = balP n i (j + 1) x y := by
  unfold balP
  by_cases h1 : x = i ∧ y = j
  · obtain ⟨rfl, rfl⟩ := h1
    rw [if_pos ⟨rfl, rfl⟩, if_pos ⟨hi, hj, h, .inr ⟨rfl, by omega⟩⟩]
  · rw [if_neg h1]
    by_cases h2 : x < n ∧ y < n ∧ x ≠ y ∧ (x < i ∨ x = i ∧ y < j)
    · rw [if_pos h2, if_pos ⟨h2.1, h2.2.1, h2.2.2.1, by omega⟩]
    · rw [if_neg h2, if_neg fun h3 => h2 ⟨h3.1, h3.2.1, h3.2.2.1, by omega⟩]
theorem balP_same {n i j : Nat} (h : i = j) (x y : Nat) : balP n i j x y = balP n i (j + 1) x y := by
  subst h
  unfold balP
  by_cases h2 : x < n ∧ y < n ∧ x ≠ y ∧ (x < i ∨ x = i ∧ y < i)
  · rw [if_pos h2, if_pos ⟨h2.1, h2.2.1, h2.2.2.1, by omega⟩]
  · rw [if_neg h2, if_neg fun h3 => h2 ⟨h3.1, h3.2.1, h3.2.2.1, by omega⟩]
theorem balP_row {n i : Nat} (x y : Nat) : balP n i n x y = balP n (i + 1) 0 x y := by
  unfold balP
  by_cases h2 : x < n ∧ y < n ∧ x ≠ y ∧ (x < i ∨ x = i ∧ y < n)
  · rw [if_pos h2, if_pos ⟨h2.1, h2.2.1, h2.2.2.1, by omega⟩]
  · rw [if_neg h2, if_neg fun h3 => h2 ⟨h3.1, h3.2.1, h3.2.2.1, by omega⟩]
theorem balP_zero (n x y : Nat) : balP n 0 0 x y = 0 := if_neg (by omega)

open Classical in
set_option maxHeartbeats 4000000 in
set_option maxRecDepth 100000 in
theorem c_isBalanced (n : Nat) (hn : n ≤ 14) (g : Nat → Nat → Int) (w : World) :
    Calls Try.prog 118 [mvM n g].toArray w (Res w (Is (.bool (decide (matN n 14 14 g = matN n 14 14 (balP n n 0)))))) := by
  refine calls_of_vw Try.func118 rfl Try.ntmps118 (by simp) ?_
  refine vw_seq (vw_region (by kernel_rfl) (vops_box (ints (matN n 14 14 g)) rfl (fun b1 hb1 => ?_)))
  have hl1 : (ints (matN n 14 14 g)).length = 197 := by rw [ints_length, matN_length]
  obtain ⟨M, hM⟩ : ∃ M, M = matN n 14 14 g := ⟨_, rfl⟩
  have hM0 : (ints M)[0 + 0]? = some (.int .i64 n) := by rw [hM]; rfl
  rw [← hM] at hl1 ⊢
  repeat (first | refine vops_q tyOk rfl ?_ | refine vops_nil ?_ | refine vw_seq ?_ | refine vw_region (by kernel_rfl) ?_ | refine vops_loadM tyOk rfl rfl rfl (by repeat (first | exact mem_here | apply mem_next | apply mem_past)) (by exact hM0) ?_ | refine vops_run (fun w => x_build (ints ((n : Int) :: List.replicate 196 0)).toArray rfl (by kernel_rfl) w) ?_)
  refine vops_allocZ (ints (List.replicate 197 0)) tyOk rfl rfl (by simp [ints]) (fun b3 hb3 => ?_)
  repeat (first | refine vops_q tyOk rfl ?_ | refine vops_nil ?_ | refine vw_seq ?_ | refine vw_region (by kernel_rfl) ?_ | refine vops_storeAM tyOk rfl rfl rfl (by simp [ints]) ints_one (by repeat (first | exact upd_here | apply upd_next | apply upd_past)) (by simp [ints]) ?_)
  rw [show (n : Int) :: List.replicate 196 0 = matN n 14 14 (balP n 0 0) from (matN_rep n 14 14).trans (matN_congr fun i j _ _ => (balP_zero n i j).symm)]
  repeat (first | refine vops_q tyOk rfl ?_ | refine vops_nil ?_ | refine vw_block ?_ | refine vops_loadM tyOk rfl rfl rfl (by repeat (first | exact mem_here | apply mem_next | apply mem_past)) (by exact hM0) ?_)
  refine vw_loopW (fun y f own => ∃ i : Nat, i ≤ n ∧ y = n - i ∧ f 11 = .int .i64 i ∧ f 10 = .int .i64 n ∧ f 1 = .pointer (some ⟨b1, 0, none⟩) ∧ f 3 = .pointer (some ⟨b3, 0, none⟩) ∧
      own = [(b3, ⟨ints (matN n 14 14 (balP n i 0)), 114, 197, none⟩), (b1, ⟨ints M, 114, (ints M).length, none⟩)]) n
    ⟨_, ole_refl, 0, by omega, by omega, rfl, rfl, rfl, rfl, rfl⟩ ?_
  rintro y f own ⟨i, hi, rfl, h11, h10, h1, h3, rfl⟩
  rw [upd_of h11, upd_of h10, upd_of h1, upd_of h3]
  repeat (first | refine vops_q tyOk rfl ?_ | refine vops_nil ?_ | refine vw_seq ?_ | refine vw_region (by kernel_rfl) ?_ | refine vw_cond rfl ?_)
  refine bs_dec (fun hlt => ?_) (fun hlt => ?_)
  · have hin : i < n := by omega
    repeat (first | refine vops_q tyOk rfl ?_ | refine vops_nil ?_ | refine vw_seq ?_ | refine vw_region (by kernel_rfl) ?_ | refine vw_skip ?_ | refine vw_block ?_ | refine vops_loadM tyOk rfl rfl rfl (by repeat (first | exact mem_here | apply mem_next | apply mem_past)) (by exact hM0) ?_)
    refine vw_loopW (fun y f own => ∃ j : Nat, j ≤ n ∧ y = n - j ∧ f 16 = .int .i64 j ∧ f 15 = .int .i64 n ∧ f 4 = .int .i64 i ∧ f 11 = .int .i64 i ∧ f 10 = .int .i64 n ∧ f 1 = .pointer (some ⟨b1, 0, none⟩) ∧ f 3 = .pointer (some ⟨b3, 0, none⟩) ∧
        own = [(b3, ⟨ints (matN n 14 14 (balP n i j)), 114, 197, none⟩), (b1, ⟨ints M, 114, (ints M).length, none⟩)]) n
      ⟨_, ole_refl, 0, by omega, by omega, rfl, rfl, rfl, rfl, rfl, rfl, rfl, rfl⟩ ?_
    rintro y f own ⟨j, hj, rfl, h16, h15, h4, h11, h10, h1, h3, rfl⟩
    rw [upd_of h16, upd_of h15, upd_of h4, upd_of h11, upd_of h10, upd_of h1, upd_of h3]
    repeat (first | refine vops_q tyOk rfl ?_ | refine vops_nil ?_ | refine vw_seq ?_ | refine vw_region (by kernel_rfl) ?_ | refine vw_cond rfl ?_)
    refine bs_dec (fun hlt2 => ?_) (fun hlt2 => ?_)
    · have hjn : j < n := by omega
      repeat (first | refine vops_q tyOk rfl ?_ | refine vops_nil ?_ | refine vw_seq ?_ | refine vw_region (by kernel_rfl) ?_ | refine vw_cond rfl ?_ | refine vw_skip ?_ | refine vw_block ?_)
      refine bs_ndec2 (fun hne => ?_) (fun heq => ?_)
      · have hij : i ≠ j := by omega
        have hidx : 0 + 1 + (i : Int).toNat * 14 + (j : Int).toNat = 0 + (1 + i * 14 + j) := by omega
        repeat (first | refine vops_q tyOk rfl ?_ | refine vops_nil ?_ | refine vw_region (by kernel_rfl) ?_ | refine vops_p tyOk rfl (by (try simp only [inR]); omega) ?_ | refine vops_storeIM (o := 1 + i * 14 + j) tyOk rfl rfl (by exact congrArg (fun x => Value.pointer (some ⟨b3, x, none⟩)) hidx) rfl (by repeat (first | exact upd_here | apply upd_next | apply upd_past)) (by rw [matN_length]; omega) ?_)
        refine ⟨n - (j + 1), by omega, _, ole_refl, j + 1, by omega, rfl, rfl, rfl, rfl, rfl, rfl, rfl, rfl, ?_⟩
        rw [matN_set (by omega), matN_congr fun x y _ _ => balP_step hij hin hjn x y]
      · have hij : i = j := by omega
        repeat (first | refine vops_q tyOk rfl ?_ | refine vops_nil ?_ | refine vw_region (by kernel_rfl) ?_ | refine vops_p tyOk rfl (by (try simp only [inR]); omega) ?_ | refine vw_skip ?_)
        refine ⟨n - (j + 1), by omega, _, ole_refl, j + 1, by omega, rfl, rfl, rfl, rfl, rfl, rfl, rfl, rfl, ?_⟩
        rw [matN_congr fun x y _ _ => balP_same hij x y]
    · obtain rfl : j = n := by omega
      repeat (first | refine vops_q tyOk rfl ?_ | refine vops_nil ?_ | refine vw_region (by kernel_rfl) ?_ | refine vops_p tyOk rfl (by (try simp only [inR]); omega) ?_ | refine vw_exit ?_)
      refine ⟨j - (i + 1), by omega, _, ole_refl, i + 1, by omega, rfl, rfl, rfl, rfl, rfl, ?_⟩
      rw [matN_congr fun x y _ _ => balP_row x y]
  · obtain rfl : i = n := by omega
    repeat (first | refine vw_seq ?_ | refine vw_region (by kernel_rfl) ?_ | refine vw_exit ?_ | refine vops_loadNM tyOk rfl rfl rfl (by repeat (first | exact mem_here | apply mem_next | apply mem_past)) (by rw [hl1]) ?_ | refine vops_loadNM tyOk rfl rfl rfl (by repeat (first | exact mem_here | apply mem_next | apply mem_past)) (by rw [ints_length, matN_length]) ?_)
    rw [hM]
    repeat (first | refine vops_q tyOk rfl ?_ | refine vops_nil ?_ | refine vw_ret ?_ | refine vops_eqM (a := (i : Int)) (a' := (i : Int)) (r := flatN 14 14 g) (q := flatN 14 14 (balP i i 0)) (e := 2) (s := 112) tyOk rfl rfl (by kernel_rfl) rfl rfl rfl (flatN_length _ _ _) (flatN_length _ _ _) (by kernel_rfl) ?_)
    exact rv_bool rfl rfl (decide_eq_decide.2 Iff.rfl)
/-- All numbers of different ones are 1, those of equal ones 0. -/
def BalM (n : Nat) (g : Nat → Nat → Int) : Prop := ∀ a b, a < n → b < n → g a b = if a = b then 0 else 1
theorem bal_iff {n : Nat} {g : Nat → Nat → Int} (hn : n ≤ 14) (hz : ∀ a b, n ≤ a ∨ n ≤ b → g a b = 0) : matN n 14 14 g = matN n 14 14 (balP n n 0) ↔ BalM n g := by
  have hb : ∀ a b, balP n n 0 a b = if a < n ∧ b < n ∧ a ≠ b then 1 else 0 := fun a b => by
    unfold balP
    by_cases h : a < n ∧ b < n ∧ a ≠ b
    · rw [if_pos h, if_pos ⟨h.1, h.2.1, h.2.2, .inl h.1⟩]
    · rw [if_neg h, if_neg fun h2 => h ⟨h2.1, h2.2.1, h2.2.2.1⟩]
  constructor
  · intro h a b ha hb'
    have := matN_inj h (i := a) (j := b) (by omega) (by omega)
    rw [hb] at this
    rw [this]
    by_cases e : a = b
    · rw [if_pos e, if_neg fun h => h.2.2 e]
    · rw [if_neg e, if_pos ⟨ha, hb', e⟩]
  · intro h
    refine matN_congr fun a b _ _ => ?_
    rw [hb]
    by_cases h1 : a < n ∧ b < n
    · rw [h a b h1.1 h1.2]
      by_cases e : a = b
      · rw [if_pos e, if_neg fun h => h.2.2 e]
      · rw [if_neg e, if_pos ⟨h1.1, h1.2, e⟩]
    · rw [hz a b (by omega), if_neg fun h => h1 ⟨h.1, h.2.1⟩]
end Go.Proofs.Ytlfflmoegfibgaa

/- A part of the proof: CB3. No conditions of its own. -/
namespace Go.Proofs.Ytlfflmoegfibgaa
open Go.VL
attribute [local irreducible] VWr VOps VD Calls

/-- The steps of a list, modulo n. -/
def stN (n : Nat) (t : List Int) (m : Nat) : List Int := (List.range m).map fun k => (t.getD (k + 1) 0 - t.getD k 0 + n) % n
def StN (n : Nat) (t : List Int) : Prop := (stN n t (t.length - 1)).Nodup
open Classical in
/-- How many step sequences begin with l, with d more numbers. -/
noncomputable def cntR (n : Nat) : Nat → List Int → Nat
  | 0, _ => 1
  | d + 1, l => ((List.range n).map fun x : Nat => if (x : Int) ∉ l ∧ StN n (l ++ [(x : Int)]) then cntR n d (l ++ [(x : Int)]) else 0).sum
open Classical in
noncomputable def cntTo (n d : Nat) (l : List Int) (k : Nat) : Nat := ((List.range k).map fun x : Nat => if (x : Int) ∉ l ∧ StN n (l ++ [(x : Int)]) then cntR n d (l ++ [(x : Int)]) else 0).sum
theorem rdI_F1 {w : World} {v : Value} {l : List Int} (h : RdI w v l) : RdF w 1 l.length v l := by
  rcases h with ⟨a, cap, h1, h2⟩ | ⟨b, o, cap, h1, h2⟩
  · exact .inl ⟨a, cap, h1, by rw [h2]; rfl, h2⟩
  · exact .inr ⟨b, o, cap, h1, by rw [Nat.mul_one], h2⟩
set_option maxRecDepth 100000 in
theorem c_l01OwnL (v : Value) (l : List Int) (w : World) (hv : RdI w v l) (hl : l.length ≤ 1048576) : Calls Try.prog 115 [v].toArray w (Res w (NewI 2 l)) := by
  obtain ⟨a, cap, rfl⟩ := hv.len
  refine calls_of_vw Try.func115 rfl Try.ntmps115 (by simp) ?_
  repeat (first | refine vops_q tyOk rfl ?_ | refine vops_nil ?_ | refine vw_seq ?_ | refine vw_region (by kernel_rfl) ?_ | refine vops_guardT rfl rfl ?_ | refine vops_guardF rfl rfl ?_ | refine vops_guardU rfl rfl ?_ | with_reducible refine bs_nbeq rfl ?_ | with_reducible refine bs_true ?_ | with_reducible refine bs_false ?_ | with_reducible refine bs_ntrue ?_ | with_reducible refine bs_nfalse ?_ | refine vops_p tyOk rfl (by (try simp only [inR]); omega) ?_ | refine vw_cond rfl ?_ | refine vw_skip ?_ | refine vw_block ?_ | refine vw_ret ?_ | refine vw_exit ?_ | refine vops_build0 tyOk rfl rfl (fun be hbe => ?_) | refine vops_appendL (k := 1) (q := []) (q2 := l) tyOk rfl rfl (List.cons_ne_nil _ _) rfl rfl (by decide) rfl NewF.empty (by repeat (first | exact pm_here | exact pm_last | apply pm_next | apply pm_past)) rfl (fun w' hg => rdI_F1 (hv.same hg.fr)) (by omega) (fun p' cap' new' hN' => ?_) | ((show VOps _ _ _ _ (⟨some _, Go.Op.load _ _, _, _, _, none⟩ :: _) _ _); first | refine vops_loadM tyOk rfl rfl rfl (by repeat (first | exact mem_here | apply mem_next | apply mem_past)) (by rfl) ?_ | refine vops_loadM tyOk rfl rfl rfl (by repeat (first | exact mem_here | apply mem_next | apply mem_past)) (by exact ints_get0 (by omega)) ?_ | refine vops_loadNM tyOk rfl rfl rfl (by repeat (first | exact mem_here | apply mem_next | apply mem_past)) (by first | rfl | (rw [ints_length]; first | assumption | omega | (rw [ints_length]; first | assumption | omega | simp [*])) | simp [*]) ?_) | ((show VOps _ _ _ _ (⟨none, Go.Op.store _ _ _, _, _, _, none⟩ :: _) _ _); first | refine vops_storeIM tyOk rfl rfl rfl rfl (by repeat (first | exact upd_here | apply upd_next | apply upd_past)) (by omega) ?_ | refine vops_storeM tyOk rfl rfl rfl rfl rfl (by repeat (first | exact upd_here | apply upd_next | apply upd_past)) (by simp) ?_ | refine vops_storeAM tyOk rfl rfl rfl (by first | rfl | (rw [ints_length]; first | assumption | omega | (rw [ints_length]; first | assumption | omega | simp [*])) | simp [*]) (by first | exact ints_one | simp [Value.oneCell']) (by repeat (first | exact upd_here | apply upd_next | apply upd_past)) (by first | rfl | (rw [ints_length]; first | assumption | omega | (rw [ints_length]; first | assumption | omega | simp [*])) | simp [*]) ?_) | refine vops_build2 rfl rfl (by kernel_rfl) ?_ | refine vops_buildZ tyOk rfl (by kernel_rfl) ?_ | refine vops_slice tyOk rfl rfl rfl rfl rfl (by omega) ?_)
  have hN2 : NewI 2 l (.slice p' (0 + l.length) cap') new' := by
    have h2 : NewF 2 1 (0 + l.length) l (.slice p' (0 + l.length) cap') new' := by simpa using hN'
    rw [Nat.zero_add] at h2 ⊢
    exact h2
  exact out1 rfl rfl (SlAt.nodup hN2) (by repeat (first | exact sub_hereL | exact sub_refl | apply sub_cons | apply sub_app)) hN2

end Go.Proofs.Ytlfflmoegfibgaa

/- A part of the proof: CB5. No conditions of its own. -/
namespace Go.Proofs.Ytlfflmoegfibgaa
open Go.VL
attribute [local irreducible] VWr VOps VD Calls

theorem ordTo_len {n d m : Nat} (h : ∀ l, (ordR n d l).length ≤ m) (l : List Int) : ∀ k, (ordTo n d l k).length ≤ k * m
  | 0 => Nat.zero_le _
  | k + 1 => by
    have := ordTo_len h l k
    rw [ordTo_succ, List.length_append, Nat.add_mul, Nat.one_mul]
    split
    · simp; omega
    · have := h (l ++ [(k : Int)]); omega
theorem ordR_len (n : Nat) : ∀ (d : Nat) (l : List Int), (ordR n d l).length ≤ n ^ d
  | 0, _ => Nat.le_refl _
  | d + 1, l => by
    have := ordTo_len (ordR_len n d) l n
    rw [Nat.pow_succ, Nat.mul_comm]; exact this
theorem rows_app {ei : Nat} {ls2 : List (List Int)} {vs2 : List Value} {ns2 : List Own} (h2 : RowsAt ei ls2 vs2 ns2) : ∀ {ls : List (List Int)} {vs : List Value} {ns : List Own}, RowsAt ei ls vs ns → RowsAt ei (ls ++ ls2) (vs ++ vs2) (ns ++ ns2)
  | [], [], [], _ => h2
  | _ :: _, _ :: _, _ :: _, h => ⟨h.1, rows_app h2 h.2⟩
  | [], _ :: _, _, h => h.elim
  | [], [], _ :: _, h => h.elim
  | _ :: _, [], _, h => h.elim
  | _ :: _, _ :: _, [], h => h.elim
theorem rows_one {ei : Nat} : ∀ {ls : List (List Int)} {vs : List Value} {ns : List Own}, RowsAt ei ls vs ns → ∀ u ∈ vs, u.oneCell' = true
  | [], [], [], _, u, hu => by cases hu
  | _ :: _, _ :: _, _ :: _, h, u, hu => by
    rcases List.mem_cons.1 hu with rfl | hu
    · obtain ⟨p, c, e⟩ := SlAt.form h.1
      rw [e]; rfl
    · exact rows_one h.2 u hu
  | [], _ :: _, _, h, _, _ => h.elim
  | [], [], _ :: _, h, _, _ => h.elim
  | _ :: _, [], _, h, _, _ => h.elim
  | _ :: _, _ :: _, [], h, _, _ => h.elim

theorem ole_end {A B C X o : Own} (h : OLe (A ++ (B ++ (C ++ (X ++ [])))) o) : OLe (A ++ (B ++ (C ++ X))) o := by rwa [List.append_nil] at h
open Classical in
set_option maxHeartbeats 4000000 in
set_option maxRecDepth 100000 in
theorem c_l09Orders (n : Nat) (h8 : n ≤ 8) : ∀ (d : Nat) (l : List Int) (p : Option Addr) (cp : Nat) (X : Own) (w : World), NewI 2 l (.slice p l.length cp) X → OwnOk X w → l.length + d = n →
    Calls Try.prog 111 [.int .i64 (n : Int), .slice p l.length cp].toArray w (ResM w X (NewLL 38 2 (ordR n d l))) := by
  intro d
  induction d with
  | zero =>
    intro l p cp X w hX hok hd
    refine calls_of_vwM Try.func111 rfl Try.ntmps111 (by simp) hok ?_
    repeat (first | refine vops_q tyOk rfl ?_ | refine vops_nil ?_ | refine vw_seq ?_ | refine vw_region (by kernel_rfl) ?_ | refine vw_cond rfl ?_)
    refine bs_dec (fun _ => ?_) (fun h => absurd (show (l.length : Int) = n by omega) h)
    repeat (first | refine vops_q tyOk rfl ?_ | refine vops_nil ?_ | refine vw_seq ?_ | refine vw_region (by kernel_rfl) ?_ | refine vw_ret ?_ | refine vops_litV tyOk rfl rfl (List.cons_ne_nil _ _) rfl rfl rfl (fun bt hbt => ?_))
    skip
    refine out1 (new := (bt, ⟨[.slice p l.length cp], 38, 1 * 1, none⟩) :: X) rfl rfl (List.nodup_cons.2 ⟨hbt, hok.nodup⟩) (fun _ h => h) ⟨[.slice p l.length cp], [X], [(bt, ⟨[.slice p l.length cp], 38, 1 * 1, none⟩)], ⟨hX, trivial⟩, ⟨rfl, .inr ⟨bt, 1, rfl, Nat.le_refl _, by decide, rfl⟩⟩, by simp⟩
  | succ d ih =>
    intro l p cp X w hX hok hd
    refine calls_of_vwM Try.func111 rfl Try.ntmps111 (by simp) hok ?_
    have hpow : n ^ d ≤ 2097152 := by
      by_cases h0 : n = 0
      · omega
      calc n ^ d ≤ 8 ^ d := Nat.pow_le_pow_left h8 d
        _ ≤ 8 ^ 7 := Nat.pow_le_pow_right (by omega) (by omega)
        _ = 2097152 := by decide
    have hcr : ∀ l', (ordR n d l').length ≤ 2097152 := fun l' => Nat.le_trans (ordR_len n d l') hpow
    have hct : ∀ k, k ≤ n → (ordTo n d l k).length ≤ 16777216 := fun k hk => Nat.le_trans (ordTo_len hcr l k) (by omega)
    repeat (first | refine vops_q tyOk rfl ?_ | refine vops_nil ?_ | refine vw_seq ?_ | refine vw_region (by kernel_rfl) ?_ | refine vw_cond rfl ?_)
    refine bs_dec (fun h => absurd h (by omega)) (fun _ => ?_)
    repeat (first | refine vw_seq ?_ | refine vw_region (by kernel_rfl) ?_ | refine vw_skip ?_)
    refine vops_build0 tyOk rfl rfl (fun be hbe => ?_)
    repeat (first | refine vops_q tyOk rfl ?_ | refine vops_nil ?_ | refine vw_seq ?_ | refine vw_region (by kernel_rfl) ?_ | refine vw_block ?_)
    refine vw_loopW (fun y f own => ∃ (x : Nat) (p5 : Option Addr) (c5 : Nat) (vs : List Value) (ns : List Own) (outer : Own), x ≤ n ∧ y = n - x ∧ f 6 = .int .i64 x ∧ f 5 = .slice p5 (ordTo n d l x).length c5 ∧ f 0 = .int .i64 n ∧ f 1 = .slice p l.length cp ∧
        RowsAt 2 (ordTo n d l x) vs ns ∧ SlAt 38 1 (.slice p5 (ordTo n d l x).length c5) (ordTo n d l x).length vs outer [] ∧ own = outer ++ (ns.flatten ++ X)) n
      ⟨_, ole_refl, 0, some ⟨be, 0, none⟩, 0, [], [], [(be, ⟨[], 38, 0, none⟩)], by omega, by omega, rfl, rfl, rfl, rfl, trivial, ⟨rfl, .inr ⟨be, 0, rfl, Nat.le_refl _, by decide, rfl⟩⟩, rfl⟩ ?_
    rintro y f own ⟨x, p5, c5, vs, ns, outer, hx, rfl, h6, h5, h0, h1', hR, hO, rfl⟩
    rw [upd_of h6, upd_of h5, upd_of h0, upd_of h1']
    repeat (first | refine vops_q tyOk rfl ?_ | refine vops_nil ?_ | refine vw_seq ?_ | refine vw_region (by kernel_rfl) ?_ | refine vw_cond rfl ?_)
    refine bs_dec (fun hlt => ?_) (fun hlt => ?_)
    · have hxn : x < n := by omega
      have hs := ordTo_succ n d l x
      have hc1 := hct x hx
      have hc2 := hcr (l ++ [(x : Int)])
      repeat (first | refine vops_q tyOk rfl ?_ | refine vops_nil ?_ | refine vw_seq ?_ | refine vw_region (by kernel_rfl) ?_ | refine vw_skip ?_ | refine vw_block ?_)
      refine vw_loop (fun y f own => ∃ i : Nat, i ≤ l.length ∧ y = l.length - i ∧ f 8 = .int .i64 i ∧ f 7 = .bool (decide ((x : Int) ∈ l.take i)) ∧ f 6 = .int .i64 x ∧ f 5 = .slice p5 (ordTo n d l x).length c5 ∧ f 0 = .int .i64 n ∧ f 1 = .slice p l.length cp ∧ own = outer ++ (ns.flatten ++ X)) l.length
        ⟨0, by omega, by omega, rfl, by simp; rfl, rfl, rfl, rfl, rfl, rfl⟩ ?_
      rintro y f own ⟨i, hi, rfl, h8', h7, h6, h5, h0, h1', rfl⟩
      rw [upd_of h8', upd_of h7, upd_of h6, upd_of h5, upd_of h0, upd_of h1']
      repeat (first | refine vops_q tyOk rfl ?_ | refine vops_nil ?_ | refine vw_seq ?_ | refine vw_region (by kernel_rfl) ?_ | refine vw_cond rfl ?_)
      refine bs_dec (fun hlt2 => ?_) (fun hlt2 => ?_)
      · obtain ⟨bX, rfl, mX, hXe⟩ : ∃ b, p = some ⟨b, 0, none⟩ ∧ ∃ m, X = [(b, ⟨ints l, 2, m, none⟩)] := by
          rcases hX.2 with ⟨_, h2, _⟩ | ⟨b, cap, h1, _, _, h4⟩
          · omega
          · injection h1 with h1; exact ⟨b, h1, _, h4⟩
        have hc : (ints l)[0 + (i : Int).toNat]? = some (.int .i64 (l.getD i 0)) := by rw [show 0 + (i : Int).toNat = i by omega]; exact ints_get (by omega)
        have htk : l.take (i + 1) = l.take i ++ [l.getD i 0] := by rw [List.take_add_one, List.getD_eq_getElem?_getD, List.getElem?_eq_getElem (by omega)]; rfl
        have hmem : ((x : Int) ∈ l.take (i + 1)) ↔ ((x : Int) ∈ l.take i ∨ l.getD i 0 = (x : Int)) := by
          rw [htk, List.mem_append, List.mem_singleton]; exact or_congr Iff.rfl ⟨Eq.symm, Eq.symm⟩
        subst hXe
        repeat' (first | refine vops_q tyOk rfl ?_ | refine vops_nil ?_ | refine vw_seq ?_ | refine vw_region (by kernel_rfl) ?_ | refine vops_guardF rfl rfl ?_ | with_reducible refine bs_true ?_ | with_reducible refine bs_false ?_ | refine vops_p tyOk rfl (by (try simp only [inR]); omega) ?_ | refine vw_skip ?_ | refine vw_block ?_ | (with_reducible refine bs_dec (fun _ => ?_) (fun _ => ?_)) <;> try (exfalso; omega) | refine vops_loadM tyOk rfl rfl rfl (by repeat (first | exact mem_here | apply mem_next | apply mem_past)) (by exact hc) ?_)
        all_goals (
          refine ⟨l.length - (i + 1), by omega, i + 1, by omega, rfl, rfl, ?_, rfl, rfl, rfl, rfl, rfl⟩
          first
            | (show Value.bool _ = _; congr 1; simp only [hmem]; simp [*]; done)
            | (simp only [hmem]; simp [*]; done))
      · obtain rfl : i = l.length := by omega
        rw [List.take_length]
        by_cases hxl : (x : Int) ∈ l
        · rw [decide_eq_true hxl]
          repeat (first | refine vops_q tyOk rfl ?_ | refine vops_nil ?_ | refine vw_seq ?_ | refine vw_region (by kernel_rfl) ?_ | with_reducible refine bs_ntrue ?_ | refine vops_p tyOk rfl (by (try simp only [inR]); omega) ?_ | refine vw_cond rfl ?_ | refine vw_skip ?_ | refine vw_exit ?_)
          refine ⟨n - (x + 1), by omega, _, ole_refl, x + 1, p5, c5, vs, ns, outer, by omega, rfl, rfl, ?_, rfl, rfl, ?_, ?_, rfl⟩
          all_goals (rw [hs, if_pos hxl, List.append_nil])
          · rfl
          · exact hR
          · exact hO
        · rw [decide_eq_false hxl]
          repeat (first | refine vops_q tyOk rfl ?_ | refine vops_nil ?_ | refine vw_seq ?_ | refine vw_region (by kernel_rfl) ?_ | with_reducible refine bs_nfalse ?_ | refine vw_cond rfl ?_ | refine vw_exit ?_ | (apply vops_call ent115 rfl; (intro w' hg; exact c_l01OwnL _ l w' (NewI.rdG hX (by repeat (first | exact sub_hereL | exact sub_refl | apply sub_cons | apply sub_app)) hg) (by omega)); (intro _ newN hN; obtain ⟨pN, cN, rfl⟩ := SlAt.form hN)))
          have hXf := NewI.f hN
          repeat (first | refine vops_litI [_] tyOk rfl rfl (List.cons_ne_nil _ _) (by rfl) rfl (by omega) (by omega) (fun bt hbt => ?_) | refine vops_append1 (k := 1) tyOk rfl rfl (List.cons_ne_nil _ _) rfl rfl (by decide) rfl hXf (by repeat (first | exact pm_here | exact pm_last | apply pm_next | apply pm_past)) rfl (by repeat (first | exact mem_here | apply mem_next | apply mem_past)) rfl (by omega) (fun p' cap' new' hN' => ?_))
          have hNI : NewI 2 (l ++ [(x : Int)]) (.slice p' (l.length + 1) cap') new' := NewI.snoc hN' rfl
          refine vops_callM (own0 := new') (S := NewLL 38 2 (ordR n d (l ++ [(x : Int)]))) ent111 rfl (by repeat (first | exact pm_here | exact pm_last | apply pm_next | apply pm_past)) (fun w' hg => ?_) ?_
          · have := ih (l ++ [(x : Int)]) p' cap' new' w' (by rw [List.length_append]; exact hNI) hg.left.ok (by rw [List.length_append]; show l.length + 1 + d = n; omega)
            rw [List.length_append] at this
            exact this
          · rintro _ newS ⟨vs2, ns2, outer2, hR2, hO2, rfl⟩
            obtain ⟨p6, c6, rfl⟩ := hO2.form
            rw [List.append_assoc]
            refine vops_appendW (vs := vs) (vs2 := vs2) tyOk rfl rfl (List.cons_ne_nil _ _) rfl rfl (by decide) rfl hO (by repeat (first | exact pm_here | exact pm_last | apply pm_next | apply pm_past)) rfl hO2 (by repeat (first | exact sub_hereL | exact sub_refl | apply sub_cons | apply sub_app)) (rows_one hR2) (by omega) (fun p7 c7 new7 hN7 => ?_)
            have hRR := rows_app hR2 hR
            rw [if_neg hxl] at hs
            rw [← hs] at hRR
            have hle : (ordTo n d l x).length + (ordR n d (l ++ [(x : Int)])).length = (ordTo n d l (x + 1)).length := by rw [hs, List.length_append]
            rw [hle] at hN7 ⊢
            repeat (first | refine vops_q tyOk rfl ?_ | refine vops_nil ?_ | refine vw_region (by kernel_rfl) ?_ | refine vops_p tyOk rfl (by (try simp only [inR]); omega) ?_)
            refine ⟨n - (x + 1), by omega, new7 ++ ((ns ++ ns2).flatten ++ X), (by rw [List.flatten_append, List.append_assoc ns.flatten]; exact ole_end (by repeat (first | exact ole_nil | exact ole_refl | (apply ole_cons; (repeat (first | exact pm1_here | apply pm1_next | apply pm1_past))) | (apply ole_app; (repeat (first | exact pm_here | exact pm_last | apply pm_next | apply pm_past)))))), x + 1, p7, c7, vs ++ vs2, ns ++ ns2, new7, by omega, rfl, rfl, rfl, rfl, rfl, hRR, hN7, rfl⟩
    · obtain rfl : x = n := by omega
      refine vw_nodup (fun hnd => ?_)
      repeat (first | refine vops_q tyOk rfl ?_ | refine vops_nil ?_ | refine vw_seq ?_ | refine vw_region (by kernel_rfl) ?_ | refine vw_ret ?_ | refine vw_exit ?_)
      refine out1 rfl rfl ?_ (fun p hp => ?_) ⟨vs, ns, outer, by rw [ordR_succ]; exact hR, by rw [ordR_succ]; exact hO, rfl⟩
      · rw [← List.append_assoc, ids_app] at hnd; exact (List.nodup_append.1 hnd).1
      · rw [← List.append_assoc]; exact List.mem_append_left _ hp
end Go.Proofs.Ytlfflmoegfibgaa

/- Parts of the proof, one after another. No conditions of their own. -/
/- A part of the proof: CA10. No conditions of its own. -/
namespace Go.Proofs.Ytlfflmoegfibgaa
open Go.VL
attribute [local irreducible] VWr VOps VD Calls

/-- How often y stands behind x among the first t pairs of neighbours. -/
def nbC (r : List Int) : Nat → Nat → Nat → Int
  | 0, _, _ => 0
  | t + 1, x, y => nbC r t x y + if r.getD t 0 = (x : Int) ∧ r.getD (t + 1) 0 = (y : Int) then 1 else 0
/-- .. in the first i rows. -/
def besN (ls : List (List Int)) : Nat → Nat → Nat → Int
  | 0, _, _ => 0
  | i + 1, x, y => besN ls i x y + nbC (ls.getD i []) (ls.length - 1) x y
end Go.Proofs.Ytlfflmoegfibgaa

/- A part of the proof: CA11. No conditions of its own. -/
namespace Go.Proofs.Ytlfflmoegfibgaa
open Go.VL
attribute [local irreducible] VWr VOps VD Calls

end Go.Proofs.Ytlfflmoegfibgaa

/- A part of the proof: CA12. No conditions of its own. -/
namespace Go.Proofs.Ytlfflmoegfibgaa
open Go.VL
attribute [local irreducible] VWr VOps VD Calls

open Classical in
noncomputable def rowCR (n : Int) (ls : List (List Int)) : Bool × Int := if RowsN n ls then (if SqOk ls then (decide (BalM ls.length (besN ls ls.length)), 0) else (false, 4)) else (false, 2)
/-- Which pairs have come. -/
def metB (N : Nat) (P : Nat → Nat → Int) : List Bool := (List.range (N * N)).map fun t => decide (P (t / N) (t % N) ≠ 0)
end Go.Proofs.Ytlfflmoegfibgaa


/- Parts of the proof, one after another. No conditions of their own. -/
/- A part of the proof: CM1. No conditions of its own. -/
namespace Go.Proofs.Ytlfflmoegfibgaa
open Go.VL

/-- The square of a list of numbers. -/
def sqT (l : List Int) : List (List Int) := tabN l.length l.length (sqC l)
end Go.Proofs.Ytlfflmoegfibgaa

/- A part of the proof: CM2. No conditions of its own. -/
namespace Go.Proofs.Ytlfflmoegfibgaa
open Go.VL

/-- The step behind the place t. -/
def stp (l : List Int) (t : Nat) : Int := (l.getD (t + 1) 0 - l.getD t 0 + l.length) % l.length
end Go.Proofs.Ytlfflmoegfibgaa

/- A part of the proof: RC1. No conditions of its own. -/
namespace Go.Proofs.Ytlfflmoegfibgaa
open Go.VL
attribute [local irreducible] VWr VOps VD Calls

/-- Where a row lies. -/
theorem rdRowC {w : World} {v : Value} {ls : List (List Int)} (hv : RdII w v ls) {i : Nat} (hi : i < ls.length) :
    ∃ b o cap u cap2, v = .slice (some ⟨b, o, none⟩) ls.length cap ∧ w.cell? ⟨b, o + i, none⟩ = some (.slice u (ls.getD i []).length cap2) ∧ RdI w (.slice u (ls.getD i []).length cap2) (ls.getD i []) := by
  have hl : ls[i]? = some (ls.getD i []) := by rw [List.getD_eq_getElem?_getD, List.getElem?_eq_getElem hi]; rfl
  obtain ⟨b, o, cap, u, he, hc, hu⟩ := hv.at hl
  obtain ⟨a2, cap2, rfl⟩ := hu.len
  exact ⟨b, o, cap, a2, cap2, he, hc, hu⟩

set_option maxHeartbeats 1000000 in
set_option maxRecDepth 100000 in
theorem c_likeC (v u : Value) (l : List Int) (w : World) (hv : RdI w v l) (hu : RdI w u l) (hl : l.length ≤ 1048576) : Calls Try.prog 52 [v, u].toArray w (Res w (Is (.bool true))) := by
  obtain ⟨a, cap, rfl⟩ := hv.len
  obtain ⟨a2, cap2, rfl⟩ := hu.len
  refine calls_of_vw Try.func52 rfl Try.ntmps52 (by simp) ?_
  repeat (first | refine vops_q tyOk rfl ?_ | refine vops_nil ?_ | refine vw_seq ?_ | refine vw_region (by kernel_rfl) ?_ | refine vw_cond rfl ?_)
  refine bs_ndec2 (fun h => absurd rfl h) (fun _ => ?_)
  repeat (first | refine vops_q tyOk rfl ?_ | refine vops_nil ?_ | refine vw_seq ?_ | refine vw_region (by kernel_rfl) ?_ | refine vw_skip ?_ | refine vw_block ?_)
  refine vw_loop (fun y f own => ∃ i : Nat, i ≤ l.length ∧ y = l.length - i ∧ f 5 = .int .i64 i ∧ f 0 = .slice a l.length cap ∧ f 1 = .slice a2 l.length cap2 ∧ own = []) l.length
    ⟨0, by omega, by omega, rfl, rfl, rfl, rfl⟩ ?_
  rintro y f own ⟨i, hi, rfl, h5, h0, h1, rfl⟩
  rw [upd_of h5, upd_of h0, upd_of h1]
  repeat (first | refine vops_q tyOk rfl ?_ | refine vops_nil ?_ | refine vw_seq ?_ | refine vw_region (by kernel_rfl) ?_ | refine vw_cond rfl ?_)
  refine bs_dec (fun hlt => ?_) (fun hlt => ?_)
  · have hil : i < l.length := by omega
    obtain ⟨b, o, c, he, hcell⟩ := hv.at hil
    cases he
    obtain ⟨b2, o2, c2, he, hcell2⟩ := hu.at hil
    cases he
    have hc := hcell i hil
    have hc2 := hcell2 i hil
    repeat (first | refine vw_seq ?_ | refine vw_skip ?_ | refine vw_block ?_)
    refine vw_draw [0, 1, 2, 3, 4, 5, 6, 7, 8] (by kernel_rfl) (by kernel_rfl) (by kernel_rfl) rfl ?_
    repeat' (first | refine vd_q tyOk rfl (by first | trivial | rfl) rfl (by kernel_rfl) (by kernel_rfl) ?_ | refine vd_p tyOk rfl (by first | trivial | rfl) rfl (by kernel_rfl) (by kernel_rfl) (by (try simp only [inR]); omega) ?_ | refine vd_nil (by kernel_rfl) ?_ | refine vd_load tyOk rfl (by first | trivial | rfl) rfl rfl rfl (by kernel_rfl) (by kernel_rfl) (by kernel_rfl) (sees_old hc (by simp)) (by repeat (first | exact sub_hereL | exact sub_refl | apply sub_cons | apply sub_app)) ?_ | refine vd_load tyOk rfl (by first | trivial | rfl) rfl rfl rfl (by kernel_rfl) (by kernel_rfl) (by kernel_rfl) (sees_old hc2 (by simp)) (by repeat (first | exact sub_hereL | exact sub_refl | apply sub_cons | apply sub_app)) ?_)
    repeat (first | refine vw_cond rfl ?_)
    refine bs_ndec2 (fun h => absurd rfl h) (fun _ => ?_)
    repeat (first | refine vops_q tyOk rfl ?_ | refine vops_nil ?_ | refine vw_region (by kernel_rfl) ?_ | refine vops_p tyOk rfl (by (try simp only [inR]); omega) ?_ | refine vw_skip ?_)
    exact ⟨l.length - (i + 1), by omega, i + 1, by omega, rfl, rfl, rfl, rfl, rfl⟩
  · repeat (first | refine vops_q tyOk rfl ?_ | refine vops_nil ?_ | refine vw_seq ?_ | refine vw_region (by kernel_rfl) ?_ | refine vw_ret ?_ | refine vw_exit ?_)
    exact rv_bool rfl rfl rfl
set_option maxHeartbeats 1000000 in
set_option maxRecDepth 100000 in
theorem c_rows5 (v u : Value) (ls : List (List Int)) (w : World) (hv : RdII w v ls) (hu : RdII w u ls) (hl : ls.length ≤ 1048576) (hll : ∀ l ∈ ls, l.length ≤ 1048576) : Calls Try.prog 59 [v, u].toArray w (Res w (Is (.bool true))) := by
  obtain ⟨a, cap, rfl⟩ := hv.len
  obtain ⟨a2, cap2, rfl⟩ := hu.len
  refine calls_of_vw Try.func59 rfl Try.ntmps59 (by simp) ?_
  repeat (first | refine vops_q tyOk rfl ?_ | refine vops_nil ?_ | refine vw_seq ?_ | refine vw_region (by kernel_rfl) ?_ | refine vw_cond rfl ?_)
  refine bs_ndec2 (fun h => absurd rfl h) (fun _ => ?_)
  repeat (first | refine vops_q tyOk rfl ?_ | refine vops_nil ?_ | refine vw_seq ?_ | refine vw_region (by kernel_rfl) ?_ | refine vw_skip ?_ | refine vw_block ?_)
  refine vw_loop (fun y f own => ∃ i : Nat, i ≤ ls.length ∧ y = ls.length - i ∧ f 5 = .int .i64 i ∧ f 0 = .slice a ls.length cap ∧ f 1 = .slice a2 ls.length cap2 ∧ own = []) ls.length
    ⟨0, by omega, by omega, rfl, rfl, rfl, rfl⟩ ?_
  rintro y f own ⟨i, hi, rfl, h5, h0, h1, rfl⟩
  rw [upd_of h5, upd_of h0, upd_of h1]
  repeat (first | refine vops_q tyOk rfl ?_ | refine vops_nil ?_ | refine vw_seq ?_ | refine vw_region (by kernel_rfl) ?_ | refine vw_cond rfl ?_)
  refine bs_dec (fun hlt => ?_) (fun hlt => ?_)
  · have hil : i < ls.length := by omega
    obtain ⟨b, o, c, x, cx, he, hc, hx⟩ := rdRowC hv hil
    cases he
    obtain ⟨b2, o2, c2, x2, cx2, he, hc2, hx2⟩ := rdRowC hu hil
    cases he
    have hlm : (ls.getD i []).length ≤ 1048576 := hll _ (by rw [List.getD_eq_getElem?_getD, List.getElem?_eq_getElem hil]; exact List.getElem_mem _)
    generalize ls.getD i [] = r at *
    repeat (first | refine vw_seq ?_ | refine vw_skip ?_ | refine vw_block ?_)
    refine vw_draw [0, 1, 2, 3, 4, 5, 6, 7, 8, 9] (by kernel_rfl) (by kernel_rfl) (by kernel_rfl) rfl ?_
    repeat' (first | refine vd_q tyOk rfl (by first | trivial | rfl) rfl (by kernel_rfl) (by kernel_rfl) ?_ | refine vd_p tyOk rfl (by first | trivial | rfl) rfl (by kernel_rfl) (by kernel_rfl) (by (try simp only [inR]); omega) ?_ | refine vops_nil ?_ | refine vd_nil (by kernel_rfl) ?_ | refine ⟨fun _ _ _ h => h, ?_⟩ | refine vd_load tyOk rfl (by first | trivial | rfl) rfl rfl rfl (by kernel_rfl) (by kernel_rfl) (by kernel_rfl) (sees_old hc (by simp)) (by repeat (first | exact sub_hereL | exact sub_refl | apply sub_cons | apply sub_app)) ?_ | refine vd_load tyOk rfl (by first | trivial | rfl) rfl rfl rfl (by kernel_rfl) (by kernel_rfl) (by kernel_rfl) (sees_old hc2 (by simp)) (by repeat (first | exact sub_hereL | exact sub_refl | apply sub_cons | apply sub_app)) ?_ | (apply vops_callp ent52 rfl; (intro w' hg; exact c_likeC _ _ r w' (hx.same hg.fr) (hx2.same hg.fr) hlm)) | refine vd_one rfl (by kernel_rfl) (by kernel_rfl) rfl ?_)
    repeat (first | refine vops_q tyOk rfl ?_ | refine vops_nil ?_ | refine vw_region (by kernel_rfl) ?_ | with_reducible refine bs_ntrue ?_ | refine vops_p tyOk rfl (by (try simp only [inR]); omega) ?_ | refine vw_cond rfl ?_ | refine vw_skip ?_)
    exact ⟨ls.length - (i + 1), by omega, i + 1, by omega, rfl, rfl, rfl, rfl, rfl⟩
  · repeat (first | refine vops_q tyOk rfl ?_ | refine vops_nil ?_ | refine vw_seq ?_ | refine vw_region (by kernel_rfl) ?_ | refine vw_ret ?_ | refine vw_exit ?_)
    exact rv_bool rfl rfl rfl
theorem llC {P : Program} {fn : Nat} {args : Array Value} {w : World} {eo ei : Nat} {r : List (List Int) × Int} {ls : List (List Int)} {c : Int} (h : Calls P fn args w (Res w (PairLL eo ei r))) (hr : r = (ls, c)) :
    Calls P fn args w (Res w (fun v new => ∃ p cap, v = .tuple #[.slice p ls.length cap, .int .i64 c] ∧ NewLL eo ei ls (.slice p ls.length cap) new)) := by
  subst hr; exact h
theorem iiC {P : Program} {fn : Nat} {args : Array Value} {w : World} {e : Nat} {r : List Int × Int} {l : List Int} {c : Int} (h : Calls P fn args w (Res w (PairI e r))) (hr : r = (l, c)) :
    Calls P fn args w (Res w (fun v new => ∃ p cap, v = .tuple #[.slice p l.length cap, .int .i64 c] ∧ NewI e l (.slice p l.length cap) new)) := by
  subst hr; exact h
theorem bcC {P : Program} {fn : Nat} {args : Array Value} {w : World} {r : Bool × Int} {b : Bool} {c : Int} (h : Calls P fn args w (Res w (Is (.tuple #[.bool r.1, .int .i64 r.2])))) (hr : r = (b, c)) :
    Calls P fn args w (Res w (Is (.tuple #[.bool b, .int .i64 c]))) := by
  subst hr; exact h
theorem icC {P : Program} {fn : Nat} {args : Array Value} {w : World} {r : Int × Int} {b : Int} {c : Int} (h : Calls P fn args w (Res w (Is (.tuple #[.int .i64 r.1, .int .i64 r.2])))) (hr : r = (b, c)) :
    Calls P fn args w (Res w (Is (.tuple #[.int .i64 b, .int .i64 c]))) := by
  subst hr; exact h
theorem c_bigC (a : Option Addr) (n cap : Nat) (w : World) : Calls Try.prog 46 [.slice a n cap].toArray w (Res w (Is (.bool (decide (4096 < (n : Int)))))) := by
  refine calls_of_vw Try.func46 rfl Try.ntmps46 (by simp) ?_
  repeat (first | refine vops_q tyOk rfl ?_ | refine vops_nil ?_ | refine vw_seq ?_ | refine vw_region (by kernel_rfl) ?_ | refine vw_ret ?_)
  exact rv_bool rfl rfl rfl
end Go.Proofs.Ytlfflmoegfibgaa


/- A part of the proof: DR1. No conditions of its own. -/
namespace Go.Proofs.Ytlfflmoegfibgaa
open Go.VL
attribute [local irreducible] VWr VOps VD Calls
attribute [local irreducible] Src

/-- A list that has been drawn. -/
def LiNew (v : Value) (new : Own) : Prop := ∃ (l : List Int) (p : Option Addr) (c : Nat), l.length ≤ 20 ∧ v = .slice p l.length c ∧ NewI 2 l (.slice p l.length c) new
end Go.Proofs.Ytlfflmoegfibgaa

