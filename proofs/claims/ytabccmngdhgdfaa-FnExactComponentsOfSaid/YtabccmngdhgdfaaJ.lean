import Derived.Test.YtabccmngdhgdfaaH
/- A part of the proof: J. No conditions of its own. -/
namespace Go.Proofs.Ytabccmngdhgdfaa
open Go.VL
attribute [local irreducible] VWr VOps VD

/-- A new list of rounds. -/
def NewRs (rs : List (List Int)) (v : Value) (new : Own) : Prop := ∃ b, v = .slice (some ⟨b, 0, none⟩) rs.length rs.length ∧ new = [(b, ⟨ints rs.flatten, 25, rs.length * 14, none⟩)]
set_option maxRecDepth 100000 in
theorem c_toRoundS (v : Value) (rs : List (List Int)) (w : World) (hv : RdS w v rs) (hr : ∀ r ∈ rs, r.length = 14) (hl : rs.length ≤ 1048576) :
    Calls Try.prog 126 [v].toArray w (Res w (NewRs rs)) := by
  obtain ⟨a, cap, rfl⟩ := hv.len
  refine calls_of_vw Try.func126 rfl Try.ntmps126 (by simp) ?_
  repeat (first | refine vops_q tyOk rfl ?_ | refine vops_nil ?_ | refine vw_seq ?_ | refine vw_region (by kernel_rfl) ?_ | refine vops_guardT rfl rfl ?_ | refine vops_guardF rfl rfl ?_ | refine vops_guardU rfl rfl ?_ | with_reducible refine bs_true ?_ | with_reducible refine bs_false ?_ | with_reducible refine bs_ntrue ?_ | with_reducible refine bs_nfalse ?_ | refine vops_p tyOk rfl (by (try simp only [inR]); omega) ?_ | refine vw_cond rfl ?_ | refine vw_skip ?_ | refine vw_block ?_ | refine vw_ret ?_ | refine vw_exit ?_)
  refine vops_makeRows (k := 14) tyOk rfl rfl rfl (by omega) rfl rfl rfl (by show 112 * _ ≤ _; omega) (by omega) (fun b hb => ?_)
  repeat (first | refine vops_q tyOk rfl ?_ | refine vops_nil ?_ | refine vw_seq ?_ | refine vw_region (by kernel_rfl) ?_ | refine vops_guardT rfl rfl ?_ | refine vops_guardF rfl rfl ?_ | refine vops_guardU rfl rfl ?_ | with_reducible refine bs_true ?_ | with_reducible refine bs_false ?_ | with_reducible refine bs_ntrue ?_ | with_reducible refine bs_nfalse ?_ | refine vops_p tyOk rfl (by (try simp only [inR]); omega) ?_ | refine vw_cond rfl ?_ | refine vw_skip ?_ | refine vw_block ?_ | refine vw_ret ?_ | refine vw_exit ?_)
  refine vw_loop (fun m f own => ∃ i : Nat, i ≤ rs.length ∧ m = rs.length - i ∧ f 4 = .int .i64 i ∧ f 0 = .slice a rs.length cap ∧ f 3 = .slice (some ⟨b, 0, none⟩) rs.length rs.length ∧ own = [(b, ⟨ints (fill 14 rs i), 25, rs.length * 14, none⟩)]) rs.length
    ⟨0, by omega, by omega, rfl, rfl, rfl, by rw [fill_none]⟩ ?_
  rintro m f own ⟨i, hi, rfl, h4, h0, h3, rfl⟩
  rw [upd_of h0, upd_of h3, upd_of h4]
  repeat (first | refine vops_q tyOk rfl ?_ | refine vops_nil ?_ | refine vw_seq ?_ | refine vw_region (by kernel_rfl) ?_ | refine vops_guardT rfl rfl ?_ | refine vops_guardF rfl rfl ?_ | refine vops_guardU rfl rfl ?_ | with_reducible refine bs_true ?_ | with_reducible refine bs_false ?_ | with_reducible refine bs_ntrue ?_ | with_reducible refine bs_nfalse ?_ | refine vops_p tyOk rfl (by (try simp only [inR]); omega) ?_ | refine vw_cond rfl ?_ | refine vw_skip ?_ | refine vw_block ?_ | refine vw_ret ?_ | refine vw_exit ?_)
  refine bs_dec (fun h5 => ?_) (fun h5 => ?_)
  · obtain ⟨r, hri⟩ : ∃ r, rs[i]? = some r := ⟨_, List.getElem?_eq_getElem (by omega)⟩
    have hrl := hr r (List.mem_of_getElem? hri)
    obtain ⟨b', o, cap', he, hrow⟩ := hv.row hr hri
    cases he
    repeat (first | refine vops_q tyOk rfl ?_ | refine vops_nil ?_ | refine vw_seq ?_ | refine vw_region (by kernel_rfl) ?_ | refine vops_guardT rfl rfl ?_ | refine vops_guardF rfl rfl ?_ | refine vops_guardU rfl rfl ?_ | with_reducible refine bs_true ?_ | with_reducible refine bs_false ?_ | with_reducible refine bs_ntrue ?_ | with_reducible refine bs_nfalse ?_ | refine vops_p tyOk rfl (by (try simp only [inR]); omega) ?_ | refine vw_cond rfl ?_ | refine vw_skip ?_ | refine vw_block ?_ | refine vw_ret ?_ | refine vw_exit ?_ | refine vops_loadN tyOk (ints r) rfl rfl rfl (by rw [ints_length, hrl]) (fun j x hx => sees_old (hrow j x hx) (by simp)) ?_ | (apply vops_callp ent59 rfl; (intro w _; exact c_toRound _ hrl w)) | refine vops_storeRow 0 tyOk rfl hrl rfl rfl rfl (fill_length hr hi) (by rw [hrl]; show (i : Int).toNat * 14 + 14 ≤ _; omega) ?_)
    refine ⟨rs.length - (i + 1), by omega, i + 1, by omega, rfl, rfl, rfl, rfl, ?_⟩
    rw [← fill_step hr hri]; rfl
  · obtain rfl : i = rs.length := by omega
    repeat (first | refine vops_q tyOk rfl ?_ | refine vops_nil ?_ | refine vw_seq ?_ | refine vw_region (by kernel_rfl) ?_ | refine vops_guardT rfl rfl ?_ | refine vops_guardF rfl rfl ?_ | refine vops_guardU rfl rfl ?_ | with_reducible refine bs_true ?_ | with_reducible refine bs_false ?_ | with_reducible refine bs_ntrue ?_ | with_reducible refine bs_nfalse ?_ | refine vops_p tyOk rfl (by (try simp only [inR]); omega) ?_ | refine vw_cond rfl ?_ | refine vw_skip ?_ | refine vw_block ?_ | refine vw_ret ?_ | refine vw_exit ?_)
    refine ⟨_, [(b, ⟨ints rs.flatten, 25, rs.length * 14, none⟩)], rv_tmp rfl rfl, by simp [ids], ?_, b, rfl, rfl⟩
    rw [fill_all]; exact fun p hp => hp

/-- A new schedule. -/
def NewSch (n : Int) (rs : List (List Int)) (v : Value) (new : Own) : Prop := ∃ b, v = .agg #[.int .i64 n, .slice (some ⟨b, 0, none⟩) rs.length rs.length] ∧ new = [(b, ⟨ints rs.flatten, 25, rs.length * 14, none⟩)]
set_option maxRecDepth 100000 in
theorem c_toSchedule (n : Int) (v : Value) (rs : List (List Int)) (w : World) (hv : RdS w v rs) (hr : ∀ r ∈ rs, r.length = 14) (hl : rs.length ≤ 1048576) :
    Calls Try.prog 65 [.agg #[.int .i64 n, v]].toArray w (Res w (NewSch n rs)) := by
  refine calls_of_vw Try.func65 rfl Try.ntmps65 (by simp) ?_
  refine vw_seq (vw_region (by kernel_rfl) (vops_box [.int .i64 n, v] rfl (fun b0 hb0 => ?_)))
  refine vops_allocZ [.int .i64 0, .slice none 0 0] tyOk rfl rfl (by simp) (fun b2 hb2 => ?_)
  repeat (first | refine vops_q tyOk rfl ?_ | refine vops_nil ?_ | refine vw_seq ?_ | refine vw_region (by kernel_rfl) ?_ | refine vops_guardT rfl rfl ?_ | refine vops_guardF rfl rfl ?_ | refine vops_guardU rfl rfl ?_ | with_reducible refine bs_true ?_ | with_reducible refine bs_false ?_ | with_reducible refine bs_ntrue ?_ | with_reducible refine bs_nfalse ?_ | refine vops_p tyOk rfl (by (try simp only [inR]); omega) ?_ | refine vw_cond rfl ?_ | refine vw_skip ?_ | refine vw_block ?_ | refine vw_ret ?_ | refine vw_exit ?_)
  refine vops_allocZ [.int .i64 0, .slice none 0 0] tyOk rfl rfl (by simp) (fun b3 hb3 => ?_)
  repeat (first | refine vops_q tyOk rfl ?_ | refine vops_nil ?_ | refine vw_seq ?_ | refine vw_region (by kernel_rfl) ?_ | refine vops_guardT rfl rfl ?_ | refine vops_guardF rfl rfl ?_ | refine vops_guardU rfl rfl ?_ | with_reducible refine bs_true ?_ | with_reducible refine bs_false ?_ | with_reducible refine bs_ntrue ?_ | with_reducible refine bs_nfalse ?_ | refine vops_p tyOk rfl (by (try simp only [inR]); omega) ?_ | refine vw_cond rfl ?_ | refine vw_skip ?_ | refine vw_block ?_ | refine vw_ret ?_ | refine vw_exit ?_ | refine vops_load tyOk rfl rfl rfl (sees_at 2 rfl rfl) ?_ | refine vops_store tyOk 0 rfl rfl rfl rfl rfl rfl (by simp) ?_)
  refine vops_call ent126 rfl (fun w' hg => c_toRoundS v rs w' (hv.same hg.fr) hr hl) ?_
  rintro _ _ ⟨b4, rfl, rfl⟩
  repeat (first | refine vops_q tyOk rfl ?_ | refine vops_nil ?_ | refine vw_seq ?_ | refine vw_region (by kernel_rfl) ?_ | refine vops_guardT rfl rfl ?_ | refine vops_guardF rfl rfl ?_ | refine vops_guardU rfl rfl ?_ | with_reducible refine bs_true ?_ | with_reducible refine bs_false ?_ | with_reducible refine bs_ntrue ?_ | with_reducible refine bs_nfalse ?_ | refine vops_p tyOk rfl (by (try simp only [inR]); omega) ?_ | refine vw_cond rfl ?_ | refine vw_skip ?_ | refine vw_block ?_ | refine vw_ret ?_ | refine vw_exit ?_ | refine vops_store tyOk 1 rfl rfl rfl rfl rfl rfl (by simp) ?_ | refine vops_loadN tyOk [.int .i64 n, .slice (some ⟨b4, 0, none⟩) rs.length rs.length] rfl rfl rfl rfl (seesL_at 1 rfl rfl) ?_ | refine vops_storeA (cs := [.int .i64 n, .slice (some ⟨b4, 0, none⟩) rs.length rs.length]) tyOk 2 rfl rfl rfl rfl (by simp [Value.oneCell']) rfl rfl ?_)
  exact ⟨_, [(b4, ⟨ints rs.flatten, 25, rs.length * 14, none⟩)], rv_cell (cs := [.int .i64 n, .slice (some ⟨b4, 0, none⟩) rs.length rs.length]) tyOk rfl rfl rfl rfl rfl (seesL_at 2 rfl rfl), by simp [ids], fun p hp => List.mem_append_left _ hp, b4, rfl, rfl⟩
end Go.Proofs.Ytabccmngdhgdfaa
