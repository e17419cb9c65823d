import Derived.Test.YtbnanjkhpeneeaaSH
import Derived.Test.YtbnanjkhpeneeaaVLRanR
import Derived.Test.YtbnanjkhpeneeaaVLArr
/- A part of the proof: PT3. No conditions of its own. -/
namespace Go.Proofs.Ytbnanjkhpeneeaa
open Go.VL
attribute [local irreducible] VWr VOps VD Calls

/-- All two numbers below n, the lesser one below i. -/
def twoTo (n : Nat) : Nat → List (Nat × Nat)
  | 0 => []
  | i + 1 => twoTo n i ++ (List.range (n - (i + 1))).map fun d => (i, i + 1 + d)
theorem twoTo_mono (n : Nat) {i k : Nat} (h : i ≤ k) : ∃ t, twoTo n k = twoTo n i ++ t := by
  obtain ⟨d, rfl⟩ : ∃ d, k = i + d := ⟨k - i, by omega⟩
  clear h
  induction d with
  | zero => exact ⟨[], by simp⟩
  | succ d ih =>
    obtain ⟨t, ht⟩ := ih
    exact ⟨t ++ _, by rw [show i + (d + 1) = (i + d) + 1 by omega, twoTo, ht, List.append_assoc]⟩
theorem twoTo_at {n i t : Nat} (hi : i < n) (ht : t < n - (i + 1)) : (twoTo n n)[(twoTo n i).length + t]? = some (i, i + 1 + t) := by
  obtain ⟨r, hr⟩ := twoTo_mono n (show i + 1 ≤ n by omega)
  rw [hr, twoTo, List.append_assoc, List.getElem?_append_right (by omega), Nat.add_sub_cancel_left, List.getElem?_append_left (by simpa using ht)]
  simp [ht]
theorem twoTo_lt {n i a b : Nat} (hi : i ≤ n) (h : (a, b) ∈ twoTo n i) : a < b ∧ b < n := by
  induction i with
  | zero => cases h
  | succ i ih =>
    rcases List.mem_append.1 h with h | h
    · exact ih (by omega) h
    · obtain ⟨d, hd, e⟩ := List.mem_map.1 h
      rw [List.mem_range] at hd
      cases e
      omega
theorem mem_twoTo {n i a b : Nat} (ha : a < i) (hab : a < b) (hb : b < n) : (a, b) ∈ twoTo n i := by
  induction i with
  | zero => omega
  | succ i ih =>
    by_cases h : a < i
    · exact List.mem_append_left _ (ih h)
    · have : a = i := by omega
      subst this
      exact List.mem_append_right _ (List.mem_map.2 ⟨b - (a + 1), by rw [List.mem_range]; omega, by rw [show a + 1 + (b - (a + 1)) = b by omega]⟩)
/-- The round i. -/
def rv (rs : List (List Int)) (i : Nat) : Value := .agg (ints (rs.getD i [])).toArray
def twoVals (rs : List (List Int)) : List (List Value) := (twoTo rs.length rs.length).map fun p => [rv rs p.1, rv rs p.2]
/-- The rounds lie where they lie. -/
def RdsR (a : Option Addr) (rs : List (List Int)) (w : World) (own : Own) : Prop := rs = [] ∨ ∃ b o, a = some ⟨b, o, none⟩ ∧ b ∉ ids own ∧ ∀ (i : Nat) (r : List Int), rs[i]? = some r → ∀ (j : Nat) x, (ints r)[j]? = some x → w.cell? ⟨b, o + i * 14 + j, none⟩ = some x
theorem rdsR_of {a : Option Addr} {rs : List (List Int)} {cap : Nat} {w0 w : World} {own : Own} (hv : RdS w0 (.slice a rs.length cap) rs) (hr : ∀ r ∈ rs, r.length = 14) (hg : Go.VL.Good ⟨w0, []⟩ own w) : RdsR a rs w own := by
  by_cases h0 : rs = []
  · exact .inl h0
  right
  obtain ⟨r0, h00⟩ : ∃ r, rs[0]? = some r := ⟨_, List.getElem?_eq_getElem (List.length_pos_iff.2 h0)⟩
  obtain ⟨b, o, cap', he, hrow⟩ := hv.row hr h00
  cases he
  have h14 : r0.length = 14 := hr r0 (List.mem_of_getElem? h00)
  have hcell := hrow 0 _ (ints_get (by omega))
  have hlt := World.block_lt_of_cell? _ _ hcell
  refine ⟨b, o, rfl, fun hb => ?_, fun i r hi j x hx => ?_⟩
  · obtain ⟨k, hk⟩ := mem_ids hb
    rcases hg.mine b k hk with h | h
    · cases h
    · have h1 : w0.heap.size ≤ b := h
      have h2 : b < w0.heap.size := hlt
      exact absurd h2 (by omega)
  · obtain ⟨b2, o2, cap2, he2, hrow2⟩ := hv.row hr hi
    cases he2
    exact hg.fr.cell (by simp) (hrow2 j x hx)
/-- What has been captured: the schedule. -/
def TwoCap (n : Int) (a : Option Addr) (len cap : Nat) (b1 : Nat) : Own := [(b1, ⟨[.int .i64 n, .slice a len cap], 39, 2, none⟩)]
def TwoF (n : Int) (a : Option Addr) (len cap : Nat) (v : Value) (new : Own) : Prop := ∃ b1, v = .func (.func 100) #[] [.pointer (some ⟨b1, 0, none⟩)].toArray ∧ new = TwoCap n a len cap b1

set_option maxRecDepth 100000 in
theorem c_twoRoundsOf (n : Int) (a : Option Addr) (len cap : Nat) (w : World) : Calls Try.prog 66 [.agg #[.int .i64 n, .slice a len cap]].toArray w (Res w (TwoF n a len cap)) := by
  refine calls_of_vw Try.func66 rfl Try.ntmps66 (by simp) ?_
  refine vw_seq (vw_region (by kernel_rfl) (vops_box [.int .i64 n, .slice a len cap] rfl (fun b1 hb1 => ?_)))
  repeat (first | refine vops_q tyOk rfl ?_ | refine vops_nil ?_ | refine vw_seq ?_ | refine vw_region (by kernel_rfl) ?_ | refine vops_guardT rfl rfl ?_ | refine vops_guardF rfl rfl ?_ | refine vops_guardU rfl rfl ?_ | with_reducible refine bs_nbeq rfl ?_ | with_reducible refine bs_true ?_ | with_reducible refine bs_false ?_ | with_reducible refine bs_ntrue ?_ | with_reducible refine bs_nfalse ?_ | refine vops_p tyOk rfl (by (try simp only [inR]); omega) ?_ | refine vw_cond rfl ?_ | refine vw_skip ?_ | refine vw_block ?_ | refine vw_ret ?_ | refine vw_exit ?_ | refine vops_mkf rfl ?_ | refine vops_loadM tyOk rfl rfl rfl (by repeat (first | exact mem_here | apply mem_next | apply mem_past)) (by rfl) ?_ | refine vops_loadM tyOk rfl rfl rfl (by repeat (first | exact mem_here | apply mem_next | apply mem_past)) (by exact ints_get0 (by omega)) ?_ | refine vops_loadNM tyOk rfl rfl rfl (by repeat (first | exact mem_here | apply mem_next | apply mem_past)) (by first | rfl | (rw [ints_length]; first | assumption | omega | (rw [ints_length]; first | assumption | omega | simp [*])) | simp [*]) ?_ | refine vops_storeIM tyOk rfl rfl rfl rfl (by repeat (first | exact upd_here | apply upd_next | apply upd_past)) (by omega) ?_ | refine vops_storeM tyOk rfl rfl rfl rfl rfl (by repeat (first | exact upd_here | apply upd_next | apply upd_past)) (by simp) ?_ | refine vops_storeAM tyOk rfl rfl rfl (by first | rfl | (rw [ints_length]; first | assumption | omega | (rw [ints_length]; first | assumption | omega | simp [*])) | simp [*]) (by first | exact ints_one | simp [Value.oneCell']) (by repeat (first | exact upd_here | apply upd_next | apply upd_past)) (by first | rfl | (rw [ints_length]; first | assumption | omega | (rw [ints_length]; first | assumption | omega | simp [*])) | simp [*]) ?_ | refine vops_build2 rfl rfl (by kernel_rfl) ?_ | refine vops_buildZ tyOk rfl (by kernel_rfl) ?_ | refine vops_slice tyOk rfl rfl rfl rfl rfl (by omega) ?_)
  exact out1 rfl rfl (by simp [ids]) (fun _ h => h) ⟨b1, rfl, rfl⟩

theorem sliced_rows {a : Option Addr} {b o len cap i : Nat} (_hi : i + 1 ≤ len) (hc : len ≤ cap) (h : a = some ⟨b, o, none⟩) : ∃ ps, sliced a (i + 1) len cap 14 = .slice ps (len - (i + 1)) (cap - (i + 1)) ∧ (i + 1 < len → ps = some ⟨b, o + (i + 1) * 14, none⟩) := by
  refine ⟨_, rfl, fun hlt => ?_⟩
  rw [if_neg (by omega), h]; rfl
set_option maxHeartbeats 2000000 in
set_option maxRecDepth 100000 in
theorem it_two (n : Int) (a : Option Addr) (rs : List (List Int)) (cap : Nat) (hr : ∀ r ∈ rs, r.length = 14) (hl : rs.length ≤ 1048576) (hcap : rs.length ≤ cap) (b1 : Nat) :
    IterR Try.prog 100 [.pointer (some ⟨b1, 0, none⟩)] (twoVals rs) (TwoCap n a rs.length cap b1) (RdsR a rs) := by
  intro Γ l J Jx own0 w hc hcp hdis hR h0 hy
  have hc0 : w.cell? ⟨b1, 0 + 1, none⟩ = some (.slice a rs.length cap) := cell_of_blk hcp List.mem_cons_self rfl
  have hd1 : b1 ∉ ids own0 := hdis b1 (by simp [ids, TwoCap])
  have hlen : (twoVals rs).length = (twoTo rs.length rs.length).length := by simp [twoVals]
  refine calls_of_vwM Try.func100 rfl Try.ntmps100 (by simp) hc.ok ?_
  repeat (first | refine vops_q tyOk rfl ?_ | refine vops_nil ?_ | refine vw_seq ?_ | refine vw_region (by kernel_rfl) ?_ | refine vops_guardT rfl rfl ?_ | refine vops_guardF rfl rfl ?_ | refine vops_guardU rfl rfl ?_ | with_reducible refine bs_nbeq rfl ?_ | with_reducible refine bs_true ?_ | with_reducible refine bs_false ?_ | with_reducible refine bs_ntrue ?_ | with_reducible refine bs_nfalse ?_ | refine vops_p tyOk rfl (by (try simp only [inR]); omega) ?_ | refine vw_cond rfl ?_ | refine vw_skip ?_ | refine vw_block ?_ | refine vw_ret ?_ | refine vw_exit ?_ | refine vops_load tyOk rfl rfl rfl (sees_old hc0 hd1) ?_ | refine vops_loadM tyOk rfl rfl rfl (by repeat (first | exact mem_here | apply mem_next | apply mem_past)) (by rfl) ?_ | refine vops_loadM tyOk rfl rfl rfl (by repeat (first | exact mem_here | apply mem_next | apply mem_past)) (by exact ints_get0 (by omega)) ?_ | refine vops_loadNM tyOk rfl rfl rfl (by repeat (first | exact mem_here | apply mem_next | apply mem_past)) (by first | rfl | (rw [ints_length]; first | assumption | omega | (rw [ints_length]; first | assumption | omega | simp [*])) | simp [*]) ?_ | refine vops_storeIM tyOk rfl rfl rfl rfl (by repeat (first | exact upd_here | apply upd_next | apply upd_past)) (by omega) ?_ | refine vops_storeM tyOk rfl rfl rfl rfl rfl (by repeat (first | exact upd_here | apply upd_next | apply upd_past)) (by simp) ?_ | refine vops_storeAM tyOk rfl rfl rfl (by first | rfl | (rw [ints_length]; first | assumption | omega | (rw [ints_length]; first | assumption | omega | simp [*])) | simp [*]) (by first | exact ints_one | simp [Value.oneCell']) (by repeat (first | exact upd_here | apply upd_next | apply upd_past)) (by first | rfl | (rw [ints_length]; first | assumption | omega | (rw [ints_length]; first | assumption | omega | simp [*])) | simp [*]) ?_ | refine vops_build2 rfl rfl (by kernel_rfl) ?_ | refine vops_buildZ tyOk rfl (by kernel_rfl) ?_ | refine vops_slice tyOk rfl rfl rfl rfl rfl (by omega) ?_)
  refine vw_loopW (fun m f own => ∃ (i : Nat), i ≤ rs.length ∧ m = rs.length - i ∧ f 10 = .int .i64 i ∧ f 9 = .int .i64 rs.length ∧ f 8 = .slice a rs.length cap ∧ f 0 = .func (.yield l) #[] #[] ∧ f 1 = .pointer (some ⟨b1, 0, none⟩) ∧ J (twoTo rs.length i).length own) rs.length
    ⟨_, ole_refl, 0, by omega, by omega, rfl, rfl, rfl, rfl, rfl, h0⟩ ?_
  rintro m f own ⟨i, hi, rfl, h10, h9, h8, h0', h1, hJ⟩
  rw [upd_of h10, upd_of h9, upd_of h8, upd_of h0', upd_of h1]
  repeat (first | refine vops_q tyOk rfl ?_ | refine vops_nil ?_ | refine vw_seq ?_ | refine vw_region (by kernel_rfl) ?_ | refine vops_guardT rfl rfl ?_ | refine vops_guardF rfl rfl ?_ | refine vops_guardU rfl rfl ?_ | with_reducible refine bs_nbeq rfl ?_ | with_reducible refine bs_true ?_ | with_reducible refine bs_false ?_ | with_reducible refine bs_ntrue ?_ | with_reducible refine bs_nfalse ?_ | refine vops_p tyOk rfl (by (try simp only [inR]); omega) ?_ | refine vw_cond rfl ?_ | refine vw_skip ?_ | refine vw_block ?_ | refine vw_ret ?_ | refine vw_exit ?_ | refine vops_loadM tyOk rfl rfl rfl (by repeat (first | exact mem_here | apply mem_next | apply mem_past)) (by rfl) ?_ | refine vops_loadM tyOk rfl rfl rfl (by repeat (first | exact mem_here | apply mem_next | apply mem_past)) (by exact ints_get0 (by omega)) ?_ | refine vops_loadNM tyOk rfl rfl rfl (by repeat (first | exact mem_here | apply mem_next | apply mem_past)) (by first | rfl | (rw [ints_length]; first | assumption | omega | (rw [ints_length]; first | assumption | omega | simp [*])) | simp [*]) ?_ | refine vops_storeIM tyOk rfl rfl rfl rfl (by repeat (first | exact upd_here | apply upd_next | apply upd_past)) (by omega) ?_ | refine vops_storeM tyOk rfl rfl rfl rfl rfl (by repeat (first | exact upd_here | apply upd_next | apply upd_past)) (by simp) ?_ | refine vops_storeAM tyOk rfl rfl rfl (by first | rfl | (rw [ints_length]; first | assumption | omega | (rw [ints_length]; first | assumption | omega | simp [*])) | simp [*]) (by first | exact ints_one | simp [Value.oneCell']) (by repeat (first | exact upd_here | apply upd_next | apply upd_past)) (by first | rfl | (rw [ints_length]; first | assumption | omega | (rw [ints_length]; first | assumption | omega | simp [*])) | simp [*]) ?_ | refine vops_build2 rfl rfl (by kernel_rfl) ?_ | refine vops_buildZ tyOk rfl (by kernel_rfl) ?_ | refine vops_slice tyOk rfl rfl rfl rfl rfl (by omega) ?_)
  refine bs_dec (fun hlt => ?_) (fun hlt => ?_)
  · have hil : i < rs.length := by omega
    obtain ⟨r, hri⟩ : ∃ r, rs[i]? = some r := ⟨_, List.getElem?_eq_getElem hil⟩
    have hrl := hr r (List.mem_of_getElem? hri)
    have hgr : rs.getD i [] = r := by rw [List.getD_eq_getElem?_getD, hri]; rfl
    rcases hR with hR | ⟨b, o, rfl, hbn, hrow⟩
    · rw [hR] at hil; simp at hil
    have ei : (i : Int).toNat = i := Int.toNat_natCast i
    have ei1 : ((i : Int) + 1).toNat = i + 1 := by omega
    have hso : ∀ own' : Own, SeesL ⟨w, ids own0⟩ own' b (o + (i : Int).toNat * 14) (ints r) := fun own' j v hj => by
      rw [ei]
      exact sees_old (hrow i r hri j v hj) hbn
    repeat (first | refine vops_q tyOk rfl ?_ | refine vops_nil ?_ | refine vw_seq ?_ | refine vw_region (by kernel_rfl) ?_ | refine vops_guardT rfl rfl ?_ | refine vops_guardF rfl rfl ?_ | refine vops_guardU rfl rfl ?_ | with_reducible refine bs_nbeq rfl ?_ | with_reducible refine bs_true ?_ | with_reducible refine bs_false ?_ | with_reducible refine bs_ntrue ?_ | with_reducible refine bs_nfalse ?_ | refine vops_p tyOk rfl (by (try simp only [inR]); omega) ?_ | refine vw_cond rfl ?_ | refine vw_skip ?_ | refine vw_block ?_ | refine vw_ret ?_ | refine vw_exit ?_ | refine vops_loadN tyOk (ints r) rfl rfl rfl (by rw [ints_length]; exact hrl) (hso _) ?_ | refine vops_allocZ (ints (List.replicate 14 0)) tyOk rfl rfl (by simp [ints]) (fun b4 hb4 => ?_) | refine vops_load tyOk rfl rfl rfl (sees_old hc0 hd1) ?_ | refine vops_loadM tyOk rfl rfl rfl (by repeat (first | exact mem_here | apply mem_next | apply mem_past)) (by rfl) ?_ | refine vops_loadM tyOk rfl rfl rfl (by repeat (first | exact mem_here | apply mem_next | apply mem_past)) (by exact ints_get0 (by omega)) ?_ | refine vops_loadNM tyOk rfl rfl rfl (by repeat (first | exact mem_here | apply mem_next | apply mem_past)) (by first | rfl | (rw [ints_length]; first | assumption | omega | (rw [ints_length]; first | assumption | omega | simp [*])) | simp [*]) ?_ | refine vops_storeIM tyOk rfl rfl rfl rfl (by repeat (first | exact upd_here | apply upd_next | apply upd_past)) (by omega) ?_ | refine vops_storeM tyOk rfl rfl rfl rfl rfl (by repeat (first | exact upd_here | apply upd_next | apply upd_past)) (by simp) ?_ | refine vops_storeAM tyOk rfl rfl rfl (by first | rfl | (rw [ints_length]; first | assumption | omega | (rw [ints_length]; first | assumption | omega | simp [*])) | simp [*]) (by first | exact ints_one | simp [Value.oneCell']) (by repeat (first | exact upd_here | apply upd_next | apply upd_past)) (by first | rfl | (rw [ints_length]; first | assumption | omega | (rw [ints_length]; first | assumption | omega | simp [*])) | simp [*]) ?_ | refine vops_build2 rfl rfl (by kernel_rfl) ?_ | refine vops_buildZ tyOk rfl (by kernel_rfl) ?_ | refine vops_slice tyOk rfl rfl rfl rfl rfl (by omega) ?_)
    obtain ⟨ps, hps, hps2⟩ := sliced_rows (a := some ⟨b, o, none⟩) (b := b) (o := o) (len := rs.length) (cap := cap) (i := i) (by omega) hcap rfl
    obtain ⟨N, hN⟩ : ∃ N, N = rs.length - (i + 1) := ⟨_, rfl⟩
    have hslice : sliced (some ⟨b, o, none⟩) ((i : Int) + 1).toNat (rs.length : Int).toNat cap 14 = .slice ps N (cap - (i + 1)) := by rw [ei1, Int.toNat_natCast, hps, hN]
    have hNe : (rs.length : Int).toNat - ((i : Int) + 1).toNat = N := by omega
    rw [hNe]
    refine vw_loopW (fun m f own2 => ∃ (t : Nat) (ownJ : Own), t ≤ N ∧ m = N - t ∧ f 21 = .int .i64 t ∧ f 20 = .int .i64 N ∧ f 19 = .slice ps N (cap - (i + 1)) ∧ f 10 = .int .i64 i ∧ f 3 = .int .i64 i ∧ f 9 = .int .i64 rs.length ∧ f 8 = .slice (some ⟨b, o, none⟩) rs.length cap ∧ f 0 = .func (.yield l) #[] #[] ∧ f 1 = .pointer (some ⟨b1, 0, none⟩) ∧ f 4 = .pointer (some ⟨b4, 0, none⟩) ∧
        own2 = ownJ ++ [(b4, ⟨ints r, 25, 14, none⟩)] ∧ J ((twoTo rs.length i).length + t) ownJ) N
      ⟨own ++ [(b4, ⟨ints r, 25, 14, none⟩)], ⟨[], by rw [List.append_nil]; exact (List.perm_append_singleton _ _).symm⟩, 0, own, by omega, by omega, rfl, rfl, hslice, rfl, rfl, rfl, rfl, rfl, rfl, rfl, rfl, hJ⟩ ?_
    clear h10 h9 h8 h0' h1 hJ f own hb4
    rintro m f own2 ⟨t, ownJ, ht, rfl, h21, h20, h19, h10, h3, h9, h8, h0', h1, h4, rfl, hJ⟩
    rw [upd_of h21, upd_of h20, upd_of h19, upd_of h10, upd_of h3, upd_of h9, upd_of h8, upd_of h0', upd_of h1, upd_of h4]
    repeat (first | refine vops_q tyOk rfl ?_ | refine vops_nil ?_ | refine vw_seq ?_ | refine vw_region (by kernel_rfl) ?_ | refine vops_guardT rfl rfl ?_ | refine vops_guardF rfl rfl ?_ | refine vops_guardU rfl rfl ?_ | with_reducible refine bs_nbeq rfl ?_ | with_reducible refine bs_true ?_ | with_reducible refine bs_false ?_ | with_reducible refine bs_ntrue ?_ | with_reducible refine bs_nfalse ?_ | refine vops_p tyOk rfl (by (try simp only [inR]); omega) ?_ | refine vw_cond rfl ?_ | refine vw_skip ?_ | refine vw_block ?_ | refine vw_ret ?_ | refine vw_exit ?_ | refine vops_loadM tyOk rfl rfl rfl (by repeat (first | exact mem_here | apply mem_next | apply mem_past)) (by rfl) ?_ | refine vops_loadM tyOk rfl rfl rfl (by repeat (first | exact mem_here | apply mem_next | apply mem_past)) (by exact ints_get0 (by omega)) ?_ | refine vops_loadNM tyOk rfl rfl rfl (by repeat (first | exact mem_here | apply mem_next | apply mem_past)) (by first | rfl | (rw [ints_length]; first | assumption | omega | (rw [ints_length]; first | assumption | omega | simp [*])) | simp [*]) ?_ | refine vops_storeIM tyOk rfl rfl rfl rfl (by repeat (first | exact upd_here | apply upd_next | apply upd_past)) (by omega) ?_ | refine vops_storeM tyOk rfl rfl rfl rfl rfl (by repeat (first | exact upd_here | apply upd_next | apply upd_past)) (by simp) ?_ | refine vops_storeAM tyOk rfl rfl rfl (by first | rfl | (rw [ints_length]; first | assumption | omega | (rw [ints_length]; first | assumption | omega | simp [*])) | simp [*]) (by first | exact ints_one | simp [Value.oneCell']) (by repeat (first | exact upd_here | apply upd_next | apply upd_past)) (by first | rfl | (rw [ints_length]; first | assumption | omega | (rw [ints_length]; first | assumption | omega | simp [*])) | simp [*]) ?_ | refine vops_build2 rfl rfl (by kernel_rfl) ?_ | refine vops_buildZ tyOk rfl (by kernel_rfl) ?_ | refine vops_slice tyOk rfl rfl rfl rfl rfl (by omega) ?_)
    refine bs_dec (fun hlt2 => ?_) (fun hlt2 => ?_)
    · have htN : t < N := by omega
      obtain ⟨r2, hrj⟩ : ∃ r2, rs[i + 1 + t]? = some r2 := ⟨_, List.getElem?_eq_getElem (by omega)⟩
      have hrl2 := hr r2 (List.mem_of_getElem? hrj)
      have hgr2 : rs.getD (i + 1 + t) [] = r2 := by rw [List.getD_eq_getElem?_getD, hrj]; rfl
      obtain rfl := hps2 (by omega)
      have et : (t : Int).toNat = t := Int.toNat_natCast t
      have hso2 : ∀ own' : Own, SeesL ⟨w, ids own0⟩ own' b (o + (i + 1) * 14 + (t : Int).toNat * 14) (ints r2) := fun own' j v hj => by
        rw [et, show o + (i + 1) * 14 + t * 14 + j = o + (i + 1 + t) * 14 + j by omega]
        exact sees_old (hrow (i + 1 + t) r2 hrj j v hj) hbn
      have hat : (twoVals rs)[(twoTo rs.length i).length + t]? = some [.agg (ints r).toArray, .agg (ints r2).toArray] := by
        unfold twoVals
        rw [List.getElem?_map, twoTo_at hil (by omega)]
        simp [rv, hri, hrj]
      repeat (first | refine vops_q tyOk rfl ?_ | refine vops_nil ?_ | refine vw_seq ?_ | refine vw_region (by kernel_rfl) ?_ | refine vops_guardT rfl rfl ?_ | refine vops_guardF rfl rfl ?_ | refine vops_guardU rfl rfl ?_ | with_reducible refine bs_nbeq rfl ?_ | with_reducible refine bs_true ?_ | with_reducible refine bs_false ?_ | with_reducible refine bs_ntrue ?_ | with_reducible refine bs_nfalse ?_ | refine vops_p tyOk rfl (by (try simp only [inR]); omega) ?_ | refine vw_cond rfl ?_ | refine vw_skip ?_ | refine vw_block ?_ | refine vw_ret ?_ | refine vw_exit ?_ | refine vops_loadN tyOk (ints r2) rfl rfl rfl (by rw [ints_length]; exact hrl2) (hso2 _) ?_ | refine vops_allocZ (ints (List.replicate 14 0)) tyOk rfl rfl (by simp [ints]) (fun b6 hb6 => ?_) | refine vops_loadM tyOk rfl rfl rfl (by repeat (first | exact mem_here | apply mem_next | apply mem_past)) (by rfl) ?_ | refine vops_loadM tyOk rfl rfl rfl (by repeat (first | exact mem_here | apply mem_next | apply mem_past)) (by exact ints_get0 (by omega)) ?_ | refine vops_loadNM tyOk rfl rfl rfl (by repeat (first | exact mem_here | apply mem_next | apply mem_past)) (by first | rfl | (rw [ints_length]; first | assumption | omega | (rw [ints_length]; first | assumption | omega | simp [*])) | simp [*]) ?_ | refine vops_storeIM tyOk rfl rfl rfl rfl (by repeat (first | exact upd_here | apply upd_next | apply upd_past)) (by omega) ?_ | refine vops_storeM tyOk rfl rfl rfl rfl rfl (by repeat (first | exact upd_here | apply upd_next | apply upd_past)) (by simp) ?_ | refine vops_storeAM tyOk rfl rfl rfl (by first | rfl | (rw [ints_length]; first | assumption | omega | (rw [ints_length]; first | assumption | omega | simp [*])) | simp [*]) (by first | exact ints_one | simp [Value.oneCell']) (by repeat (first | exact upd_here | apply upd_next | apply upd_past)) (by first | rfl | (rw [ints_length]; first | assumption | omega | (rw [ints_length]; first | assumption | omega | simp [*])) | simp [*]) ?_ | refine vops_build2 rfl rfl (by kernel_rfl) ?_ | refine vops_buildZ tyOk rfl (by kernel_rfl) ?_ | refine vops_slice tyOk rfl rfl rfl rfl rfl (by omega) ?_)
      have hyk := hy _ _ hat ownJ hJ
      refine vops_yieldE hc rfl rfl (ownJ := ownJ) (ex := [(b6, ⟨ints r2, 25, 14, none⟩), (b4, ⟨ints r, 25, 14, none⟩)]) ?_ hyk (fun own' hJ' _ => ?_) (fun own' hJx hnd => ?_)
      · exact List.perm_middle.symm
      · repeat (first | refine vops_q tyOk rfl ?_ | refine vops_nil ?_ | refine vw_seq ?_ | refine vw_region (by kernel_rfl) ?_ | refine vops_guardT rfl rfl ?_ | refine vops_guardF rfl rfl ?_ | refine vops_guardU rfl rfl ?_ | with_reducible refine bs_nbeq rfl ?_ | with_reducible refine bs_true ?_ | with_reducible refine bs_false ?_ | with_reducible refine bs_ntrue ?_ | with_reducible refine bs_nfalse ?_ | refine vops_p tyOk rfl (by (try simp only [inR]); omega) ?_ | refine vw_cond rfl ?_ | refine vw_skip ?_ | refine vw_block ?_ | refine vw_ret ?_ | refine vw_exit ?_ | refine vops_loadM tyOk rfl rfl rfl (by repeat (first | exact mem_here | apply mem_next | apply mem_past)) (by rfl) ?_ | refine vops_loadM tyOk rfl rfl rfl (by repeat (first | exact mem_here | apply mem_next | apply mem_past)) (by exact ints_get0 (by omega)) ?_ | refine vops_loadNM tyOk rfl rfl rfl (by repeat (first | exact mem_here | apply mem_next | apply mem_past)) (by first | rfl | (rw [ints_length]; first | assumption | omega | (rw [ints_length]; first | assumption | omega | simp [*])) | simp [*]) ?_ | refine vops_storeIM tyOk rfl rfl rfl rfl (by repeat (first | exact upd_here | apply upd_next | apply upd_past)) (by omega) ?_ | refine vops_storeM tyOk rfl rfl rfl rfl rfl (by repeat (first | exact upd_here | apply upd_next | apply upd_past)) (by simp) ?_ | refine vops_storeAM tyOk rfl rfl rfl (by first | rfl | (rw [ints_length]; first | assumption | omega | (rw [ints_length]; first | assumption | omega | simp [*])) | simp [*]) (by first | exact ints_one | simp [Value.oneCell']) (by repeat (first | exact upd_here | apply upd_next | apply upd_past)) (by first | rfl | (rw [ints_length]; first | assumption | omega | (rw [ints_length]; first | assumption | omega | simp [*])) | simp [*]) ?_ | refine vops_build2 rfl rfl (by kernel_rfl) ?_ | refine vops_buildZ tyOk rfl (by kernel_rfl) ?_ | refine vops_slice tyOk rfl rfl rfl rfl rfl (by omega) ?_)
        exact ⟨N - (t + 1), by omega, own' ++ [(b4, ⟨ints r, 25, 14, none⟩)], ⟨[_], by rw [List.append_assoc]; exact (List.Perm.swap _ _ []).append_left _⟩, t + 1, own', by omega, rfl, rfl, rfl, rfl, rfl, rfl, rfl, rfl, rfl, rfl, rfl, rfl, hJ'⟩
      · repeat (first | refine vops_q tyOk rfl ?_ | refine vops_nil ?_ | refine vw_seq ?_ | refine vw_region (by kernel_rfl) ?_ | refine vops_guardT rfl rfl ?_ | refine vops_guardF rfl rfl ?_ | refine vops_guardU rfl rfl ?_ | with_reducible refine bs_nbeq rfl ?_ | with_reducible refine bs_true ?_ | with_reducible refine bs_false ?_ | with_reducible refine bs_ntrue ?_ | with_reducible refine bs_nfalse ?_ | refine vops_p tyOk rfl (by (try simp only [inR]); omega) ?_ | refine vw_cond rfl ?_ | refine vw_skip ?_ | refine vw_block ?_ | refine vw_ret ?_ | refine vw_exit ?_ | refine vops_loadM tyOk rfl rfl rfl (by repeat (first | exact mem_here | apply mem_next | apply mem_past)) (by rfl) ?_ | refine vops_loadM tyOk rfl rfl rfl (by repeat (first | exact mem_here | apply mem_next | apply mem_past)) (by exact ints_get0 (by omega)) ?_ | refine vops_loadNM tyOk rfl rfl rfl (by repeat (first | exact mem_here | apply mem_next | apply mem_past)) (by first | rfl | (rw [ints_length]; first | assumption | omega | (rw [ints_length]; first | assumption | omega | simp [*])) | simp [*]) ?_ | refine vops_storeIM tyOk rfl rfl rfl rfl (by repeat (first | exact upd_here | apply upd_next | apply upd_past)) (by omega) ?_ | refine vops_storeM tyOk rfl rfl rfl rfl rfl (by repeat (first | exact upd_here | apply upd_next | apply upd_past)) (by simp) ?_ | refine vops_storeAM tyOk rfl rfl rfl (by first | rfl | (rw [ints_length]; first | assumption | omega | (rw [ints_length]; first | assumption | omega | simp [*])) | simp [*]) (by first | exact ints_one | simp [Value.oneCell']) (by repeat (first | exact upd_here | apply upd_next | apply upd_past)) (by first | rfl | (rw [ints_length]; first | assumption | omega | (rw [ints_length]; first | assumption | omega | simp [*])) | simp [*]) ?_ | refine vops_build2 rfl rfl (by kernel_rfl) ?_ | refine vops_buildZ tyOk rfl (by kernel_rfl) ?_ | refine vops_slice tyOk rfl rfl rfl rfl rfl (by omega) ?_)
        exact outNone rfl (nodup_sub hnd (List.sublist_append_left _ _)) (fun _ h => List.mem_append_left _ h) (.inr hJx)
    · obtain rfl : t = N := by omega
      repeat (first | refine vops_q tyOk rfl ?_ | refine vops_nil ?_ | refine vw_seq ?_ | refine vw_region (by kernel_rfl) ?_ | refine vops_guardT rfl rfl ?_ | refine vops_guardF rfl rfl ?_ | refine vops_guardU rfl rfl ?_ | with_reducible refine bs_nbeq rfl ?_ | with_reducible refine bs_true ?_ | with_reducible refine bs_false ?_ | with_reducible refine bs_ntrue ?_ | with_reducible refine bs_nfalse ?_ | refine vops_p tyOk rfl (by (try simp only [inR]); omega) ?_ | refine vw_cond rfl ?_ | refine vw_skip ?_ | refine vw_block ?_ | refine vw_ret ?_ | refine vw_exit ?_ | refine vops_loadM tyOk rfl rfl rfl (by repeat (first | exact mem_here | apply mem_next | apply mem_past)) (by rfl) ?_ | refine vops_loadM tyOk rfl rfl rfl (by repeat (first | exact mem_here | apply mem_next | apply mem_past)) (by exact ints_get0 (by omega)) ?_ | refine vops_loadNM tyOk rfl rfl rfl (by repeat (first | exact mem_here | apply mem_next | apply mem_past)) (by first | rfl | (rw [ints_length]; first | assumption | omega | (rw [ints_length]; first | assumption | omega | simp [*])) | simp [*]) ?_ | refine vops_storeIM tyOk rfl rfl rfl rfl (by repeat (first | exact upd_here | apply upd_next | apply upd_past)) (by omega) ?_ | refine vops_storeM tyOk rfl rfl rfl rfl rfl (by repeat (first | exact upd_here | apply upd_next | apply upd_past)) (by simp) ?_ | refine vops_storeAM tyOk rfl rfl rfl (by first | rfl | (rw [ints_length]; first | assumption | omega | (rw [ints_length]; first | assumption | omega | simp [*])) | simp [*]) (by first | exact ints_one | simp [Value.oneCell']) (by repeat (first | exact upd_here | apply upd_next | apply upd_past)) (by first | rfl | (rw [ints_length]; first | assumption | omega | (rw [ints_length]; first | assumption | omega | simp [*])) | simp [*]) ?_ | refine vops_build2 rfl rfl (by kernel_rfl) ?_ | refine vops_buildZ tyOk rfl (by kernel_rfl) ?_ | refine vops_slice tyOk rfl rfl rfl rfl rfl (by omega) ?_)
      refine ⟨rs.length - (i + 1), by omega, ownJ, ⟨[_], List.Perm.refl _⟩, i + 1, by omega, rfl, rfl, rfl, rfl, rfl, rfl, ?_⟩
      rw [twoTo, List.length_append, List.length_map, List.length_range, ← hN]; exact hJ
  · obtain rfl : i = rs.length := by omega
    refine vw_nodup (fun hnd => ?_)
    repeat (first | refine vops_q tyOk rfl ?_ | refine vops_nil ?_ | refine vw_seq ?_ | refine vw_region (by kernel_rfl) ?_ | refine vops_guardT rfl rfl ?_ | refine vops_guardF rfl rfl ?_ | refine vops_guardU rfl rfl ?_ | with_reducible refine bs_nbeq rfl ?_ | with_reducible refine bs_true ?_ | with_reducible refine bs_false ?_ | with_reducible refine bs_ntrue ?_ | with_reducible refine bs_nfalse ?_ | refine vops_p tyOk rfl (by (try simp only [inR]); omega) ?_ | refine vw_cond rfl ?_ | refine vw_skip ?_ | refine vw_block ?_ | refine vw_ret ?_ | refine vw_exit ?_ | refine vops_loadM tyOk rfl rfl rfl (by repeat (first | exact mem_here | apply mem_next | apply mem_past)) (by rfl) ?_ | refine vops_loadM tyOk rfl rfl rfl (by repeat (first | exact mem_here | apply mem_next | apply mem_past)) (by exact ints_get0 (by omega)) ?_ | refine vops_loadNM tyOk rfl rfl rfl (by repeat (first | exact mem_here | apply mem_next | apply mem_past)) (by first | rfl | (rw [ints_length]; first | assumption | omega | (rw [ints_length]; first | assumption | omega | simp [*])) | simp [*]) ?_ | refine vops_storeIM tyOk rfl rfl rfl rfl (by repeat (first | exact upd_here | apply upd_next | apply upd_past)) (by omega) ?_ | refine vops_storeM tyOk rfl rfl rfl rfl rfl (by repeat (first | exact upd_here | apply upd_next | apply upd_past)) (by simp) ?_ | refine vops_storeAM tyOk rfl rfl rfl (by first | rfl | (rw [ints_length]; first | assumption | omega | (rw [ints_length]; first | assumption | omega | simp [*])) | simp [*]) (by first | exact ints_one | simp [Value.oneCell']) (by repeat (first | exact upd_here | apply upd_next | apply upd_past)) (by first | rfl | (rw [ints_length]; first | assumption | omega | (rw [ints_length]; first | assumption | omega | simp [*])) | simp [*]) ?_ | refine vops_build2 rfl rfl (by kernel_rfl) ?_ | refine vops_buildZ tyOk rfl (by kernel_rfl) ?_ | refine vops_slice tyOk rfl rfl rfl rfl rfl (by omega) ?_)
    exact outNone rfl hnd (fun _ h => h) (.inl (by rw [hlen]; exact hJ))
end Go.Proofs.Ytbnanjkhpeneeaa
