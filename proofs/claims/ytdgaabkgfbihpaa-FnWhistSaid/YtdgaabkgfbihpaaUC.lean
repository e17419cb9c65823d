import Derived.Test.YtdgaabkgfbihpaaUA
import Derived.Test.YtdgaabkgfbihpaaSX
import Derived.Test.YtdgaabkgfbihpaaVLTabD
import Derived.Test.YtdgaabkgfbihpaaVLArr
import Derived.Test.YtdgaabkgfbihpaaVLPlay
/- Parts of the proof, one after another. No conditions of their own. -/
/- A part of the proof: W6. No conditions of its own. -/
namespace Go.Proofs.Ytdgaabkgfbihpaa
open Go.VL
attribute [local irreducible] VWr VOps VD Calls

/-- A list in the making. -/
def preW (k i : Nat) (g : Nat → Int) : List Int := lst k fun j => if j < i then g j else 0
theorem preW_length (k i : Nat) (g : Nat → Int) : (preW k i g).length = k := lst_length _ _
theorem preW_zero (k : Nat) (g : Nat → Int) : preW k 0 g = List.replicate (k * 1) 0 := by
  rw [Nat.mul_one, lst_rep]; exact lst_congr fun j _ => by rw [if_neg (by omega)]
theorem preW_set (k i : Nat) (g : Nat → Int) : (preW k i g).set i (g i) = preW k (i + 1) g := by
  unfold preW
  rw [lst_set]
  refine lst_congr fun j _ => ?_
  by_cases h : j = i
  · subst h; rw [if_pos rfl, if_pos (by omega)]
  · rw [if_neg h]
    by_cases h2 : j < i
    · rw [if_pos h2, if_pos (by omega)]
    · rw [if_neg h2, if_neg (by omega)]
theorem preW_all (k : Nat) (g : Nat → Int) : preW k k g = lst k g := lst_congr fun j hj => by rw [if_pos hj]
/-- New numbers for the players. -/
def renRow (q r : List Int) : List Int := lst r.length fun j => q.getD (r.getD j 0).toNat 0
def renP (q : List Int) (es : List (List Int)) : List (List Int) := es.map (renRow q)
theorem renRow_length (q r : List Int) : (renRow q r).length = r.length := lst_length _ _
theorem renP_length (q : List Int) (es : List (List Int)) : (renP q es).length = es.length := by simp [renP]
theorem renP_take {q : List Int} {es : List (List Int)} {i : Nat} (h : i < es.length) : (renP q es).take (i + 1) = (renP q es).take i ++ [renRow q (es.getD i [])] := by
  unfold renP
  rw [List.take_add_one, List.getElem?_map, List.getElem?_eq_getElem h, List.getD_eq_getElem?_getD, List.getElem?_eq_getElem h]; rfl
theorem ev_sum {n : Int} {es : List (List Int)} (h : IsEv n es) : sumLen es ≤ 320 := by
  have key : ∀ (l : List (List Int)), (∀ r ∈ l, r.length ≤ 16) → sumLen l ≤ l.length * 16 := by
    intro l
    induction l with
    | nil => intro _; simp [sumLen]
    | cons r l ih =>
      intro hl
      have a := hl r (by simp)
      have b := ih fun q hq => hl q (by simp [hq])
      simp only [sumLen, List.length_cons]; omega
  have := key es fun r hr => h.len hr
  have := h.2.2.1
  omega
theorem renP_sum (q : List Int) : ∀ es : List (List Int), sumLen (renP q es) = sumLen es
  | [] => rfl
  | r :: es => by
    show (renRow q r).length + sumLen (renP q es) = r.length + sumLen es
    rw [renRow_length, renP_sum q es]
open Classical in
noncomputable def renPR (n : Int) (es : List (List Int)) (q : List Int) : (Int × List (List Int)) × Int :=
  if IsEv n es then (if IsPerm n q then ((n, renP q es), 0) else ((0, []), 2)) else ((0, []), 1)
theorem renPR_ok (m : Int) (ls : List (List Int)) (q : List Int) : (renPR m ls q).1.2.length ≤ 1048576 ∧ (∀ l ∈ (renPR m ls q).1.2, l.length ≤ 1048576) ∧ sumLen (renPR m ls q).1.2 ≤ 1048576 := by
  unfold renPR
  split
  · rename_i h
    have h20 := h.2.2.1
    split
    · refine ⟨by show (renP _ _).length ≤ _; rw [renP_length]; omega, fun l hl => ?_, ?_⟩
      · obtain ⟨r, hr, rfl⟩ := List.mem_map.1 (show l ∈ List.map (renRow q) ls from hl)
        have := h.len hr
        rw [renRow_length]; omega
      · show sumLen (renP _ _) ≤ _
        have := ev_sum h
        rw [renP_sum]; omega
    · simp [sumLen]
  · simp [sumLen]
theorem cellAtEnd {vs rest : List Value} {u : Value} {i z : Nat} (hv : vs.length = i) (hz : z = i) : (vs ++ u :: rest)[z]? = some u := by
  subst hv; subst hz; simp

open Classical in
set_option maxHeartbeats 2000000 in
set_option maxRecDepth 100000 in
theorem c_impl_RenumberPlayers (m : Int) (v u : Value) (ls : List (List Int)) (q : List Int) (w : World) (hv : RdCC w v ls) (hu : RdI w u q) (hl : ls.length ≤ 1048576) (hll : ∀ l ∈ ls, l.length ≤ 1048576) (hq : q.length ≤ 1048576) :
    Calls Try.prog 71 [.agg #[.int .i64 m, v], u].toArray w (Res w (PairSq 42 2 (renPR m ls q))) := by
  obtain ⟨a, cap, rfl⟩ := hv.len
  obtain ⟨a5, cap5, rfl⟩ := hu.len
  refine calls_of_vw Try.func71 rfl Try.ntmps71 (by simp) ?_
  refine vw_seq (vw_region (by kernel_rfl) (vops_box [.int .i64 m, .slice a ls.length cap] rfl (fun b2 hb2 => ?_)))
  refine vops_allocZ [.int .i64 0, .slice none 0 0] tyOk rfl rfl (by simp) (fun b4 hb4 => ?_)
  repeat (first | refine vops_q tyOk rfl ?_ | refine vops_nil ?_ | refine vw_seq ?_ | refine vw_region (by kernel_rfl) ?_ | refine vw_cond rfl ?_ | (apply vops_callp ent160 rfl; (intro w' hg; exact c_IsEvening m _ ls w' (hv.same hg.fr) hl hll)) | ((show VOps _ _ _ _ (⟨some _, Go.Op.load _ _, _, _, _, none⟩ :: _) _ _); refine vops_loadNM tyOk rfl rfl rfl (by repeat (first | exact mem_here | apply mem_next | apply mem_past)) (by first | rfl | (rw [ints_length]; first | assumption | omega | (rw [ints_length]; first | assumption | omega | simp [*])) | simp [*]) ?_))
  refine bs_ndec2 (fun h => ?_) (fun h => ?_)
  · repeat (first | refine vops_q tyOk rfl ?_ | refine vops_nil ?_ | refine vw_seq ?_ | refine vw_region (by kernel_rfl) ?_ | refine vw_ret ?_ | ((show VOps _ _ _ _ (⟨none, Go.Op.store _ _ _, _, _, _, none⟩ :: _) _ _); refine vops_storeAM tyOk rfl rfl rfl (by first | rfl | (rw [ints_length]; first | assumption | omega | (rw [ints_length]; first | assumption | omega | simp [*])) | simp [*]) (by first | exact ints_one | simp [Value.oneCell']) (by repeat (first | exact upd_here | apply upd_next | apply upd_past)) (by first | rfl | (rw [ints_length]; first | assumption | omega | (rw [ints_length]; first | assumption | omega | simp [*])) | simp [*]) ?_) | refine vops_buildZ tyOk rfl (by kernel_rfl) ?_)
    exact pairSq_err tyOk rfl rfl rfl rfl rfl (by repeat (first | exact mem_here | apply mem_next | apply mem_past)) rfl (by rw [renPR, if_neg h])
  have hk1 := h.1
  have hk2 := h.2.1
  have h20 := h.2.2.1
  repeat (first | refine vops_q tyOk rfl ?_ | refine vops_nil ?_ | refine vw_seq ?_ | refine vw_region (by kernel_rfl) ?_ | refine vw_cond rfl ?_ | refine vw_skip ?_ | (apply vops_callp ent178 rfl; (intro w' hg; exact c_isPermutation _ q _ w' (hu.same hg.fr) hq (by omega) (by omega))) | ((show VOps _ _ _ _ (⟨some _, Go.Op.load _ _, _, _, _, none⟩ :: _) _ _); refine vops_loadM tyOk rfl rfl rfl (by repeat (first | exact mem_here | apply mem_next | apply mem_past)) (by rfl) ?_))
  refine bs_ndec2 (fun hp => ?_) (fun hp => ?_)
  · repeat (first | refine vops_q tyOk rfl ?_ | refine vops_nil ?_ | refine vw_seq ?_ | refine vw_region (by kernel_rfl) ?_ | refine vw_ret ?_ | ((show VOps _ _ _ _ (⟨none, Go.Op.store _ _ _, _, _, _, none⟩ :: _) _ _); refine vops_storeAM tyOk rfl rfl rfl (by first | rfl | (rw [ints_length]; first | assumption | omega | (rw [ints_length]; first | assumption | omega | simp [*])) | simp [*]) (by first | exact ints_one | simp [Value.oneCell']) (by repeat (first | exact upd_here | apply upd_next | apply upd_past)) (by first | rfl | (rw [ints_length]; first | assumption | omega | (rw [ints_length]; first | assumption | omega | simp [*])) | simp [*]) ?_) | refine vops_buildZ tyOk rfl (by kernel_rfl) ?_)
    exact pairSq_err tyOk rfl rfl rfl rfl rfl (by repeat (first | exact mem_here | apply mem_next | apply mem_past)) rfl (by rw [renPR, if_pos h, if_neg hp])
  have hR : renPR m ls q = ((m, renP q ls), 0) := by rw [renPR, if_pos h, if_pos hp]
  have hpl := hp.1
  obtain ⟨bq, oq, capq, heq, hcq⟩ := hu.at (i := 0) (by omega)
  cases heq
  repeat (first | refine vops_q tyOk rfl ?_ | refine vw_seq ?_ | refine vw_region (by kernel_rfl) ?_ | refine vw_skip ?_ | ((show VOps _ _ _ _ (⟨some _, Go.Op.load _ _, _, _, _, none⟩ :: _) _ _); refine vops_loadM tyOk rfl rfl rfl (by repeat (first | exact mem_here | apply mem_next | apply mem_past)) (by rfl) ?_))
  refine vops_make (n := ls.length) tyOk rfl rfl (List.cons_ne_nil _ _) rfl rfl (by show 24 * _ ≤ _; omega) (by omega) (fun bo hbo => ?_)
  have hmade : (madeCells ([Value.slice none 0 0] : List Value).toArray (ls.length * 1)).toList = List.replicate ls.length (Value.slice none 0 0) := by
    rw [Nat.mul_one]; exact made_same _ 1 _ (by omega)
  repeat (first | refine vops_q tyOk rfl ?_ | refine vops_nil ?_ | refine vw_seq ?_ | refine vw_region (by kernel_rfl) ?_ | refine vw_block ?_ | ((show VOps _ _ _ _ (⟨some _, Go.Op.load _ _, _, _, _, none⟩ :: _) _ _); refine vops_loadM tyOk rfl rfl rfl (by repeat (first | exact mem_here | apply mem_next | apply mem_past)) (by rfl) ?_))
  refine vw_loopW (fun y f own => ∃ (i : Nat) (vs : List Value) (ns : List Own), i ≤ ls.length ∧ y = ls.length - i ∧ f 28 = .int .i64 i ∧ f 27 = .int .i64 ls.length ∧ f 26 = .slice a ls.length cap ∧ f 6 = .slice (some ⟨bo, 0, none⟩) ls.length ls.length ∧ f 4 = .pointer (some ⟨b4, 0, none⟩) ∧ f 2 = .pointer (some ⟨b2, 0, none⟩) ∧ f 1 = .slice (some ⟨bq, oq, none⟩) q.length cap5 ∧
      Go.VL.RowsAt 2 ((renP q ls).take i) vs ns ∧
      own = (bo, ⟨vs ++ List.replicate (ls.length - i) (.slice none 0 0), 42, ls.length * 1, none⟩) :: (ns.flatten ++ [(b4, ⟨[.int .i64 0, .slice none 0 0], 58, 2, none⟩), (b2, ⟨[.int .i64 m, .slice a ls.length cap], 58, 2, none⟩)])) ls.length
    ⟨_, ole_refl, 0, [], [], by omega, by omega, rfl, rfl, rfl, rfl, rfl, rfl, rfl, by simp [Go.VL.RowsAt], by rw [List.nil_append, Nat.sub_zero, ← hmade]; rfl⟩ ?_
  rintro y f own ⟨i, vs, ns, hi, rfl, h28, h27, h26, h6, h4, h2, h1, hRw, rfl⟩
  rw [upd_of h28, upd_of h27, upd_of h26, upd_of h6, upd_of h4, upd_of h2, upd_of h1]
  have hvl : vs.length = i := by rw [hRw.len.1, List.length_take, renP_length, Nat.min_eq_left hi]
  repeat (first | refine vops_q tyOk rfl ?_ | refine vops_nil ?_ | refine vw_seq ?_ | refine vw_region (by kernel_rfl) ?_ | refine vw_cond rfl ?_)
  refine bs_dec (fun hlt => ?_) (fun hlt => ?_)
  · have hil : i < ls.length := by omega
    have hst := renP_take (q := q) hil
    obtain ⟨b, o, cap', ua, cap2, he, hcu, hur⟩ := rdRow hv.rd (i := i) hil
    cases he
    have hmem : ls.getD i [] ∈ ls := by rw [List.getD_eq_getElem?_getD, List.getElem?_eq_getElem hil]; exact List.getElem_mem _
    have hrl : (ls.getD i []).length ≤ 16 := h.len hmem
    have hD := (h.2.2.2 _ hmem).2
    have hrep : List.replicate (ls.length - i) (Value.slice none 0 0) = .slice none 0 0 :: List.replicate (ls.length - (i + 1)) (.slice none 0 0) := by
      rw [show ls.length - i = (ls.length - (i + 1)) + 1 by omega, List.replicate_succ]
    generalize ls.getD i [] = r at *
    have hidx : 0 + (i : Int).toNat = i := by omega
    repeat (first | refine vops_q tyOk rfl ?_ | refine vops_nil ?_ | refine vw_seq ?_ | refine vw_region (by kernel_rfl) ?_ | refine vops_p tyOk rfl (by (try simp only [inR]); omega) ?_ | refine vw_skip ?_ | refine vw_block ?_ | refine vops_load tyOk rfl rfl rfl (sees_old hcu (by simp)) ?_ | refine vops_makeRows (k := 1) (n := r.length) tyOk rfl rfl rfl (by omega) rfl rfl rfl (by show 8 * _ ≤ _; omega) (by omega) (fun br hbr => ?_) | refine vops_storeM (o := i) tyOk rfl rfl (by exact congrArg (fun x => Value.pointer (some ⟨bo, x, none⟩)) hidx) rfl rfl (by repeat (first | exact upd_here | apply upd_next | apply upd_past)) (by rw [List.length_append, List.length_replicate]; omega) ?_)
    rw [hrep, set_next hvl, ← preW_zero r.length fun j => q.getD (r.getD j 0).toNat 0]
    refine vw_loopW (fun y f own => ∃ (k : Nat), k ≤ r.length ∧ y = r.length - k ∧ f 41 = .int .i64 k ∧ f 40 = .int .i64 r.length ∧ f 39 = .slice ua r.length cap2 ∧ f 7 = .int .i64 i ∧ f 28 = .int .i64 i ∧ f 27 = .int .i64 ls.length ∧ f 26 = .slice (some ⟨b, o, none⟩) ls.length cap ∧ f 6 = .slice (some ⟨bo, 0, none⟩) ls.length ls.length ∧ f 4 = .pointer (some ⟨b4, 0, none⟩) ∧ f 2 = .pointer (some ⟨b2, 0, none⟩) ∧ f 1 = .slice (some ⟨bq, oq, none⟩) q.length cap5 ∧
        own = (br, ⟨ints (preW r.length k fun j => q.getD (r.getD j 0).toNat 0), 2, r.length * 1, none⟩) :: (bo, ⟨(vs ++ [.slice (some ⟨br, 0, none⟩) r.length r.length]) ++ List.replicate (ls.length - (i + 1)) (.slice none 0 0), 42, ls.length * 1, none⟩) :: (ns.flatten ++ [(b4, ⟨[.int .i64 0, .slice none 0 0], 58, 2, none⟩), (b2, ⟨[.int .i64 m, .slice (some ⟨b, o, none⟩) ls.length cap], 58, 2, none⟩)])) r.length
      ⟨_, (by repeat (first | exact ole_nil | exact ole_refl | (apply ole_cons; (repeat (first | exact pm1_here | apply pm1_next | apply pm1_past))) | (apply ole_app; (repeat (first | exact pm_here | exact pm_last | apply pm_next | apply pm_past))))), 0, by omega, by omega, rfl, rfl, rfl, rfl, rfl, rfl, rfl, rfl, rfl, rfl, rfl, rfl⟩ ?_
    rintro y f own ⟨k, hk, rfl, h41, h40, h39, h7, h28, h27, h26, h6, h4, h2, h1, rfl⟩
    rw [upd_of h41, upd_of h40, upd_of h39, upd_of h7, upd_of h28, upd_of h27, upd_of h26, upd_of h6, upd_of h4, upd_of h2, upd_of h1]
    repeat (first | refine vops_q tyOk rfl ?_ | refine vops_nil ?_ | refine vw_seq ?_ | refine vw_region (by kernel_rfl) ?_ | refine vw_cond rfl ?_)
    refine bs_dec (fun hlt2 => ?_) (fun hlt2 => ?_)
    · have hkr : k < r.length := by omega
      obtain ⟨b3, o3, cap3, he, hcell⟩ := hur.at (i := k) hkr
      cases he
      have hc := hcell k hkr
      have hrg := hD.get hkr
      have hqx := hcq (r.getD k 0).toNat (by omega)
      have hpw := preW_length r.length k fun j => q.getD (r.getD j 0).toNat 0
      have hrow : ((vs ++ [Value.slice (some ⟨br, 0, none⟩) r.length r.length]) ++ List.replicate (ls.length - (i + 1)) (.slice none 0 0))[0 + (i : Int).toNat]? = some (.slice (some ⟨br, 0, none⟩) r.length r.length) := by
        rw [List.append_assoc]; exact cellAtEnd hvl (by omega)
      repeat (first | refine vops_q tyOk rfl ?_ | refine vops_nil ?_ | refine vw_seq ?_ | refine vw_region (by kernel_rfl) ?_ | refine vops_p tyOk rfl (by (try simp only [inR]); omega) ?_ | refine vw_skip ?_ | refine vw_block ?_ | refine vops_load tyOk rfl rfl rfl (sees_old hc (by simp)) ?_)
      refine vw_draw [0, 1, 2, 3, 4, 5, 6, 7, 8, 9, 10] (by kernel_rfl) (by kernel_rfl) (by kernel_rfl) rfl ?_
      repeat' (first | refine vd_q tyOk rfl (by first | trivial | rfl) rfl (by kernel_rfl) (by kernel_rfl) ?_ | refine vd_p tyOk rfl (by first | trivial | rfl) rfl (by kernel_rfl) (by kernel_rfl) (by (try simp only [inR]); omega) ?_ | refine vops_nil ?_ | refine vd_nil (by kernel_rfl) ?_ | refine ⟨fun h => Bool.noConfusion (show false = true from h), ?_⟩ | refine vd_load tyOk rfl (by first | trivial | rfl) rfl rfl rfl (by kernel_rfl) (by kernel_rfl) (by kernel_rfl) (sees_mem (by repeat (first | exact mem_here | apply mem_next | apply mem_past)) (by exact hrow)) (by repeat (first | exact sub_hereL | exact sub_refl | apply sub_cons | apply sub_app)) ?_ | refine vd_load tyOk rfl (by first | trivial | rfl) rfl rfl rfl (by kernel_rfl) (by kernel_rfl) (by kernel_rfl) (sees_old hqx (by simp)) (by repeat (first | exact sub_hereL | exact sub_refl | apply sub_cons | apply sub_app)) ?_ | ((show VOps _ _ _ _ (⟨none, Go.Op.store _ _ _, _, _, _, none⟩ :: _) _ _); refine vops_storeIM tyOk rfl rfl rfl rfl (by repeat (first | exact upd_here | apply upd_next | apply upd_past)) (by omega) ?_) | refine vd_one rfl (by kernel_rfl) (by kernel_rfl) rfl ?_)
      repeat (first | refine vops_q tyOk rfl ?_ | refine vops_nil ?_ | refine vw_region (by kernel_rfl) ?_ | refine vops_p tyOk rfl (by (try simp only [inR]); omega) ?_)
      refine ⟨r.length - (k + 1), by omega, _, ole_refl, k + 1, by omega, rfl, rfl, rfl, rfl, rfl, rfl, rfl, rfl, rfl, rfl, rfl, rfl, ?_⟩
      rw [← preW_set r.length k fun j => q.getD (r.getD j 0).toNat 0]; rfl
    · obtain rfl : k = r.length := by omega
      repeat (first | refine vops_q tyOk rfl ?_ | refine vops_nil ?_ | refine vw_region (by kernel_rfl) ?_ | refine vops_p tyOk rfl (by (try simp only [inR]); omega) ?_ | refine vw_exit ?_)
      rw [preW_all]
      refine ⟨ls.length - (i + 1), by omega, (bo, ⟨(vs ++ [.slice (some ⟨br, 0, none⟩) r.length r.length]) ++ List.replicate (ls.length - (i + 1)) (.slice none 0 0), 42, ls.length * 1, none⟩) :: (ns.flatten ++ ((br, ⟨ints (lst r.length fun j => q.getD (r.getD j 0).toNat 0), 2, r.length * 1, none⟩) :: [(b4, ⟨[.int .i64 0, .slice none 0 0], 58, 2, none⟩), (b2, ⟨[.int .i64 m, .slice (some ⟨b, o, none⟩) ls.length cap], 58, 2, none⟩)])), (by repeat (first | exact ole_nil | exact ole_refl | (apply ole_cons; (repeat (first | exact pm1_here | apply pm1_next | apply pm1_past))) | (apply ole_app; (repeat (first | exact pm_here | exact pm_last | apply pm_next | apply pm_past))))), i + 1, vs ++ [.slice (some ⟨br, 0, none⟩) r.length r.length], ns ++ [[(br, ⟨ints (lst r.length fun j => q.getD (r.getD j 0).toNat 0), 2, r.length * 1, none⟩)]], by omega, rfl, rfl, rfl, rfl, rfl, rfl, rfl, rfl, ?_, by rw [flat_snoc, List.append_assoc ns.flatten]; rfl⟩
      rw [hst]
      exact RowsAt.snoc (NewI.lit (l := lst r.length fun j => q.getD (r.getD j 0).toNat 0) (lst_length _ _) (Nat.le_refl _) (by simp only [maxLen]; omega)) hRw
  · obtain rfl : i = ls.length := by omega
    rw [List.take_of_length_le (by rw [renP_length]; omega)] at hRw
    refine vw_nodup (fun hnd => ?_)
    rw [Nat.sub_self, List.replicate_zero, List.append_nil] at hnd ⊢
    repeat (first | refine vops_q tyOk rfl ?_ | refine vops_nil ?_ | refine vw_seq ?_ | refine vw_region (by kernel_rfl) ?_ | refine vw_ret ?_ | refine vw_exit ?_ | ((show VOps _ _ _ _ (⟨some _, Go.Op.load _ _, _, _, _, none⟩ :: _) _ _); refine vops_loadM tyOk rfl rfl rfl (by repeat (first | exact mem_here | apply mem_next | apply mem_past)) (by rfl) ?_) | ((show VOps _ _ _ _ (⟨none, Go.Op.store _ _ _, _, _, _, none⟩ :: _) _ _); refine vops_storeAM tyOk rfl rfl rfl (by first | rfl | (rw [ints_length]; first | assumption | omega | (rw [ints_length]; first | assumption | omega | simp [*])) | simp [*]) (by first | exact ints_one | simp [Value.oneCell']) (by repeat (first | exact upd_here | apply upd_next | apply upd_past)) (by first | rfl | (rw [ints_length]; first | assumption | omega | (rw [ints_length]; first | assumption | omega | simp [*])) | simp [*]) ?_) | refine vops_build2 rfl rfl (by kernel_rfl) ?_)
    refine pairSq_ok tyOk (ls := renP q ls) rfl rfl rfl rfl rfl (by repeat (first | exact mem_here | apply mem_next | apply mem_past)) rfl (by rw [renP_length]) (.inl ⟨vs, ns, [(bo, ⟨vs, 42, ls.length * 1, none⟩)], hRw, ⟨by rw [hvl, renP_length, Nat.mul_one], .inr ⟨bo, ls.length, by rw [renP_length], by rw [renP_length]; exact Nat.le_refl _, by simp only [maxLen]; omega, rfl⟩⟩, rfl⟩) ?_ (fun x hx => ?_) hR
    · exact nodup_sub hnd ((List.sublist_append_left _ _).cons_cons _)
    · rcases List.mem_cons.1 hx with h | h
      · rw [h]; exact List.mem_cons_self
      · exact List.mem_cons_of_mem _ (List.mem_append_left _ h)
end Go.Proofs.Ytdgaabkgfbihpaa

/- A part of the proof: W8. No conditions of its own. -/
namespace Go.Proofs.Ytdgaabkgfbihpaa
open Go.VL
attribute [local irreducible] VWr VOps VD Calls

set_option maxRecDepth 100000 in
theorem c_grow (n : Nat) (hn : n ≤ 1048576) (w : World) : Calls Try.prog 296 [.slice none 0 0, .int .i64 n].toArray w (Res w (NewI 2 [])) := by
  refine calls_of_vw Try.func296 rfl Try.ntmps296 (by simp) ?_
  repeat' (first | refine vops_q tyOk rfl ?_ | refine vops_nil ?_ | refine vw_seq ?_ | refine vw_region (by kernel_rfl) ?_ | refine vops_p tyOk rfl (by (try simp only [inR]); omega) ?_ | refine vw_cond rfl ?_ | refine vw_skip ?_ | refine vw_ret ?_ | (with_reducible refine bs_dec (fun _ => ?_) (fun _ => ?_)) <;> try (exfalso; omega) | refine vops_cap tyOk rfl rfl ?_ | refine vops_slice tyOk rfl rfl rfl rfl rfl (by omega) ?_)
  · refine vops_appendZeros (n := n) tyOk rfl rfl rfl (List.cons_ne_nil _ _) rfl (by decide) (by decide) rfl rfl (by omega) (by omega) (by omega) (fun b cap hb hc1 hc2 => ?_)
    repeat (first | refine vops_q tyOk rfl ?_ | refine vops_nil ?_ | refine vw_seq ?_ | refine vw_region (by kernel_rfl) ?_ | refine vw_ret ?_ | refine vops_slice tyOk rfl rfl rfl rfl rfl (by omega) ?_)
    refine out1 rfl rfl (new := [(b, ⟨[], 2, cap * 1, none⟩)]) (by simp [ids]) (by repeat (first | exact sub_hereL | exact sub_refl | apply sub_cons | apply sub_app)) ?_
    have : sliced (some ⟨b, 0, none⟩) (Int.toNat 0) (Int.toNat 0) cap 1 = .slice (some ⟨b, 0, none⟩) 0 cap := by simp [sliced, Addr.add]
    first | exact ⟨rfl, .inr ⟨b, cap, this, Nat.zero_le _, hc2, rfl⟩⟩ | exact ⟨rfl, .inr ⟨b, cap, rfl, Nat.zero_le _, hc2, rfl⟩⟩
  · exact out1 rfl rfl (new := []) List.nodup_nil sub_nil NewI.nil

theorem flat_take {ls : List (List Int)} {i : Nat} (h : i < ls.length) : (ls.take (i + 1)).flatten = (ls.take i).flatten ++ ls.getD i [] := by
  rw [List.take_add_one, List.getElem?_eq_getElem h, List.flatten_append, List.getD_eq_getElem?_getD, List.getElem?_eq_getElem h]; simp
theorem flat_sum : ∀ ls : List (List Int), ls.flatten.length = sumLen ls
  | [] => rfl
  | l :: ls => by rw [List.flatten_cons, List.length_append, flat_sum ls]; rfl
theorem sum_take {ls : List (List Int)} {i : Nat} (h : i < ls.length) : sumLen (ls.take (i + 1)) = sumLen (ls.take i) + (ls.getD i []).length := by
  rw [← flat_sum, flat_take h, List.length_append, flat_sum]

set_option maxHeartbeats 1000000 in
set_option maxRecDepth 100000 in
theorem c_concat (v : Value) (ls : List (List Int)) (w : World) (hv : RdII w v ls) (hl : ls.length ≤ 1048576) (hs : sumLen ls ≤ 1048576) :
    Calls Try.prog 220 [v].toArray w (Res w (NewI 2 ls.flatten)) := by
  obtain ⟨a, cap, rfl⟩ := hv.len
  refine calls_of_vw Try.func220 rfl Try.ntmps220 (by simp) ?_
  repeat (first | refine vops_q tyOk rfl ?_ | refine vops_nil ?_ | refine vw_seq ?_ | refine vw_region (by kernel_rfl) ?_ | refine vw_block ?_)
  refine vw_loop (fun y f own => ∃ i : Nat, i ≤ ls.length ∧ y = ls.length - i ∧ f 11 = .int .i64 i ∧ f 10 = .int .i64 ls.length ∧ f 9 = .slice a ls.length cap ∧ f 3 = .int .i64 (sumLen (ls.take i) : Nat) ∧ f 0 = .slice a ls.length cap ∧ own = []) ls.length
    ⟨0, by omega, by omega, rfl, rfl, rfl, rfl, rfl, rfl⟩ ?_
  rintro y f own ⟨i, hi, rfl, h11, h10, h9, h3, h0, rfl⟩
  rw [upd_of h11, upd_of h10, upd_of h9, upd_of h3, upd_of h0]
  have hst := sumLen_take_le ls i
  repeat (first | refine vops_q tyOk rfl ?_ | refine vops_nil ?_ | refine vw_seq ?_ | refine vw_region (by kernel_rfl) ?_ | refine vw_cond rfl ?_)
  refine bs_dec (fun hlt => ?_) (fun hlt => ?_)
  · have hil : i < ls.length := by omega
    obtain ⟨b, o, cap', u, cap2, he, hcu, hu⟩ := rdRow hv (i := i) hil
    cases he
    have h1 := sum_take hil
    have h2 := sumLen_take_le ls (i + 1)
    repeat (first | refine vops_q tyOk rfl ?_ | refine vops_nil ?_ | refine vw_seq ?_ | refine vw_region (by kernel_rfl) ?_ | refine vops_p tyOk rfl (by (try simp only [inR]); omega) ?_ | refine vw_cond rfl ?_ | refine vw_skip ?_ | refine vw_block ?_ | refine vops_load tyOk rfl rfl rfl (sees_old hcu (by simp)) ?_)
    refine bs_dec (fun hz => ?_) (fun hz => ?_)
    · exfalso; omega
    repeat (first | refine vops_q tyOk rfl ?_ | refine vops_nil ?_ | refine vw_region (by kernel_rfl) ?_ | refine vops_p tyOk rfl (by (try simp only [inR]); omega) ?_ | refine vw_skip ?_)
    refine ⟨ls.length - (i + 1), by omega, i + 1, by omega, rfl, rfl, rfl, rfl, ?_, rfl, rfl⟩
    rw [h1]; push_cast; rfl
  · obtain rfl : i = ls.length := by omega
    rw [List.take_length]
    repeat (first | refine vops_q tyOk rfl ?_ | refine vops_nil ?_ | refine vw_seq ?_ | refine vw_region (by kernel_rfl) ?_ | refine vw_block ?_ | refine vw_exit ?_ | (apply vops_call ent296 rfl; (intro w' hg; exact c_grow (sumLen ls) hs w'); (intro _ newN hN; obtain ⟨pN, cN, rfl⟩ := SlAt.form hN)))
    refine vw_loopW (fun y f own => ∃ (i : Nat) (p : Option Addr) (cp : Nat) (new : Own), i ≤ ls.length ∧ y = ls.length - i ∧ f 27 = .int .i64 i ∧ f 26 = .int .i64 ls.length ∧ f 25 = .slice a ls.length cap ∧ f 6 = .slice p (ls.take i).flatten.length cp ∧ NewI 2 (ls.take i).flatten (.slice p (ls.take i).flatten.length cp) new ∧ own = new) ls.length
      ⟨newN, by rw [List.append_nil]; exact ole_refl, 0, pN, cN, newN, by omega, by omega, rfl, rfl, rfl, rfl, hN, rfl⟩ ?_
    clear hN
    rintro y f own ⟨i, p, cp, new, hi, rfl, h27, h26, h25, h6, hN, rfl⟩
    rw [upd_of h27, upd_of h26, upd_of h25, upd_of h6]
    repeat (first | refine vops_q tyOk rfl ?_ | refine vops_nil ?_ | refine vw_seq ?_ | refine vw_region (by kernel_rfl) ?_ | refine vw_cond rfl ?_)
    refine bs_dec (fun hlt => ?_) (fun hlt => ?_)
    · have hil : i < ls.length := by omega
      obtain ⟨b, o, cap', u, cap2, he, hcu, hu⟩ := rdRow hv (i := i) hil
      cases he
      have h1 := sum_take hil
      have h2 := sumLen_take_le ls (i + 1)
      have h3 := flat_sum (ls.take i)
      repeat (first | refine vops_q tyOk rfl ?_ | refine vops_nil ?_ | refine vw_seq ?_ | refine vw_region (by kernel_rfl) ?_ | refine vops_p tyOk rfl (by (try simp only [inR]); omega) ?_ | refine vw_skip ?_ | refine vw_block ?_ | refine vops_load tyOk rfl rfl rfl (sees_old hcu (by simp)) ?_ | refine vops_appendL (k := 1) (q := (ls.take i).flatten) (q2 := ls.getD i []) tyOk rfl rfl (List.cons_ne_nil _ _) rfl rfl (by decide) rfl (NewI.f hN) (R := []) (by simp) rfl (fun w' hg => rdI_F (hu.same hg.fr)) (by omega) (fun p' cap' new' hN' => ?_))
      refine ⟨ls.length - (i + 1), by omega, new', by rw [List.append_nil]; exact ole_refl, i + 1, p', cap', new', by omega, rfl, rfl, rfl, rfl, ?_, ?_, rfl⟩
      · rw [flat_take hil, List.length_append]; rfl
      · rw [flat_take hil, List.length_append]
        unfold NewI
        rw [List.length_append]
        exact hN'
    · obtain rfl : i = ls.length := by omega
      rw [List.take_length] at hN ⊢
      repeat (first | refine vops_q tyOk rfl ?_ | refine vops_nil ?_ | refine vw_seq ?_ | refine vw_region (by kernel_rfl) ?_ | refine vw_ret ?_ | refine vw_exit ?_)
      exact out1 rfl rfl (SlAt.nodup hN) (fun _ h => h) hN
end Go.Proofs.Ytdgaabkgfbihpaa

