import Derived.Test.YtdgaabkgfbihpaaUB
import Derived.Test.YtdgaabkgfbihpaaUA
import Derived.Test.YtdgaabkgfbihpaaUC
import Derived.Test.YtdgaabkgfbihpaaSY
import Derived.Test.YtdgaabkgfbihpaaVLArr
/- Parts of the proof, one after another. No conditions of their own. -/
/- A part of the proof: W12. No conditions of its own. -/
namespace Go.Proofs.Ytdgaabkgfbihpaa
open Go.VL
attribute [local irreducible] VWr VOps VD Calls

theorem rdO_of {Γ : Ctx} {own' cap new : Own} {w : World} {e c n : Nat} {t : List Int} {p : Option Addr} (hg : Go.VL.Good Γ (own' ++ cap) w) (hN : NewI e t (.slice p n c) new) (hn : n = t.length) (hs : Sub new cap) : RdO w (.slice p n c) t own' := by
  subst hn
  rcases hN.2 with ⟨_, h2, _⟩ | ⟨b, cp, h1, _, _, rfl⟩
  · exact .inl (List.eq_nil_of_length_eq_zero h2)
  · have e1 : p = some ⟨b, 0, none⟩ := by injection h1
    subst e1
    have hm := hs _ List.mem_cons_self
    refine .inr ⟨b, 0, c, rfl, fun hb => ?_, fun j hj => ?_⟩
    · have hnd := hg.ok.nodup
      rw [ids_app] at hnd
      exact (List.nodup_append.1 hnd).2.2 b hb b (ids_mem hm) rfl
    · rw [Nat.zero_add]; exact cell_of_blk hg.ok (List.mem_append_right _ hm) (ints_get hj)
theorem rdFn_old {w0 w : World} {own : Own} {r : Value} {ds : List Nat} (hR : RdFn w0 r ds []) (hg : Go.VL.Good ⟨w0, []⟩ own w) (h0 : 0 < ds.length) : RdFn w r ds own := by
  obtain ⟨b, o, cap, rfl, _, hc⟩ := hR
  refine ⟨b, o, cap, rfl, ?_, fun j d hj => (old_stays hg (hc j d hj) (by simp)).1⟩
  obtain ⟨d, hd⟩ : ∃ d, ds[0]? = some d := ⟨_, List.getElem?_eq_getElem h0⟩
  exact (old_stays hg (hc 0 d hd) (by simp)).2
theorem rel_mem {n : Int} {es : List (List Int)} {ds : List Nat} (h : ∀ r ∈ es, EvRow n r) {p : List Int} (hp : p ∈ relP ds es.flatten) : ∃ a b : Nat, (a : Int) < n ∧ (b : Int) < n ∧ a ≠ b ∧ p = [(a : Int), (b : Int)] := by
  rw [relP_flat0 fun q hq => (h q hq).1] at hp
  obtain ⟨P, hP, hpP⟩ := List.mem_flatten.1 hp
  obtain ⟨r, hr, rfl⟩ := List.mem_map.1 hP
  have h1 := h r hr
  exact relP_mem (m := r.length / 4) (by have := h1.1; omega) h1.2 hpP
/-- The table when q pairs have been counted. -/
def hitG (P : List (List Int)) (q : Nat) (x y : Nat) : Int := (hits (P.take q) x y : Int)
theorem hitG_le (P : List (List Int)) (q x y : Nat) : 0 ≤ hitG P q x y ∧ hitG P q x y ≤ P.length := by
  have := hits_le (P.take q) x y
  rw [List.length_take] at this
  unfold hitG; omega
theorem hitG_step {P : List (List Int)} {q a b : Nat} (hq : P[q]? = some [(a : Int), (b : Int)]) (hab : a ≠ b) {g1 : Nat → Nat → Int} (h1 : g1 = fun x z => if x = a ∧ z = b then hitG P q a b + 1 else hitG P q x z) (x z : Nat) :
    (if x = b ∧ z = a then g1 b a + 1 else g1 x z) = hitG P (q + 1) x z := by
  have key : hitG P (q + 1) x z = hitG P q x z + (if ((a : Int) = (x : Int) ∧ (b : Int) = (z : Int)) ∨ ((a : Int) = (z : Int) ∧ (b : Int) = (x : Int)) then 1 else 0) := by
    unfold hitG
    rw [List.take_add_one, hq]
    show ((hits (P.take q ++ [[(a : Int), (b : Int)]]) x z : Nat) : Int) = _
    rw [hits_snoc]; push_cast
    split <;> rfl
  rw [key]
  subst h1
  by_cases h2 : x = b ∧ z = a
  · obtain ⟨rfl, rfl⟩ := h2
    rw [if_pos ⟨rfl, rfl⟩, if_pos (by omega)]
    show (if x = z ∧ z = x then _ else _) + 1 = _
    rw [if_neg (by omega)]
  · rw [if_neg h2]
    show (if x = a ∧ z = b then _ else _) = _
    by_cases h3 : x = a ∧ z = b
    · obtain ⟨rfl, rfl⟩ := h3
      rw [if_pos ⟨rfl, rfl⟩, if_pos (by omega)]
    · rw [if_neg h3, if_neg (by omega)]; omega

set_option maxHeartbeats 4000000 in
set_option maxRecDepth 100000 in
theorem c_timesRelated (k : Nat) (v r : Value) (es : List (List Int)) (ds : List Nat) (hE : IsEv k es) (hd : ∀ d ∈ ds, d = 1 ∨ d = 2 ∨ d = 3) (hds : 0 < ds.length ∧ ds.length ≤ 3) (w : World) (hv : RdII w v es) (hR : RdFn w r ds []) :
    Calls Try.prog 262 [.agg #[.int .i64 k, v], r].toArray w (Res w (NewLL 42 2 (relT k ds es))) := by
  obtain ⟨a, cap, rfl⟩ := hv.len
  obtain ⟨bf, of, capf, hre, hbf, hfn⟩ := id hR
  subst hre
  have hk4 := hE.1
  have hk16 := hE.2.1
  have h20 := hE.2.2.1
  obtain ⟨hfl, hf4⟩ := flat_len4 hE
  have hsum := ev_sum hE
  have hsl := flat_sum es
  obtain ⟨m, hm⟩ : ∃ m, es.flatten.length = 4 * m := ⟨es.flatten.length / 4, by omega⟩
  have hPl := relP_length ds m es.flatten hm
  have hPb : m * (2 * ds.length) ≤ 80 * 6 := Nat.mul_le_mul (by omega) (by omega)
  refine calls_of_vw Try.func262 rfl Try.ntmps262 (by simp) ?_
  refine vw_seq (vw_region (by kernel_rfl) (vops_box [.int .i64 k, .slice a es.length cap] rfl (fun b2 hb2 => ?_)))
  repeat (first | refine vops_q tyOk rfl ?_ | refine vops_nil ?_ | refine vw_seq ?_ | refine vw_region (by kernel_rfl) ?_ | ((show VOps _ _ _ _ (⟨some _, Go.Op.load _ _, _, _, _, none⟩ :: _) _ _); refine vops_loadM tyOk rfl rfl rfl (by repeat (first | exact mem_here | apply mem_next | apply mem_past)) (by rfl) ?_))
  refine vops_make (n := k) tyOk rfl rfl (List.cons_ne_nil _ _) rfl rfl (by show 24 * _ ≤ _; omega) (by omega) (fun bo hbo => ?_)
  have hmade : (madeCells ([Value.slice none 0 0] : List Value).toArray (k * 1)).toList = List.replicate k (Value.slice none 0 0) := by
    rw [Nat.mul_one]; exact made_same _ 1 _ (by omega)
  repeat (first | refine vops_q tyOk rfl ?_ | refine vops_nil ?_ | refine vw_seq ?_ | refine vw_region (by kernel_rfl) ?_ | refine vw_block ?_ | refine vops_allocZ [.slice none 0 0] tyOk rfl rfl (by simp) (fun b5 hb5 => ?_) | ((show VOps _ _ _ _ (⟨some _, Go.Op.load _ _, _, _, _, none⟩ :: _) _ _); refine vops_loadM tyOk rfl rfl rfl (by repeat (first | exact mem_here | apply mem_next | apply mem_past)) (by rfl) ?_) | ((show VOps _ _ _ _ (⟨none, Go.Op.store _ _ _, _, _, _, none⟩ :: _) _ _); refine vops_storeM tyOk rfl rfl rfl rfl rfl (by repeat (first | exact upd_here | apply upd_next | apply upd_past)) (by simp) ?_))
  refine vw_loopW (fun y f own => ∃ (i : Nat) (vs : List Value) (ns : List Own), i ≤ k ∧ y = k - i ∧ f 14 = .int .i64 i ∧ f 13 = .int .i64 k ∧ f 2 = .pointer (some ⟨b2, 0, none⟩) ∧ f 5 = .pointer (some ⟨b5, 0, none⟩) ∧ f 1 = .slice (some ⟨bf, of, none⟩) ds.length capf ∧ Go.VL.RowsAt 2 ((tabOf k fun _ _ => 0).take i) vs ns ∧
      own = (b5, ⟨[.slice (some ⟨bo, 0, none⟩) k k], 27, 1, none⟩) :: (bo, ⟨vs ++ List.replicate (k - i) (.slice none 0 0), 42, k * 1, none⟩) :: (ns.flatten ++ [(b2, ⟨[.int .i64 k, .slice a es.length cap], 58, 2, none⟩)])) k
    ⟨_, ole_refl, 0, [], [], by omega, by omega, rfl, rfl, rfl, rfl, rfl, by simp [Go.VL.RowsAt], by rw [List.nil_append, Nat.sub_zero, ← hmade]; rfl⟩ ?_
  rintro y f own ⟨i, vs, ns, hi, rfl, h14, h13, h2, h5, h1, hRw, rfl⟩
  rw [upd_of h14, upd_of h13, upd_of h2, upd_of h5, upd_of h1]
  have hvl : vs.length = i := by rw [hRw.len.1, List.length_take, tabOf_length, Nat.min_eq_left hi]
  repeat (first | refine vops_q tyOk rfl ?_ | refine vops_nil ?_ | refine vw_seq ?_ | refine vw_region (by kernel_rfl) ?_ | refine vw_cond rfl ?_)
  refine bs_dec (fun hlt => ?_) (fun hlt => ?_)
  · have hrep : List.replicate (k - i) (Value.slice none 0 0) = .slice none 0 0 :: List.replicate (k - (i + 1)) (.slice none 0 0) := by
      rw [show k - i = (k - (i + 1)) + 1 by omega, List.replicate_succ]
    have hst : (tabOf k fun _ _ => 0).take (i + 1) = (tabOf k fun _ _ => 0).take i ++ [List.replicate k 0] := by
      rw [List.take_add_one, tabOf_get (by omega)]
      have : ((List.range k).map fun _ => (0 : Int)) = List.replicate k 0 := by
        apply List.ext_getElem (by simp)
        intro j h1 h2; simp
      rw [this]; rfl
    have hidx : 0 + (i : Int).toNat = i := by omega
    repeat (first | refine vops_q tyOk rfl ?_ | refine vops_nil ?_ | refine vw_seq ?_ | refine vw_region (by kernel_rfl) ?_ | refine vw_skip ?_ | refine vw_block ?_)
    refine vw_draw [0, 1, 2, 3, 4, 5, 6] (by kernel_rfl) (by kernel_rfl) (by kernel_rfl) rfl ?_
    repeat' (first | refine vd_q tyOk rfl (by first | trivial | rfl) rfl (by kernel_rfl) (by kernel_rfl) ?_ | refine vd_p tyOk rfl (by first | trivial | rfl) rfl (by kernel_rfl) (by kernel_rfl) (by (try simp only [inR]); omega) ?_ | refine vops_nil ?_ | refine vd_nil (by kernel_rfl) ?_ | refine ⟨fun _ _ _ h => List.mem_cons_of_mem _ h, ?_⟩ | refine vd_load tyOk rfl (by first | trivial | rfl) rfl rfl rfl (by kernel_rfl) (by kernel_rfl) (by kernel_rfl) (sees_mem (by repeat (first | exact mem_here | apply mem_next | apply mem_past)) (by rfl)) (by repeat (first | exact sub_hereL | exact sub_refl | apply sub_cons | apply sub_app)) ?_ | refine ⟨fun h => Bool.noConfusion (show false = true from h), ?_⟩ | refine vops_makeRows (k := 1) (n := k) tyOk rfl rfl rfl (by omega) rfl rfl rfl (by show 8 * _ ≤ _; omega) (by omega) (fun br hbr => ?_) | refine vops_storeM (o := i) tyOk rfl rfl (by exact congrArg (fun x => Value.pointer (some ⟨bo, x, none⟩)) hidx) rfl rfl (by repeat (first | exact upd_here | apply upd_next | apply upd_past)) (by rw [List.length_append, List.length_replicate]; omega) ?_ | refine vd_one rfl (by kernel_rfl) (by kernel_rfl) rfl ?_)
    repeat (first | refine vops_q tyOk rfl ?_ | refine vops_nil ?_ | refine vw_region (by kernel_rfl) ?_ | refine vops_p tyOk rfl (by (try simp only [inR]); omega) ?_)
    have hz : List.replicate (k * 1) (0 : Int) = List.replicate k 0 := by rw [Nat.mul_one]
    rw [hz]
    refine ⟨k - (i + 1), by omega, (b5, ⟨[.slice (some ⟨bo, 0, none⟩) k k], 27, 1, none⟩) :: (bo, ⟨(vs ++ [.slice (some ⟨br, 0, none⟩) k k]) ++ List.replicate (k - (i + 1)) (.slice none 0 0), 42, k * 1, none⟩) :: (ns.flatten ++ ((br, ⟨ints (List.replicate k 0), 2, k * 1, none⟩) :: [(b2, ⟨[.int .i64 k, .slice a es.length cap], 58, 2, none⟩)])), ?_, i + 1, vs ++ [.slice (some ⟨br, 0, none⟩) k k], ns ++ [[(br, ⟨ints (List.replicate k 0), 2, k * 1, none⟩)]], by omega, rfl, rfl, rfl, rfl, rfl, rfl, ?_, by rw [flat_snoc, List.append_assoc ns.flatten]; rfl⟩
    · rw [hrep, set_next hvl]; exact (by repeat (first | exact ole_nil | exact ole_refl | (apply ole_cons; (repeat (first | exact pm1_here | apply pm1_next | apply pm1_past))) | (apply ole_app; (repeat (first | exact pm_here | exact pm_last | apply pm_next | apply pm_past)))))
    · rw [hst]; exact RowsAt.snoc (NewI.lit (n := k) (cap := k) (by simp) (Nat.le_refl _) (by simp only [maxLen]; omega)) hRw
  · obtain rfl : i = k := by omega
    rw [Nat.sub_self, List.replicate_zero, List.append_nil]
    rw [List.take_of_length_le (by rw [tabOf_length]; omega)] at hRw
    repeat (first | refine vops_q tyOk rfl ?_ | refine vops_nil ?_ | refine vw_seq ?_ | refine vw_region (by kernel_rfl) ?_ | refine vw_block ?_ | refine vw_exit ?_ | (apply vops_call ent220 rfl; (intro w' hg; exact c_concat _ es w' (hv.same hg.fr) (by omega) (by omega)); (intro _ newN hN; obtain ⟨pN, cN, rfl⟩ := SlAt.form hN)) | (apply vops_call ent264 rfl; (intro w' hg; exact c_relatedAt _ _ _ _ _ _ w'); (rintro _ newN ⟨b7, b8, rfl, rfl, hne⟩)) | ((show VOps _ _ _ _ (⟨some _, Go.Op.load _ _, _, _, _, none⟩ :: _) _ _); refine vops_loadM tyOk rfl rfl rfl (by repeat (first | exact mem_here | apply mem_next | apply mem_past)) (by rfl) ?_))
    obtain ⟨P, hP⟩ : ∃ P, P = relP ds es.flatten := ⟨_, rfl⟩
    rw [← hP] at hPl
    have hPm : ∀ p ∈ P, ∃ a b : Nat, (a : Int) < i ∧ (b : Int) < i ∧ a ≠ b ∧ p = [(a : Int), (b : Int)] := fun p hp => rel_mem hE.2.2.2 (hP ▸ hp)
    have hT0 : TabAt 2 (tabOf i (hitG P 0)) vs ns.flatten := ⟨ns, by
      rw [tabOf_congr (g := fun _ _ => 0) fun x y _ _ => by unfold hitG; rw [List.take_zero]; rfl]; exact hRw, List.Perm.refl _⟩
    rw [hm] at hN ⊢
    have hit := it_rel pN m cN (.slice (some ⟨bf, of, none⟩) ds.length capf) es.flatten ds hm (by omega) (by
      rcases hN.2 with ⟨_, h, _⟩ | ⟨_, cp0, h1, h2, _⟩
      · omega
      · have : cN = cp0 := by injection h1
        omega) hd (by omega) b7 b8 newN
    rw [← hP] at hit
    refine vw_rangeFuncG (ts := [29, 30]) (own0 := (b5, ⟨[.slice (some ⟨bo, 0, none⟩) i i], 27, 1, none⟩) :: (bo, ⟨vs, 42, i * 1, none⟩) :: (ns.flatten ++ [(b2, ⟨[.int .i64 i, .slice a es.length cap], 58, 2, none⟩)])) (cap := RelB (.slice pN (4 * m) cN) (.slice (some ⟨bf, of, none⟩) ds.length capf) b7 b8 ++ newN) rfl ent313 hit
      (fun w' own' hg => ⟨rdO_of hg hN hm.symm (fun q hq => List.mem_append_right _ hq), rdFn_old hR (Good.left hg) hds.1⟩)
      (by
        have := List.perm_append_comm (l₁ := RelB (.slice pN (4 * m) cN) (.slice (some ⟨bf, of, none⟩) ds.length capf) b7 b8 ++ newN) (l₂ := (b5, ⟨[.slice (some ⟨bo, 0, none⟩) i i], 27, 1, none⟩) :: (bo, ⟨vs, 42, i * 1, none⟩) :: (ns.flatten ++ [(b2, ⟨[.int .i64 i, .slice a es.length cap], 58, 2, none⟩)]))
        rw [List.append_assoc] at this
        exact this) (by simp) (fun x hx => by
        obtain ⟨p, hp, rfl⟩ := List.mem_map.1 hx
        obtain ⟨_, _, _, _, _, rfl⟩ := hPm p hp
        rfl)
      (fun q own => ∃ X : Own, TabAt 2 (tabOf i (hitG P q)) vs X ∧ own = (b5, ⟨[.slice (some ⟨bo, 0, none⟩) i i], 27, 1, none⟩) :: (bo, ⟨vs, 42, i * 1, none⟩) :: (X ++ [(b2, ⟨[.int .i64 i, .slice a es.length cap], 58, 2, none⟩)]))
      (fun _ _ => False) ⟨ns.flatten, hT0, rfl⟩ ?_ ?_ (fun c o h => h.elim)
    · rintro l q x ownc w1 hx ⟨X1, hTab1, rfl⟩ hg1
      rw [List.getElem?_map] at hx
      obtain ⟨p, hp, rfl⟩ := Option.map_eq_some_iff.1 hx
      obtain ⟨x, y, hxi, hyi, hxy, rfl⟩ := hPm p (List.mem_of_getElem? hp)
      have hb1 := hitG_le P q x y
      have hb2' := hitG_le P q y x
      have hst := fun g1 h1 => hitG_step hp hxy (g1 := g1) h1
      obtain ⟨g, hg⟩ : ∃ g, g = hitG P q := ⟨_, rfl⟩
      rw [← hg] at hTab1 hb1 hb2'
      simp only [ints, List.map_cons, List.map_nil, updL]
      repeat (first | refine vops_q tyOk rfl ?_ | refine vops_nil ?_ | refine vw_seq ?_ | refine vw_region (by kernel_rfl) ?_)
      intro w2 hg2
      obtain ⟨br, cr, R, hv1, hp1, _, hnew1⟩ := hTab1.row (tabOf_get (a := x) (by omega)) (by rw [row_length]; omega)
      rw [row_length] at hv1
      have hva := vals_get hv1 (show 0 + (x : Int).toNat = x by omega)
      have hcell : (ints ((List.range i).map fun b => g x b))[0 + (y : Int).toNat]? = some (.int .i64 (g x y)) := by
        rw [show 0 + (y : Int).toNat = y by omega, ints_get (by rw [row_length]; omega), row_get (by omega)]
      refine vw_perm (own' := (br, ⟨ints ((List.range i).map fun b => g x b), 2, cr * 1, none⟩) :: ((b5, ⟨[.slice (some ⟨bo, 0, none⟩) i i], 27, 1, none⟩) :: (bo, ⟨vs, 42, i * 1, none⟩) :: (R ++ [(b2, ⟨[.int .i64 i, .slice a es.length cap], 58, 2, none⟩)]))) (perm_pull (A := [(b5, ⟨[.slice (some ⟨bo, 0, none⟩) i i], 27, 1, none⟩), (bo, ⟨vs, 42, i * 1, none⟩)]) hp1) ?_
      refine vw_block ?_
      refine vw_seq (vw_region (by kernel_rfl) ?_)
      repeat (first | refine vops_q tyOk rfl ?_ | refine vops_nil ?_ | refine vw_region (by kernel_rfl) ?_ | refine vops_p tyOk rfl (by (try simp only [inR]); omega) ?_ | refine vops_loadM tyOk rfl rfl rfl (by repeat (first | exact mem_here | apply mem_next | apply mem_past)) (by exact hva) ?_ | refine vops_loadM tyOk rfl rfl rfl (by repeat (first | exact mem_here | apply mem_next | apply mem_past)) (by exact hcell) ?_ | refine vops_storeIM tyOk rfl rfl rfl rfl (by repeat (first | exact upd_here | apply upd_next | apply upd_past)) (by rw [row_length]; omega) ?_ | ((show VOps _ _ _ _ (⟨some _, Go.Op.load _ _, _, _, _, none⟩ :: _) _ _); refine vops_loadM tyOk rfl rfl rfl (by repeat (first | exact mem_here | apply mem_next | apply mem_past)) (by rfl) ?_))
      obtain ⟨g1, hg1d⟩ : ∃ g1 : Nat → Nat → Int, g1 = fun x' z => if x' = x ∧ z = y then g x y + 1 else g x' z := ⟨_, rfl⟩
      have hTab2 := hnew1 (((List.range i).map fun b => g x b).set (y : Int).toNat (g x y + 1)) (by rw [List.length_set])
      rw [show (tabOf i g).set x (((List.range i).map fun b => g x b).set (y : Int).toNat (g x y + 1)) = tabOf i g1 by rw [Int.toNat_natCast, tabOf_set, hg1d]] at hTab2
      obtain ⟨br2, cr2, R2, hv2, hp2, _, hnew2⟩ := hTab2.row (tabOf_get (a := y) (by omega)) (by rw [row_length]; omega)
      rw [row_length] at hv2
      have hvb := vals_get hv2 (show 0 + (y : Int).toNat = y by omega)
      have hgya : g1 y x = g y x := by rw [hg1d]; show (if y = x ∧ x = y then _ else _) = _; rw [if_neg (by omega)]
      have hcell2 : (ints ((List.range i).map fun b => g1 y b))[0 + (x : Int).toNat]? = some (.int .i64 (g1 y x)) := by
        rw [show 0 + (x : Int).toNat = x by omega, ints_get (by rw [row_length]; omega), row_get (by omega)]
      refine vops_perm (own' := (br2, ⟨ints ((List.range i).map fun b => g1 y b), 2, cr2 * 1, none⟩) :: ((b5, ⟨[.slice (some ⟨bo, 0, none⟩) i i], 27, 1, none⟩) :: (bo, ⟨vs, 42, i * 1, none⟩) :: (R2 ++ [(b2, ⟨[.int .i64 i, .slice a es.length cap], 58, 2, none⟩)]))) (perm_front (A := [(b5, ⟨[.slice (some ⟨bo, 0, none⟩) i i], 27, 1, none⟩), (bo, ⟨vs, 42, i * 1, none⟩)]) hp2) ?_
      repeat (first | refine vops_q tyOk rfl ?_ | refine vops_nil ?_ | refine vops_p tyOk rfl (by (try simp only [inR]); omega) ?_ | refine vops_loadM tyOk rfl rfl rfl (by repeat (first | exact mem_here | apply mem_next | apply mem_past)) (by exact hvb) ?_ | refine vops_loadM tyOk rfl rfl rfl (by repeat (first | exact mem_here | apply mem_next | apply mem_past)) (by exact hcell2) ?_ | refine vops_storeIM tyOk rfl rfl rfl rfl (by repeat (first | exact upd_here | apply upd_next | apply upd_past)) (by rw [row_length]; omega) ?_)
      have hTab3 := hnew2 (((List.range i).map fun b => g1 y b).set (x : Int).toNat (g1 y x + 1)) (by rw [List.length_set])
      rw [show (tabOf i g1).set y (((List.range i).map fun b => g1 y b).set (x : Int).toNat (g1 y x + 1)) = tabOf i (hitG P (q + 1)) by
        rw [Int.toNat_natCast, tabOf_set]
        exact tabOf_congr fun x' z _ _ => hst g1 (by rw [hg1d, hg]) x' z] at hTab3
      exact ⟨(b5, ⟨[.slice (some ⟨bo, 0, none⟩) i i], 27, 1, none⟩) :: (bo, ⟨vs, 42, i * 1, none⟩) :: (((br2, ⟨ints (((List.range i).map fun b => g1 y b).set (x : Int).toNat (g1 y x + 1)), 2, cr2 * 1, none⟩) :: R2) ++ [(b2, ⟨[.int .i64 i, .slice a es.length cap], 58, 2, none⟩)]), ole_perm (perm_pull (A := [(b5, ⟨[.slice (some ⟨bo, 0, none⟩) i i], 27, 1, none⟩), (bo, ⟨vs, 42, i * 1, none⟩)]) (List.Perm.refl _)).symm, _, hTab3, rfl⟩
    · rintro own' ⟨X1, hTab1, rfl⟩
      rw [List.length_map] at hTab1
      have hfin : tabOf i (hitG P P.length) = relT i ds es := tabOf_congr fun x y _ _ => by
        unfold hitG relN
        rw [List.take_length, hP]
      rw [hfin] at hTab1
      refine vw_nodup (fun hnd => ?_)
      repeat (first | refine vops_q tyOk rfl ?_ | refine vops_nil ?_ | refine vw_seq ?_ | refine vw_region (by kernel_rfl) ?_ | refine vw_ret ?_ | ((show VOps _ _ _ _ (⟨some _, Go.Op.load _ _, _, _, _, none⟩ :: _) _ _); refine vops_loadM tyOk rfl rfl rfl (by repeat (first | exact mem_here | apply mem_next | apply mem_past)) (by rfl) ?_))
      obtain ⟨ns', hR', hp'⟩ := hTab1
      have hpp : ([(bo, (⟨vs, 42, i * 1, none⟩ : Blk))] ++ ns'.flatten).Perm ((bo, ⟨vs, 42, i * 1, none⟩) :: X1) := List.Perm.cons _ hp'.symm
      refine outLL (outer := [(bo, ⟨vs, 42, i * 1, none⟩)]) rfl rfl hR' ⟨by rw [hvl, Nat.mul_one], .inr ⟨bo, i, rfl, Nat.le_refl _, by simp only [maxLen]; omega, rfl⟩⟩ (by unfold relT; rw [tabOf_length]) ?_ (fun x hx => ?_)
      · refine (hpp.map Prod.fst).nodup_iff.2 (nodup_sub hnd ?_)
        exact (((List.sublist_append_left _ _).cons_cons _).cons _).trans (List.sublist_append_left _ _)
      · have := hpp.mem_iff.1 hx
        rcases List.mem_cons.1 this with h | h
        · rw [h]; exact List.mem_append_left _ (List.mem_cons_of_mem _ List.mem_cons_self)
        · exact List.mem_append_left _ (List.mem_cons_of_mem _ (List.mem_cons_of_mem _ (List.mem_append_left _ h)))
end Go.Proofs.Ytdgaabkgfbihpaa

/- A part of the proof: W13. No conditions of its own. -/
namespace Go.Proofs.Ytdgaabkgfbihpaa
open Go.VL
attribute [local irreducible] VWr VOps VD Calls

open Classical in
noncomputable def partR (n : Int) (es : List (List Int)) : List (List Int) × Int := if IsEv n es then (relT n.toNat [1] es, 0) else ([], 1)
open Classical in
noncomputable def oppR (n : Int) (es : List (List Int)) (k : Int) : List (List Int) × Int :=
  if IsEv n es then (if k = 0 then (relT n.toNat [2, 3] es, 0) else if k = 1 then (relT n.toNat [2] es, 0) else if k = 2 then (relT n.toNat [3] es, 0) else ([], 2)) else ([], 1)
/-- Relations that have just been listed. -/
theorem rdFn_lit {Γ : Ctx} {own : Own} {w : World} {b e n c : Nat} {ds : List Nat} (hm : (b, (⟨ds.map relV, e, n, none⟩ : Blk)) ∈ own) (hg : Go.VL.Good Γ own w) (hn : c = ds.length) : RdFn w (.slice (some ⟨b, 0, none⟩) c c) ds [] := by
  subst hn
  refine ⟨b, 0, _, rfl, by simp [ids], fun j d hj => ?_⟩
  rw [Nat.zero_add]
  exact cell_of_blk hg.ok hm (by simp [hj])

set_option maxRecDepth 100000 in
theorem two_rel : ∀ v ∈ [relV 2, relV 3], v.cells.size = 1 := by
  intro v hv
  rcases List.mem_cons.1 hv with rfl | hv
  · rfl
  · obtain rfl : v = relV 3 := by simpa using hv
    rfl
end Go.Proofs.Ytdgaabkgfbihpaa

