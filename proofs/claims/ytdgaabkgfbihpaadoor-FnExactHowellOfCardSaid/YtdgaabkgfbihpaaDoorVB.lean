import Derived.Test.YtdgaabkgfbihpaaDoorSA
import Derived.Test.YtdgaabkgfbihpaaDoorVLRanG
import Derived.Test.YtdgaabkgfbihpaaDoorVLArr
import Derived.Test.YtdgaabkgfbihpaaDoorVA
import Derived.Test.YtdgaabkgfbihpaaDoorSX
import Derived.Test.YtdgaabkgfbihpaaDoorVLPlay
import Derived.Test.YtdgaabkgfbihpaaDoorVLPanic
/- Parts of the proof, one after another. No conditions of their own. -/
/- A part of the proof: V3. No conditions of its own. -/
namespace Go.Proofs.YtdgaabkgfbihpaaDoor
open Go.VL
attribute [local irreducible] VWr VOps VD Calls

/-- The parts of a list, three and three. -/
def partV3 (a : Option Addr) (i : Nat) : Value := match a with
  | some ⟨b, o, _⟩ => .slice (some ⟨b, o + 3 * i, none⟩) 3 3
  | none => .slice none 3 3
def chunkV3 (a : Option Addr) (m : Nat) : List (List Value) := (List.range m).map fun i => [partV3 a i]
theorem chunkV3_at {a : Option Addr} {m i : Nat} (h : i < m) : (chunkV3 a m)[i]? = some [partV3 a i] := by simp [chunkV3, h]
theorem chunkV3_length (a : Option Addr) (m : Nat) : (chunkV3 a m).length = m := by simp [chunkV3]
def ChunkCap3 (u : Value) (b2 b3 : Nat) : Own := [(b3, ⟨[.int .i64 3], 3, 1, none⟩), (b2, ⟨[u], 23, 1, none⟩)]
def ChunkF3 (u : Value) (v : Value) (new : Own) : Prop := ∃ b2 b3, v = .func (.func 45) #[] [.pointer (some ⟨b2, 0, none⟩), .pointer (some ⟨b3, 0, none⟩)].toArray ∧ new = ChunkCap3 u b2 b3 ∧ b3 ≠ b2

set_option maxRecDepth 100000 in
theorem c_chunk3 (a : Option Addr) (n cap : Nat) (w : World) : Calls Tryd.prog 34 [.slice a n cap, .int .i64 3].toArray w (Res w (ChunkF3 (.slice a n cap))) := by
  refine calls_of_vw Tryd.func34 rfl Tryd.ntmps34 (by simp) ?_
  refine vw_seq (vw_region (by kernel_rfl) (vops_box [.slice a n cap] rfl (fun b2 hb2 => ?_)))
  refine vops_box [.int .i64 3] rfl (fun b3 hb3 => ?_)
  have hne : b3 ≠ b2 := fun h => hb3 (by simp [ids, h])
  repeat (first | refine vops_q tyOk rfl ?_ | refine vops_nil ?_ | refine vw_seq ?_ | refine vw_region (by kernel_rfl) ?_ | refine vw_cond rfl ?_ | ((show VOps _ _ _ _ (⟨some _, Go.Op.load _ _, _, _, _, none⟩ :: _) _ _); refine vops_loadM tyOk rfl rfl rfl (by repeat (first | exact mem_here | apply mem_next | apply mem_past)) (by rfl) ?_))
  refine bs_dec (fun h => ?_) (fun h => ?_)
  · exfalso; omega
  repeat (first | refine vops_q tyOk rfl ?_ | refine vops_nil ?_ | refine vw_seq ?_ | refine vw_region (by kernel_rfl) ?_ | refine vw_skip ?_ | refine vw_ret ?_ | refine vops_mkf rfl ?_)
  exact out1 rfl rfl (by simp [ids, hne]) (fun _ h => h) ⟨b2, b3, rfl, rfl, hne⟩

set_option maxHeartbeats 1000000 in
set_option maxRecDepth 100000 in
theorem it_chunk3 (a : Option Addr) (m cap : Nat) (ha : m = 0 ∨ ∃ b o, a = some ⟨b, o, none⟩) (hcap : 3 * m ≤ cap) (hm : m ≤ 1048576) (b2 b3 : Nat) : Iter Tryd.prog 45 [.pointer (some ⟨b2, 0, none⟩), .pointer (some ⟨b3, 0, none⟩)] (chunkV3 a m) (ChunkCap3 (.slice a (3 * m) cap) b2 b3) := by
  intro Γ l J Jx own0 w hc hcp hdis h0 hy
  have hs : w.cell? ⟨b2, 0, none⟩ = some (.slice a (3 * m) cap) := cell_of_blk hcp (List.mem_cons_of_mem _ List.mem_cons_self) rfl
  have hn : w.cell? ⟨b3, 0, none⟩ = some (.int .i64 3) := cell_of_blk hcp List.mem_cons_self rfl
  have hd2 : b2 ∉ ids own0 := hdis b2 (by simp [ids, ChunkCap3])
  have hd3 : b3 ∉ ids own0 := hdis b3 (by simp [ids, ChunkCap3])
  have hlen := chunkV3_length a m
  refine calls_of_vwM Tryd.func45 rfl Tryd.ntmps45 (by simp) hc.ok ?_
  repeat (first | refine vops_q tyOk rfl ?_ | refine vops_nil ?_ | refine vw_seq ?_ | refine vw_region (by kernel_rfl) ?_ | refine vw_block ?_)
  refine vw_loop (fun y f own => ∃ i : Nat, i ≤ m ∧ y = m - i ∧ f 4 = .int .i64 ((3 * i : Nat) : Int) ∧ f 0 = .func (.yield l) #[] #[] ∧ f 1 = .pointer (some ⟨b2, 0, none⟩) ∧ f 2 = .pointer (some ⟨b3, 0, none⟩) ∧ J i own) m
    ⟨0, by omega, by omega, rfl, rfl, rfl, rfl, h0⟩ ?_
  rintro y f own ⟨i, hi, rfl, h4, h0', h1, h2, hJ⟩
  rw [upd_of h4, upd_of h0', upd_of h1, upd_of h2]
  repeat (first | refine vops_q tyOk rfl ?_ | refine vops_nil ?_ | refine vw_seq ?_ | refine vw_region (by kernel_rfl) ?_ | refine vw_cond rfl ?_ | refine vops_load tyOk rfl rfl rfl (sees_old hs hd2) ?_)
  refine bs_dec (fun hlt => ?_) (fun hlt => ?_)
  · have him : i < m := by omega
    obtain ⟨b, o, rfl⟩ : ∃ b o, a = some ⟨b, o, none⟩ := by
      rcases ha with h | h
      · omega
      · exact h
    repeat (first | refine vw_seq ?_ | refine vw_skip ?_ | refine vw_block ?_)
    refine vw_draw [0, 1, 2, 3, 4, 5, 6] (by kernel_rfl) (by kernel_rfl) (by kernel_rfl) rfl ?_
    repeat' (first | refine vd_q tyOk rfl (by first | trivial | rfl) rfl (by kernel_rfl) (by kernel_rfl) ?_ | refine vops_nil ?_ | refine vd_nil (by kernel_rfl) ?_ | refine ⟨fun _ _ _ h => h, ?_⟩ | refine vd_slice tyOk rfl (by first | trivial | rfl) rfl rfl rfl rfl rfl (by kernel_rfl) (by kernel_rfl) (by omega) ?_ | refine vd_load tyOk rfl (by first | trivial | rfl) rfl rfl rfl (by kernel_rfl) (by kernel_rfl) (by kernel_rfl) (sees_old hs hd2) (by repeat (first | exact sub_hereL | exact sub_refl | apply sub_cons | apply sub_app)) ?_ | refine vd_load tyOk rfl (by first | trivial | rfl) rfl rfl rfl (by kernel_rfl) (by kernel_rfl) (by kernel_rfl) (sees_old hn hd3) (by repeat (first | exact sub_hereL | exact sub_refl | apply sub_cons | apply sub_app)) ?_ | refine vops_min rfl rfl ?_ | refine vd_one rfl (by kernel_rfl) (by kernel_rfl) rfl ?_)
    have hmin : (if (((((3 * m : Nat) : Int)).toNat - (((3 * i : Nat) : Int)).toNat : Nat) : Int) < 3 then (((((3 * m : Nat) : Int)).toNat - (((3 * i : Nat) : Int)).toNat : Nat) : Int) else 3) = 3 := if_neg (by omega)
    rw [hmin]
    have hyk := hy _ _ (chunkV3_at him) own hJ
    repeat (first | refine vops_q tyOk rfl ?_ | refine vw_seq ?_ | refine vw_region (by kernel_rfl) ?_ | refine vops_p tyOk rfl (by (try simp only [inR]); omega) ?_ | refine vops_load tyOk rfl rfl rfl (sees_old hs hd2) ?_ | refine vops_partAt (3 * i) 3 tyOk rfl rfl rfl rfl rfl rfl rfl rfl (by omega) (by omega) (by omega) (by omega) ?_)
    refine vops_yield hc rfl rfl hyk (fun own' hJ' _ => ?_) (fun own' hJx hnd => ?_)
    · repeat (first | refine vops_q tyOk rfl ?_ | refine vops_nil ?_ | refine vw_region (by kernel_rfl) ?_ | with_reducible refine bs_ntrue ?_ | refine vops_p tyOk rfl (by (try simp only [inR]); omega) ?_ | refine vw_cond rfl ?_ | refine vw_skip ?_ | refine vops_load tyOk rfl rfl rfl (sees_old hn hd3) ?_)
      refine ⟨m - (i + 1), by omega, i + 1, by omega, rfl, ?_, rfl, rfl, rfl, hJ'⟩
      exact congrArg (Value.int .i64) (show ((3 * i : Nat) : Int) + 3 = ((3 * (i + 1) : Nat) : Int) by omega)
    · repeat (first | refine vops_q tyOk rfl ?_ | refine vops_nil ?_ | with_reducible refine bs_nfalse ?_ | refine vw_cond rfl ?_ | refine vw_ret ?_)
      exact outNoneR rfl hnd (fun _ h => h) (.inr hJx)
  · obtain rfl : i = m := by omega
    refine vw_nodup (fun hnd => ?_)
    repeat (first | refine vw_exit ?_)
    exact outNoneN rfl hnd (fun _ h => h) (.inl (by rw [hlen]; exact hJ))
end Go.Proofs.YtdgaabkgfbihpaaDoor

/- A part of the proof: V4. No conditions of its own. -/
namespace Go.Proofs.YtdgaabkgfbihpaaDoor
open Go.VL
attribute [local irreducible] VWr VOps VD Calls

/-- By how much the pairs have moved. -/
def movedM (t r : Nat) : Nat := if t % 2 = 0 ∧ t / 2 ≤ r then r + 1 else r
def roundsM (t : Nat) : Nat := t - 1 + t % 2
def seatM (t r i : Nat) : List Int := [(i : Int), ((t + (i + t - movedM t r) % t : Nat) : Int), (((i + r) % t : Nat) : Int)]
def rowM (t r : Nat) : Nat → List Int
  | 0 => []
  | k + 1 => rowM t r k ++ seatM t r k
def mvM (t : Nat) : List (Nat × List Int) := (List.range (roundsM t)).map fun r => (t, rowM t r t)

end Go.Proofs.YtdgaabkgfbihpaaDoor

/- A part of the proof: V5. No conditions of its own. -/
namespace Go.Proofs.YtdgaabkgfbihpaaDoor
open Go.VL
attribute [local irreducible] VWr VOps VD Calls

theorem rep_succ {R i : Nat} (h : i < R) : List.replicate (R - i) (Value.slice none 0 0) = .slice none 0 0 :: List.replicate (R - (i + 1)) (.slice none 0 0) := by
  rw [show R - i = (R - (i + 1)) + 1 by omega, List.replicate_succ]
set_option maxHeartbeats 4000000 in
set_option maxRecDepth 100000 in
theorem c_movementOf (T gS gN : Nat) (recv : Value) (P S : Int) (R : Nat) (m : Nat → Nat) (num : Nat → List Int) (w : World) (hR : R ≤ 14) (hm : ∀ r, m r ≤ 14) (hlen : ∀ r, r < R → (num r).length = 3 * m r)
    (eS : Ent Tryd.prog gS) (eN : Ent Tryd.prog gN)
    (mS : ∀ w, (Go.method (Tryd.prog.types.size + Made.depth) T recv "loop.example/g01379/impl.sizes").run Tryd.prog w = .ok (gS, recv) w)
    (mN : ∀ w, (Go.method (Tryd.prog.types.size + Made.depth) T recv "loop.example/g01379/impl.numbersIn").run Tryd.prog w = .ok (gN, recv) w)
    (hS : ∀ w', Fr [] w w' → Calls Tryd.prog gS [recv].toArray w' (Res w' (Is (.tuple #[.int .i64 P, .int .i64 S, .int .i64 R]))))
    (hNr : ∀ r, r < R → ∀ w', Fr [] w w' → Calls Tryd.prog gN [recv, .int .i64 r].toArray w' (Res w' (NewI 2 (num r)))) :
    Calls Tryd.prog 20 [.iface T recv].toArray w (Res w (NewMv P S ((List.range R).map fun r => (m r, num r)))) := by
  refine calls_of_vw Tryd.func20 rfl Tryd.ntmps20 (by simp) ?_
  refine vw_seq (vw_region (by kernel_rfl) (vops_allocZ [.int .i64 0, .int .i64 0, .slice none 0 0] tyOk rfl rfl (by simp) (fun b2 hb2 => ?_)))
  repeat (first | refine vops_q tyOk rfl ?_ | refine vops_nil ?_ | refine vw_seq ?_ | refine vw_region (by kernel_rfl) ?_)
  refine vops_invoke eS mS rfl rfl (fun w' hg => hS w' hg.fr) ?_
  rintro _ newT ⟨rfl, rfl⟩
  repeat (first | refine vops_q tyOk rfl ?_ | refine vops_nil ?_ | refine vw_seq ?_ | refine vw_region (by kernel_rfl) ?_)
  refine vops_make (n := R) tyOk rfl rfl (List.cons_ne_nil _ _) rfl rfl (by show 24 * _ ≤ _; omega) (by omega) (fun bt hbt => ?_)
  have hmade : (madeCells ([Value.slice none 0 0] : List Value).toArray (R * 1)).toList = List.replicate R (Value.slice none 0 0) := by
    rw [Nat.mul_one]; exact made_same _ 1 _ (by omega)
  rw [hmade]
  repeat (first | refine vops_q tyOk rfl ?_ | refine vops_nil ?_ | refine vw_seq ?_ | refine vw_region (by kernel_rfl) ?_ | refine vw_block ?_ | (show VOps _ _ _ _ (⟨some _, Go.Op.build 27 _, _, _, _, none⟩ :: _) _ _; refine vops_run (x_build #[.int .i64 P, .int .i64 S, .slice (some ⟨bt, 0, none⟩) R R] rfl (by kernel_rfl)) ?_) | refine vops_allocZ [.int .i64 0, .int .i64 0, .slice none 0 0] tyOk rfl rfl (by simp) (fun b6 hb6 => ?_) | ((show VOps _ _ _ _ (⟨some _, Go.Op.load _ _, _, _, _, none⟩ :: _) _ _); refine vops_loadM tyOk rfl rfl rfl (by repeat (first | exact mem_here | apply mem_next | apply mem_past)) (by rfl) ?_) | ((show VOps _ _ _ _ (⟨none, Go.Op.store _ _ _, _, _, _, none⟩ :: _) _ _); refine vops_storeAM tyOk rfl rfl rfl (by first | rfl | (rw [ints_length]; first | assumption | omega | (rw [ints_length]; first | assumption | omega | simp [*])) | simp [*]) (by first | exact ints_one | simp [Value.oneCell']) (by repeat (first | exact upd_here | apply upd_next | apply upd_past)) (by first | rfl | (rw [ints_length]; first | assumption | omega | (rw [ints_length]; first | assumption | omega | simp [*])) | simp [*]) ?_))
  refine vw_loopW (fun y f own => ∃ (i : Nat) (vs : List Value) (ns : List Own), i ≤ R ∧ y = R - i ∧ f 23 = .int .i64 i ∧ f 22 = .int .i64 R ∧ f 6 = .pointer (some ⟨b6, 0, none⟩) ∧ f 2 = .pointer (some ⟨b2, 0, none⟩) ∧ f 0 = .iface T recv ∧ RowsG (NF 49 3) ((List.range i).map fun r => (m r, num r)) vs ns ∧
      own = (bt, ⟨vs ++ List.replicate (R - i) (.slice none 0 0), 50, R * 1, none⟩) :: (ns.flatten ++ [(b6, ⟨[.int .i64 P, .int .i64 S, .slice (some ⟨bt, 0, none⟩) R R], 27, 3, none⟩), (b2, ⟨[.int .i64 0, .int .i64 0, .slice none 0 0], 27, 3, none⟩)])) R
    ⟨(bt, ⟨List.replicate R (.slice none 0 0), 50, R * 1, none⟩) :: (b6, ⟨[.int .i64 P, .int .i64 S, .slice (some ⟨bt, 0, none⟩) R R], 27, 3, none⟩) :: (b2, ⟨[.int .i64 0, .int .i64 0, .slice none 0 0], 27, 3, none⟩) :: [], (by repeat (first | exact ole_nil | exact ole_refl | (apply ole_cons; (repeat (first | exact pm1_here | apply pm1_next | apply pm1_past))) | (apply ole_app; (repeat (first | exact pm_here | exact pm_last | apply pm_next | apply pm_past))))), 0, [], [], by omega, by omega, rfl, rfl, rfl, rfl, rfl, trivial, by rw [List.nil_append, Nat.sub_zero]; rfl⟩ ?_
  rintro y f own ⟨i, vs, ns, hi, rfl, h23, h22, h6, h2, h0, hRw, rfl⟩
  rw [upd_of h23, upd_of h22, upd_of h6, upd_of h2, upd_of h0]
  have hvl : vs.length = i := by rw [hRw.len.1, List.length_map, List.length_range]
  repeat (first | refine vops_q tyOk rfl ?_ | refine vops_nil ?_ | refine vw_seq ?_ | refine vw_region (by kernel_rfl) ?_ | refine vw_cond rfl ?_)
  refine bs_dec (fun hlt => ?_) (fun hlt => ?_)
  · have hiR : i < R := by omega
    repeat (first | refine vops_q tyOk rfl ?_ | refine vops_nil ?_ | refine vw_seq ?_ | refine vw_region (by kernel_rfl) ?_ | refine vw_skip ?_ | refine vw_block ?_ | refine vops_allocZ [.int .i64 0] tyOk rfl rfl (by simp) (fun b7 hb7 => ?_) | ((show VOps _ _ _ _ (⟨some _, Go.Op.load _ _, _, _, _, none⟩ :: _) _ _); refine vops_loadM tyOk rfl rfl rfl (by repeat (first | exact mem_here | apply mem_next | apply mem_past)) (by rfl) ?_) | ((show VOps _ _ _ _ (⟨none, Go.Op.store _ _ _, _, _, _, none⟩ :: _) _ _); refine vops_storeM tyOk rfl rfl rfl rfl rfl (by repeat (first | exact upd_here | apply upd_next | apply upd_past)) (by simp) ?_))
    refine vops_invoke eN mN rfl rfl (fun w' hg => hNr i hiR w' hg.fr) ?_
    rintro _ newL hL
    obtain ⟨pL, cL, rfl⟩ := SlAt.form hL
    have hli := hlen i hiR
    have hmi := hm i
    rw [hli]
    have hLc : (pL = none ∧ m i = 0) ∨ ∃ bL, pL = some ⟨bL, 0, none⟩ ∧ newL = [(bL, ⟨ints (num i), 2, cL * 1, none⟩)] ∧ 3 * m i ≤ cL := by
      rcases hL.2 with ⟨e1, e2, _⟩ | ⟨bL, c, e1, e2, _, e4⟩
      · injection e1 with e1 _ _; exact .inl ⟨e1, by omega⟩
      · injection e1 with e1 _ e3; subst e3; exact .inr ⟨bL, e1, e4, by omega⟩
    have hcap : 3 * m i ≤ cL := by rcases hLc with ⟨_, h⟩ | ⟨_, _, _, h⟩ <;> omega
    have ha : m i = 0 ∨ ∃ b o, pL = some ⟨b, o, none⟩ := by
      rcases hLc with ⟨_, h⟩ | ⟨bL, h, _⟩
      · exact .inl h
      · exact .inr ⟨bL, 0, h⟩
    repeat (first | refine vops_nil ?_ | refine vw_block ?_ | (apply vops_call ent34 rfl; (intro w' hg; exact c_chunk3 pL (3 * m i) cL w'); (rintro _ newC ⟨b8, b9, rfl, rfl, hne⟩)))
    refine vw_rangeFunc (ts := [30]) (own0 := newL ++ ((b7, ⟨[.int .i64 i], 3, 1, none⟩) :: (bt, ⟨vs ++ List.replicate (R - i) (.slice none 0 0), 50, R * 1, none⟩) :: (ns.flatten ++ [(b6, ⟨[.int .i64 P, .int .i64 S, .slice (some ⟨bt, 0, none⟩) R R], 27, 3, none⟩), (b2, ⟨[.int .i64 0, .int .i64 0, .slice none 0 0], 27, 3, none⟩)]))) (cap := ChunkCap3 (.slice pL (3 * m i) cL) b8 b9) rfl ent45 (it_chunk3 pL (m i) cL ha hcap (by omega) b8 b9) List.perm_append_comm (by simp) (fun x hx => by
        obtain ⟨q, _, rfl⟩ := List.mem_map.1 hx; rfl)
      (fun q own => ∃ (p : Option Addr) (c : Nat) (X : Own), NewF 49 3 q ((num i).take (3 * q)) (.slice p q c) X ∧ own = X ++ (newL ++ ((b7, ⟨[.int .i64 i], 3, 1, none⟩) :: (bt, ⟨vs ++ .slice p q c :: List.replicate (R - (i + 1)) (.slice none 0 0), 50, R * 1, none⟩) :: (ns.flatten ++ [(b6, ⟨[.int .i64 P, .int .i64 S, .slice (some ⟨bt, 0, none⟩) R R], 27, 3, none⟩), (b2, ⟨[.int .i64 0, .int .i64 0, .slice none 0 0], 27, 3, none⟩)]))))
      (fun _ _ => False) ⟨none, 0, [], SlAt.nil, by rw [rep_succ hiR]; rfl⟩ ?_ ?_ (fun c o h => h.elim)
    · rintro l q x ownc w1 hx ⟨pX, cX, X, hX, rfl⟩ hg1
      have hqm : q < m i := by have := (List.getElem?_eq_some_iff.1 hx).1; rwa [chunkV3_length] at this
      rw [chunkV3_at hqm] at hx
      obtain rfl : [partV3 pL q] = x := Option.some.inj hx
      obtain ⟨bL, rfl, rfl, hcL⟩ : ∃ bL, pL = some ⟨bL, 0, none⟩ ∧ newL = [(bL, ⟨ints (num i), 2, cL * 1, none⟩)] ∧ 3 * m i ≤ cL := by
        rcases hLc with ⟨_, h⟩ | h
        · omega
        · exact h
      have hpart : partV3 (some ⟨bL, 0, none⟩) q = .slice (some ⟨bL, 0 + 3 * q, none⟩) 3 3 := rfl
      simp only [updL, hpart]
      repeat (first | refine vops_q tyOk rfl ?_ | refine vops_nil ?_ | refine vw_region (by kernel_rfl) ?_)
      intro w2 hg2
      refine vw_block ?_
      have hrow : (num i).take (3 * (q + 1)) = (num i).take (3 * q) ++ tri (num i) q := by
        rw [show 3 * (q + 1) = 3 * q + 1 + 1 + 1 by omega, take_snoc (by omega), take_snoc (by omega), take_snoc (by omega), tri, show q * 3 = 3 * q by omega]
        simp
      have hcell : ∀ j v, (ints (tri (num i) q))[j]? = some v → (ints (num i))[3 * q + j]? = some v := fun j v hj => by
        match j, hj with
        | 0, hj => cases hj; rw [show q * 3 = 3 * q by omega]; exact ints_get (by omega)
        | 1, hj => cases hj; rw [show q * 3 = 3 * q by omega]; exact ints_get (by omega)
        | 2, hj => cases hj; rw [show q * 3 = 3 * q by omega]; exact ints_get (by omega)
      have htl : (tri (num i) q).length = 3 := rfl
      generalize tri (num i) q = tr at *
      have hva : (vs ++ .slice pX q cX :: List.replicate (R - (i + 1)) (Value.slice none 0 0))[0 + (i : Int).toNat]? = some (.slice pX q cX) := by
        rw [show 0 + (i : Int).toNat = i by omega, List.getElem?_append_right (by omega), hvl, Nat.sub_self]; rfl
      refine vw_drawB _ [0, 1, 2, 3, 4, 5, 6, 7, 8, 9, 10, 11, 12, 13, 14] (by kernel_rfl) (by kernel_rfl) (by kernel_rfl) rfl (by exact ole_sfx) ?_
      repeat' (first | refine vd_q tyOk rfl (by first | trivial | rfl) rfl (by kernel_rfl) (by kernel_rfl) ?_ | refine vd_p tyOk rfl (by first | trivial | rfl) rfl (by kernel_rfl) (by kernel_rfl) (by (try simp only [inR]); omega) ?_ | refine vops_nil ?_ | refine vd_nil (by kernel_rfl) ?_ | refine ⟨fun _ _ _ h => List.mem_cons_of_mem _ h, ?_⟩ | refine vd_load tyOk rfl (by first | trivial | rfl) rfl rfl rfl (by kernel_rfl) (by kernel_rfl) (by kernel_rfl) (sees_mem (by repeat (first | exact mem_here | apply mem_next | apply mem_past)) (by rfl)) (by repeat (first | exact sub_hereL | exact sub_refl | apply sub_cons | apply sub_app)) ?_ | refine ⟨fun h => Bool.noConfusion (show false = true from h), ?_⟩ | refine ⟨fun _ p hp _ => (show Go.VL.Sub _ _ from (by repeat (first | exact sub_hereL | exact sub_refl | apply sub_cons | apply sub_app))) p hp, ?_⟩ | refine vd_load tyOk rfl (by first | trivial | rfl) rfl rfl rfl (by kernel_rfl) (by kernel_rfl) (by kernel_rfl) (sees_mem (by repeat (first | exact mem_here | apply mem_next | apply mem_past)) (by exact hva)) (by repeat (first | exact sub_hereL | exact sub_refl | apply sub_cons | apply sub_app)) ?_ | refine vd_arrAt tyOk rfl (by first | trivial | rfl) rfl rfl (by omega) (by kernel_rfl) (by kernel_rfl) ?_ | refine vd_loadN tyOk (ints tr) rfl (by first | trivial | rfl) rfl rfl rfl (by rw [ints_length, htl]) (by kernel_rfl) (by kernel_rfl) (by kernel_rfl) (fun j x hx => sees_mem (by repeat (first | exact mem_here | apply mem_next | apply mem_past)) (by have := hcell j x hx; rw [show 0 + 3 * q + j = 3 * q + j by omega]; exact this)) (by repeat (first | exact sub_hereL | exact sub_refl | apply sub_cons | apply sub_app)) ?_ | refine vops_litR (k := 3) tyOk rfl rfl (List.cons_ne_nil _ _) rfl htl rfl (by omega) (by omega) (fun be hbe => ?_) | refine vops_append1 (k := 3) tyOk rfl rfl (List.cons_ne_nil _ _) rfl rfl (by decide) rfl hX (by repeat (first | exact pm_here | exact pm_last | apply pm_next | apply pm_past)) rfl (by repeat (first | exact mem_here | apply mem_next | apply mem_past)) htl (by omega) (fun p' cap' new' hN' => ?_) | refine vops_storeM tyOk rfl rfl rfl rfl rfl (by repeat (first | exact upd_here | apply upd_next | apply upd_past)) (by rw [List.length_append, List.length_cons, List.length_replicate]; omega) ?_ | refine vd_one rfl (by kernel_rfl) (by kernel_rfl) rfl ?_)
      have hset : (vs ++ .slice pX q cX :: List.replicate (R - (i + 1)) (Value.slice none 0 0)).set (0 + (i : Int).toNat) (.slice p' (q + 1) cap') = vs ++ .slice p' (q + 1) cap' :: List.replicate (R - (i + 1)) (Value.slice none 0 0) := by
        rw [show 0 + (i : Int).toNat = i by omega, set_next hvl, List.append_assoc]; rfl
      rw [hset]
      exact ⟨new' ++ ([(bL, ⟨ints (num i), 2, cL * 1, none⟩)] ++ ((b7, ⟨[.int .i64 i], 3, 1, none⟩) :: (bt, ⟨vs ++ .slice p' (q + 1) cap' :: List.replicate (R - (i + 1)) (.slice none 0 0), 50, R * 1, none⟩) :: (ns.flatten ++ [(b6, ⟨[.int .i64 P, .int .i64 S, .slice (some ⟨bt, 0, none⟩) R R], 27, 3, none⟩), (b2, ⟨[.int .i64 0, .int .i64 0, .slice none 0 0], 27, 3, none⟩)]))), (by repeat (first | exact ole_nil | exact ole_refl | (apply ole_cons; (repeat (first | exact pm1_here | apply pm1_next | apply pm1_past))) | (apply ole_app; (repeat (first | exact pm_here | exact pm_last | apply pm_next | apply pm_past))))), p', cap', new', by rw [hrow]; exact hN', rfl⟩
    · rintro own' ⟨pX, cX, X, hX, rfl⟩
      rw [chunkV3_length] at hX ⊢
      rw [List.append_assoc, List.append_assoc, List.cons_append, List.cons_append, List.append_assoc]
      rw [List.take_of_length_le (by omega)] at hX
      repeat (first | refine vops_q tyOk rfl ?_ | refine vops_nil ?_ | refine vw_region (by kernel_rfl) ?_ | refine vops_p tyOk rfl (by (try simp only [inR]); omega) ?_)
      have hst : ((List.range (i + 1)).map fun r => (m r, num r)) = ((List.range i).map fun r => (m r, num r)) ++ [(m i, num i)] := by simp [List.range_succ]
      refine ⟨R - (i + 1), by omega, (bt, ⟨vs ++ .slice pX (m i) cX :: List.replicate (R - (i + 1)) (.slice none 0 0), 50, R * 1, none⟩) :: (ns.flatten ++ (X ++ [(b6, ⟨[.int .i64 P, .int .i64 S, .slice (some ⟨bt, 0, none⟩) R R], 27, 3, none⟩), (b2, ⟨[.int .i64 0, .int .i64 0, .slice none 0 0], 27, 3, none⟩)])), (by repeat (first | exact ole_nil | exact ole_refl | (apply ole_cons; (repeat (first | exact pm1_here | apply pm1_next | apply pm1_past))) | (apply ole_app; (repeat (first | exact pm_here | exact pm_last | apply pm_next | apply pm_past))))), i + 1, vs ++ [.slice pX (m i) cX], ns ++ [X], by omega, rfl, rfl, rfl, rfl, rfl, rfl, ?_, ?_⟩
      · rw [hst]; exact RowsG.snoc (l := (m i, num i)) hX hRw
      · rw [flat_snoc, List.append_assoc, List.append_assoc]; rfl
  · obtain rfl : R = i := by omega
    rw [Nat.sub_self, List.replicate_zero, List.append_nil]
    refine vw_nodup (fun hnd => ?_)
    repeat (first | refine vops_nil ?_ | refine vw_seq ?_ | refine vw_region (by kernel_rfl) ?_ | refine vw_ret ?_ | refine vw_exit ?_ | ((show VOps _ _ _ _ (⟨some _, Go.Op.load _ _, _, _, _, none⟩ :: _) _ _); refine vops_loadNM tyOk rfl rfl rfl (by repeat (first | exact mem_here | apply mem_next | apply mem_past)) (by first | rfl | (rw [ints_length]; first | assumption | omega | (rw [ints_length]; first | assumption | omega | simp [*])) | simp [*]) ?_) | ((show VOps _ _ _ _ (⟨none, Go.Op.store _ _ _, _, _, _, none⟩ :: _) _ _); refine vops_storeAM tyOk rfl rfl rfl (by first | rfl | (rw [ints_length]; first | assumption | omega | (rw [ints_length]; first | assumption | omega | simp [*])) | simp [*]) (by first | exact ints_one | simp [Value.oneCell']) (by repeat (first | exact upd_here | apply upd_next | apply upd_past)) (by first | rfl | (rw [ints_length]; first | assumption | omega | (rw [ints_length]; first | assumption | omega | simp [*])) | simp [*]) ?_))
    refine ⟨_, (bt, ⟨vs, 50, R * 1, none⟩) :: ns.flatten, rv_cell (cs := [.int .i64 P, .int .i64 S, .slice (some ⟨bt, 0, none⟩) R R]) tyOk rfl rfl rfl rfl rfl (fun j v hj => by rw [Nat.zero_add]; exact sees_mem (by repeat (first | exact mem_here | apply mem_next | apply mem_past)) hj), nodup_sub hnd (List.Sublist.cons_cons _ (List.sublist_append_left _ _)), ?_, .slice (some ⟨bt, 0, none⟩) R R, rfl, vs, ns, [(bt, ⟨vs, 50, R * 1, none⟩)], hRw, ?_, rfl⟩
    · exact fun q hq => by
        rcases List.mem_cons.1 hq with rfl | h
        · exact List.mem_cons_self
        · exact List.mem_cons_of_mem _ (List.mem_append_left _ h)
    · rw [List.length_map, List.length_range]
      exact ⟨by omega, .inr ⟨bt, R, rfl, Nat.le_refl _, by simp only [maxLen]; omega, rfl⟩⟩
end Go.Proofs.YtdgaabkgfbihpaaDoor

/- A part of the proof: V6. No conditions of its own. -/
namespace Go.Proofs.YtdgaabkgfbihpaaDoor
open Go.VL
attribute [local irreducible] VWr VOps VD Calls

def mitchR (t : Int) : (Int × Int × List (Nat × List Int)) × Int := if 2 ≤ t ∧ t ≤ 7 then ((2 * t, t, mvM t.toNat), 0) else ((0, 0, []), 2)
/-- Two results: a movement, and a code. -/
def PairMv (r : (Int × Int × List (Nat × List Int)) × Int) (v : Value) (new : Own) : Prop := ∃ u, v = .tuple #[.agg #[.int .i64 r.1.1, .int .i64 r.1.2.1, u], .int .i64 r.2] ∧ NewFF 50 49 3 r.1.2.2 u new
end Go.Proofs.YtdgaabkgfbihpaaDoor

/- A part of the proof: V7. No conditions of its own. -/
namespace Go.Proofs.YtdgaabkgfbihpaaDoor
open Go.VL
attribute [local irreducible] VWr VOps VD Calls

theorem c_l03ModM (x m : Int) (h0 : -m < x) (h1 : x < m) (h3 : 2 ≤ m) (h13 : m ≤ 13) (w : World) : Calls Tryd.prog 27 [Value.int .i64 x, .int .i64 m].toArray w (Res w (Is (.int .i64 ((x + m) % m)))) := by
  have ht : x.tmod m = x := by
    rcases Int.le_total 0 x with h | h
    · exact Int.tmod_eq_of_lt h h1
    · have := Int.tmod_eq_of_lt (a := -x) (b := m) (by omega) (by omega)
      rw [Int.neg_tmod] at this; omega
  refine calls_of_vw Tryd.func27 rfl Tryd.ntmps27 (by simp) ?_
  repeat (first | refine vops_q tyOk rfl ?_ | refine vops_nil ?_ | refine vw_seq ?_ | refine vw_region (by kernel_rfl) ?_)
  refine vops_remT rfl rfl (by omega) ?_
  rw [ht]
  repeat (first | refine vops_q tyOk rfl ?_ | refine vops_nil ?_ | refine vops_p tyOk rfl (by (try simp only [inR]); omega) ?_ | refine vw_ret ?_)
  exact rv_int rfl rfl rfl
def mvTo (t k : Nat) : List (Nat × List Int) := (List.range k).map fun r => (t, rowM t r t)
end Go.Proofs.YtdgaabkgfbihpaaDoor

/- A part of the proof: V8. No conditions of its own. -/
namespace Go.Proofs.YtdgaabkgfbihpaaDoor
open Go.VL
attribute [local irreducible] VWr VOps VD Calls

theorem mvW {P : Program} {fn : Nat} {args : Array Value} {w : World} {r : (Int × Int × List (Nat × List Int)) × Int} {p s c : Int} {xs : List (Nat × List Int)} (h : Calls P fn args w (Res w (PairMv r))) (hr : r = ((p, s, xs), c)) :
    Calls P fn args w (Res w (fun v new => ∃ pu cu, v = .tuple #[.agg #[.int .i64 p, .int .i64 s, .slice pu xs.length cu], .int .i64 c] ∧ NewFF 50 49 3 xs (.slice pu xs.length cu) new)) := by
  subst hr
  refine h.mono ?_
  rintro e w' ⟨v, new, h1, h2, h3, h4, u, rfl, hM⟩
  obtain ⟨pu, cu, rfl⟩ := NewG.form hM
  exact ⟨_, new, h1, h2, h3, h4, pu, cu, rfl, hM⟩

end Go.Proofs.YtdgaabkgfbihpaaDoor

