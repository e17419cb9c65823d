import Derived.Test.YtlfflmoegfibgaaSY
import Derived.Test.YtlfflmoegfibgaaVLSrc
import Derived.Test.YtlfflmoegfibgaaVLA
import Derived.Test.YtlfflmoegfibgaaSX
/- Parts of the proof, one after another. No conditions of their own. -/
/- A part of the proof: PS1. No conditions of its own. -/
namespace Go.Proofs.Ytlfflmoegfibgaa
open Go.VL
attribute [local irreducible] VWr VOps VD Calls

/-- The byteVals lie where nobody writes. -/
def RdB' (w : World) (own : Own) (a : Option Addr) (cs : List Nat) : Prop := cs = [] ∨ ∃ b o, a = some ⟨b, o, none⟩ ∧ b ∉ ids own ∧ ∀ (j : Nat) x, (byteVals cs)[j]? = some x → w.cell? ⟨b, o + j, none⟩ = some x
/-- A source that has handed out the byteVals before i. -/
def Src (b : Nat) (a : Option Addr) (n cap : Nat) (i h : Int) : Own := [(b, srcBlk 170 a n cap i h)]
def SrcTo (b : Nat) (a : Option Addr) (n cap : Nat) (own : Own) : Prop := ∃ i h : Int, 0 ≤ i ∧ i ≤ n ∧ 0 ≤ h ∧ h < 18446744073709551616 ∧ own = Src b a n cap i h

set_option maxHeartbeats 2000000 in
set_option maxRecDepth 100000 in
theorem c_l01Next (b : Nat) (a : Option Addr) (cs : List Nat) (cap : Nat) (i h m : Int) (w : World) (ho : OwnOk (Src b a cs.length cap i h) w) (hB : RdB' w (Src b a cs.length cap i h) a cs) (hcs : ∀ c ∈ cs, c < 256) (hl : cs.length ≤ 1048576)
    (hi : 0 ≤ i) (hi2 : i ≤ cs.length) (hh : 0 ≤ h) (hh2 : h < 18446744073709551616) (hm : m ≤ 1048576) :
    Calls Try.prog 123 [.pointer (some ⟨b, 0, none⟩), .int .i64 m].toArray w (ResM w (Src b a cs.length cap i h) (fun v new => ∃ x : Int, v = .int .i64 x ∧ 0 ≤ x ∧ (x < m ∨ x = 0) ∧ SrcTo b a cs.length cap new)) := by
  refine calls_of_vwM Try.func123 rfl Try.ntmps123 (by simp) ho ?_
  unfold Src srcBlk
  repeat (first | refine vops_q tyOk rfl ?_ | refine vops_nil ?_ | refine vw_seq ?_ | refine vw_region (by kernel_rfl) ?_ | refine vw_cond rfl ?_)
  refine bs_dec (fun hlt => ?_) (fun hlt => ?_)
  · refine vw_nodup (fun hnd => ?_)
    repeat (first | refine vops_q tyOk rfl ?_ | refine vops_nil ?_ | refine vw_seq ?_ | refine vw_region (by kernel_rfl) ?_ | refine vw_ret ?_)
    exact out1 rfl rfl hnd (fun _ h => h) ⟨0, rfl, by omega, .inr rfl, i, h, hi, hi2, hh, hh2, rfl⟩
  repeat (first | refine vops_q tyOk rfl ?_ | refine vops_nil ?_ | refine vw_seq ?_ | refine vw_region (by kernel_rfl) ?_ | refine vops_p tyOk rfl (by (try simp only [inR]); omega) ?_ | refine vw_skip ?_ | refine vops_mulU rfl rfl (fun z1 hz1 hz1' => ?_) | refine vops_addU rfl rfl (fun z2 hz2 hz2' => ?_) | refine vops_shrU rfl rfl (by omega) (by omega) (by omega) (fun z3 hz3 hz3' => ?_) | refine vops_andU rfl rfl (by omega) (by omega) (fun z4 hz4 hz4' => ?_) | ((show VOps _ _ _ _ (⟨some _, Go.Op.load _ _, _, _, _, none⟩ :: _) _ _); refine vops_loadM tyOk rfl rfl rfl (by repeat (first | exact mem_here | apply mem_next | apply mem_past)) (by rfl) ?_) | ((show VOps _ _ _ _ (⟨none, Go.Op.store _ _ _, _, _, _, none⟩ :: _) _ _); refine vops_storeM tyOk rfl rfl rfl rfl rfl (by repeat (first | exact upd_here | apply upd_next | apply upd_past)) (by simp) ?_))
  refine vw_draw [0, 1, 2, 3, 4, 5, 6, 7, 8, 9] (by kernel_rfl) (by kernel_rfl) (by kernel_rfl) rfl ?_
  repeat' (first | refine vd_q tyOk rfl (by first | trivial | rfl) rfl (by kernel_rfl) (by kernel_rfl) ?_ | refine vd_nil (by kernel_rfl) ?_ | refine vd_load tyOk rfl (by first | trivial | rfl) rfl rfl rfl (by kernel_rfl) (by kernel_rfl) (by kernel_rfl) (sees_mem (by repeat (first | exact mem_here | apply mem_next | apply mem_past)) (by rfl)) (by repeat (first | exact sub_hereL | exact sub_refl | apply sub_cons | apply sub_app)) ?_)
  repeat (first | refine vw_cond rfl ?_)
  refine bs_dec (fun hlt2 => ?_) (fun hlt2 => ?_)
  · obtain ⟨c, hc⟩ : ∃ c, cs[i.toNat]? = some c := ⟨_, List.getElem?_eq_getElem (by omega)⟩
    have hc256 := hcs c (List.mem_of_getElem? hc)
    rcases hB with hB | ⟨b2, o2, rfl, hb2, hcell⟩
    · rw [hB] at hc; cases hc
    have hbyte := hcell i.toNat (.int .u8 (c : Int)) (by unfold byteVals; rw [List.getElem?_map, hc]; rfl)
    repeat (first | refine vw_seq ?_)
    refine vw_draw [0, 1, 2, 3, 4, 5, 6, 7, 8, 9, 10, 11, 12, 13] (by kernel_rfl) (by kernel_rfl) (by kernel_rfl) rfl ?_
    repeat' (first | refine vd_q tyOk rfl (by first | trivial | rfl) rfl (by kernel_rfl) (by kernel_rfl) ?_ | refine vd_p tyOk rfl (by first | trivial | rfl) rfl (by kernel_rfl) (by kernel_rfl) (by (try simp only [inR]); omega) ?_ | refine vd_nil (by kernel_rfl) ?_ | refine vd_load tyOk rfl (by first | trivial | rfl) rfl rfl rfl (by kernel_rfl) (by kernel_rfl) (by kernel_rfl) (sees_mem (by repeat (first | exact mem_here | apply mem_next | apply mem_past)) (by rfl)) (by repeat (first | exact sub_hereL | exact sub_refl | apply sub_cons | apply sub_app)) ?_ | refine vd_load tyOk rfl (by first | trivial | rfl) rfl rfl rfl (by kernel_rfl) (by kernel_rfl) (by kernel_rfl) (sees_old hbyte hb2) (by repeat (first | exact sub_hereL | exact sub_refl | apply sub_cons | apply sub_app)) ?_)
    repeat (first | refine vops_q tyOk rfl ?_ | refine vops_nil ?_ | refine vw_seq ?_ | refine vw_region (by kernel_rfl) ?_ | refine vops_p tyOk rfl (by (try simp only [inR]); omega) ?_ | refine vw_ret ?_ | ((show VOps _ _ _ _ (⟨some _, Go.Op.load _ _, _, _, _, none⟩ :: _) _ _); refine vops_loadM tyOk rfl rfl rfl (by repeat (first | exact mem_here | apply mem_next | apply mem_past)) (by rfl) ?_) | ((show VOps _ _ _ _ (⟨none, Go.Op.store _ _ _, _, _, _, none⟩ :: _) _ _); refine vops_storeM tyOk rfl rfl rfl rfl rfl (by repeat (first | exact upd_here | apply upd_next | apply upd_past)) (by simp) ?_))
    exact out1 (new := Src b (some ⟨b2, o2, none⟩) cs.length cap (i + 1) z2) rfl rfl (by simp [Src, ids]) (fun _ h => h) ⟨(z4 + c) % m, rfl, Int.emod_nonneg _ (by omega), .inl (Int.emod_lt_of_pos _ (by omega)), i + 1, z2, by omega, by omega, hz2, hz2', rfl⟩
  · repeat (first | refine vops_q tyOk rfl ?_ | refine vops_nil ?_ | refine vw_seq ?_ | refine vw_region (by kernel_rfl) ?_ | refine vops_p tyOk rfl (by (try simp only [inR]); omega) ?_ | refine vw_skip ?_ | refine vw_ret ?_)
    exact out1 (new := Src b a cs.length cap i z2) rfl rfl (by simp [Src, ids]) (fun _ h => h) ⟨z4 % m, rfl, Int.emod_nonneg _ (by omega), .inl (Int.emod_lt_of_pos _ (by omega)), i, z2, hi, hi2, hz2, hz2', rfl⟩
end Go.Proofs.Ytlfflmoegfibgaa

/- A part of the proof: PS2. No conditions of its own. -/
namespace Go.Proofs.Ytlfflmoegfibgaa
open Go.VL
attribute [local irreducible] VWr VOps VD Calls

theorem RdB'.next {w w' : World} {b : Nat} {own : Own} {a : Option Addr} {cs : List Nat} {n n' cap cap' : Nat} {i i' h h' : Int} {a1 a2 : Option Addr} (hB : RdB' w (Src b a1 n cap i h) a cs) (hg : Go.VL.Good ⟨w, ids (Src b a1 n cap i h)⟩ own w') : RdB' w' (Src b a2 n' cap' i' h') a cs := by
  rcases hB with hB | ⟨b2, o, h1, h2, h3⟩
  · exact .inl hB
  · exact .inr ⟨b2, o, h1, h2, fun j x hx => hg.fr.cell h2 (h3 j x hx)⟩
/-- What a source needs. -/
structure SrcIn (w : World) (b : Nat) (a : Option Addr) (cs : List Nat) (cap : Nat) (i h : Int) : Prop where
  ok : OwnOk (Src b a cs.length cap i h) w
  rd : RdB' w (Src b a cs.length cap i h) a cs
  byte : ∀ c ∈ cs, c < 256
  len : cs.length ≤ 1048576
  i0 : 0 ≤ i
  i1 : i ≤ cs.length
  h0 : 0 ≤ h
  h1 : h < 18446744073709551616
theorem SrcIn.next {w w' : World} {b : Nat} {R : Own} {a : Option Addr} {cs : List Nat} {cap : Nat} {i i' h h' : Int} (hS : SrcIn w b a cs cap i h) (hg : Go.VL.Good ⟨w, ids (Src b a cs.length cap i h)⟩ (Src b a cs.length cap i' h' ++ R) w') (hi : 0 ≤ i') (hi2 : i' ≤ cs.length) (hh : 0 ≤ h') (hh2 : h' < 18446744073709551616) : SrcIn w' b a cs cap i' h' :=
  ⟨okS hg, hS.rd.next hg, hS.byte, hS.len, hi, hi2, hh, hh2⟩
theorem c_next {b : Nat} {a : Option Addr} {cs : List Nat} {cap : Nat} {i h : Int} {w : World} (hS : SrcIn w b a cs cap i h) {m : Int} (hm : m ≤ 1048576) :
    Calls Try.prog 123 [.pointer (some ⟨b, 0, none⟩), .int .i64 m].toArray w (ResM w (Src b a cs.length cap i h) (fun v new => ∃ x : Int, v = .int .i64 x ∧ 0 ≤ x ∧ (x < m ∨ x = 0) ∧ SrcTo b a cs.length cap new)) :=
  c_l01Next b a cs cap i h m w hS.ok hS.rd hS.byte hS.len hS.i0 hS.i1 hS.h0 hS.h1 hm

set_option maxHeartbeats 2000000 in
set_option maxRecDepth 100000 in
theorem c_l01Pick (b : Nat) (a : Option Addr) (cs : List Nat) (cap : Nat) (i h : Int) (bl : Nat) (l : List Int) (cl : Nat) (w : World) (hS : SrcIn w b a cs cap i h) (hl : 0 < l.length) (hl2 : l.length ≤ 1048576) (hne : bl ≠ b) (hL : ∀ (j : Nat) x, (ints l)[j]? = some x → w.cell? ⟨bl, 0 + j, none⟩ = some x) :
    Calls Try.prog 121 [.pointer (some ⟨b, 0, none⟩), .slice (some ⟨bl, 0, none⟩) l.length cl].toArray w (ResM w (Src b a cs.length cap i h) (fun v new => ∃ x ∈ l, v = .int .i64 x ∧ SrcTo b a cs.length cap new)) := by
  have hbl : bl ∉ ids (Src b a cs.length cap i h) := by simp [Src, ids, hne]
  refine calls_of_vwM Try.func121 rfl Try.ntmps121 (by simp) hS.ok ?_
  repeat (first | refine vops_q tyOk rfl ?_ | refine vops_nil ?_ | refine vw_seq ?_ | refine vw_region (by kernel_rfl) ?_ | refine vops_p tyOk rfl (by (try simp only [inR]); omega) ?_ | (apply vops_callM ent123 rfl; (case h => (intro w' hg; exact c_next (hS.next hg hS.i0 hS.i1 hS.h0 hS.h1) (by omega))); (case hp => (repeat (first | exact pm_here | exact pm_last | apply pm_next | apply pm_past))); (rintro _ newM ⟨x, rfl, hx0, hx1, i', h', hi1, hi2, hh1, hh2, rfl⟩)))
  have hxl : x.toNat < l.length := by omega
  have hcell := hL x.toNat (.int .i64 (l.getD x.toNat 0)) (ints_get hxl)
  repeat (first | refine vops_q tyOk rfl ?_ | refine vops_nil ?_ | refine vw_ret ?_ | refine vops_load tyOk rfl rfl rfl (sees_old hcell hbl) ?_)
  exact out1 (new := Src b a cs.length cap i' h') rfl rfl (by simp [Src, ids]) (fun _ h => List.mem_append_left _ h) ⟨l.getD x.toNat 0, getD_mem hxl, rfl, i', h', hi1, hi2, hh1, hh2, rfl⟩
end Go.Proofs.Ytlfflmoegfibgaa

/- A part of the proof: PS3. No conditions of its own. -/
namespace Go.Proofs.Ytlfflmoegfibgaa
open Go.VL
attribute [local irreducible] VWr VOps VD Calls

/-- Where the source b may be asked. -/
structure SrcCtx (Γ : Ctx) (b : Nat) (a : Option Addr) (cs : List Nat) : Prop where
  byte : ∀ c ∈ cs, c < 256
  len : cs.length ≤ 1048576
  rd : ∀ (own : Own) (w : World), Go.VL.Good Γ own w → b ∈ ids own → cs = [] ∨ ∃ b2 o, a = some ⟨b2, o, none⟩ ∧ b2 ≠ b ∧ ∀ (j : Nat) x, (byteVals cs)[j]? = some x → w.cell? ⟨b2, o + j, none⟩ = some x
theorem SrcIn.ctx {w : World} {b : Nat} {a : Option Addr} {cs : List Nat} {cap : Nat} {i h : Int} (hS : SrcIn w b a cs cap i h) : SrcCtx ⟨w, ids (Src b a cs.length cap i h)⟩ b a cs :=
  ⟨hS.byte, hS.len, fun own w' hg _ => by
    rcases hS.rd with hB | ⟨b2, o, h1, h2, h3⟩
    · exact .inl hB
    · exact .inr ⟨b2, o, h1, fun e => h2 (by rw [e]; simp [Src, ids]), fun j x hx => hg.fr.cell h2 (h3 j x hx)⟩⟩
theorem SrcCtx.fresh {w : World} {b : Nat} {a : Option Addr} {cs : List Nat} (hB : RdB w a cs) (hb : ∀ c ∈ cs, c < 256) (hl : cs.length ≤ 1048576) : SrcCtx ⟨w, []⟩ b a cs :=
  ⟨hb, hl, fun own w' hg hm => by
    by_cases hc : cs = []
    · exact .inl hc
    rcases hB with hB | ⟨b2, o, h1, h3⟩
    · exact .inl hB
    · refine .inr ⟨b2, o, h1, fun e => ?_, fun j x hx => hg.fr.cell (by simp) (h3 j x hx)⟩
      obtain ⟨c, t, rfl⟩ : ∃ c t, cs = c :: t := by
        cases cs with
        | nil => exact absurd rfl hc
        | cons c t => exact ⟨c, t, rfl⟩
      have hlt := World.block_lt_of_cell? _ _ (h3 0 _ rfl)
      obtain ⟨k, hk⟩ := mem_ids hm
      rcases hg.mine b k hk with h | h
      · cases h
      · have h4 : w.heap.size ≤ b := h
        have h5 : b2 < w.heap.size := hlt
        omega⟩
theorem SrcCtx.at {Γ : Ctx} {w : World} {b : Nat} {a : Option Addr} {cs : List Nat} {cap : Nat} {i h : Int} {R : Own} (hC : SrcCtx Γ b a cs) (hg : Go.VL.Good Γ (Src b a cs.length cap i h ++ R) w) (hi : 0 ≤ i) (hi2 : i ≤ cs.length) (hh : 0 ≤ h) (hh2 : h < 18446744073709551616) : SrcIn w b a cs cap i h :=
  ⟨okS hg, by
    rcases hC.rd _ _ hg (by simp [Src, ids]) with hB | ⟨b2, o, h1, h2, h3⟩
    · exact .inl hB
    · exact .inr ⟨b2, o, h1, by simp [Src, ids, h2], h3⟩, hC.byte, hC.len, hi, hi2, hh, hh2⟩
theorem list_at {Γ : Ctx} {w : World} {b bl : Nat} {a : Option Addr} {n cap : Nat} {i h : Int} {R : Own} {l : List Int} {e z : Nat} (hg : Go.VL.Good Γ (Src b a n cap i h ++ R) w) (hm : (bl, (⟨ints l, e, z, none⟩ : Blk)) ∈ R) :
    bl ≠ b ∧ ∀ (j : Nat) x, (ints l)[j]? = some x → w.cell? ⟨bl, 0 + j, none⟩ = some x := by
  refine ⟨fun e => ?_, fun j x hx => by rw [Nat.zero_add]; exact cell_of_blk hg.ok (List.mem_append_right _ hm) hx⟩
  have hnd := hg.ok.nodup
  have e2 : ids (Src b a n cap i h ++ R) = b :: ids R := by simp [Src, ids]
  rw [e2] at hnd
  exact (List.nodup_cons.1 hnd).1 (e ▸ ids_mem hm)
theorem c_pick {Γ : Ctx} {w : World} {b bl : Nat} {a : Option Addr} {cs : List Nat} {cap : Nat} {i h : Int} {R : Own} {l : List Int} {e z n : Nat} (hC : SrcCtx Γ b a cs) (hg : Go.VL.Good Γ (Src b a cs.length cap i h ++ R) w) (hi : 0 ≤ i) (hi2 : i ≤ cs.length) (hh : 0 ≤ h) (hh2 : h < 18446744073709551616)
    (hm : (bl, (⟨ints l, e, z, none⟩ : Blk)) ∈ R) (hn : n = l.length) (hl : 0 < l.length) (hl2 : l.length ≤ 1048576) :
    Calls Try.prog 121 [.pointer (some ⟨b, 0, none⟩), .slice (some ⟨bl, 0, none⟩) n n].toArray w (ResM w (Src b a cs.length cap i h) (fun v new => ∃ x ∈ l, v = .int .i64 x ∧ SrcTo b a cs.length cap new)) := by
  subst hn
  exact c_l01Pick b a cs cap i h bl l _ w (hC.at hg hi hi2 hh hh2) hl hl2 (list_at hg hm).1 (list_at hg hm).2

end Go.Proofs.Ytlfflmoegfibgaa

/- A part of the proof: PS4. No conditions of its own. -/
namespace Go.Proofs.Ytlfflmoegfibgaa
open Go.VL
attribute [local irreducible] VWr VOps VD Calls

set_option maxHeartbeats 2000000 in
set_option maxRecDepth 100000 in
theorem c_l01From (a : Option Addr) (cs : List Nat) (cap : Nat) (w : World) (hB : RdB w a cs) (hcs : ∀ c ∈ cs, c < 256) (hl : cs.length ≤ 1048576) :
    Calls Try.prog 120 [.slice a cs.length cap].toArray w (Res w (fun v new => ∃ (b : Nat) (h : Int), v = .pointer (some ⟨b, 0, none⟩) ∧ 0 ≤ h ∧ h < 18446744073709551616 ∧ new = Src b a cs.length cap 0 h)) := by
  refine calls_of_vw Try.func120 rfl Try.ntmps120 (by simp) ?_
  repeat (first | refine vops_q tyOk rfl ?_ | refine vops_nil ?_ | refine vw_seq ?_ | refine vw_region (by kernel_rfl) ?_ | refine vops_p tyOk rfl (by (try simp only [inR]); omega) ?_ | refine vw_block ?_ | refine vops_buildF2 [.slice a cs.length cap, .int .i64 0, .int .u64 (13791 + cs.length)] rfl rfl (by kernel_rfl) ?_ | refine vops_box [.slice a cs.length cap, .int .i64 0, .int .u64 (13791 + cs.length)] rfl (fun b hb => ?_))
  refine vw_loopW (fun m f own => ∃ (i h : Int), 0 ≤ i ∧ i ≤ cs.length ∧ m = (cs.length - i).toNat ∧ 0 ≤ h ∧ h < 18446744073709551616 ∧ f 4 = .int .i64 i ∧ f 3 = .pointer (some ⟨b, 0, none⟩) ∧ f 0 = .slice a cs.length cap ∧ own = [(b, srcBlk 170 a cs.length cap 0 h)]) cs.length
    ⟨_, ole_refl, 0, _, by omega, by omega, by omega, by omega, by omega, rfl, rfl, rfl, rfl⟩ ?_
  rintro m f own ⟨i, h, hi0, hi1, rfl, hh0, hh1, h4, h3, h0, rfl⟩
  rw [upd_of h4, upd_of h3, upd_of h0]
  unfold srcBlk
  repeat (first | refine vops_q tyOk rfl ?_ | refine vw_seq ?_ | refine vw_region (by kernel_rfl) ?_ | refine vops_guardT rfl rfl ?_)
  refine bs_dec (fun hlt => ?_) (fun hlt => ?_)
  · repeat (first | refine vops_q tyOk rfl ?_ | refine vops_nil ?_ | refine vops_guardT rfl rfl ?_ | with_reducible refine bs_true ?_ | refine vw_cond rfl ?_)
    refine bs_dec (fun hlt2 => ?_) (fun hlt2 => ?_)
    · obtain ⟨c, hc⟩ : ∃ c, cs[i.toNat]? = some c := ⟨_, List.getElem?_eq_getElem (by omega)⟩
      have hc256 := hcs c (List.mem_of_getElem? hc)
      rcases hB with hB | ⟨b2, o2, rfl, hcell⟩
      · rw [hB] at hc; cases hc
      have hbyte := hcell i.toNat (.int .u8 (c : Int)) (by unfold byteVals; rw [List.getElem?_map, hc]; rfl)
      repeat (first | refine vw_seq ?_ | refine vw_skip ?_ | refine vw_block ?_)
      refine vw_draw [0, 1, 2, 3, 4, 5, 6, 7, 8, 9, 10, 11, 12, 13, 14, 15] (by kernel_rfl) (by kernel_rfl) (by kernel_rfl) rfl ?_
      repeat' (first | refine vd_q tyOk rfl (by first | trivial | rfl) rfl (by kernel_rfl) (by kernel_rfl) ?_ | refine vd_p tyOk rfl (by first | trivial | rfl) rfl (by kernel_rfl) (by kernel_rfl) (by (try simp only [inR]); omega) ?_ | refine vops_nil ?_ | refine vd_nil (by kernel_rfl) ?_ | refine vd_load tyOk rfl (by first | trivial | rfl) rfl rfl rfl (by kernel_rfl) (by kernel_rfl) (by kernel_rfl) (sees_mem (by repeat (first | exact mem_here | apply mem_next | apply mem_past)) (by rfl)) (by repeat (first | exact sub_hereL | exact sub_refl | apply sub_cons | apply sub_app)) ?_ | refine ⟨fun h => Bool.noConfusion (show false = true from h), ?_⟩ | refine vd_load tyOk rfl (by first | trivial | rfl) rfl rfl rfl (by kernel_rfl) (by kernel_rfl) (by kernel_rfl) (sees_old hbyte (by simp)) (by repeat (first | exact sub_hereL | exact sub_refl | apply sub_cons | apply sub_app)) ?_ | refine vd_mulU rfl (by first | trivial | rfl) rfl rfl (by kernel_rfl) (by kernel_rfl) (fun z hz hz' => ?_) | refine vd_addU rfl (by first | trivial | rfl) rfl rfl (by kernel_rfl) (by kernel_rfl) (fun z hz hz' => ?_) | ((show VOps _ _ _ _ (⟨none, Go.Op.store _ _ _, _, _, _, none⟩ :: _) _ _); refine vops_storeM tyOk rfl rfl rfl rfl rfl (by repeat (first | exact upd_here | apply upd_next | apply upd_past)) (by simp) ?_) | refine vd_one rfl (by kernel_rfl) (by kernel_rfl) rfl ?_)
      repeat (first | refine vops_q tyOk rfl ?_ | refine vops_nil ?_ | refine vw_region (by kernel_rfl) ?_ | refine vops_p tyOk rfl (by (try simp only [inR]); omega) ?_)
      exact ⟨((cs.length : Int) - (i + 1)).toNat, by omega, [(b, srcBlk 170 (some ⟨b2, o2, none⟩) cs.length cap 0 z)], ole_refl, i + 1, z, by omega, by omega, rfl, by omega, by omega, rfl, rfl, rfl, rfl⟩
    · repeat (first | refine vops_q tyOk rfl ?_ | refine vops_nil ?_ | refine vw_seq ?_ | refine vw_region (by kernel_rfl) ?_ | refine vw_ret ?_ | refine vw_exit ?_)
      exact out1 (new := Src b a cs.length cap 0 h) rfl rfl (by simp [Src, ids]) (fun _ h => h) ⟨b, h, rfl, hh0, hh1, rfl⟩
  · repeat (first | refine vops_q tyOk rfl ?_ | refine vops_nil ?_ | refine vw_seq ?_ | refine vw_region (by kernel_rfl) ?_ | refine vops_guardT rfl rfl ?_ | with_reducible refine bs_false ?_ | refine vw_cond rfl ?_ | refine vw_ret ?_ | refine vw_exit ?_)
    exact out1 (new := Src b a cs.length cap 0 h) rfl rfl (by simp [Src, ids]) (fun _ h => h) ⟨b, h, rfl, hh0, hh1, rfl⟩
end Go.Proofs.Ytlfflmoegfibgaa

/- A part of the proof: PS5. No conditions of its own. -/
namespace Go.Proofs.Ytlfflmoegfibgaa
open Go.VL
attribute [local irreducible] VWr VOps VD Calls

/-- The numbers below i in any order. -/
def OrdTo (i : Nat) (l : List Int) : Prop := l.Perm ((List.range i).map fun (j : Nat) => (j : Int))
theorem OrdTo.len {i : Nat} {l : List Int} (h : OrdTo i l) : l.length = i := by rw [h.length_eq]; simp
theorem OrdTo.step {i at_ : Nat} {l : List Int} (h : OrdTo i l) : OrdTo (i + 1) (l.take at_ ++ [(i : Int)] ++ l.drop at_) := by
  unfold OrdTo at *
  rw [List.range_succ, List.map_append]
  have h1 : (l.take at_ ++ [(i : Int)] ++ l.drop at_).Perm (l ++ [(i : Int)]) := by
    rw [List.append_assoc]
    refine (List.Perm.append_left _ List.perm_append_comm).trans ?_
    rw [← List.append_assoc, List.take_append_drop]
  exact h1.trans (h.append_right _)

theorem RdI.part {w : World} {a : Option Addr} {n c : Nat} {l : List Int} (h : RdI w (.slice a n c) l) (hn : n = l.length) {lo u : Nat} (hlu : lo ≤ u) (hu : u ≤ n) (hc : n ≤ c) : RdI w (sliced a lo u c 1) ((l.take u).drop lo) := by
  subst hn
  have hlen : ((l.take u).drop lo).length = u - lo := by simp; omega
  unfold sliced
  by_cases hcl : c = lo
  · rw [if_pos hcl]
    exact .inl ⟨_, _, by rw [show u - lo = 0 by omega], List.eq_nil_of_length_eq_zero (by omega)⟩
  · rw [if_neg hcl]
    rcases h with ⟨a', cap, hv, hl⟩ | ⟨b, o, cap, hv, hcell⟩
    · subst hl
      have h0 : u = 0 := by simpa using hu
      subst h0
      exact .inl ⟨_, _, by rw [Nat.zero_sub], by simp⟩
    · cases hv
      refine .inr ⟨b, o + lo * 1, c - lo, by rw [hlen, Option.map_some, Addr.add_lit], fun j x hx => ?_⟩
      rw [Nat.add_assoc]
      refine hcell (lo * 1 + j) x ?_
      have hj : j < u - lo := by
        have := (List.getElem?_eq_some_iff.1 hx).1
        rwa [ints_length, hlen] at this
      rw [← hx]
      unfold ints
      rw [List.getElem?_map, List.getElem?_map, List.getElem?_drop, List.getElem?_take, if_pos (by omega), Nat.mul_one]
theorem NewI.cap_le {e : Nat} {l : List Int} {p : Option Addr} {n c : Nat} {new : Own} (h : NewI e l (.slice p n c) new) (hn : n = l.length) : n ≤ c := by
  subst hn
  by_cases h0 : 0 < l.length
  · obtain ⟨_, _, _, h1, _⟩ := NewF.blk (NewI.f h) h0
    exact h1
  · omega

set_option maxHeartbeats 2000000 in
set_option maxRecDepth 100000 in
theorem c_l01DrawOrder (b : Nat) (a : Option Addr) (cs : List Nat) (cap : Nat) (i0 h00 : Int) (n : Nat) (w : World) (hS : SrcIn w b a cs cap i0 h00) (hn : n ≤ 1000) :
    Calls Try.prog 122 [.pointer (some ⟨b, 0, none⟩), .int .i64 n].toArray w (ResM w (Src b a cs.length cap i0 h00) (fun v new => ∃ (l : List Int) (newl : Own) (i h : Int), OrdTo n l ∧ NewI 2 l v newl ∧ 0 ≤ i ∧ i ≤ cs.length ∧ 0 ≤ h ∧ h < 18446744073709551616 ∧ new = Src b a cs.length cap i h ++ newl)) := by
  have hC := hS.ctx
  have hi1 := hS.i0
  have hi2 := hS.i1
  have hh1 := hS.h0
  have hh2 := hS.h1
  refine calls_of_vwM Try.func122 rfl Try.ntmps122 (by simp) hS.ok ?_
  repeat (first | refine vops_q tyOk rfl ?_ | refine vops_nil ?_ | refine vw_seq ?_ | refine vw_region (by kernel_rfl) ?_ | refine vw_block ?_ | refine vops_build0 tyOk rfl rfl (fun be hbe => ?_))
  refine vw_loopW (fun m f own => ∃ (k : Nat) (l : List Int) (p : Option Addr) (c : Nat) (newl : Own) (i h : Int), k ≤ n ∧ m = n - k ∧ OrdTo k l ∧ NewI 2 l (.slice p k c) newl ∧ 0 ≤ i ∧ i ≤ cs.length ∧ 0 ≤ h ∧ h < 18446744073709551616 ∧ f 6 = .int .i64 k ∧ f 5 = .slice p k c ∧ f 0 = .pointer (some ⟨b, 0, none⟩) ∧ f 1 = .int .i64 n ∧ own = Src b a cs.length cap i h ++ newl) n
    ⟨Src b a cs.length cap i0 h00 ++ [(be, ⟨[], 2, 0, none⟩)], ⟨[], by rw [List.append_nil]; exact List.perm_append_comm (l₁ := [_])⟩, 0, [], some ⟨be, 0, none⟩, 0, _, i0, h00, by omega, by omega, List.Perm.refl _, NewI.empty, hi1, hi2, hh1, hh2, rfl, rfl, rfl, rfl, rfl⟩ ?_
  clear hi1 hi2 hh1 hh2
  rintro m f own ⟨k, l, p, c, newl, i', h', hk, rfl, hO, hN, hi1, hi2, hh1, hh2, h6, h5, h0, h1, rfl⟩
  rw [upd_of h6, upd_of h5, upd_of h0, upd_of h1]
  have hll := hO.len
  repeat (first | refine vops_q tyOk rfl ?_ | refine vops_nil ?_ | refine vw_seq ?_ | refine vw_region (by kernel_rfl) ?_ | refine vw_cond rfl ?_)
  refine bs_dec (fun hlt => ?_) (fun hlt => ?_)
  · repeat (first | refine vops_q tyOk rfl ?_ | refine vops_nil ?_ | refine vw_seq ?_ | refine vw_region (by kernel_rfl) ?_ | refine vops_p tyOk rfl (by (try simp only [inR]); omega) ?_ | refine vw_skip ?_ | refine vw_block ?_ | (apply vops_callM ent123 rfl; (case h => (intro w' hg; exact c_next (hC.at (cap := cap) hg hi1 hi2 hh1 hh2) (by omega))); (case hp => (repeat (first | exact pm_here | exact pm_last | apply pm_next | apply pm_past))); (rintro _ newM ⟨x, rfl, hx0, hx1, i', h', hi1, hi2, hh1, hh2, rfl⟩)))
    obtain ⟨z, rfl⟩ : ∃ z : Nat, x = z := ⟨x.toNat, by omega⟩
    have hkc : k ≤ c := NewI.cap_le hN (by omega)
    have hzk : z ≤ k := by omega
    have hpl : (l.take z).length = z := by rw [List.length_take]; omega
    have hpre : ∀ (own' : Own) (w' : World), Go.VL.Sub newl own' → Go.VL.Good ⟨w, ids (Src b a cs.length cap i0 h00)⟩ own' w' → RdI w' (sliced p 0 z c 1) (l.take z) := fun own' w' hs hg => by
      have := RdI.part (NewI.rdG hN hs hg) (by omega) (Nat.zero_le z) hzk hkc
      simpa using this
    have hsuf : ∀ (own' : Own) (w' : World), Go.VL.Sub newl own' → Go.VL.Good ⟨w, ids (Src b a cs.length cap i0 h00)⟩ own' w' → RdF w' 1 (k - z) (sliced p z k c 1) (l.drop z) := fun own' w' hs hg => by
      have h1 := RdI.part (NewI.rdG hN hs hg) (by omega) hzk (Nat.le_refl k) hkc
      rw [List.take_of_length_le (by omega)] at h1
      have h2 := rdI_F h1
      rwa [List.length_drop, hll] at h2
    have ez : ((z : Nat) : Int).toNat = z := Int.toNat_natCast z
    skip
    refine vw_draw [0, 1, 2, 4, 7, 8, 9, 3, 5, 6, 10, 11] (by kernel_rfl) (by kernel_rfl) (by kernel_rfl) rfl ?_
    iterate 7 (first | refine vd_q tyOk rfl (by first | trivial | rfl) rfl (by kernel_rfl) (by kernel_rfl) ?_ | refine vd_p tyOk rfl (by first | trivial | rfl) rfl (by kernel_rfl) (by kernel_rfl) (by (try simp only [inR]); omega) ?_ | refine vd_skipT rfl rfl (by kernel_rfl) (by kernel_rfl) ?_ | refine vd_skipF rfl rfl (by kernel_rfl) (by kernel_rfl) ?_ | refine vd_skipU rfl rfl (by kernel_rfl) (by kernel_rfl) ?_ | refine vops_nil ?_ | refine vd_nil (by kernel_rfl) ?_ | refine ⟨fun _ _ _ h => h, ?_⟩ | refine ⟨fun _ _ _ h => List.mem_cons_of_mem _ h, ?_⟩ | refine ⟨fun _ _ _ h => List.mem_append_right _ h, ?_⟩ | refine vops_q tyOk rfl ?_ | refine vd_load tyOk rfl (by first | trivial | rfl) rfl rfl rfl (by kernel_rfl) (by kernel_rfl) (by kernel_rfl) (sees_mem (by repeat (first | exact mem_here | apply mem_next | apply mem_past)) (by rfl)) (by repeat (first | exact sub_hereL | exact sub_refl | apply sub_cons | apply sub_app)) ?_ | refine vd_load tyOk rfl (by first | trivial | rfl) rfl rfl rfl (by kernel_rfl) (by kernel_rfl) (by kernel_rfl) (sees_mem (k := ⟨ints _, _, _, none⟩) (by repeat (first | exact mem_here | apply mem_next | apply mem_past)) (by exact ints_get0 (by omega))) (by repeat (first | exact sub_hereL | exact sub_refl | apply sub_cons | apply sub_app)) ?_ | refine vd_loadNM tyOk rfl (by first | trivial | rfl) rfl rfl rfl (by repeat (first | exact mem_here | apply mem_next | apply mem_past)) (by first | rfl | (rw [ints_length]; first | assumption | omega | (rw [ints_length]; first | assumption | omega | simp [*])) | simp [*]) (by kernel_rfl) (by kernel_rfl) (by kernel_rfl) (by repeat (first | exact sub_hereL | exact sub_refl | apply sub_cons | apply sub_app)) ?_ | refine vd_build2 rfl (by first | trivial | rfl) rfl rfl (by kernel_rfl) (by kernel_rfl) (by kernel_rfl) ?_ | refine vd_slice tyOk rfl (by first | trivial | rfl) rfl rfl rfl rfl rfl (by kernel_rfl) (by kernel_rfl) (by omega) ?_ | refine ⟨fun h => Bool.noConfusion (show false = true from h), ?_⟩ | refine ⟨fun _ p hp _ => (show Go.VL.Sub _ _ from (by repeat (first | exact sub_hereL | exact sub_refl | apply sub_cons | apply sub_app))) p hp, ?_⟩ | skip | ((show VOps _ _ _ _ (⟨some _, Go.Op.load _ _, _, _, _, none⟩ :: _) _ _); first | refine vops_loadM tyOk rfl rfl rfl (by repeat (first | exact mem_here | apply mem_next | apply mem_past)) (by rfl) ?_ | refine vops_loadM tyOk rfl rfl rfl (by repeat (first | exact mem_here | apply mem_next | apply mem_past)) (by exact ints_get0 (by omega)) ?_ | refine vops_loadNM tyOk rfl rfl rfl (by repeat (first | exact mem_here | apply mem_next | apply mem_past)) (by first | rfl | (rw [ints_length]; first | assumption | omega | (rw [ints_length]; first | assumption | omega | simp [*])) | simp [*]) ?_) | ((show VOps _ _ _ _ (⟨none, Go.Op.store _ _ _, _, _, _, none⟩ :: _) _ _); first | refine vops_storeIM tyOk rfl rfl rfl rfl (by repeat (first | exact upd_here | apply upd_next | apply upd_past)) (by omega) ?_ | refine vops_storeM tyOk rfl rfl rfl rfl rfl (by repeat (first | exact upd_here | apply upd_next | apply upd_past)) (by simp) ?_ | refine vops_storeAM tyOk rfl rfl rfl (by first | rfl | (rw [ints_length]; first | assumption | omega | (rw [ints_length]; first | assumption | omega | simp [*])) | simp [*]) (by first | exact ints_one | simp [Value.oneCell']) (by repeat (first | exact upd_here | apply upd_next | apply upd_past)) (by first | rfl | (rw [ints_length]; first | assumption | omega | (rw [ints_length]; first | assumption | omega | simp [*])) | simp [*]) ?_) | refine vops_build2 rfl rfl (by kernel_rfl) ?_ | refine vops_buildZ tyOk rfl (by kernel_rfl) ?_ | refine vops_slice tyOk rfl rfl rfl rfl rfl (by omega) ?_ | refine vd_one rfl (by kernel_rfl) (by kernel_rfl) rfl ?_ | refine vd_oneG rfl (by kernel_rfl) (by kernel_rfl) rfl ?_ | (refine vd_gsplit rfl rfl rfl ?_; (fail_if_success (with_reducible (first | refine bs_true ?_ | refine bs_false ?_))); with_reducible refine bs_dec (fun _ => ?_) (fun _ => ?_)) <;> try (exfalso; omega) | (refine vd_gsplit rfl rfl rfl ?_; (fail_if_success (with_reducible (first | refine bs_true ?_ | refine bs_false ?_))); with_reducible refine bs_ndec (fun _ => ?_) (fun _ => ?_)) <;> try (exfalso; omega) | (refine vd_gsplit rfl rfl rfl ?_; (fail_if_success (with_reducible (first | refine bs_true ?_ | refine bs_false ?_))); with_reducible refine bs_nany (fun _ => ?_) (fun _ => ?_)) <;> try (exfalso; omega) | (refine vd_gsplit rfl rfl rfl ?_; (fail_if_success (with_reducible (first | refine bs_true ?_ | refine bs_false ?_))); with_reducible refine bs_any (fun _ => ?_) (fun _ => ?_)) <;> try (exfalso; omega))
    refine vd_two (j := 5) [5, 6, 10, 11] [3, 6, 10, 11] rfl rfl (by kernel_rfl) rfl rfl rfl rfl ?_ ?_
    all_goals
      repeat' (first | refine vd_q tyOk rfl (by first | trivial | rfl) rfl (by kernel_rfl) (by kernel_rfl) ?_ | refine vops_nil ?_ | refine vd_nil (by kernel_rfl) ?_ | refine ⟨fun _ _ _ h => List.mem_cons_of_mem _ h, ?_⟩ | refine ⟨fun _ _ _ h => List.mem_append_right _ h, ?_⟩ | refine ⟨fun _ p hp _ => (show Go.VL.Sub _ _ from (by repeat (first | exact sub_hereL | exact sub_refl | apply sub_cons | apply sub_app))) p hp, ?_⟩ | (apply vops_call ent115 rfl; (intro w' hg; exact c_l01Own _ (l.take z) w' (hpre _ w' (by repeat (first | exact sub_hereL | exact sub_refl | apply sub_cons | apply sub_app)) hg) (by omega)); (intro _ newO hO1; obtain ⟨pO, cO, rfl⟩ := SlAt.form hO1)) | refine vops_litI [_] tyOk rfl rfl (List.cons_ne_nil _ _) (by rfl) rfl (by omega) (by omega) (fun bt hbt => ?_) | refine vops_append1 (k := 1) tyOk rfl rfl (List.cons_ne_nil _ _) rfl rfl (by decide) rfl (NewI.f hO1) (by repeat (first | exact pm_here | exact pm_last | apply pm_next | apply pm_past)) rfl (by repeat (first | exact mem_here | apply mem_next | apply mem_past)) rfl (by omega) (fun p' cap' new' hN' => ?_) | refine vops_appendL (k := 1) (q := l.take z ++ [(k : Int)]) (q2 := l.drop z) (m := k - z) tyOk rfl rfl (List.cons_ne_nil _ _) rfl rfl (by decide) rfl hN' (by repeat (first | exact pm_here | exact pm_last | apply pm_next | apply pm_past)) rfl (fun w' hg => hsuf _ w' (by repeat (first | exact sub_hereL | exact sub_refl | apply sub_cons | apply sub_app)) hg) (by omega) (fun p2 cap2 new2 hN2 => ?_) | refine vd_one rfl (by kernel_rfl) (by kernel_rfl) rfl ?_)
      repeat (first | refine vops_q tyOk rfl ?_ | refine vops_nil ?_ | refine vw_region (by kernel_rfl) ?_ | refine vops_p tyOk rfl (by (try simp only [inR]); omega) ?_)
      have e1 : (l.take z).length + 1 + (k - z) = k + 1 := by omega
      have hst := hO.step (at_ := z)
      rw [e1] at hN2 ⊢
      have hN3 : NewI 2 (l.take z ++ [(k : Int)] ++ l.drop z) (.slice p2 (k + 1) cap2) new2 := by
        show NewF 2 1 (l.take z ++ [(k : Int)] ++ l.drop z).length _ _ _
        rw [hst.len]; exact hN2
      exact ⟨n - (k + 1), by omega, Src b a cs.length cap i' h' ++ (new2 ++ []), (by repeat (first | exact ole_nil | exact ole_refl | (apply ole_cons; (repeat (first | exact pm1_here | apply pm1_next | apply pm1_past))) | (apply ole_app; (repeat (first | exact pm_here | exact pm_last | apply pm_next | apply pm_past))))), k + 1, _, p2, cap2, new2, i', h', by omega, rfl, hst, hN3, hi1, hi2, hh1, hh2, rfl, rfl, rfl, rfl, by rw [List.append_nil]⟩
  · obtain rfl : k = n := by omega
    refine vw_nodup (fun hnd => ?_)
    repeat (first | refine vops_q tyOk rfl ?_ | refine vops_nil ?_ | refine vw_seq ?_ | refine vw_region (by kernel_rfl) ?_ | refine vw_ret ?_ | refine vw_exit ?_)
    exact out1 rfl rfl hnd (fun _ h => h) ⟨l, newl, i', h', hO, hN, hi1, hi2, hh1, hh2, rfl⟩
end Go.Proofs.Ytlfflmoegfibgaa

/- A part of the proof: PS6. No conditions of its own. -/
namespace Go.Proofs.Ytlfflmoegfibgaa
open Go.VL
attribute [local irreducible] VWr VOps VD Calls

theorem OrdTo.mem {n : Nat} {l : List Int} (h : OrdTo n l) {x : Int} (hx : x ∈ l) : 0 ≤ x ∧ x < n := by
  have := h.mem_iff.1 hx
  obtain ⟨j, hj, rfl⟩ := List.mem_map.1 this
  have := List.mem_range.1 hj
  omega
theorem OrdTo.nodup {n : Nat} {l : List Int} (h : OrdTo n l) : l.Nodup :=
  h.nodup_iff.2 (List.pairwise_map.2 (List.nodup_range.imp fun h e => h (by omega)))
theorem OrdTo.pair {n : Nat} {l : List Int} (h : OrdTo n l) {k : Nat} (hk : k + 1 < n) : PairOk n [l.getD k 0, l.getD (k + 1) 0] := by
  have hl := h.len
  have h1 := h.mem (getD_mem (show k < l.length by omega))
  have h2 := h.mem (getD_mem (show k + 1 < l.length by omega))
  have h3 : l.getD k 0 ≠ l.getD (k + 1) 0 := fun e => by
    have := getD_inj h.nodup (show k < l.length by omega) (show k + 1 < l.length by omega) e
    omega
  exact ⟨rfl, h1, h2, h3⟩
theorem layAll_length : ∀ (ls : List (List Int)) (r : List Int), (layAll r ls).length = r.length
  | [], r => rfl
  | p :: ps, r => by
    show (layAll (lay r p) ps).length = _
    rw [layAll_length ps, lay_length]
theorem c_order {Γ : Ctx} {w : World} {b : Nat} {a : Option Addr} {cs : List Nat} {cap : Nat} {i h : Int} {R : Own} (hC : SrcCtx Γ b a cs) (hg : Go.VL.Good Γ (Src b a cs.length cap i h ++ R) w) (hi : 0 ≤ i) (hi2 : i ≤ cs.length) (hh : 0 ≤ h) (hh2 : h < 18446744073709551616) {n : Nat} (hn : n ≤ 1000) :
    Calls Try.prog 122 [.pointer (some ⟨b, 0, none⟩), .int .i64 n].toArray w (ResM w (Src b a cs.length cap i h) (fun v new => ∃ (l : List Int) (p : Option Addr) (c : Nat) (newl : Own) (i h : Int), v = .slice p n c ∧ OrdTo n l ∧ NewI 2 l (.slice p n c) newl ∧ 0 ≤ i ∧ i ≤ cs.length ∧ 0 ≤ h ∧ h < 18446744073709551616 ∧ new = Src b a cs.length cap i h ++ newl)) := by
  refine Calls.mono (c_l01DrawOrder b a cs cap i h n w (hC.at hg hi hi2 hh hh2) hn) ?_
  rintro e w' ⟨v, new, h1, h2, h3, h4, l, newl, i2, h2', hO, hN, r1, r2, r3, r4, rfl⟩
  obtain ⟨p, c, rfl⟩ := SlAt.form hN
  rw [hO.len] at hN h1
  exact ⟨_, _, h1, h2, h3, h4, l, p, c, newl, i2, h2', rfl, hO, hN, r1, r2, r3, r4, rfl⟩

theorem out_round {P : Program} {T : Nat → Option TI} {Γ : Ctx} {f : Nat → Value} {own new : Own} (hT : Go.VL.TyOk P T) {n p t b e m : Nat} {ti : TI} {fn : Func} {r : List Int} {S : Value → Own → Prop} (h : fn.results = #[.cell p t]) (ht : T t = some ti) (ha : ti.isAgg = true) (hsz : ti.size = 14)
    (hp : f p = .pointer (some ⟨b, 0, none⟩)) (hm : (b, (⟨ints r, e, m, none⟩ : Blk)) ∈ own) (hl : r.length = 14) (hn : (ids new).Nodup) (hs : Go.VL.Sub new own) (hS : S (.agg (ints r).toArray) new) : Out P Γ n fn S .ret f own :=
  ⟨_, new, rv_cell hT h hp ht ha (by rw [ints_length, hl, hsz]) (fun j v hj => by rw [Nat.zero_add]; exact sees_mem hm hj), hn, hs, hS⟩
set_option maxHeartbeats 4000000 in
set_option maxRecDepth 100000 in
theorem c_l01DrawRound (b : Nat) (a : Option Addr) (cs : List Nat) (cap : Nat) (i0 h00 : Int) (n : Nat) (w : World) (hS : SrcIn w b a cs cap i0 h00) (h2 : 2 ≤ n) (h14 : n ≤ 14) :
    Calls Try.prog 180 [.pointer (some ⟨b, 0, none⟩), .int .i64 n].toArray w (ResM w (Src b a cs.length cap i0 h00) (fun v new => ∃ r : List Int, r.length = 14 ∧ v = .agg (ints r).toArray ∧ SrcTo b a cs.length cap new)) := by
  have hC := hS.ctx
  have hi1 := hS.i0
  have hi2 := hS.i1
  have hh1 := hS.h0
  have hh2 := hS.h1
  obtain ⟨i', hi'⟩ : ∃ i', i' = i0 := ⟨_, rfl⟩
  obtain ⟨h', hh'⟩ : ∃ h', h' = h00 := ⟨_, rfl⟩
  refine calls_of_vwM Try.func180 rfl Try.ntmps180 (by simp) hS.ok ?_
  rw [← hi', ← hh'] at hC ⊢
  rw [← hi'] at hi1 hi2
  rw [← hh'] at hh1 hh2
  repeat (first | refine vops_q tyOk rfl ?_ | refine vops_nil ?_ | refine vw_seq ?_ | refine vw_region (by kernel_rfl) ?_ | refine vw_block ?_ | refine vops_allocZ (ints (List.replicate 14 0)) tyOk rfl rfl (by simp [ints]) (fun b4 hb4 => ?_) | (apply vops_callM ent122 rfl; (case h => (intro w' hg; exact c_order (cap := cap) hC hg hi1 hi2 hh1 hh2 (by omega))); (case hp => (repeat (first | exact pm_here | exact pm_last | apply pm_next | apply pm_past))); (rintro _ newM ⟨l, p, c, newl, i', h', rfl, hO, hN, hi1, hi2, hh1, hh2, rfl⟩)) | refine vops_build0 tyOk rfl rfl (fun be hbe => ?_) | (apply vops_callM ent123 rfl; (case h => (intro w' hg; exact c_next (hC.at (cap := cap) hg hi1 hi2 hh1 hh2) (by omega))); (case hp => (repeat (first | exact pm_here | exact pm_last | apply pm_next | apply pm_past))); (rintro _ newM ⟨x, rfl, hx0, hx1, i', h', hi1, hi2, hh1, hh2, rfl⟩)))
  have hll := hO.len
  have hF : NewF 2 1 n l (.slice p n c) newl := by
    have := NewI.f hN; rwa [hll] at this
  obtain ⟨bl, rfl, rfl, hc1, hc2, hl1⟩ := NewF.blk hF (by omega)
  obtain ⟨few, hfew⟩ : ∃ few : Bool, few = decide (x = 0) := ⟨_, rfl⟩
  rw [← hfew]
  refine vw_loopW (fun m f own => ∃ (k : Nat) (ls : List (List Int)) (p : Option Addr) (cp : Nat) (vs : List Value) (ns : List Own) (outer : Own) (i h : Int), k ≤ n ∧ m = n - k ∧ PairsOk n ls ∧ ls.length ≤ k ∧ Go.VL.RowsAt 2 ls vs ns ∧ SlAt 38 1 (.slice p ls.length cp) ls.length vs outer [] ∧
      0 ≤ i ∧ i ≤ cs.length ∧ 0 ≤ h ∧ h < 18446744073709551616 ∧ f 8 = .int .i64 k ∧ f 7 = .bool few ∧ f 6 = .slice p ls.length cp ∧ f 5 = .slice (some ⟨bl, 0, none⟩) n c ∧ f 4 = .pointer (some ⟨b4, 0, none⟩) ∧ f 0 = .pointer (some ⟨b, 0, none⟩) ∧ f 1 = .int .i64 n ∧
      own = Src b a cs.length cap i h ++ (outer ++ (ns.flatten ++ [(bl, ⟨ints l, 2, c * 1, none⟩), (b4, ⟨ints (List.replicate 14 0), 50, 14, none⟩)]))) n
    ⟨Src b a cs.length cap i' h' ++ ([(be, ⟨[], 38, 0, none⟩)] ++ ([] ++ [(bl, ⟨ints l, 2, c * 1, none⟩), (b4, ⟨ints (List.replicate 14 0), 50, 14, none⟩)])), (by repeat (first | exact ole_nil | exact ole_refl | (apply ole_cons; (repeat (first | exact pm1_here | apply pm1_next | apply pm1_past))) | (apply ole_app; (repeat (first | exact pm_here | exact pm_last | apply pm_next | apply pm_past))))), 0, [], _, _, [], [], [(be, _)], i', h', by omega, by omega, fun _ hp => (by cases hp), by simp, trivial, SlAt.empty, hi1, hi2, hh1, hh2, rfl, rfl, rfl, rfl, rfl, rfl, rfl, rfl⟩ ?_
  clear hi1 hi2 hh1 hh2 hN hF
  rintro m f own ⟨k, ls, p, cp, vs, ns, outer, i', h', hk, rfl, hP, hlk, hR, hO2, hi1, hi2, hh1, hh2, h8, h7, h6, h5, h4, h0, h1, rfl⟩
  rw [upd_of h8, upd_of h7, upd_of h6, upd_of h5, upd_of h4, upd_of h0, upd_of h1]
  repeat (first | refine vops_q tyOk rfl ?_ | refine vops_nil ?_ | refine vw_seq ?_ | refine vw_region (by kernel_rfl) ?_ | refine vops_p tyOk rfl (by (try simp only [inR]); omega) ?_ | refine vw_cond rfl ?_)
  refine bs_dec (fun hlt => ?_) (fun hlt => ?_)
  · have c0 : (ints l)[0 + (k : Int).toNat]? = some (.int .i64 (l.getD k 0)) := by
      rw [show 0 + (k : Int).toNat = k by omega]; exact ints_get (by omega)
    have c1 : (ints l)[0 + ((k : Int) + 1).toNat]? = some (.int .i64 (l.getD (k + 1) 0)) := by
      rw [show 0 + ((k : Int) + 1).toNat = k + 1 by omega]; exact ints_get (by omega)
    have hpo := hO.pair (k := k) (by omega)
    have hP2 : PairsOk n (ls ++ [[l.getD k 0, l.getD (k + 1) 0]]) := fun q hq => by
      rcases List.mem_append.1 hq with hq | hq
      · exact hP q hq
      · obtain rfl : q = _ := by simpa using hq
        exact hpo
    cases few
    · repeat (first | refine vops_q tyOk rfl ?_ | refine vops_nil ?_ | refine vw_seq ?_ | refine vw_region (by kernel_rfl) ?_ | refine vops_guardF rfl rfl ?_ | with_reducible refine bs_true ?_ | with_reducible refine bs_nfalse ?_ | refine vw_cond rfl ?_ | refine vw_skip ?_ | refine vw_block ?_)
      refine vw_drawB [(bl, ⟨ints l, 2, c * 1, none⟩)] [0, 1, 2, 3, 4, 5, 6, 7, 8, 9, 10, 11, 12, 13] (by kernel_rfl) (by kernel_rfl) (by kernel_rfl) rfl (by repeat (first | exact ole_nil | exact ole_refl | (apply ole_cons; (repeat (first | exact pm1_here | apply pm1_next | apply pm1_past))) | (apply ole_app; (repeat (first | exact pm_here | exact pm_last | apply pm_next | apply pm_past))))) ?_
      repeat' (first | refine vd_q tyOk rfl (by first | trivial | rfl) rfl (by kernel_rfl) (by kernel_rfl) ?_ | refine vd_p tyOk rfl (by first | trivial | rfl) rfl (by kernel_rfl) (by kernel_rfl) (by (try simp only [inR]); omega) ?_ | refine vops_nil ?_ | refine vd_nil (by kernel_rfl) ?_ | refine ⟨fun _ _ _ h => List.mem_cons_of_mem _ h, ?_⟩ | refine vd_load tyOk rfl (by first | trivial | rfl) rfl rfl rfl (by kernel_rfl) (by kernel_rfl) (by kernel_rfl) (sees_mem (k := ⟨ints _, _, _, none⟩) (by repeat (first | exact mem_here | apply mem_next | apply mem_past)) (by exact ints_get0 (by omega))) (by repeat (first | exact sub_hereL | exact sub_refl | apply sub_cons | apply sub_app)) ?_ | refine ⟨fun _ p hp _ => (show Go.VL.Sub _ _ from (by repeat (first | exact sub_hereL | exact sub_refl | apply sub_cons | apply sub_app))) p hp, ?_⟩ | refine vops_litI [_, _] tyOk rfl rfl (List.cons_ne_nil _ _) (by rfl) rfl (by omega) (by omega) (fun bq hbq => ?_) | refine vops_litV tyOk rfl rfl (List.cons_ne_nil _ _) rfl rfl rfl (fun bt hbt => ?_) | refine vops_appendV tyOk rfl rfl (List.cons_ne_nil _ _) rfl rfl (by decide) rfl hO2 (by repeat (first | exact pm_here | exact pm_last | apply pm_next | apply pm_past)) rfl (by repeat (first | exact mem_here | apply mem_next | apply mem_past)) rfl (by omega) (fun p' cap' outer' hO' => ?_) | refine vd_one rfl (by kernel_rfl) (by kernel_rfl) rfl ?_)
      repeat (first | refine vops_q tyOk rfl ?_ | refine vops_nil ?_ | refine vw_region (by kernel_rfl) ?_ | refine vops_p tyOk rfl (by (try simp only [inR]); omega) ?_)
      refine ⟨n - (k + 2), by omega, Src b a cs.length cap i' h' ++ (outer' ++ (ns.flatten ++ ((bq, ⟨ints [l.getD k 0, l.getD (k + 1) 0], 2, 2 * 1, none⟩) :: [(bl, ⟨ints l, 2, c * 1, none⟩), (b4, ⟨ints (List.replicate 14 0), 50, 14, none⟩)]))), (by repeat (first | exact ole_nil | exact ole_refl | (apply ole_cons; (repeat (first | exact pm1_here | apply pm1_next | apply pm1_past))) | (apply ole_app; (repeat (first | exact pm_here | exact pm_last | apply pm_next | apply pm_past))))), k + 2, ls ++ [[l.getD k 0, l.getD (k + 1) 0]], p', cap', vs ++ [.slice (some ⟨bq, 0, none⟩) 2 2], ns ++ [[(bq, ⟨ints [l.getD k 0, l.getD (k + 1) 0], 2, 2 * 1, none⟩)]], outer', i', h', by omega, rfl, hP2, by rw [List.length_append]; simp; omega, RowsAt.snoc (NewI.lit (l := [l.getD k 0, l.getD (k + 1) 0]) rfl (Nat.le_refl _) (by simp [maxLen])) hR, by rw [List.length_append]; exact hO', hi1, hi2, hh1, hh2, rfl, rfl, by rw [List.length_append]; rfl, rfl, rfl, rfl, rfl, by rw [flat_snoc, List.append_assoc ns.flatten]; rfl⟩
    · repeat (first | refine vops_q tyOk rfl ?_ | refine vops_nil ?_ | refine vw_seq ?_ | refine vw_region (by kernel_rfl) ?_ | refine vops_guardF rfl rfl ?_ | with_reducible refine bs_false ?_ | with_reducible refine bs_ntrue ?_ | refine vw_cond rfl ?_ | refine vw_skip ?_ | refine vw_block ?_ | (apply vops_callM ent123 rfl; (case h => (intro w' hg; exact c_next (hC.at (cap := cap) hg hi1 hi2 hh1 hh2) (by omega))); (case hp => (repeat (first | exact pm_here | exact pm_last | apply pm_next | apply pm_past))); (rintro _ newM ⟨x, rfl, hx0, hx1, i', h', hi1, hi2, hh1, hh2, rfl⟩)))
      refine bs_dec (fun hz => ?_) (fun hz => ?_)
      · skip
        refine vw_drawB [(bl, ⟨ints l, 2, c * 1, none⟩)] [0, 1, 2, 3, 4, 5, 6, 7, 8, 9, 10, 11, 12, 13] (by kernel_rfl) (by kernel_rfl) (by kernel_rfl) rfl (by repeat (first | exact ole_nil | exact ole_refl | (apply ole_cons; (repeat (first | exact pm1_here | apply pm1_next | apply pm1_past))) | (apply ole_app; (repeat (first | exact pm_here | exact pm_last | apply pm_next | apply pm_past))))) ?_
        repeat' (first | refine vd_q tyOk rfl (by first | trivial | rfl) rfl (by kernel_rfl) (by kernel_rfl) ?_ | refine vd_p tyOk rfl (by first | trivial | rfl) rfl (by kernel_rfl) (by kernel_rfl) (by (try simp only [inR]); omega) ?_ | refine vops_nil ?_ | refine vd_nil (by kernel_rfl) ?_ | refine ⟨fun _ _ _ h => List.mem_cons_of_mem _ h, ?_⟩ | refine vd_load tyOk rfl (by first | trivial | rfl) rfl rfl rfl (by kernel_rfl) (by kernel_rfl) (by kernel_rfl) (sees_mem (k := ⟨ints _, _, _, none⟩) (by repeat (first | exact mem_here | apply mem_next | apply mem_past)) (by exact ints_get0 (by omega))) (by repeat (first | exact sub_hereL | exact sub_refl | apply sub_cons | apply sub_app)) ?_ | refine ⟨fun _ p hp _ => (show Go.VL.Sub _ _ from (by repeat (first | exact sub_hereL | exact sub_refl | apply sub_cons | apply sub_app))) p hp, ?_⟩ | refine vops_litI [_, _] tyOk rfl rfl (List.cons_ne_nil _ _) (by rfl) rfl (by omega) (by omega) (fun bq hbq => ?_) | refine vops_litV tyOk rfl rfl (List.cons_ne_nil _ _) rfl rfl rfl (fun bt hbt => ?_) | refine vops_appendV tyOk rfl rfl (List.cons_ne_nil _ _) rfl rfl (by decide) rfl hO2 (by repeat (first | exact pm_here | exact pm_last | apply pm_next | apply pm_past)) rfl (by repeat (first | exact mem_here | apply mem_next | apply mem_past)) rfl (by omega) (fun p' cap' outer' hO' => ?_) | refine vd_one rfl (by kernel_rfl) (by kernel_rfl) rfl ?_)
        repeat (first | refine vops_q tyOk rfl ?_ | refine vops_nil ?_ | refine vw_region (by kernel_rfl) ?_ | refine vops_p tyOk rfl (by (try simp only [inR]); omega) ?_)
        refine ⟨n - (k + 2), by omega, Src b a cs.length cap i' h' ++ (outer' ++ (ns.flatten ++ ((bq, ⟨ints [l.getD k 0, l.getD (k + 1) 0], 2, 2 * 1, none⟩) :: [(bl, ⟨ints l, 2, c * 1, none⟩), (b4, ⟨ints (List.replicate 14 0), 50, 14, none⟩)]))), (by repeat (first | exact ole_nil | exact ole_refl | (apply ole_cons; (repeat (first | exact pm1_here | apply pm1_next | apply pm1_past))) | (apply ole_app; (repeat (first | exact pm_here | exact pm_last | apply pm_next | apply pm_past))))), k + 2, ls ++ [[l.getD k 0, l.getD (k + 1) 0]], p', cap', vs ++ [.slice (some ⟨bq, 0, none⟩) 2 2], ns ++ [[(bq, ⟨ints [l.getD k 0, l.getD (k + 1) 0], 2, 2 * 1, none⟩)]], outer', i', h', by omega, rfl, hP2, by rw [List.length_append]; simp; omega, RowsAt.snoc (NewI.lit (l := [l.getD k 0, l.getD (k + 1) 0]) rfl (Nat.le_refl _) (by simp [maxLen])) hR, by rw [List.length_append]; exact hO', hi1, hi2, hh1, hh2, rfl, rfl, by rw [List.length_append]; rfl, rfl, rfl, rfl, rfl, by rw [flat_snoc, List.append_assoc ns.flatten]; rfl⟩
      · repeat (first | refine vops_q tyOk rfl ?_ | refine vops_nil ?_ | refine vw_region (by kernel_rfl) ?_ | refine vops_p tyOk rfl (by (try simp only [inR]); omega) ?_ | refine vw_skip ?_)
        exact ⟨n - (k + 2), by omega, Src b a cs.length cap i' h' ++ (outer ++ (ns.flatten ++ [(bl, ⟨ints l, 2, c * 1, none⟩), (b4, ⟨ints (List.replicate 14 0), 50, 14, none⟩)])), (by repeat (first | exact ole_nil | exact ole_refl | (apply ole_cons; (repeat (first | exact pm1_here | apply pm1_next | apply pm1_past))) | (apply ole_app; (repeat (first | exact pm_here | exact pm_last | apply pm_next | apply pm_past))))), k + 2, ls, p, cp, vs, ns, outer, i', h', by omega, rfl, hP, by omega, hR, hO2, hi1, hi2, hh1, hh2, rfl, rfl, rfl, rfl, rfl, rfl, rfl, rfl⟩
  · have hMd : ∀ w', Go.VL.Good ⟨w, ids (Src b a cs.length cap i0 h00)⟩ (Src b a cs.length cap i' h' ++ (outer ++ (ns.flatten ++ [(bl, ⟨ints l, 2, c * 1, none⟩), (b4, ⟨ints (List.replicate 14 0), 50, 14, none⟩)]))) w' → Calls Try.prog 207 [.int .i64 n, .slice p ls.length cp].toArray w' (Res w' (Is (.agg (ints (layAll (freeTo n) ls)).toArray))) := fun w' hg => by
      have hLL : Go.VL.NewLL 38 2 ls (.slice p ls.length cp) (outer ++ ns.flatten) := ⟨vs, ns, outer, hR, hO2, rfl⟩
      exact c_l01Made n _ ls (by omega) (by omega) hP w' (NewLL.rdG hLL (fun x hx => List.mem_append_right _ (by rw [← List.append_assoc]; exact List.mem_append_left _ hx)) hg) (by omega)
    have hlen : (layAll (freeTo n) ls).length = 14 := by rw [layAll_length]; simp [freeTo]
    subst hi'
    subst hh'
    repeat (first | refine vops_q tyOk rfl ?_ | refine vops_nil ?_ | refine vw_seq ?_ | refine vw_region (by kernel_rfl) ?_ | refine vw_ret ?_ | refine vw_exit ?_ | (apply vops_callp ent207 rfl; (intro w' hg; exact hMd w' hg)) | ((show VOps _ _ _ _ (⟨none, Go.Op.store _ _ _, _, _, _, none⟩ :: _) _ _); refine vops_storeAM tyOk rfl rfl rfl (by first | rfl | (rw [ints_length]; first | assumption | omega | (rw [ints_length]; first | assumption | omega | simp [*])) | simp [*]) (by first | exact ints_one | simp [Value.oneCell']) (by repeat (first | exact upd_here | apply upd_next | apply upd_past)) (by first | rfl | (rw [ints_length]; first | assumption | omega | (rw [ints_length]; first | assumption | omega | simp [*])) | simp [*]) ?_))
    exact out_round (r := layAll (freeTo n) ls) (new := Src b a cs.length cap i' h') tyOk rfl rfl rfl rfl rfl (by repeat (first | exact mem_here | apply mem_next | apply mem_past)) hlen (by simp [Src, ids]) (fun x hx => by rcases List.mem_singleton.1 hx with rfl; exact List.mem_cons_self) ⟨_, hlen, rfl, i', h', hi1, hi2, hh1, hh2, rfl⟩
end Go.Proofs.Ytlfflmoegfibgaa

