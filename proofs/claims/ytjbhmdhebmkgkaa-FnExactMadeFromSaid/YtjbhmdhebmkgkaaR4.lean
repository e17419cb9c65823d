import Derived.Test.YtjbhmdhebmkgkaaP41
import Derived.Test.YtjbhmdhebmkgkaaSA
import Derived.Test.YtjbhmdhebmkgkaaVLTable
import Derived.Test.YtjbhmdhebmkgkaaVLArr
/- A part of the proof: R4. No conditions of its own. -/
namespace Go.Proofs.Ytjbhmdhebmkgkaa
open Go.VL
attribute [local irreducible] VWr VOps VD Calls

/-- n numbers from the place o on, numbered from c on. -/
def markP (q : List Int) (o n : Nat) (c : Int) : List Int := lst q.length fun t => if o ≤ t ∧ t < o + n then c + ((t - o : Nat) : Int) else q.getD t 0
theorem markP_length (q : List Int) (o n : Nat) (c : Int) : (markP q o n c).length = q.length := lst_length _ _
theorem markP_zero (q : List Int) (o : Nat) (c : Int) : markP q o 0 c = q := by
  unfold markP
  conv => rhs; rw [lst_of q]
  exact lst_congr fun t _ => by rw [if_neg (by omega)]
theorem markP_step (q : List Int) (o i : Nat) (c : Int) : (markP q o i c).set (o + i) (c + i) = markP q o (i + 1) c := by
  unfold markP
  rw [lst_set]
  refine lst_congr fun t _ => ?_
  by_cases h1 : t = o + i
  · rw [if_pos h1, if_pos (by omega)]; congr 1; omega
  · rw [if_neg h1]
    by_cases h2 : o ≤ t ∧ t < o + i
    · rw [if_pos h2, if_pos (by omega)]
    · rw [if_neg h2, if_neg (by omega)]
def MarkedP (e bt N : Nat) (q : List Int) (o n : Nat) (c : Int) (v : Value) (new : Own) : Prop := v = .int .i64 (c + n) ∧ new = [(bt, ⟨ints (markP q o n c), e, N, none⟩)]
set_option maxRecDepth 100000 in
theorem c_markPart (bt : Nat) (q : List Int) (o n cap e N : Nat) (c0 : Int) (w : World) (ho : OwnOk [(bt, ⟨ints q, e, N, none⟩)] w) (hq : o + n ≤ q.length) (hl : n ≤ 1048576) (h0 : 0 ≤ c0) (h1 : c0 ≤ 1099511627776) :
    Calls Try.prog 39 [.slice (some ⟨bt, o, none⟩) n cap, .int .i64 c0].toArray w (ResM w [(bt, ⟨ints q, e, N, none⟩)] (MarkedP e bt N q o n c0)) := by
  refine calls_of_vwM Try.func39 rfl Try.ntmps39 (by simp) ho ?_
  repeat (first | refine vops_q tyOk rfl ?_ | refine vops_nil ?_ | refine vw_seq ?_ | refine vw_region (by kernel_rfl) ?_ | refine vops_guardT rfl rfl ?_ | refine vops_guardF rfl rfl ?_ | refine vops_guardU rfl rfl ?_ | with_reducible refine bs_nbeq rfl ?_ | with_reducible refine bs_true ?_ | with_reducible refine bs_false ?_ | with_reducible refine bs_ntrue ?_ | with_reducible refine bs_nfalse ?_ | refine vops_p tyOk rfl (by (try simp only [inR]); omega) ?_ | refine vw_cond rfl ?_ | refine vw_skip ?_ | refine vw_block ?_ | refine vw_ret ?_ | refine vw_exit ?_)
  refine vw_loop (fun m f own => ∃ (i : Nat) (c : Int), i ≤ n ∧ m = n - i ∧ c = c0 + i ∧ f 5 = .int .i64 i ∧ f 1 = .int .i64 c ∧ f 0 = .slice (some ⟨bt, o, none⟩) n cap ∧ own = [(bt, ⟨ints (markP q o i c0), e, N, none⟩)]) n
    ⟨0, c0, by omega, by omega, by omega, rfl, rfl, rfl, by rw [markP_zero]⟩ ?_
  rintro m f own ⟨i, c, hi, rfl, hcc, h5, h1', h0', rfl⟩
  rw [upd_of h0', upd_of h1', upd_of h5]
  repeat (first | refine vops_q tyOk rfl ?_ | refine vops_nil ?_ | refine vw_seq ?_ | refine vw_region (by kernel_rfl) ?_ | refine vops_guardT rfl rfl ?_ | refine vops_guardF rfl rfl ?_ | refine vops_guardU rfl rfl ?_ | with_reducible refine bs_nbeq rfl ?_ | with_reducible refine bs_true ?_ | with_reducible refine bs_false ?_ | with_reducible refine bs_ntrue ?_ | with_reducible refine bs_nfalse ?_ | refine vops_p tyOk rfl (by (try simp only [inR]); omega) ?_ | refine vw_cond rfl ?_ | refine vw_skip ?_ | refine vw_block ?_ | refine vw_ret ?_ | refine vw_exit ?_)
  refine bs_dec (fun h4 => ?_) (fun h4 => ?_)
  · have hml := markP_length q o i c0
    have hidx : o + (i : Int).toNat = 0 + (o + i) := by omega
    repeat (first | refine vops_q tyOk rfl ?_ | refine vops_nil ?_ | refine vw_seq ?_ | refine vw_region (by kernel_rfl) ?_ | refine vops_guardT rfl rfl ?_ | refine vops_guardF rfl rfl ?_ | refine vops_guardU rfl rfl ?_ | with_reducible refine bs_nbeq rfl ?_ | with_reducible refine bs_true ?_ | with_reducible refine bs_false ?_ | with_reducible refine bs_ntrue ?_ | with_reducible refine bs_nfalse ?_ | refine vops_p tyOk rfl (by (try simp only [inR]); omega) ?_ | refine vw_cond rfl ?_ | refine vw_skip ?_ | refine vw_block ?_ | refine vw_ret ?_ | refine vw_exit ?_ | refine vops_storeIM (o := o + i) tyOk rfl rfl (by exact congrArg (fun x => Value.pointer (some ⟨bt, x, none⟩)) hidx) rfl (by repeat (first | exact upd_here | apply upd_next | apply upd_past)) (by omega) ?_)
    refine ⟨n - (i + 1), by omega, i + 1, c + 1, by omega, rfl, by omega, rfl, rfl, rfl, ?_⟩
    rw [← markP_step, ← hcc]
  · obtain rfl : i = n := by omega
    repeat (first | refine vops_q tyOk rfl ?_ | refine vops_nil ?_ | refine vw_seq ?_ | refine vw_region (by kernel_rfl) ?_ | refine vops_guardT rfl rfl ?_ | refine vops_guardF rfl rfl ?_ | refine vops_guardU rfl rfl ?_ | with_reducible refine bs_nbeq rfl ?_ | with_reducible refine bs_true ?_ | with_reducible refine bs_false ?_ | with_reducible refine bs_ntrue ?_ | with_reducible refine bs_nfalse ?_ | refine vops_p tyOk rfl (by (try simp only [inR]); omega) ?_ | refine vw_cond rfl ?_ | refine vw_skip ?_ | refine vw_block ?_ | refine vw_ret ?_ | refine vw_exit ?_)
    exact out1 rfl rfl (new := [(bt, ⟨ints (markP q o i c0), e, N, none⟩)]) (by simp [ids]) (fun _ h => h) ⟨by show Value.int .i64 c = _; rw [hcc], rfl⟩

/-- i rows of the table numbered. -/
def markG (k0 : Int) (k : Nat) (g : Nat → Nat → Int) (i a b : Nat) : Int := if a < i then k0 + ((a * k + b : Nat) : Int) else g a b
theorem markP_row {m k i : Nat} {g : Nat → Nat → Int} {k0 : Int} (hk : 0 < k) : markP (flatN m k (markG k0 k g i)) (i * k) k (k0 + ((i * k : Nat) : Int)) = flatN m k (markG k0 k g (i + 1)) := by
  unfold markP
  rw [flatN_length]
  unfold flatN
  refine lst_congr fun t ht => ?_
  have hp := idx_part (i := i) (t := t) hk
  rw [lst_getD ht]
  have hdm := Nat.div_add_mod t k
  rw [Nat.mul_comm] at hdm
  unfold markG
  by_cases h : t / k = i
  · have h2 := hp.2 h
    rw [if_pos h2, if_pos (by omega), hdm]; omega
  · rw [if_neg fun e => h (hp.1 e)]
    by_cases h3 : t / k < i
    · rw [if_pos h3, if_pos (by omega)]
    · rw [if_neg h3, if_neg (by omega)]
theorem sumLen_tab (k : Nat) (g : Nat → Nat → Int) : ∀ m, sumLen (tabN m k g) = m * k
  | 0 => by simp [tabN_zero, sumLen]
  | m + 1 => by rw [tabN_succ, sumLen_snoc, sumLen_tab k g m, lst_length, Nat.add_mul, Nat.one_mul]
theorem markLL_tab (k0 : Int) (k : Nat) (g : Nat → Nat → Int) : ∀ m, markLL k0 (tabN m k g) = tabN m k fun a b => k0 + ((a * k + b : Nat) : Int)
  | 0 => rfl
  | m + 1 => by
    rw [tabN_succ, markLL_snoc, markLL_tab k0 k g m, tabN_succ, sumLen_tab, lst_length]
    congr 2
    exact lst_congr fun b _ => by push_cast; omega
def MarkedT (eo ei : Nat) (ls : List (List Int)) (k0 : Int) (v : Value) (u : Value) (new : Own) : Prop := u = .int .i64 (k0 + sumLen ls) ∧ NewT eo ei (markLL k0 ls) v new
theorem resM_mono {P : Program} {fn : Nat} {args : Array Value} {w : World} {own : Own} {S S' : Value → Own → Prop} (h : Calls P fn args w (ResM w own S)) (hs : ∀ v new, S v new → S' v new) : Calls P fn args w (ResM w own S') := by
  refine h.mono ?_
  rintro e w' ⟨v, new, h1, h2, h3, h4, h5⟩
  exact ⟨v, new, h1, h2, h3, h4, hs _ _ h5⟩
set_option maxRecDepth 100000 in
theorem c_markTab (bo bt m k : Nat) (g : Nat → Nat → Int) (k0 : Int) (w : World) (ho : OwnOk (TabB 38 2 bo bt m k g) w) (hk : 0 < k) (hmk : m * k ≤ 1048576) (h0 : 0 ≤ k0) (h1 : k0 ≤ 1073741824) :
    Calls Try.prog 32 [.slice (some ⟨bo, 0, none⟩) m m, .int .i64 k0].toArray w (ResM w (TabB 38 2 bo bt m k g) (fun u new => u = .int .i64 (k0 + ((m * k : Nat) : Int)) ∧ new = TabB 38 2 bo bt m k fun a b => k0 + ((a * k + b : Nat) : Int))) := by
  have hm : m ≤ 1048576 := Nat.le_trans (by have := Nat.mul_le_mul_left m hk; omega) hmk
  have hk1 : ∀ i, i < m → i * k + k ≤ 1048576 := fun i hi => by
    have : (i + 1) * k ≤ m * k := Nat.mul_le_mul_right k hi
    rw [Nat.add_mul, Nat.one_mul] at this; omega
  refine calls_of_vwM Try.func32 rfl Try.ntmps32 (by simp) ho ?_
  repeat (first | refine vops_q tyOk rfl ?_ | refine vops_nil ?_ | refine vw_seq ?_ | refine vw_region (by kernel_rfl) ?_ | refine vops_guardT rfl rfl ?_ | refine vops_guardF rfl rfl ?_ | refine vops_guardU rfl rfl ?_ | with_reducible refine bs_nbeq rfl ?_ | with_reducible refine bs_true ?_ | with_reducible refine bs_false ?_ | with_reducible refine bs_ntrue ?_ | with_reducible refine bs_nfalse ?_ | refine vops_p tyOk rfl (by (try simp only [inR]); omega) ?_ | refine vw_cond rfl ?_ | refine vw_skip ?_ | refine vw_block ?_ | refine vw_ret ?_ | refine vw_exit ?_)
  refine vw_loopW (fun x f own => ∃ (i : Nat) (c : Int), i ≤ m ∧ x = m - i ∧ c = k0 + ((i * k : Nat) : Int) ∧ f 5 = .int .i64 i ∧ f 1 = .int .i64 c ∧ f 0 = .slice (some ⟨bo, 0, none⟩) m m ∧ own = TabB 38 2 bo bt m k (markG k0 k g i)) m
    ⟨_, ole_refl, 0, k0, by omega, by omega, by simp, rfl, rfl, rfl, by
      have : flatN m k (markG k0 k g 0) = flatN m k g := flatN_congr fun a b _ _ => by unfold markG; rw [if_neg (by omega)]
      unfold TabB; rw [this]⟩ ?_
  rintro x f own ⟨i, c, hi, rfl, hcc, h5, h1', h0', rfl⟩
  rw [upd_of h0', upd_of h1', upd_of h5]
  repeat (first | refine vops_q tyOk rfl ?_ | refine vops_nil ?_ | refine vw_seq ?_ | refine vw_region (by kernel_rfl) ?_ | refine vops_guardT rfl rfl ?_ | refine vops_guardF rfl rfl ?_ | refine vops_guardU rfl rfl ?_ | with_reducible refine bs_nbeq rfl ?_ | with_reducible refine bs_true ?_ | with_reducible refine bs_false ?_ | with_reducible refine bs_ntrue ?_ | with_reducible refine bs_nfalse ?_ | refine vops_p tyOk rfl (by (try simp only [inR]); omega) ?_ | refine vw_cond rfl ?_ | refine vw_skip ?_ | refine vw_block ?_ | refine vw_ret ?_ | refine vw_exit ?_)
  refine bs_dec (fun h4 => ?_) (fun h4 => ?_)
  · have hik : i < m := by omega
    have hb := hk1 i hik
    have hcell : (rowsV bt k m)[0 + (i : Int).toNat]? = some (.slice (some ⟨bt, i * k, none⟩) k k) := by rw [show 0 + (i : Int).toNat = i by omega]; exact rowsV_get hik
    have hfl := flatN_length m k (markG k0 k g i)
    have hix := idx_lt (m := m) (k := k) (i := i) (j := k - 1) hik (by omega)
    have hst : (i + 1) * k = i * k + k := by rw [Nat.add_mul, Nat.one_mul]
    repeat (first | refine vops_q tyOk rfl ?_ | refine vops_nil ?_ | refine vw_seq ?_ | refine vw_region (by kernel_rfl) ?_ | refine vops_guardT rfl rfl ?_ | refine vops_guardF rfl rfl ?_ | refine vops_guardU rfl rfl ?_ | with_reducible refine bs_nbeq rfl ?_ | with_reducible refine bs_true ?_ | with_reducible refine bs_false ?_ | with_reducible refine bs_ntrue ?_ | with_reducible refine bs_nfalse ?_ | refine vops_p tyOk rfl (by (try simp only [inR]); omega) ?_ | refine vw_cond rfl ?_ | refine vw_skip ?_ | refine vw_block ?_ | refine vw_ret ?_ | refine vw_exit ?_ | refine vops_loadM tyOk rfl rfl rfl (List.mem_cons_self) (by exact hcell) ?_ | (refine vops_callM ent39 rfl (own0 := [(bt, ⟨ints (flatN m k (markG k0 k g i)), 2, m * k * 1, none⟩)]) (by repeat (first | exact pm_here | exact pm_last | apply pm_next | apply pm_past)) (fun w' hg => c_markPart bt (flatN m k (markG k0 k g i)) (i * k) k k 2 (m * k * 1) c w' (okS hg) (by rw [hfl]; omega) (by omega) (by omega) (by omega)) ?_; rintro _ newM ⟨rfl, rfl⟩))
    rw [hcc, markP_row hk]
    refine ⟨m - (i + 1), by omega, TabB 38 2 bo bt m k (markG k0 k g (i + 1)), ole_perm (List.Perm.swap _ _ _), i + 1, k0 + ((i * k : Nat) : Int) + k, by omega, rfl, by rw [hst]; push_cast; omega, rfl, rfl, rfl, rfl⟩
  · obtain rfl : i = m := by omega
    refine vw_nodup (fun hnd => ?_)
    repeat (first | refine vops_q tyOk rfl ?_ | refine vops_nil ?_ | refine vw_seq ?_ | refine vw_region (by kernel_rfl) ?_ | refine vops_guardT rfl rfl ?_ | refine vops_guardF rfl rfl ?_ | refine vops_guardU rfl rfl ?_ | with_reducible refine bs_nbeq rfl ?_ | with_reducible refine bs_true ?_ | with_reducible refine bs_false ?_ | with_reducible refine bs_ntrue ?_ | with_reducible refine bs_nfalse ?_ | refine vops_p tyOk rfl (by (try simp only [inR]); omega) ?_ | refine vw_cond rfl ?_ | refine vw_skip ?_ | refine vw_block ?_ | refine vw_ret ?_ | refine vw_exit ?_)
    refine out1 rfl rfl hnd (fun _ h => h) ⟨by show Value.int .i64 c = _; rw [hcc], ?_⟩
    have : flatN i k (markG k0 k g i) = flatN i k fun a b => k0 + ((a * k + b : Nat) : Int) := flatN_congr fun a b ha _ => by unfold markG; rw [if_pos ha]
    unfold TabB; rw [this]
theorem c_markT (v : Value) (ls : List (List Int)) (k0 : Int) (new : Own) (w : World) (hN : NewT 38 2 ls v new) (ho : OwnOk new w) (hl : ls.length ≤ 1048576) (hs : sumLen ls ≤ 1048576) (h0 : 0 ≤ k0) (h1 : k0 ≤ 1073741824) :
    Calls Try.prog 32 [v, .int .i64 k0].toArray w (ResM w new (MarkedT 38 2 ls k0 v)) := by
  rcases hN with h | ⟨m, k, g, rfl, hk, hmk, bo, bt, rfl, rfl⟩
  · exact resM_mono (c_markInt64SS v ls k0 new w h ho hl hs h0 h1) fun u n h => ⟨h.1, .inl h.2⟩
  · refine resM_mono (c_markTab bo bt m k g k0 w ho hk hmk h0 h1) ?_
    rintro u n ⟨rfl, rfl⟩
    exact ⟨by rw [sumLen_tab], .inr ⟨m, k, _, markLL_tab k0 k g m, hk, hmk, bo, bt, rfl, rfl⟩⟩

/-! squares, as the laws take them -/
end Go.Proofs.Ytjbhmdhebmkgkaa
