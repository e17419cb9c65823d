import Derived.Test.YtdgaabkgfbihpaaUA
import Derived.Test.YtdgaabkgfbihpaaVLArr
import Derived.Test.YtdgaabkgfbihpaaVLPlay
import Derived.Test.YtdgaabkgfbihpaaVLRanG
/- Parts of the proof, one after another. No conditions of their own. -/
/- A part of the proof: W16. No conditions of its own. -/
namespace Go.Proofs.Ytdgaabkgfbihpaa
open Go.VL

/-! evenings made from a base round, and gaps -/
def shN (m i a : Nat) : Nat := if Nat.blt a m then (a + i) % m else a
def gapN (m a b : Nat) : Nat := if Nat.beq a m || Nat.beq b m then 0 else min ((a + m - b) % m) (m - (a + m - b) % m)
def metIn (m a b x y i : Nat) : Bool := (Nat.beq (shN m i a) x && Nat.beq (shN m i b) y) || (Nat.beq (shN m i a) y && Nat.beq (shN m i b) x)
def cntI (m a b x y : Nat) : Nat → Nat
  | 0 => 0
  | i + 1 => (if metIn m a b x y i then 1 else 0) + cntI m a b x y i
def allB (n : Nat) (p : Nat → Bool) : Bool := match n with | 0 => true | k + 1 => p k && allB k p
theorem allB_at {p : Nat → Bool} : ∀ {n : Nat}, allB n p = true → ∀ i, i < n → p i = true
  | 0, _, i, hi => by omega
  | n + 1, h, i, hi => by
    have h' : p n = true ∧ allB n p = true := by simpa [allB] using h
    by_cases e : i = n
    · rw [e]; exact h'.1
    · exact allB_at h'.2 i (by omega)
def lowG (n : Nat) : Nat := n % 4
def manyG (n : Nat) : Nat := n / 4 * 2
def gapCheck (n m : Nat) : Bool := allB n fun a => allB n fun b => Nat.beq a b || (Nat.ble (lowG n) (gapN m a b) && Nat.blt (gapN m a b) (lowG n + manyG n) && allB n fun x => allB n fun y => Nat.beq x y || Nat.beq (cntI m a b x y m) (if Nat.beq (gapN m a b) (gapN m x y) then 1 else 0))
theorem gap4 : gapCheck 4 3 = true := by as_aux_lemma => kernel_rfl
theorem gap5 : gapCheck 5 5 = true := by as_aux_lemma => kernel_rfl
theorem gap8 : gapCheck 8 7 = true := by as_aux_lemma => kernel_rfl
theorem gap9 : gapCheck 9 9 = true := by as_aux_lemma => kernel_rfl
def mOf (n : Nat) : Nat := n - 1 + n % 4
/-- The numbers of players for which base rounds are looked for. -/
def IsBaseN (n : Nat) : Prop := n = 4 ∨ n = 5 ∨ n = 8 ∨ n = 9
theorem gap_check {n : Nat} (h : IsBaseN n) : gapCheck n (mOf n) = true := by
  rcases h with rfl | rfl | rfl | rfl
  · exact gap4
  · exact gap5
  · exact gap8
  · exact gap9
theorem gap_facts {n : Nat} (h : IsBaseN n) {a b : Nat} (ha : a < n) (hb : b < n) (hab : a ≠ b) :
    lowG n ≤ gapN (mOf n) a b ∧ gapN (mOf n) a b < lowG n + manyG n ∧ ∀ x y, x < n → y < n → x ≠ y → cntI (mOf n) a b x y (mOf n) = if gapN (mOf n) a b = gapN (mOf n) x y then 1 else 0 := by
  have h1 := allB_at (allB_at (gap_check h) a ha) b hb
  have hne : Nat.beq a b = false := by
    cases hc : Nat.beq a b with
    | false => rfl
    | true => exact absurd (Nat.eq_of_beq_eq_true hc) hab
  rw [hne, Bool.false_or, Bool.and_eq_true, Bool.and_eq_true] at h1
  obtain ⟨⟨h2, h3⟩, h4⟩ := h1
  refine ⟨Nat.le_of_ble_eq_true h2, by have := Nat.le_of_ble_eq_true h3; omega, fun x y hx hy hxy => ?_⟩
  have h5 := allB_at (allB_at h4 x hx) y hy
  have hne2 : Nat.beq x y = false := by
    cases hc : Nat.beq x y with
    | false => rfl
    | true => exact absurd (Nat.eq_of_beq_eq_true hc) hxy
  rw [hne2, Bool.false_or] at h5
  rw [Nat.eq_of_beq_eq_true h5]
  by_cases hg : gapN (mOf n) a b = gapN (mOf n) x y
  · rw [if_pos hg, if_pos (by rw [hg]; exact Nat.beq_refl _)]
  · rw [if_neg hg, if_neg fun hc => hg (Nat.eq_of_beq_eq_true hc)]

/-! sums over pairs -/
def sumP (f : List Int → Nat) : List (List Int) → Nat
  | [] => 0
  | p :: P => f p + sumP f P
theorem sumP_add (f g : List Int → Nat) : ∀ P, sumP (fun p => f p + g p) P = sumP f P + sumP g P
  | [] => rfl
  | p :: P => by simp only [sumP, sumP_add f g P]; omega
theorem sumP_ind (c : List Int → Bool) : ∀ P, sumP (fun p => if c p then 1 else 0) P = (P.filter c).length
  | [] => rfl
  | p :: P => by
    simp only [sumP, sumP_ind c P, List.filter_cons]
    split
    · rw [List.length_cons]; omega
    · omega
theorem sumP_congr {f g : List Int → Nat} : ∀ {P}, (∀ p ∈ P, f p = g p) → sumP f P = sumP g P
  | [], _ => rfl
  | p :: P, h => by simp only [sumP, h p (by simp), sumP_congr (P := P) fun q hq => h q (by simp [hq])]
theorem relP_mem {n : Int} {ds : List Nat} : ∀ {m : Nat} {l : List Int}, l.length = 4 * m → DiffL n l → ∀ {p : List Int}, p ∈ relP ds l → ∃ a b : Nat, (a : Int) < n ∧ (b : Int) < n ∧ a ≠ b ∧ p = [(a : Int), (b : Int)]
  | 0, l, hl, _, p, hp => by
    obtain rfl : l = [] := List.length_eq_zero_iff.1 (by omega)
    rw [relP_nil] at hp; simp at hp
  | m + 1, a :: b :: c :: e :: l, hl, hd, p, hp => by
    have hnd := hd.2
    have hr := hd.1
    rw [relP] at hp
    rcases List.mem_append.1 hp with hp | hp
    · have ra := hr a (by simp)
      have rb := hr b (by simp)
      have rc := hr c (by simp)
      have re := hr e (by simp)
      have dist : a ≠ b ∧ a ≠ c ∧ a ≠ e ∧ b ≠ c ∧ b ≠ e ∧ c ≠ e := by
        simp only [List.nodup_cons, List.mem_cons, not_or] at hnd
        obtain ⟨⟨h1, h2, h3, _⟩, ⟨h4, h5, _⟩, ⟨h6, _⟩, _⟩ := hnd
        exact ⟨h1, h2, h3, h4, h5, h6⟩
      obtain ⟨q, hq, hp⟩ := List.mem_flatten.1 hp
      obtain ⟨d, _, rfl⟩ := List.mem_map.1 hq
      have mk : ∀ u v : Int, (0 ≤ u ∧ u < n) → (0 ≤ v ∧ v < n) → u ≠ v → p = [u, v] → ∃ a b : Nat, (a : Int) < n ∧ (b : Int) < n ∧ a ≠ b ∧ p = [(a : Int), (b : Int)] := fun u v hu hv huv e => ⟨u.toNat, v.toNat, by omega, by omega, by omega, by rw [e, Int.toNat_of_nonneg hu.1, Int.toNat_of_nonneg hv.1]⟩
      obtain ⟨d1, d2, d3, d4, d5, d6⟩ := dist
      unfold pairs4 at hp
      split at hp
      · rcases List.mem_cons.1 hp with h | h
        · exact mk _ _ ra rb d1 h
        · exact mk _ _ rc re d6 (by simpa using h)
      split at hp
      · rcases List.mem_cons.1 hp with h | h
        · exact mk _ _ ra rc d2 h
        · exact mk _ _ rb re d5 (by simpa using h)
      · rcases List.mem_cons.1 hp with h | h
        · exact mk _ _ ra re d3 h
        · exact mk _ _ rb rc d4 (by simpa using h)
    · exact relP_mem (m := m) (by simp only [List.length_cons] at hl; omega) ⟨fun x hx => hr x (by simp [hx]), by
        simp only [List.nodup_cons] at hnd; exact hnd.2.2.2.2⟩ hp
  | m + 1, [], hl, _, _, _ => by simp only [List.length_nil] at hl; omega
  | m + 1, [_], hl, _, _, _ => by simp only [List.length_cons, List.length_nil] at hl; omega
  | m + 1, [_, _], hl, _, _, _ => by simp only [List.length_cons, List.length_nil] at hl; omega
  | m + 1, [_, _, _], hl, _, _, _ => by simp only [List.length_cons, List.length_nil] at hl; omega
theorem pairs4_map (f : Int → Int) (d : Nat) (a b c e : Int) : pairs4 d (f a) (f b) (f c) (f e) = (pairs4 d a b c e).map (·.map f) := by
  unfold pairs4; split
  · rfl
  split <;> rfl
theorem tabP_map (f : Int → Int) (ds : List Nat) (a b c e : Int) : tabP ds (f a) (f b) (f c) (f e) = (tabP ds a b c e).map (·.map f) := by
  induction ds with
  | nil => rfl
  | cons d ds ih => rw [tabP_cons, tabP_cons, List.map_append, pairs4_map, ih]
theorem relP_map (f : Int → Int) (ds : List Nat) : ∀ (m : Nat) (l : List Int), l.length = 4 * m → relP ds (l.map f) = (relP ds l).map (·.map f)
  | 0, l, hl => by
    obtain rfl : l = [] := List.length_eq_zero_iff.1 (by omega)
    simp [relP_nil]
  | m + 1, a :: b :: c :: e :: l, hl => by
    have ih := relP_map f ds m l (by simp only [List.length_cons] at hl; omega)
    simp only [List.map_cons, relP, List.map_append, ih, tabP_map]
  | m + 1, [], hl => by simp only [List.length_nil] at hl; omega
  | m + 1, [_], hl => by simp only [List.length_cons, List.length_nil] at hl; omega
  | m + 1, [_, _], hl => by simp only [List.length_cons, List.length_nil] at hl; omega
  | m + 1, [_, _, _], hl => by simp only [List.length_cons, List.length_nil] at hl; omega

/-- A round made from a base round. -/
def shI (m i : Nat) (x : Int) : Int := if x < (m : Int) then (x + (i : Int)) % (m : Int) else x
def madeT (m : Nat) (l : List Int) (k : Nat) : List (List Int) := (List.range k).map fun i => l.map (shI m i)
theorem madeT_succ (m : Nat) (l : List Int) (k : Nat) : madeT m l (k + 1) = madeT m l k ++ [l.map (shI m k)] := by simp [madeT, List.range_succ]
theorem madeT_length (m : Nat) (l : List Int) (k : Nat) : (madeT m l k).length = k := by simp [madeT]
theorem madeT_get {m : Nat} {l : List Int} {k i : Nat} (h : i < k) : (madeT m l k)[i]? = some (l.map (shI m i)) := by simp [madeT, h]
theorem madeT_mem {m : Nat} {l r : List Int} {k : Nat} (h : r ∈ madeT m l k) : ∃ i, i < k ∧ r = l.map (shI m i) := by
  obtain ⟨i, hi, rfl⟩ := List.mem_map.1 h; exact ⟨i, List.mem_range.1 hi, rfl⟩
theorem shI_nat (m i a : Nat) : shI m i (a : Int) = (shN m i a : Nat) := by
  unfold shI shN
  by_cases h : a < m
  · rw [if_pos (by omega), if_pos (show Nat.blt a m = true from Nat.ble_eq_true_of_le h)]; push_cast; rfl
  · rw [if_neg (by omega), if_neg (show ¬ Nat.blt a m = true from fun hc => h (Nat.le_of_ble_eq_true hc))]
theorem relN_one (ds : List Nat) (es : List (List Int)) (r : List Int) (hes : ∀ q ∈ es, q.length % 4 = 0) (x y : Nat) : relN ds (es ++ [r]) x y = relN ds es x y + hits (relP ds r) x y := by
  unfold relN
  rw [List.flatten_append, relP_flat ds es hes, hits_app]
  have := relP_flat ds es hes []
  rw [List.append_nil, relP_nil, List.append_nil] at this
  rw [this]
  simp
/-- How often the gap is g. -/
def gapC (m : Nat) (ds : List Nat) (l : List Int) (g : Nat) : Nat := ((relP ds l).filter fun p => Nat.beq (gapN m (p.getD 0 0).toNat (p.getD 1 0).toNat) g).length
theorem nbeq_iff (a b : Nat) : Nat.beq a b = decide (a = b) := by
  by_cases h : a = b
  · subst h; rw [decide_eq_true rfl]; exact Nat.beq_refl _
  · rw [decide_eq_false h]
    cases hc : Nat.beq a b with
    | false => rfl
    | true => exact absurd (Nat.eq_of_beq_eq_true hc) h
theorem hits_sh {n : Int} {ds : List Nat} {l : List Int} {m q i : Nat} (hl : l.length = 4 * q) (hd : DiffL n l) (x y : Nat) :
    hits (relP ds (l.map (shI m i))) x y = sumP (fun p => if metIn m (p.getD 0 0).toNat (p.getD 1 0).toNat x y i then 1 else 0) (relP ds l) := by
  rw [relP_map _ ds q l hl]
  unfold hits
  rw [List.filter_map, List.length_map, ← sumP_ind]
  refine sumP_congr fun p hp => ?_
  obtain ⟨a, b, _, _, _, rfl⟩ := relP_mem hl hd hp
  congr 1
  simp only [Function.comp, List.map_cons, List.map_nil, List.getD_cons_zero, List.getD_cons_succ, Int.toNat_natCast, shI_nat, metIn, nbeq_iff]
  simp only [eq_iff_iff, decide_eq_true_eq, Bool.or_eq_true, Bool.and_eq_true]
  omega
theorem relN_sh {n : Int} {ds : List Nat} {l : List Int} {m q : Nat} (hl : l.length = 4 * q) (hd : DiffL n l) (x y : Nat) : ∀ k, relN ds (madeT m l k) x y = sumP (fun p => cntI m (p.getD 0 0).toNat (p.getD 1 0).toNat x y k) (relP ds l)
  | 0 => by
    rw [show madeT m l 0 = [] from rfl, relN_nil]
    have : ∀ P, sumP (fun p => cntI m (p.getD 0 0).toNat (p.getD 1 0).toNat x y 0) P = 0 := fun P => by
      induction P with
      | nil => rfl
      | cons p P ih => simp only [sumP, ih]; rfl
    rw [this]
  | k + 1 => by
    rw [madeT_succ, relN_one _ _ _ (fun r hr => by obtain ⟨i, _, rfl⟩ := madeT_mem hr; rw [List.length_map]; omega), relN_sh hl hd x y k, hits_sh hl hd]
    simp only [cntI]
    rw [sumP_add]; omega
/-- Two are related in the evening as often as their gap in the base round. -/
theorem relN_gap {n : Nat} (hn : IsBaseN n) {ds : List Nat} {l : List Int} (hl : l.length % 4 = 0) (hd : DiffL n l) {x y : Nat} (hx : x < n) (hy : y < n) (hxy : x ≠ y) :
    relN ds (madeT (mOf n) l (mOf n)) x y = gapC (mOf n) ds l (gapN (mOf n) x y) := by
  rw [relN_sh (q := l.length / 4) (by omega) hd]
  unfold gapC
  rw [← sumP_ind]
  refine sumP_congr fun p hp => ?_
  obtain ⟨a, b, ha, hb, hab, rfl⟩ := relP_mem (m := l.length / 4) (by omega) hd hp
  have := (gap_facts hn (a := a) (b := b) (by omega) (by omega) hab).2.2 x y hx hy hxy
  simp only [List.getD_cons_zero, List.getD_cons_succ, Int.toNat_natCast, nbeq_iff, decide_eq_true_eq]
  exact this
theorem relP_flat0 {ds : List Nat} {es : List (List Int)} (h : ∀ q ∈ es, q.length % 4 = 0) : relP ds es.flatten = (es.map (relP ds)).flatten := by
  have := relP_flat ds es h []
  rwa [List.append_nil, relP_nil, List.append_nil] at this
theorem relN_self {n : Int} {ds : List Nat} {es : List (List Int)} (h : ∀ r ∈ es, EvRow n r) (x : Nat) : relN ds es x x = 0 := by
  unfold relN hits
  rw [relP_flat0 fun q hq => (h q hq).1, List.length_eq_zero_iff, List.filter_eq_nil_iff]
  intro p hp
  obtain ⟨P, hP, hpP⟩ := List.mem_flatten.1 hp
  obtain ⟨r, hr, rfl⟩ := List.mem_map.1 hP
  have h1 := h r hr
  obtain ⟨a, b, _, _, hab, rfl⟩ := relP_mem (m := r.length / 4) (by have := h1.1; omega) h1.2 hpP
  simp only [List.getD_cons_zero, List.getD_cons_succ, decide_eq_true_eq]
  omega

/-! no gap too often -/
def sumN (f : Nat → Nat) : Nat → Nat
  | 0 => 0
  | k + 1 => sumN f k + f k
theorem sumN_le {f : Nat → Nat} {c : Nat} : ∀ {k : Nat}, (∀ g, g < k → f g ≤ c) → sumN f k ≤ k * c
  | 0, _ => by simp [sumN]
  | k + 1, h => by
    have a := sumN_le (f := f) (c := c) (k := k) fun g hg => h g (by omega)
    have b := h k (by omega)
    rw [sumN, Nat.add_mul, Nat.one_mul]; omega
theorem sumN_all {f : Nat → Nat} {c : Nat} : ∀ {k : Nat}, (∀ g, g < k → f g ≤ c) → sumN f k = k * c → ∀ g, g < k → f g = c
  | 0, _, _, g, hg => by omega
  | k + 1, h, e, g, hg => by
    have a := sumN_le (f := f) (c := c) (k := k) fun g hg => h g (by omega)
    have b := h k (by omega)
    rw [sumN, Nat.add_mul, Nat.one_mul] at e
    by_cases hgk : g = k
    · subst hgk; omega
    · exact sumN_all (k := k) (fun g hg => h g (by omega)) (by omega) g (by omega)
theorem sumN_zero : ∀ k, sumN (fun _ => 0) k = 0
  | 0 => rfl
  | k + 1 => by rw [sumN, sumN_zero k]
theorem sumN_add (f g : Nat → Nat) : ∀ k, sumN (fun i => f i + g i) k = sumN f k + sumN g k
  | 0 => rfl
  | k + 1 => by simp only [sumN, sumN_add f g k]; omega
theorem sumN_one (j : Nat) : ∀ k, sumN (fun i => if j = i then 1 else 0) k = if j < k then 1 else 0
  | 0 => by simp [sumN]
  | k + 1 => by
    rw [sumN, sumN_one j k]
    by_cases h : j < k
    · rw [if_pos h, if_neg (by omega), if_pos (by omega)]
    · rw [if_neg h]
      by_cases h2 : j = k
      · rw [if_pos h2, if_pos (by omega)]
      · rw [if_neg h2, if_neg (by omega)]
theorem sum_gaps {n : Nat} (hn : IsBaseN n) {ds : List Nat} {l : List Int} (hl : l.length % 4 = 0) (hd : DiffL n l) : sumN (fun g => gapC (mOf n) ds l (lowG n + g)) (manyG n) = (relP ds l).length := by
  have key : ∀ P : List (List Int), (∀ p ∈ P, lowG n ≤ gapN (mOf n) (p.getD 0 0).toNat (p.getD 1 0).toNat ∧ gapN (mOf n) (p.getD 0 0).toNat (p.getD 1 0).toNat < lowG n + manyG n) →
      sumN (fun g => (P.filter fun p => Nat.beq (gapN (mOf n) (p.getD 0 0).toNat (p.getD 1 0).toNat) (lowG n + g)).length) (manyG n) = P.length := by
    intro P
    induction P with
    | nil => intro _; exact sumN_zero _
    | cons p P ih =>
      intro h
      have h1 := h p (by simp)
      have e : (fun g => ((p :: P).filter fun p => Nat.beq (gapN (mOf n) (p.getD 0 0).toNat (p.getD 1 0).toNat) (lowG n + g)).length) = fun g => (if gapN (mOf n) (p.getD 0 0).toNat (p.getD 1 0).toNat - lowG n = g then 1 else 0) + (P.filter fun p => Nat.beq (gapN (mOf n) (p.getD 0 0).toNat (p.getD 1 0).toNat) (lowG n + g)).length := by
        funext g
        rw [List.filter_cons]
        by_cases hc : gapN (mOf n) (p.getD 0 0).toNat (p.getD 1 0).toNat = lowG n + g
        · rw [if_pos (by rw [hc]; exact Nat.beq_refl _), if_pos (by omega), List.length_cons]; omega
        · rw [if_neg (by rw [nbeq_iff]; simpa using hc), if_neg (by omega)]; omega
      rw [e, sumN_add, sumN_one, if_pos (by omega), ih fun q hq => h q (by simp [hq]), List.length_cons]; omega
  refine key _ fun p hp => ?_
  obtain ⟨a, b, ha, hb, hab, rfl⟩ := relP_mem (m := l.length / 4) (by omega) hd hp
  have := gap_facts hn (a := a) (b := b) (by omega) (by omega) hab
  exact ⟨this.1, this.2.1⟩
/-- No gap of partners twice, none of opponents three times. -/
def CanB (n : Nat) (l : List Int) : Prop := (∀ g, gapC (mOf n) [1] l g ≤ 1) ∧ ∀ g, gapC (mOf n) [2, 3] l g ≤ 2
/-- Nobody partner twice, nobody opponent three times, in the evening made from some tables. -/
def FitsB (n : Nat) (l : List Int) : Prop := ∀ x y, x < n → y < n → relN [1] (madeT (mOf n) l (mOf n)) x y ≤ 1 ∧ relN [2, 3] (madeT (mOf n) l (mOf n)) x y ≤ 2
theorem gapC_seen {n : Nat} {m : Nat} {ds : List Nat} {l : List Int} (hl : l.length % 4 = 0) (hd : DiffL n l) {g : Nat} (h : 0 < gapC m ds l g) : ∃ x y, x < n ∧ y < n ∧ x ≠ y ∧ gapN m x y = g := by
  unfold gapC at h
  obtain ⟨p, hp⟩ := List.exists_mem_of_length_pos h
  obtain ⟨hp1, hp2⟩ := List.mem_filter.1 hp
  obtain ⟨a, b, ha, hb, hab, rfl⟩ := relP_mem (m := l.length / 4) (by omega) hd hp1
  exact ⟨a, b, by omega, by omega, hab, Nat.eq_of_beq_eq_true hp2⟩
theorem evRow_sh {n : Nat} (_hn : 4 ≤ n) {m : Nat} (hm : 0 < m) (hmn : m ≤ n) {l : List Int} (hl : l.length % 4 = 0) (hd : DiffL n l) {i : Nat} (_hi : i < m) : EvRow n (l.map (shI m i)) := by
  have hr : ∀ x : Int, 0 ≤ x → x < n → 0 ≤ shI m i x ∧ shI m i x < n := fun x h0 h1 => by
    unfold shI
    split
    · have a := Int.emod_nonneg (x + i) (show (m : Int) ≠ 0 by omega)
      have b := Int.emod_lt_of_pos (x + i) (show (0 : Int) < m by omega)
      omega
    · omega
  refine ⟨by rw [List.length_map]; exact hl, fun x hx => ?_, ?_⟩
  · obtain ⟨y, hy, rfl⟩ := List.mem_map.1 hx
    have := hd.1 y hy
    exact hr y this.1 this.2
  · have hp : l.Pairwise fun a b => shI m i a ≠ shI m i b := by
      refine List.Pairwise.imp_of_mem (fun {a b} ha hb hab => ?_) hd.2
      have h1 := hd.1 a ha
      have h2 := hd.1 b hb
      unfold shI
      intro e
      by_cases ha' : a < m
      · by_cases hb' : b < m
        · rw [if_pos ha', if_pos hb'] at e
          have e2 := Int.emod_emod_of_dvd
          have hz : (a + i - (b + i)) % (m : Int) = 0 := Int.emod_eq_emod_iff_emod_sub_eq_zero.1 e
          rw [show a + (i : Int) - (b + i) = a - b by omega] at hz
          have hdv := Int.dvd_of_emod_eq_zero hz
          obtain ⟨c, hc⟩ := hdv
          have : c = 0 := by
            rcases Int.lt_trichotomy c 0 with h | h | h
            · have : (m : Int) * c ≤ m * (-1) := Int.mul_le_mul_of_nonneg_left (by omega) (by omega)
              omega
            · exact h
            · have : (m : Int) * 1 ≤ m * c := Int.mul_le_mul_of_nonneg_left (by omega) (by omega)
              omega
          rw [this] at hc
          omega
        · rw [if_pos ha', if_neg hb'] at e
          have b := Int.emod_lt_of_pos (a + i) (show (0 : Int) < m by omega)
          omega
      · by_cases hb' : b < m
        · rw [if_neg ha', if_pos hb'] at e
          have b := Int.emod_lt_of_pos (b + i) (show (0 : Int) < m by omega)
          omega
        · rw [if_neg ha', if_neg hb'] at e
          exact hab e
    exact List.pairwise_map.2 hp
theorem isBaseN_le {n : Nat} (hn : IsBaseN n) : 4 ≤ n ∧ n ≤ 9 ∧ 0 < mOf n ∧ mOf n ≤ n ∧ n % 4 ≤ 1 := by
  rcases hn with rfl | rfl | rfl | rfl <;> decide
theorem evRows_made {n : Nat} (hn : IsBaseN n) {l : List Int} (hl : l.length % 4 = 0) (hd : DiffL n l) : ∀ r ∈ madeT (mOf n) l (mOf n), EvRow n r := fun r hr => by
  obtain ⟨h1, h2, h3, h4, h5⟩ := isBaseN_le hn
  obtain ⟨i, hi, rfl⟩ := madeT_mem hr
  exact evRow_sh h1 h3 h4 hl hd hi
theorem can_fits {n : Nat} (hn : IsBaseN n) {l : List Int} (hl : l.length % 4 = 0) (hd : DiffL n l) : CanB n l ↔ FitsB n l := by
  constructor
  · rintro ⟨h1, h2⟩ x y hx hy
    by_cases hxy : x = y
    · subst hxy
      rw [relN_self (evRows_made hn hl hd), relN_self (evRows_made hn hl hd)]; omega
    · rw [relN_gap hn hl hd hx hy hxy, relN_gap hn hl hd hx hy hxy]
      exact ⟨h1 _, h2 _⟩
  · intro h
    constructor
    · intro g
      by_cases h0 : gapC (mOf n) [1] l g = 0
      · omega
      obtain ⟨x, y, hx, hy, hxy, rfl⟩ := gapC_seen hl hd (m := mOf n) (ds := [1]) (g := g) (by omega)
      have := (h x y hx hy).1
      rwa [relN_gap hn hl hd hx hy hxy] at this
    · intro g
      by_cases h0 : gapC (mOf n) [2, 3] l g = 0
      · omega
      obtain ⟨x, y, hx, hy, hxy, rfl⟩ := gapC_seen hl hd (m := mOf n) (ds := [2, 3]) (g := g) (by omega)
      have := (h x y hx hy).2
      rwa [relN_gap hn hl hd hx hy hxy] at this
/-- Each two related just so often. -/
def EachIs (n : Nat) (ds : List Nat) (es : List (List Int)) (c : Nat) : Prop := ∀ x y, x < n → y < n → x ≠ y → relN ds es x y = c
theorem can_whist {n : Nat} (hn : IsBaseN n) {l : List Int} (hl : l.length = n - n % 4) (hd : DiffL n l) : CanB n l ↔ EachIs n [1] (madeT (mOf n) l (mOf n)) 1 ∧ EachIs n [2, 3] (madeT (mOf n) l (mOf n)) 2 := by
  have h4 : l.length % 4 = 0 := by omega
  have hq : l.length = 4 * (n / 4) := by omega
  have p1 := relP_length [1] (n / 4) l hq
  have p2 := relP_length [2, 3] (n / 4) l hq
  constructor
  · rintro ⟨h1, h2⟩
    have s1 := sumN_all (f := fun g => gapC (mOf n) [1] l (lowG n + g)) (c := 1) (k := manyG n) (fun g _ => h1 _) (by rw [sum_gaps hn h4 hd, p1]; unfold manyG; simp)
    have s2 := sumN_all (f := fun g => gapC (mOf n) [2, 3] l (lowG n + g)) (c := 2) (k := manyG n) (fun g _ => h2 _) (by rw [sum_gaps hn h4 hd, p2]; unfold manyG; simp only [List.length_cons, List.length_nil]; omega)
    constructor
    · intro x y hx hy hxy
      rw [relN_gap hn h4 hd hx hy hxy]
      obtain ⟨g1, g2, _⟩ := gap_facts hn hx hy hxy
      have := s1 (gapN (mOf n) x y - lowG n) (by omega)
      simpa only [show lowG n + (gapN (mOf n) x y - lowG n) = gapN (mOf n) x y by omega] using this
    · intro x y hx hy hxy
      rw [relN_gap hn h4 hd hx hy hxy]
      obtain ⟨g1, g2, _⟩ := gap_facts hn hx hy hxy
      have := s2 (gapN (mOf n) x y - lowG n) (by omega)
      simpa only [show lowG n + (gapN (mOf n) x y - lowG n) = gapN (mOf n) x y by omega] using this
  · rintro ⟨h1, h2⟩
    refine (can_fits hn h4 hd).2 fun x y hx hy => ?_
    by_cases hxy : x = y
    · subst hxy
      rw [relN_self (evRows_made hn h4 hd), relN_self (evRows_made hn h4 hd)]; omega
    · rw [h1 x y hx hy hxy, h2 x y hx hy hxy]; omega
end Go.Proofs.Ytdgaabkgfbihpaa

/- A part of the proof: W9. No conditions of its own. -/
namespace Go.Proofs.Ytdgaabkgfbihpaa
open Go.VL
attribute [local irreducible] VWr VOps VD Calls

/-- Which function tells of a table who stands in the relation d. -/
def relFn (d : Nat) : Nat := if d = 1 then 265 else if d = 2 then 263 else 312
set_option maxRecDepth 100000 in
theorem c_partners (a b c e : Int) (w : World) : Calls Try.prog 265 [.agg (ints [a, b, c, e]).toArray].toArray w (Res w (Is (.agg (ints [a, b, c, e]).toArray))) := by
  refine calls_of_vw Try.func265 rfl Try.ntmps265 (by simp) ?_
  refine vw_seq (vw_region (by kernel_rfl) (vops_box (ints [a, b, c, e]) rfl (fun b1 hb1 => ?_)))
  refine vops_allocZ (ints [0, 0, 0, 0]) tyOk rfl rfl (by simp [ints]) (fun b2 hb2 => ?_)
  repeat (first | refine vops_nil ?_ | refine vw_seq ?_ | refine vw_region (by kernel_rfl) ?_ | refine vops_p tyOk rfl (by (try simp only [inR]); omega) ?_ | refine vw_ret ?_ | (show VOps _ _ _ _ (⟨some _, Go.Op.build 296 _, _, _, _, none⟩ :: _) _ _; refine vops_run (x_build #[.int .i64 a, .int .i64 b, .int .i64 c, .int .i64 e] rfl (by kernel_rfl)) ?_) | ((show VOps _ _ _ _ (⟨some _, Go.Op.load _ _, _, _, _, none⟩ :: _) _ _); refine vops_loadM tyOk rfl rfl rfl (by repeat (first | exact mem_here | apply mem_next | apply mem_past)) (by rfl) ?_) | ((show VOps _ _ _ _ (⟨none, Go.Op.store _ _ _, _, _, _, none⟩ :: _) _ _); refine vops_storeAM tyOk rfl rfl rfl (by first | rfl | (rw [ints_length]; first | assumption | omega | (rw [ints_length]; first | assumption | omega | simp [*])) | simp [*]) (by first | exact ints_one | simp [Value.oneCell']) (by repeat (first | exact upd_here | apply upd_next | apply upd_past)) (by first | rfl | (rw [ints_length]; first | assumption | omega | (rw [ints_length]; first | assumption | omega | simp [*])) | simp [*]) ?_) | refine vops_build2 rfl rfl (by kernel_rfl) ?_)
  exact rvc_ints 0 (r := [a, b, c, e]) tyOk rfl rfl rfl rfl rfl rfl rfl
set_option maxRecDepth 100000 in
theorem c_firstOpponents (a b c e : Int) (w : World) : Calls Try.prog 263 [.agg (ints [a, b, c, e]).toArray].toArray w (Res w (Is (.agg (ints [a, c, b, e]).toArray))) := by
  refine calls_of_vw Try.func263 rfl Try.ntmps263 (by simp) ?_
  refine vw_seq (vw_region (by kernel_rfl) (vops_box (ints [a, b, c, e]) rfl (fun b1 hb1 => ?_)))
  refine vops_allocZ (ints [0, 0, 0, 0]) tyOk rfl rfl (by simp [ints]) (fun b2 hb2 => ?_)
  repeat (first | refine vops_nil ?_ | refine vw_seq ?_ | refine vw_region (by kernel_rfl) ?_ | refine vops_p tyOk rfl (by (try simp only [inR]); omega) ?_ | refine vw_ret ?_ | (show VOps _ _ _ _ (⟨some _, Go.Op.build 296 _, _, _, _, none⟩ :: _) _ _; refine vops_run (x_build #[.int .i64 a, .int .i64 c, .int .i64 b, .int .i64 e] rfl (by kernel_rfl)) ?_) | ((show VOps _ _ _ _ (⟨some _, Go.Op.load _ _, _, _, _, none⟩ :: _) _ _); refine vops_loadM tyOk rfl rfl rfl (by repeat (first | exact mem_here | apply mem_next | apply mem_past)) (by rfl) ?_) | ((show VOps _ _ _ _ (⟨none, Go.Op.store _ _ _, _, _, _, none⟩ :: _) _ _); refine vops_storeAM tyOk rfl rfl rfl (by first | rfl | (rw [ints_length]; first | assumption | omega | (rw [ints_length]; first | assumption | omega | simp [*])) | simp [*]) (by first | exact ints_one | simp [Value.oneCell']) (by repeat (first | exact upd_here | apply upd_next | apply upd_past)) (by first | rfl | (rw [ints_length]; first | assumption | omega | (rw [ints_length]; first | assumption | omega | simp [*])) | simp [*]) ?_) | refine vops_build2 rfl rfl (by kernel_rfl) ?_)
  exact rvc_ints 0 (r := [a, c, b, e]) tyOk rfl rfl rfl rfl rfl rfl rfl
set_option maxRecDepth 100000 in
theorem c_secondOpponents (a b c e : Int) (w : World) : Calls Try.prog 312 [.agg (ints [a, b, c, e]).toArray].toArray w (Res w (Is (.agg (ints [a, e, b, c]).toArray))) := by
  refine calls_of_vw Try.func312 rfl Try.ntmps312 (by simp) ?_
  refine vw_seq (vw_region (by kernel_rfl) (vops_box (ints [a, b, c, e]) rfl (fun b1 hb1 => ?_)))
  refine vops_allocZ (ints [0, 0, 0, 0]) tyOk rfl rfl (by simp [ints]) (fun b2 hb2 => ?_)
  repeat (first | refine vops_nil ?_ | refine vw_seq ?_ | refine vw_region (by kernel_rfl) ?_ | refine vops_p tyOk rfl (by (try simp only [inR]); omega) ?_ | refine vw_ret ?_ | (show VOps _ _ _ _ (⟨some _, Go.Op.build 296 _, _, _, _, none⟩ :: _) _ _; refine vops_run (x_build #[.int .i64 a, .int .i64 e, .int .i64 b, .int .i64 c] rfl (by kernel_rfl)) ?_) | ((show VOps _ _ _ _ (⟨some _, Go.Op.load _ _, _, _, _, none⟩ :: _) _ _); refine vops_loadM tyOk rfl rfl rfl (by repeat (first | exact mem_here | apply mem_next | apply mem_past)) (by rfl) ?_) | ((show VOps _ _ _ _ (⟨none, Go.Op.store _ _ _, _, _, _, none⟩ :: _) _ _); refine vops_storeAM tyOk rfl rfl rfl (by first | rfl | (rw [ints_length]; first | assumption | omega | (rw [ints_length]; first | assumption | omega | simp [*])) | simp [*]) (by first | exact ints_one | simp [Value.oneCell']) (by repeat (first | exact upd_here | apply upd_next | apply upd_past)) (by first | rfl | (rw [ints_length]; first | assumption | omega | (rw [ints_length]; first | assumption | omega | simp [*])) | simp [*]) ?_) | refine vops_build2 rfl rfl (by kernel_rfl) ?_)
  exact rvc_ints 0 (r := [a, e, b, c]) tyOk rfl rfl rfl rfl rfl rfl rfl
/-- The pairs of a table, one behind the other. -/
def flat4 (d : Nat) (a b c e : Int) : List Int := if d = 1 then [a, b, c, e] else if d = 2 then [a, c, b, e] else [a, e, b, c]
theorem c_rel (d : Nat) (hd : d = 1 ∨ d = 2 ∨ d = 3) (a b c e : Int) (w : World) : Calls Try.prog (relFn d) [.agg (ints [a, b, c, e]).toArray].toArray w (Res w (Is (.agg (ints (flat4 d a b c e)).toArray))) := by
  rcases hd with rfl | rfl | rfl
  · exact c_partners a b c e w
  · exact c_firstOpponents a b c e w
  · exact c_secondOpponents a b c e w
theorem ent_rel (d : Nat) : Ent Try.prog (relFn d) := by
  unfold relFn
  split
  · exact ent265
  split
  · exact ent263
  · exact ent312
theorem flat4_pairs (d : Nat) (a b c e : Int) : pairs4 d a b c e = [[(flat4 d a b c e).getD 0 0, (flat4 d a b c e).getD 1 0], [(flat4 d a b c e).getD 2 0, (flat4 d a b c e).getD 3 0]] := by
  unfold pairs4 flat4
  split
  · rfl
  split <;> rfl
theorem flat4_length (d : Nat) (a b c e : Int) : (flat4 d a b c e).length = 4 := by
  unfold flat4
  split
  · rfl
  split <;> rfl
end Go.Proofs.Ytdgaabkgfbihpaa

/- A part of the proof: W10. No conditions of its own. -/
namespace Go.Proofs.Ytdgaabkgfbihpaa
open Go.VL
attribute [local irreducible] VWr VOps VD Calls

/-- The parts of a list, four and four. -/
def partV (a : Option Addr) (i : Nat) : Value := match a with
  | some ⟨b, o, _⟩ => .slice (some ⟨b, o + 4 * i, none⟩) 4 4
  | none => .slice none 4 4
def chunkV (a : Option Addr) (m : Nat) : List (List Value) := (List.range m).map fun i => [partV a i]
theorem chunkV_at {a : Option Addr} {m i : Nat} (h : i < m) : (chunkV a m)[i]? = some [partV a i] := by simp [chunkV, h]
theorem chunkV_length (a : Option Addr) (m : Nat) : (chunkV a m).length = m := by simp [chunkV]
def ChunkCap (u : Value) (b2 b3 : Nat) : Own := [(b3, ⟨[.int .i64 4], 3, 1, none⟩), (b2, ⟨[u], 42, 1, none⟩)]
def ChunkF (u : Value) (v : Value) (new : Own) : Prop := ∃ b2 b3, v = .func (.func 336) #[] [.pointer (some ⟨b2, 0, none⟩), .pointer (some ⟨b3, 0, none⟩)].toArray ∧ new = ChunkCap u b2 b3 ∧ b3 ≠ b2

set_option maxRecDepth 100000 in
theorem c_chunk (a : Option Addr) (n cap : Nat) (w : World) : Calls Try.prog 289 [.slice a n cap, .int .i64 4].toArray w (Res w (ChunkF (.slice a n cap))) := by
  refine calls_of_vw Try.func289 rfl Try.ntmps289 (by simp) ?_
  refine vw_seq (vw_region (by kernel_rfl) (vops_box [.slice a n cap] rfl (fun b2 hb2 => ?_)))
  refine vops_box [.int .i64 4] rfl (fun b3 hb3 => ?_)
  have hne : b3 ≠ b2 := fun h => hb3 (by simp [ids, h])
  repeat (first | refine vops_q tyOk rfl ?_ | refine vops_nil ?_ | refine vw_seq ?_ | refine vw_region (by kernel_rfl) ?_ | refine vw_cond rfl ?_ | ((show VOps _ _ _ _ (⟨some _, Go.Op.load _ _, _, _, _, none⟩ :: _) _ _); refine vops_loadM tyOk rfl rfl rfl (by repeat (first | exact mem_here | apply mem_next | apply mem_past)) (by rfl) ?_))
  refine bs_dec (fun h => ?_) (fun h => ?_)
  · exfalso; omega
  repeat (first | refine vops_q tyOk rfl ?_ | refine vops_nil ?_ | refine vw_seq ?_ | refine vw_region (by kernel_rfl) ?_ | refine vw_skip ?_ | refine vw_ret ?_ | refine vops_mkf rfl ?_)
  exact out1 rfl rfl (by simp [ids, hne]) (fun _ h => h) ⟨b2, b3, rfl, rfl, hne⟩

set_option maxHeartbeats 1000000 in
set_option maxRecDepth 100000 in
theorem it_chunk (a : Option Addr) (m cap : Nat) (ha : m = 0 ∨ ∃ b o, a = some ⟨b, o, none⟩) (hcap : 4 * m ≤ cap) (hm : m ≤ 1048576) (b2 b3 : Nat) : Iter Try.prog 336 [.pointer (some ⟨b2, 0, none⟩), .pointer (some ⟨b3, 0, none⟩)] (chunkV a m) (ChunkCap (.slice a (4 * m) cap) b2 b3) := by
  intro Γ l J Jx own0 w hc hcp hdis h0 hy
  have hs : w.cell? ⟨b2, 0, none⟩ = some (.slice a (4 * m) cap) := cell_of_blk hcp (List.mem_cons_of_mem _ List.mem_cons_self) rfl
  have hn : w.cell? ⟨b3, 0, none⟩ = some (.int .i64 4) := cell_of_blk hcp List.mem_cons_self rfl
  have hd2 : b2 ∉ ids own0 := hdis b2 (by simp [ids, ChunkCap])
  have hd3 : b3 ∉ ids own0 := hdis b3 (by simp [ids, ChunkCap])
  have hlen := chunkV_length a m
  refine calls_of_vwM Try.func336 rfl Try.ntmps336 (by simp) hc.ok ?_
  repeat (first | refine vops_q tyOk rfl ?_ | refine vops_nil ?_ | refine vw_seq ?_ | refine vw_region (by kernel_rfl) ?_ | refine vw_block ?_)
  refine vw_loop (fun y f own => ∃ i : Nat, i ≤ m ∧ y = m - i ∧ f 4 = .int .i64 ((4 * i : Nat) : Int) ∧ f 0 = .func (.yield l) #[] #[] ∧ f 1 = .pointer (some ⟨b2, 0, none⟩) ∧ f 2 = .pointer (some ⟨b3, 0, none⟩) ∧ J i own) m
    ⟨0, by omega, by omega, rfl, rfl, rfl, rfl, h0⟩ ?_
  rintro y f own ⟨i, hi, rfl, h4, h0', h1, h2, hJ⟩
  rw [upd_of h4, upd_of h0', upd_of h1, upd_of h2]
  repeat (first | refine vops_q tyOk rfl ?_ | refine vops_nil ?_ | refine vw_seq ?_ | refine vw_region (by kernel_rfl) ?_ | refine vw_cond rfl ?_ | refine vops_load tyOk rfl rfl rfl (sees_old hs hd2) ?_)
  refine bs_dec (fun hlt => ?_) (fun hlt => ?_)
  · have him : i < m := by omega
    obtain ⟨b, o, rfl⟩ : ∃ b o, a = some ⟨b, o, none⟩ := by
      rcases ha with h | h
      · omega
      · exact h
    repeat (first | refine vw_seq ?_ | refine vw_skip ?_ | refine vw_block ?_)
    refine vw_draw [0, 1, 2, 3, 4, 5, 6] (by kernel_rfl) (by kernel_rfl) (by kernel_rfl) rfl ?_
    repeat' (first | refine vd_q tyOk rfl (by first | trivial | rfl) rfl (by kernel_rfl) (by kernel_rfl) ?_ | refine vops_nil ?_ | refine vd_nil (by kernel_rfl) ?_ | refine ⟨fun _ _ _ h => h, ?_⟩ | refine vd_slice tyOk rfl (by first | trivial | rfl) rfl rfl rfl rfl rfl (by kernel_rfl) (by kernel_rfl) (by omega) ?_ | refine vd_load tyOk rfl (by first | trivial | rfl) rfl rfl rfl (by kernel_rfl) (by kernel_rfl) (by kernel_rfl) (sees_old hs hd2) (by repeat (first | exact sub_hereL | exact sub_refl | apply sub_cons | apply sub_app)) ?_ | refine vd_load tyOk rfl (by first | trivial | rfl) rfl rfl rfl (by kernel_rfl) (by kernel_rfl) (by kernel_rfl) (sees_old hn hd3) (by repeat (first | exact sub_hereL | exact sub_refl | apply sub_cons | apply sub_app)) ?_ | refine vops_min rfl rfl ?_ | refine vd_one rfl (by kernel_rfl) (by kernel_rfl) rfl ?_)
    have hmin : (if (((((4 * m : Nat) : Int)).toNat - (((4 * i : Nat) : Int)).toNat : Nat) : Int) < 4 then (((((4 * m : Nat) : Int)).toNat - (((4 * i : Nat) : Int)).toNat : Nat) : Int) else 4) = 4 := if_neg (by omega)
    rw [hmin]
    have hyk := hy _ _ (chunkV_at him) own hJ
    repeat (first | refine vops_q tyOk rfl ?_ | refine vw_seq ?_ | refine vw_region (by kernel_rfl) ?_ | refine vops_p tyOk rfl (by (try simp only [inR]); omega) ?_ | refine vops_load tyOk rfl rfl rfl (sees_old hs hd2) ?_ | refine vops_partAt (4 * i) 4 tyOk rfl rfl rfl rfl rfl rfl rfl rfl (by omega) (by omega) (by omega) (by omega) ?_)
    refine vops_yield hc rfl rfl hyk (fun own' hJ' _ => ?_) (fun own' hJx hnd => ?_)
    · repeat (first | refine vops_q tyOk rfl ?_ | refine vops_nil ?_ | refine vw_region (by kernel_rfl) ?_ | with_reducible refine bs_ntrue ?_ | refine vops_p tyOk rfl (by (try simp only [inR]); omega) ?_ | refine vw_cond rfl ?_ | refine vw_skip ?_ | refine vops_load tyOk rfl rfl rfl (sees_old hn hd3) ?_)
      refine ⟨m - (i + 1), by omega, i + 1, by omega, rfl, ?_, rfl, rfl, rfl, hJ'⟩
      exact congrArg (Value.int .i64) (show ((4 * i : Nat) : Int) + 4 = ((4 * (i + 1) : Nat) : Int) by omega)
    · repeat (first | refine vops_q tyOk rfl ?_ | refine vops_nil ?_ | with_reducible refine bs_nfalse ?_ | refine vw_cond rfl ?_ | refine vw_ret ?_)
      exact outNoneR rfl hnd (fun _ h => h) (.inr hJx)
  · obtain rfl : i = m := by omega
    refine vw_nodup (fun hnd => ?_)
    repeat (first | refine vw_exit ?_)
    exact outNoneN rfl hnd (fun _ h => h) (.inl (by rw [hlen]; exact hJ))
end Go.Proofs.Ytdgaabkgfbihpaa

/- A part of the proof: W11. No conditions of its own. -/
namespace Go.Proofs.Ytdgaabkgfbihpaa
open Go.VL
attribute [local irreducible] VWr VOps VD Calls

def relV (d : Nat) : Value := .func (.func (relFn d)) #[] #[]
/-- Numbers that are read, in no block of own. -/
def RdO (w : World) (v : Value) (t : List Int) (own : Own) : Prop := t = [] ∨ ∃ b o cap, v = .slice (some ⟨b, o, none⟩) t.length cap ∧ b ∉ ids own ∧ ∀ j, j < t.length → w.cell? ⟨b, o + j, none⟩ = some (.int .i64 (t.getD j 0))
/-- Relations that are read, in no block of own. -/
def RdFn (w : World) (v : Value) (ds : List Nat) (own : Own) : Prop := ∃ b o cap, v = .slice (some ⟨b, o, none⟩) ds.length cap ∧ b ∉ ids own ∧ ∀ (j d : Nat), ds[j]? = some d → w.cell? ⟨b, o + j, none⟩ = some (relV d)
def RelB (u r : Value) (b2 b3 : Nat) : Own := [(b3, ⟨[r], 244, 1, none⟩), (b2, ⟨[u], 42, 1, none⟩)]
def RelF (u r : Value) (v : Value) (new : Own) : Prop := ∃ b2 b3, v = .func (.func 313) #[] [.pointer (some ⟨b2, 0, none⟩), .pointer (some ⟨b3, 0, none⟩)].toArray ∧ new = RelB u r b2 b3 ∧ b3 ≠ b2
set_option maxRecDepth 100000 in
theorem c_relatedAt (a a2 : Option Addr) (n cap n2 cap2 : Nat) (w : World) : Calls Try.prog 264 [.slice a n cap, .slice a2 n2 cap2].toArray w (Res w (RelF (.slice a n cap) (.slice a2 n2 cap2))) := by
  refine calls_of_vw Try.func264 rfl Try.ntmps264 (by simp) ?_
  refine vw_seq (vw_region (by kernel_rfl) (vops_box [.slice a n cap] rfl (fun b2 hb2 => ?_)))
  refine vops_box [.slice a2 n2 cap2] rfl (fun b3 hb3 => ?_)
  have hne : b3 ≠ b2 := fun h => hb3 (by simp [ids, h])
  repeat (first | refine vops_q tyOk rfl ?_ | refine vops_nil ?_ | refine vw_seq ?_ | refine vw_region (by kernel_rfl) ?_ | refine vw_ret ?_ | refine vops_mkf rfl ?_)
  exact out1 rfl rfl (by simp [ids, hne]) (fun _ h => h) ⟨b2, b3, rfl, rfl, hne⟩

theorem get_mid {α : Type} {l A B : List α} {x : α} {q : Nat} (h : l = A ++ x :: B) (hq : A.length = q) : l[q]? = some x := by subst h; subst hq; simp
/-- Where the pair p of the relation j of the table i comes. -/
theorem relP_split {ds : List Nat} {t : List Int} {i j d : Nat} (hi : 4 * i + 4 ≤ t.length) (h4 : t.length % 4 = 0) (hj : ds[j]? = some d) :
    ∃ A B, relP ds t = A ++ pairs4 d (t.getD (4 * i) 0) (t.getD (4 * i + 1) 0) (t.getD (4 * i + 2) 0) (t.getD (4 * i + 3) 0) ++ B ∧ A.length = i * (2 * ds.length) + 2 * j := by
  obtain ⟨ds1, ds2, rfl, hjl⟩ : ∃ ds1 ds2, ds = ds1 ++ d :: ds2 ∧ ds1.length = j := by
    have hlt := (List.getElem?_eq_some_iff.1 hj).1
    refine ⟨ds.take j, ds.drop (j + 1), ?_, by rw [List.length_take]; omega⟩
    have := List.getElem?_eq_getElem hlt
    rw [hj] at this
    rw [Option.some.inj this, ← List.drop_eq_getElem_cons hlt, List.take_append_drop]
  subst hjl
  refine ⟨relP (ds1 ++ d :: ds2) (t.take (4 * i)) ++ tabP ds1 (t.getD (4 * i) 0) (t.getD (4 * i + 1) 0) (t.getD (4 * i + 2) 0) (t.getD (4 * i + 3) 0), tabP ds2 (t.getD (4 * i) 0) (t.getD (4 * i + 1) 0) (t.getD (4 * i + 2) 0) (t.getD (4 * i + 3) 0) ++ relP (ds1 ++ d :: ds2) (t.drop (4 * (i + 1))), ?_, ?_⟩
  · have h1 : relP (ds1 ++ d :: ds2) t = relP (ds1 ++ d :: ds2) (t.take (4 * (i + 1))) ++ relP (ds1 ++ d :: ds2) (t.drop (4 * (i + 1))) := by
      conv => lhs; rw [← List.take_append_drop (4 * (i + 1)) t]
      exact relP_app _ (i + 1) _ _ (by rw [List.length_take]; omega)
    have h2 : ∀ a b c e, tabP (ds1 ++ d :: ds2) a b c e = tabP ds1 a b c e ++ (pairs4 d a b c e ++ tabP ds2 a b c e) := fun a b c e => by simp [tabP]
    rw [h1, relP_take (by omega), h2]
    simp only [List.append_assoc]
  · have h3 := relP_length (ds1 ++ d :: ds2) i (t.take (4 * i)) (by rw [List.length_take]; omega)
    rw [List.length_append, h3, tabP_length]
/-- .. as values. -/
theorem relV_at {ds : List Nat} {t : List Int} {i j d p : Nat} (hi : 4 * i + 4 ≤ t.length) (h4 : t.length % 4 = 0) (hj : ds[j]? = some d) (hp : p < 2) {X : List Int} (hX : X = flat4 d (t.getD (4 * i) 0) (t.getD (4 * i + 1) 0) (t.getD (4 * i + 2) 0) (t.getD (4 * i + 3) 0)) :
    ((relP ds t).map ints)[i * (2 * ds.length) + 2 * j + p]? = some [.int .i64 (X.getD (2 * p) 0), .int .i64 (X.getD (2 * p + 1) 0)] := by
  obtain ⟨A, B, h1, h2⟩ := relP_split hi h4 hj
  rw [flat4_pairs, ← hX] at h1
  rw [List.getElem?_map, h1]
  match p, hp with
  | 0, _ =>
    rw [get_mid (A := A) (x := [X.getD 0 0, X.getD 1 0]) (B := [X.getD 2 0, X.getD 3 0] :: B) (by simp) (by omega)]; rfl
  | 1, _ =>
    rw [get_mid (A := A ++ [[X.getD 0 0, X.getD 1 0]]) (x := [X.getD 2 0, X.getD 3 0]) (B := B) (by simp) (by rw [List.length_append]; simp only [List.length_cons, List.length_nil]; omega)]; rfl
theorem drop_two {X : List Int} (hX : X.length = 4) {p : Nat} (hp : p < 2) : (X.drop (p * 2)).take 2 = [X.getD (2 * p) 0, X.getD (2 * p + 1) 0] := by
  match X, hX with
  | [a, b, c, e], _ =>
    match p, hp with
    | 0, _ => rfl
    | 1, _ => rfl

theorem ole_end {x y : Nat × Blk} {A : Own} : OLe (y :: A) (A ++ [x, y]) :=
  ⟨[x], (List.perm_append_comm (l₁ := A) (l₂ := [x, y])).trans ((List.Perm.swap y x A).trans ((List.perm_append_singleton x A).symm.cons y))⟩
set_option maxHeartbeats 4000000 in
set_option maxRecDepth 100000 in
theorem it_rel (a : Option Addr) (m cap : Nat) (r : Value) (t : List Int) (ds : List Nat) (htm : t.length = 4 * m) (hm : m ≤ 1048576) (hcap : 4 * m ≤ cap) (hd : ∀ d ∈ ds, d = 1 ∨ d = 2 ∨ d = 3) (hds : ds.length ≤ 100) (b2 b3 : Nat) (ex : Own) :
    IterR Try.prog 313 [.pointer (some ⟨b2, 0, none⟩), .pointer (some ⟨b3, 0, none⟩)] ((relP ds t).map ints) (RelB (.slice a (4 * m) cap) r b2 b3 ++ ex) (fun w own => RdO w (.slice a (4 * m) cap) t own ∧ RdFn w r ds own) := by
  intro Γ l J Jx own0 w hc hcp hdis hR h0 hy
  obtain ⟨hT, bf, of, capf, rfl, hbf, hfn⟩ := hR
  have hs : w.cell? ⟨b2, 0, none⟩ = some (.slice a (4 * m) cap) := cell_of_blk hcp (List.mem_append_left _ (List.mem_cons_of_mem _ List.mem_cons_self)) rfl
  have hr : w.cell? ⟨b3, 0, none⟩ = some (.slice (some ⟨bf, of, none⟩) ds.length capf) := cell_of_blk hcp (List.mem_append_left _ List.mem_cons_self) rfl
  have hd2 : b2 ∉ ids own0 := hdis b2 (by simp [ids, RelB])
  have hd3 : b3 ∉ ids own0 := hdis b3 (by simp [ids, RelB])
  have hnd0 : (ids own0).Nodup := hc.ok.nodup
  have hlen : ((relP ds t).map ints).length = m * (2 * ds.length) := by rw [List.length_map, relP_length ds m t htm]
  have ha : m = 0 ∨ ∃ b o, a = some ⟨b, o, none⟩ := by
    rcases hT with h | ⟨b, o, c, he, _⟩
    · left; rw [h] at htm; simp at htm; omega
    · right
      have : a = some ⟨b, o, none⟩ := by injection he
      exact ⟨b, o, this⟩
  refine calls_of_vwM Try.func313 rfl Try.ntmps313 (by simp) hc.ok ?_
  refine vw_seq (vw_region (by kernel_rfl) (vops_box [.func (.yield l) #[] #[]] rfl (fun b6 hb6 => ?_)))
  repeat (first | refine vops_nil ?_ | refine vw_seq ?_ | refine vw_region (by kernel_rfl) ?_ | refine vw_block ?_ | refine vops_load tyOk rfl rfl rfl (sees_old hs hd2) ?_ | (apply vops_call ent289 rfl; (intro w' hg; exact c_chunk a (4 * m) cap w'); (rintro _ newN ⟨b7, b8, rfl, rfl, hne⟩)))
  refine vw_rangeFunc (ts := [11]) (own0 := (b6, ⟨[.func (.yield l) #[] #[]], 111, 1, none⟩) :: own0) (cap := ChunkCap (.slice a (4 * m) cap) b7 b8) rfl ent336 (it_chunk a m cap ha hcap hm b7 b8) List.perm_append_comm (by simp) (fun x hx => by
      obtain ⟨q, _, rfl⟩ := List.mem_map.1 hx; rfl)
    (fun i own => ∃ ownJ, own = (b6, ⟨[.func (.yield l) #[] #[]], 111, 1, none⟩) :: ownJ ∧ (ids ownJ).Nodup ∧ J (i * (2 * ds.length)) ownJ)
    (fun c own => c = .ret ∧ ∃ ownJ, own = (b6, ⟨[.func (.yield l) #[] #[]], 111, 1, none⟩) :: ownJ ∧ (ids ownJ).Nodup ∧ Jx ownJ) ⟨own0, rfl, hnd0, by rw [Nat.zero_mul]; exact h0⟩ ?_ ?_ ?_
  · rintro l2 i x ownc w1 hx ⟨ownJ, rfl, hndJ, hJ⟩ hg1
    have him : i < m := by have := (List.getElem?_eq_some_iff.1 hx).1; rwa [chunkV_length] at this
    rw [chunkV_at him] at hx
    obtain rfl : [partV a i] = x := Option.some.inj hx
    obtain ⟨b, o, capt, he, hbt, hct⟩ : ∃ b o c, (Value.slice a (4 * m) cap) = .slice (some ⟨b, o, none⟩) t.length c ∧ b ∉ ids own0 ∧ ∀ j, j < t.length → w.cell? ⟨b, o + j, none⟩ = some (.int .i64 (t.getD j 0)) := by
      rcases hT with h | h
      · rw [h] at htm; simp at htm; omega
      · exact h
    obtain rfl : a = some ⟨b, o, none⟩ := by injection he
    have hpart : partV (some ⟨b, o, none⟩) i = .slice (some ⟨b, o + 4 * i, none⟩) 4 4 := rfl
    simp only [updL, hpart]
    repeat (first | refine vops_q tyOk rfl ?_ | refine vops_nil ?_ | refine vw_region (by kernel_rfl) ?_)
    intro w2 hg2
    have hr2 := old_stays hg2 hr hd3
    obtain ⟨A, hA⟩ : ∃ A, A = t.getD (4 * i) 0 := ⟨_, rfl⟩
    obtain ⟨B, hB⟩ : ∃ B, B = t.getD (4 * i + 1) 0 := ⟨_, rfl⟩
    obtain ⟨C, hC⟩ : ∃ C, C = t.getD (4 * i + 2) 0 := ⟨_, rfl⟩
    obtain ⟨E, hE⟩ : ∃ E, E = t.getD (4 * i + 3) 0 := ⟨_, rfl⟩
    have hsee : ∀ own' : Own, SeesL ⟨w2, ids ((b6, (⟨[.func (.yield l) #[] #[]], 111, 1, none⟩ : Blk)) :: ownJ)⟩ own' b (o + 4 * i) (ints [A, B, C, E]) := fun own' j v hj => by
      have key : ∀ q : Nat, q < 4 → ∀ x : Int, x = t.getD (4 * i + q) 0 → Sees ⟨w2, ids ((b6, (⟨[.func (.yield l) #[] #[]], 111, 1, none⟩ : Blk)) :: ownJ)⟩ own' b (o + 4 * i + q) (.int .i64 x) := fun q hq x hx => by
        have h1 := old_stays hg2 (hct (4 * i + q) (by omega)) hbt
        rw [hx, Nat.add_assoc]
        exact sees_old h1.1 h1.2
      match j, hj with
      | 0, hj => cases hj; exact key 0 (by omega) A hA
      | 1, hj => cases hj; exact key 1 (by omega) B hB
      | 2, hj => cases hj; exact key 2 (by omega) C hC
      | 3, hj => cases hj; exact key 3 (by omega) E hE
    repeat (first | refine vops_q tyOk rfl ?_ | refine vops_nil ?_ | refine vw_seq ?_ | refine vw_region (by kernel_rfl) ?_ | refine vw_block ?_ | refine vops_load tyOk rfl rfl rfl (sees_old hr2.1 hr2.2) ?_)
    refine vw_loopW (fun y f own => ∃ (j : Nat) (oJ : Own), j ≤ ds.length ∧ y = ds.length - j ∧ f 14 = .int .i64 j ∧ f 13 = .int .i64 ds.length ∧ f 12 = .slice (some ⟨bf, of, none⟩) ds.length capf ∧ f 4 = .slice (some ⟨b, o + 4 * i, none⟩) 4 4 ∧ f 3 = .pointer (some ⟨b6, 0, none⟩) ∧ own = (b6, ⟨[.func (.yield l) #[] #[]], 111, 1, none⟩) :: oJ ∧ (ids oJ).Nodup ∧ J (i * (2 * ds.length) + 2 * j) oJ) ds.length
      ⟨_, ole_refl, 0, ownJ, by omega, by omega, rfl, rfl, rfl, rfl, rfl, rfl, hndJ, hJ⟩ ?_
    rintro y f own ⟨j, oJ, hj, rfl, h14, h13, h12, h4, h3, rfl, hndo, hJo⟩
    rw [upd_of h14, upd_of h13, upd_of h12, upd_of h4, upd_of h3]
    repeat (first | refine vops_q tyOk rfl ?_ | refine vops_nil ?_ | refine vw_seq ?_ | refine vw_region (by kernel_rfl) ?_ | refine vw_cond rfl ?_)
    refine bs_dec (fun hlt => ?_) (fun hlt => ?_)
    · have hjk : j < ds.length := by omega
      obtain ⟨d, hjd⟩ : ∃ d, ds[j]? = some d := ⟨_, List.getElem?_eq_getElem hjk⟩
      have hdd := hd d (List.mem_of_getElem? hjd)
      have hf2 := old_stays hg2 (hfn j d hjd) hbf
      have hidx : of + (j : Int).toNat = of + j := by omega
      obtain ⟨X, hX⟩ : ∃ X, X = flat4 d A B C E := ⟨_, rfl⟩
      have hXl : X.length = 4 := by rw [hX]; exact flat4_length _ _ _ _ _
      have hcr : ∀ w', Calls Try.prog (relFn d) ([Value.agg (ints [A, B, C, E]).toArray] ++ ([] : List Value)).toArray w' (Res w' (Is (.agg (ints X).toArray))) := fun w' => by rw [hX]; exact c_rel d hdd A B C E w'
      repeat (first | refine vops_q tyOk rfl ?_ | refine vops_nil ?_ | refine vw_seq ?_ | refine vw_region (by kernel_rfl) ?_ | refine vops_p tyOk rfl (by (try simp only [inR]); omega) ?_ | refine vw_skip ?_ | refine vw_block ?_ | refine vops_load tyOk rfl rfl rfl (sees_old hf2.1 hf2.2) ?_ | refine vops_arrAt tyOk rfl rfl (by omega) ?_ | refine vops_loadN tyOk (ints [A, B, C, E]) rfl rfl rfl rfl (hsee _) ?_ | refine vops_callVp (ent_rel d) rfl rfl (fun w' _ => hcr w') ?_)
      refine vw_loopW (fun y f own => ∃ (p : Nat) (oJ : Own), p ≤ 2 ∧ y = 2 - p ∧ f 23 = .int .i64 p ∧ f 22 = .agg (ints X).toArray ∧ f 14 = .int .i64 j ∧ f 13 = .int .i64 ds.length ∧ f 12 = .slice (some ⟨bf, of, none⟩) ds.length capf ∧ f 4 = .slice (some ⟨b, o + 4 * i, none⟩) 4 4 ∧ f 3 = .pointer (some ⟨b6, 0, none⟩) ∧ own = (b6, ⟨[.func (.yield l) #[] #[]], 111, 1, none⟩) :: oJ ∧ (ids oJ).Nodup ∧ J (i * (2 * ds.length) + 2 * j + p) oJ) 2
        ⟨_, ole_refl, 0, oJ, by omega, by omega, rfl, rfl, rfl, rfl, rfl, rfl, rfl, rfl, hndo, hJo⟩ ?_
      clear hJo hndo h14 h13 h12 h4 h3 f oJ
      rintro y f own ⟨p, oJ, hp, rfl, h23, h22, h14, h13, h12, h4, h3, rfl, hndo, hJo⟩
      rw [upd_of h23, upd_of h22, upd_of h14, upd_of h13, upd_of h12, upd_of h4, upd_of h3]
      repeat (first | refine vops_q tyOk rfl ?_ | refine vops_nil ?_ | refine vw_seq ?_ | refine vw_region (by kernel_rfl) ?_ | refine vw_cond rfl ?_)
      refine bs_dec (fun hlt2 => ?_) (fun hlt2 => ?_)
      · have hp2 : p < 2 := by omega
        have hdr := drop_two hXl hp2
        have hrow : ((X.drop ((p : Int).toNat * 2)).take 2) = [X.getD (2 * p) 0, X.getD (2 * p + 1) 0] := by rw [Int.toNat_natCast]; exact hdr
        have hyk := hy _ _ (relV_at (ds := ds) (t := t) (i := i) (j := j) (d := d) (p := p) (X := X) (by omega) (by omega) hjd hp2 (by rw [hX, hA, hB, hC, hE])) oJ hJo
        repeat (first | refine vw_seq ?_ | refine vw_region (by kernel_rfl) ?_ | refine vw_skip ?_ | refine vw_block ?_ | refine vops_idxRow 2 tyOk rfl rfl rfl rfl rfl rfl (by omega) (by show (p : Int) < ((2 : Nat) : Int); omega) ?_)
        rw [hrow]
        repeat (first | refine vops_nil ?_ | refine vw_seq ?_ | refine vw_region (by kernel_rfl) ?_ | refine vops_p tyOk rfl (by (try simp only [inR]); omega) ?_ | refine vops_allocZ (ints [0, 0]) tyOk rfl rfl (by simp [ints]) (fun bx hbx => ?_) | ((show VOps _ _ _ _ (⟨some _, Go.Op.load _ _, _, _, _, none⟩ :: _) _ _); refine vops_loadM tyOk rfl rfl rfl (by repeat (first | exact mem_here | apply mem_next | apply mem_past)) (by rfl) ?_) | ((show VOps _ _ _ _ (⟨none, Go.Op.store _ _ _, _, _, _, none⟩ :: _) _ _); refine vops_storeAM tyOk rfl rfl rfl (by first | rfl | (rw [ints_length]; first | assumption | omega | (rw [ints_length]; first | assumption | omega | simp [*])) | simp [*]) (by first | exact ints_one | simp [Value.oneCell']) (by repeat (first | exact upd_here | apply upd_next | apply upd_past)) (by first | rfl | (rw [ints_length]; first | assumption | omega | (rw [ints_length]; first | assumption | omega | simp [*])) | simp [*]) ?_))
        refine vops_yieldE (hc.onto hg2) rfl rfl (ownJ := oJ) (ex := [(bx, _), (b6, ⟨[.func (.yield l) #[] #[]], 111, 1, none⟩)]) (List.perm_append_comm (l₁ := [_, _])) hyk (fun own' hJ' hnd' => ?_) (fun own' hJx hnd' => ?_)
        · have hn' : (ids own').Nodup := nodup_sub hnd' (List.sublist_append_left _ _)
          repeat (first | refine vops_q tyOk rfl ?_ | refine vops_nil ?_ | refine vw_region (by kernel_rfl) ?_ | with_reducible refine bs_ntrue ?_ | refine vops_p tyOk rfl (by (try simp only [inR]); omega) ?_ | refine vw_cond rfl ?_ | refine vw_skip ?_)
          exact ⟨2 - (p + 1), by omega, (b6, ⟨[.func (.yield l) #[] #[]], 111, 1, none⟩) :: own', ole_end, p + 1, own', by omega, rfl, rfl, rfl, rfl, rfl, rfl, rfl, rfl, rfl, hn', by rw [← Nat.add_assoc]; exact hJ'⟩
        · have hn' : (ids own').Nodup := nodup_sub hnd' (List.sublist_append_left _ _)
          repeat (first | refine vops_q tyOk rfl ?_ | refine vops_nil ?_ | with_reducible refine bs_nfalse ?_ | refine vw_cond rfl ?_ | refine vw_ret ?_)
          exact ⟨(b6, ⟨[.func (.yield l) #[] #[]], 111, 1, none⟩) :: own', ole_end, rfl, own', rfl, hn', hJx⟩
      · obtain rfl : p = 2 := by omega
        repeat (first | refine vops_q tyOk rfl ?_ | refine vops_nil ?_ | refine vw_region (by kernel_rfl) ?_ | refine vops_p tyOk rfl (by (try simp only [inR]); omega) ?_ | refine vw_exit ?_)
        exact ⟨ds.length - (j + 1), by omega, _, ole_refl, j + 1, oJ, by omega, rfl, rfl, rfl, rfl, rfl, rfl, rfl, hndo, by rw [show i * (2 * ds.length) + 2 * (j + 1) = i * (2 * ds.length) + 2 * j + 2 by omega]; exact hJo⟩
    · obtain rfl : j = ds.length := by omega
      repeat (first | refine vw_exit ?_)
      exact ⟨_, ole_refl, oJ, rfl, hndo, by rw [show (i + 1) * (2 * ds.length) = i * (2 * ds.length) + 2 * ds.length by rw [Nat.add_mul, Nat.one_mul]]; exact hJo⟩
  · rintro own' ⟨ownJ, rfl, hndJ, hJ⟩
    rw [chunkV_length] at hJ
    exact outNoneN rfl hndJ (fun x hx => List.mem_cons_of_mem _ (List.mem_append_left _ hx)) (.inl (by rw [hlen]; exact hJ))
  · rintro c own' ⟨rfl, ownJ, rfl, hndJ, hJx⟩
    repeat (first | refine vw_ret ?_)
    exact outNoneR rfl hndJ (fun x hx => List.mem_cons_of_mem _ (List.mem_append_left _ hx)) (.inr hJx)
end Go.Proofs.Ytdgaabkgfbihpaa

