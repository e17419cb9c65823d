import Derived.Test.YtjbhmdhebmkgkaaSF
import Derived.Test.YtjbhmdhebmkgkaaSE
import Derived.Test.YtjbhmdhebmkgkaaVLArr
import Derived.Test.YtjbhmdhebmkgkaaSA
import Derived.Test.YtjbhmdhebmkgkaaVLPlay
import Derived.Test.YtjbhmdhebmkgkaaVLSquare
/- Parts of the proof, one after another. No conditions of their own. -/
/- A part of the proof: W1. No conditions of its own. -/
namespace Go.Proofs.Ytjbhmdhebmkgkaa
open Go.VL

/-- Different numbers below n. -/
def DiffL (n : Int) (l : List Int) : Prop := (∀ x ∈ l, 0 ≤ x ∧ x < n) ∧ l.Nodup
/-- A round of players. -/
def EvRow (n : Int) (r : List Int) : Prop := r.length % 4 = 0 ∧ DiffL n r
/-- An evening. -/
def IsEv (n : Int) (es : List (List Int)) : Prop := 4 ≤ n ∧ n ≤ 16 ∧ es.length ≤ 20 ∧ ∀ r ∈ es, EvRow n r
theorem DiffL.len {n : Int} {l : List Int} (h : DiffL n l) : l.length ≤ n.toNat := pigeon n.toNat l h.2 fun x hx => by have := h.1 x hx; omega
theorem IsEv.row {n : Int} {es : List (List Int)} (h : IsEv n es) {i : Nat} {r : List Int} (hi : es[i]? = some r) : EvRow n r := h.2.2.2 r (List.mem_of_getElem? hi)
theorem IsEv.len {n : Int} {es : List (List Int)} (h : IsEv n es) {r : List Int} (hr : r ∈ es) : r.length ≤ 16 := by
  have h1 := (h.2.2.2 r hr).2.len
  have h2 := h.2.1
  omega
theorem DiffL.get {n : Int} {l : List Int} (h : DiffL n l) {i : Nat} (hi : i < l.length) : 0 ≤ l.getD i 0 ∧ l.getD i 0 < n := h.1 _ (mem_getD hi)
theorem DiffL.ne {n : Int} {l : List Int} (h : DiffL n l) {i j : Nat} (hi : i < l.length) (hj : j < l.length) (hij : i ≠ j) : l.getD i 0 ≠ l.getD j 0 := fun e => hij (getD_inj h.2 hi hj e)

/-- The pairs of a table that stand in the relation d: partners for 1, opponents of both kinds for 2 and 3. -/
def pairs4 (d : Nat) (a b c e : Int) : List (List Int) := if d = 1 then [[a, b], [c, e]] else if d = 2 then [[a, c], [b, e]] else [[a, e], [b, c]]
def tabP (ds : List Nat) (a b c e : Int) : List (List Int) := (ds.map fun d => pairs4 d a b c e).flatten
/-- The pairs of some tables. -/
def relP (ds : List Nat) : List Int → List (List Int)
  | a :: b :: c :: e :: t => tabP ds a b c e ++ relP ds t
  | _ => []
theorem relP_nil (ds : List Nat) : relP ds [] = [] := by simp [relP]
theorem relP_app (ds : List Nat) : ∀ (m : Nat) (s t : List Int), s.length = 4 * m → relP ds (s ++ t) = relP ds s ++ relP ds t
  | 0, s, t, h => by
    obtain rfl : s = [] := List.length_eq_zero_iff.1 (by omega)
    simp [relP_nil]
  | m + 1, [], t, h => by simp only [List.length_nil] at h; omega
  | m + 1, [a], t, h => by simp only [List.length_cons, List.length_nil] at h; omega
  | m + 1, [a, b], t, h => by simp only [List.length_cons, List.length_nil] at h; omega
  | m + 1, [a, b, c], t, h => by simp only [List.length_cons, List.length_nil] at h; omega
  | m + 1, a :: b :: c :: e :: s, t, h => by
    have := relP_app ds m s t (by simp only [List.length_cons] at h; omega)
    simp only [List.cons_append, relP, this, List.append_assoc]
theorem pairs4_length (d : Nat) (a b c e : Int) : (pairs4 d a b c e).length = 2 := by unfold pairs4; split <;> (try split) <;> rfl
theorem tabP_length (ds : List Nat) (a b c e : Int) : (tabP ds a b c e).length = 2 * ds.length := by
  induction ds with
  | nil => rfl
  | cons d ds ih => unfold tabP at ih ⊢; rw [List.map_cons, List.flatten_cons, List.length_append, ih, pairs4_length, List.length_cons]; omega
theorem tabP_cons (ds : List Nat) (d : Nat) (a b c e : Int) : tabP (d :: ds) a b c e = pairs4 d a b c e ++ tabP ds a b c e := by simp [tabP]
theorem take4 {t : List Int} {i : Nat} (h : 4 * i + 4 ≤ t.length) : t.take (4 * (i + 1)) = t.take (4 * i) ++ [t.getD (4 * i) 0, t.getD (4 * i + 1) 0, t.getD (4 * i + 2) 0, t.getD (4 * i + 3) 0] := by
  rw [show 4 * (i + 1) = 4 * i + 3 + 1 by omega, take_snoc (by omega), show 4 * i + 3 = 4 * i + 2 + 1 by omega, take_snoc (by omega), show 4 * i + 2 = 4 * i + 1 + 1 by omega, take_snoc (by omega), take_snoc (by omega)]
  simp
theorem relP_take {ds : List Nat} {t : List Int} {i : Nat} (h : 4 * i + 4 ≤ t.length) : relP ds (t.take (4 * (i + 1))) = relP ds (t.take (4 * i)) ++ tabP ds (t.getD (4 * i) 0) (t.getD (4 * i + 1) 0) (t.getD (4 * i + 2) 0) (t.getD (4 * i + 3) 0) := by
  rw [take4 h, relP_app ds i _ _ (by rw [List.length_take]; omega)]
  simp [relP]
theorem relP_length (ds : List Nat) : ∀ (m : Nat) (t : List Int), t.length = 4 * m → (relP ds t).length = m * (2 * ds.length)
  | 0, t, h => by
    obtain rfl : t = [] := List.length_eq_zero_iff.1 (by omega)
    simp [relP_nil]
  | m + 1, t, h => by
    match t, h with
    | a :: b :: c :: e :: s, h =>
      have := relP_length ds m s (by simp only [List.length_cons] at h; omega)
      rw [relP, List.length_append, tabP_length, this, Nat.add_mul]; omega
    | [], h | [_], h | [_, _], h | [_, _, _], h => simp only [List.length_cons, List.length_nil] at h; omega
theorem relP_flat (ds : List Nat) : ∀ (es : List (List Int)), (∀ r ∈ es, r.length % 4 = 0) → ∀ (t : List Int), relP ds (es.flatten ++ t) = (es.map (relP ds)).flatten ++ relP ds t
  | [], _, t => rfl
  | r :: es, h, t => by
    have h4 := h r (by simp)
    rw [List.flatten_cons, List.append_assoc, relP_app ds (r.length / 4) _ _ (by omega), relP_flat ds es (fun q hq => h q (by simp [hq])), List.map_cons, List.flatten_cons, List.append_assoc]
theorem hits_app (p q : List (List Int)) (x y : Nat) : hits (p ++ q) x y = hits p x y + hits q x y := by
  unfold hits; rw [List.filter_append, List.length_append]
theorem hits_nil (x y : Nat) : hits [] x y = 0 := rfl
/-- What the place k of a round adds to the place x, y of a table. -/
def ordW (ds : List Nat) (r : List Int) (k x y : Nat) : Nat := (ds.filter fun d => decide (r.getD k 0 = (x : Int) ∧ r.getD (k / 4 * 4 + (k % 4 ^^^ d)) 0 = (y : Int))).length
/-- .. and all places below k. -/
def ordC (ds : List Nat) (r : List Int) (x y : Nat) : Nat → Nat
  | 0 => 0
  | k + 1 => ordC ds r x y k + ordW ds r k x y
theorem ordW_cons (d : Nat) (ds : List Nat) (r : List Int) (k x y : Nat) : ordW (d :: ds) r k x y = (if r.getD k 0 = (x : Int) ∧ r.getD (k / 4 * 4 + (k % 4 ^^^ d)) 0 = (y : Int) then 1 else 0) + ordW ds r k x y := by
  unfold ordW
  rw [List.filter_cons]
  split
  · rename_i h
    have h' := of_decide_eq_true h
    rw [if_pos h', List.length_cons]; omega
  · rename_i h
    have h' : ¬ _ := fun hh => h (decide_eq_true hh)
    rw [if_neg h']; omega
theorem xor4 {d : Nat} (_hd : d = 1 ∨ d = 2 ∨ d = 3) (i : Nat) : (4 * i) / 4 * 4 + ((4 * i) % 4 ^^^ d) = 4 * i + d ∧ (4 * i + 1) / 4 * 4 + ((4 * i + 1) % 4 ^^^ d) = 4 * i + (1 ^^^ d) ∧ (4 * i + 2) / 4 * 4 + ((4 * i + 2) % 4 ^^^ d) = 4 * i + (2 ^^^ d) ∧ (4 * i + 3) / 4 * 4 + ((4 * i + 3) % 4 ^^^ d) = 4 * i + (3 ^^^ d) := by
  rw [show (4 * i) / 4 = i by omega, show (4 * i) % 4 = 0 by omega, show (4 * i + 1) / 4 = i by omega, show (4 * i + 1) % 4 = 1 by omega, show (4 * i + 2) / 4 = i by omega, show (4 * i + 2) % 4 = 2 by omega, show (4 * i + 3) / 4 = i by omega, show (4 * i + 3) % 4 = 3 by omega, Nat.zero_xor]
  omega
theorem one4 {d : Nat} (hd : d = 1 ∨ d = 2 ∨ d = 3) (a b c e x y : Int) (hab : a ≠ b) (hac : a ≠ c) (hae : a ≠ e) (hbc : b ≠ c) (hbe : b ≠ e) (hce : c ≠ e) (X : Nat → Int) (h0 : X 0 = a) (h1 : X 1 = b) (h2 : X 2 = c) (h3 : X 3 = e) :
    (if a = x ∧ X d = y then 1 else 0) + (if b = x ∧ X (1 ^^^ d) = y then 1 else 0) + (if c = x ∧ X (2 ^^^ d) = y then 1 else 0) + (if e = x ∧ X (3 ^^^ d) = y then 1 else 0)
      = ((pairs4 d a b c e).filter fun p => decide ((p.getD 0 0 = x ∧ p.getD 1 0 = y) ∨ (p.getD 0 0 = y ∧ p.getD 1 0 = x))).length := by
  have two : ∀ p q r s : Int, p ≠ q → r ≠ s → p ≠ r → p ≠ s → q ≠ r → q ≠ s → (if p = x ∧ q = y then 1 else 0) + (if q = x ∧ p = y then 1 else 0) + ((if r = x ∧ s = y then 1 else 0) + (if s = x ∧ r = y then 1 else 0))
      = (([[p, q], [r, s]] : List (List Int)).filter fun p => decide ((p.getD 0 0 = x ∧ p.getD 1 0 = y) ∨ (p.getD 0 0 = y ∧ p.getD 1 0 = x))).length := fun p q r s _ _ _ _ _ _ => by
    simp only [List.filter_cons, List.filter_nil, decide_eq_true_eq, List.getD_cons_zero, List.getD_cons_succ]
    repeat' split
    all_goals first | rfl | (exfalso; omega) | simp
    all_goals omega
  rcases hd with rfl | rfl | rfl
  · rw [show (1 ^^^ 1) = 0 from rfl, show (2 ^^^ 1) = 3 from rfl, show (3 ^^^ 1) = 2 from rfl, h0, h1, h2, h3]
    have := two a b c e hab hce hac hae hbc hbe
    unfold pairs4; rw [if_pos (show (1 : Nat) = 1 from rfl), ← this]; omega
  · rw [show (1 ^^^ 2) = 3 from rfl, show (2 ^^^ 2) = 0 from rfl, show (3 ^^^ 2) = 1 from rfl, h0, h1, h2, h3]
    have := two a c b e hac hbe hab hae (Ne.symm hbc) hce
    unfold pairs4; rw [if_neg (show ¬ (2 : Nat) = 1 by decide), if_pos (show (2 : Nat) = 2 from rfl), ← this]; omega
  · rw [show (1 ^^^ 3) = 2 from rfl, show (2 ^^^ 3) = 1 from rfl, show (3 ^^^ 3) = 0 from rfl, h0, h1, h2, h3]
    have := two a e b c hae hbc hab hac (Ne.symm hbe) (Ne.symm hce)
    unfold pairs4; rw [if_neg (show ¬ (3 : Nat) = 1 by decide), if_neg (show ¬ (3 : Nat) = 2 by decide), ← this]; omega
/-- A table, place by place, and as pairs. -/
theorem ord_table {n : Int} {r : List Int} (hr : DiffL n r) {i : Nat} (hi : 4 * i + 4 ≤ r.length) (x y : Nat) : ∀ (ds : List Nat), (∀ d ∈ ds, d = 1 ∨ d = 2 ∨ d = 3) →
    ordW ds r (4 * i) x y + ordW ds r (4 * i + 1) x y + ordW ds r (4 * i + 2) x y + ordW ds r (4 * i + 3) x y = hits (tabP ds (r.getD (4 * i) 0) (r.getD (4 * i + 1) 0) (r.getD (4 * i + 2) 0) (r.getD (4 * i + 3) 0)) x y
  | [], _ => by simp [ordW, tabP, hits]
  | d :: ds, h => by
    have ih := ord_table hr hi x y ds fun q hq => h q (by simp [hq])
    have hd := h d (by simp)
    obtain ⟨e0, e1, e2, e3⟩ := xor4 hd i
    rw [tabP_cons, hits_app, ← ih, ordW_cons, ordW_cons, ordW_cons, ordW_cons, e0, e1, e2, e3]
    have := one4 hd (r.getD (4 * i) 0) (r.getD (4 * i + 1) 0) (r.getD (4 * i + 2) 0) (r.getD (4 * i + 3) 0) x y (hr.ne (by omega) (by omega) (by omega)) (hr.ne (by omega) (by omega) (by omega)) (hr.ne (by omega) (by omega) (by omega)) (hr.ne (by omega) (by omega) (by omega)) (hr.ne (by omega) (by omega) (by omega)) (hr.ne (by omega) (by omega) (by omega)) (fun j => r.getD (4 * i + j) 0) rfl rfl rfl rfl
    unfold hits
    rw [← this]; omega
theorem ord_to {n : Int} {r : List Int} (hr : DiffL n r) {ds : List Nat} (hd : ∀ d ∈ ds, d = 1 ∨ d = 2 ∨ d = 3) (x y : Nat) : ∀ (i : Nat), 4 * i ≤ r.length → ordC ds r x y (4 * i) = hits (relP ds (r.take (4 * i))) x y
  | 0, _ => by simp [ordC, relP_nil, hits_nil]
  | i + 1, hi => by
    have ih := ord_to hr hd x y i (by omega)
    have := ord_table hr (i := i) (by omega) x y ds hd
    rw [relP_take (by omega), hits_app, ← ih, ← this]
    show ordC ds r x y (4 * i + 3 + 1) = _
    simp only [ordC]; omega
theorem ord_all {n : Int} {r : List Int} (hr : EvRow n r) {ds : List Nat} (hd : ∀ d ∈ ds, d = 1 ∨ d = 2 ∨ d = 3) (x y : Nat) : ordC ds r x y r.length = hits (relP ds r) x y := by
  have h4 := hr.1
  have := ord_to hr.2 hd x y (r.length / 4) (by omega)
  rw [show 4 * (r.length / 4) = r.length by omega, List.take_length] at this
  exact this
/-- How often x and y stand in one of the relations. -/
def relN (ds : List Nat) (es : List (List Int)) (x y : Nat) : Nat := hits (relP ds es.flatten) x y
theorem relN_snoc {n : Int} {es : List (List Int)} {r : List Int} (hes : ∀ q ∈ es, EvRow n q) (hr : EvRow n r) {ds : List Nat} (hd : ∀ d ∈ ds, d = 1 ∨ d = 2 ∨ d = 3) (x y : Nat) : relN ds (es ++ [r]) x y = relN ds es x y + ordC ds r x y r.length := by
  unfold relN
  rw [List.flatten_append, relP_flat ds es fun q hq => (hes q hq).1, hits_app, ord_all hr hd]
  have := relP_flat ds es (fun q hq => (hes q hq).1) []
  rw [List.append_nil, relP_nil, List.append_nil] at this
  rw [this]
  simp
theorem relN_nil (ds : List Nat) (x y : Nat) : relN ds [] x y = 0 := by unfold relN; rw [List.flatten_nil, relP_nil]; rfl
theorem flat_len4 {n : Int} {es : List (List Int)} (h : IsEv n es) : es.flatten.length ≤ 320 ∧ es.flatten.length % 4 = 0 := by
  have key : ∀ (l : List (List Int)), (∀ r ∈ l, r.length ≤ 16 ∧ r.length % 4 = 0) → l.flatten.length ≤ l.length * 16 ∧ l.flatten.length % 4 = 0 := by
    intro l
    induction l with
    | nil => intro _; simp
    | cons r l ih =>
      intro hl
      have a := hl r (by simp)
      have b := ih fun q hq => hl q (by simp [hq])
      rw [List.flatten_cons, List.length_append, List.length_cons]; omega
  have := key es fun r hr => ⟨h.len hr, (h.2.2.2 r hr).1⟩
  have := h.2.2.1
  omega
theorem relN_le {n : Int} {es : List (List Int)} (h : IsEv n es) {ds : List Nat} (hd : ds.length ≤ 3) (x y : Nat) : relN ds es x y ≤ 480 := by
  have h1 := flat_len4 h
  have h2 := relP_length ds (es.flatten.length / 4) es.flatten (by omega)
  have h3 : es.flatten.length / 4 * (2 * ds.length) ≤ 80 * (2 * 3) := Nat.mul_le_mul (by omega) (by omega)
  have := hits_le (relP ds es.flatten) x y
  unfold relN; omega
/-- The table of a relation. -/
def relT (n : Nat) (ds : List Nat) (es : List (List Int)) : List (List Int) := tabOf n fun x y => (relN ds es x y : Int)
end Go.Proofs.Ytjbhmdhebmkgkaa

/- A part of the proof: W3. No conditions of its own. -/
namespace Go.Proofs.Ytjbhmdhebmkgkaa
open Go.VL
attribute [local irreducible] VWr VOps VD Calls

open Classical in
set_option maxRecDepth 100000 in
theorem c_idx (v : Value) (l : List Int) (x : Int) (w : World) (hv : RdI w v l) (hl : l.length ≤ 1048576) :
    Calls Try.prog 221 [v, .int .i64 x].toArray w (Res w (fun u new => new = [] ∧ ∃ r : Int, u = .int .i64 r ∧ (0 ≤ r ↔ x ∈ l))) := by
  obtain ⟨a, cap, rfl⟩ := hv.len
  refine calls_of_vw Try.func221 rfl Try.ntmps221 (by simp) ?_
  repeat (first | refine vops_q tyOk rfl ?_ | refine vops_nil ?_ | refine vw_seq ?_ | refine vw_region (by kernel_rfl) ?_ | refine vops_guardT rfl rfl ?_ | refine vops_guardF rfl rfl ?_ | refine vops_guardU rfl rfl ?_ | with_reducible refine bs_nbeq rfl ?_ | with_reducible refine bs_true ?_ | with_reducible refine bs_false ?_ | with_reducible refine bs_ntrue ?_ | with_reducible refine bs_nfalse ?_ | refine vops_p tyOk rfl (by (try simp only [inR]); omega) ?_ | refine vw_cond rfl ?_ | refine vw_skip ?_ | refine vw_block ?_ | refine vw_ret ?_ | refine vw_exit ?_ | ((show VOps _ _ _ _ (⟨some _, Go.Op.load _ _, _, _, _, none⟩ :: _) _ _); first | refine vops_loadM tyOk rfl rfl rfl (by repeat (first | exact mem_here | apply mem_next | apply mem_past)) (by rfl) ?_ | refine vops_loadM tyOk rfl rfl rfl (by repeat (first | exact mem_here | apply mem_next | apply mem_past)) (by exact ints_get0 (by omega)) ?_ | refine vops_loadNM tyOk rfl rfl rfl (by repeat (first | exact mem_here | apply mem_next | apply mem_past)) (by first | rfl | (rw [ints_length]; first | assumption | omega | (rw [ints_length]; first | assumption | omega | simp [*])) | simp [*]) ?_) | ((show VOps _ _ _ _ (⟨none, Go.Op.store _ _ _, _, _, _, none⟩ :: _) _ _); first | refine vops_storeIM tyOk rfl rfl rfl rfl (by repeat (first | exact upd_here | apply upd_next | apply upd_past)) (by omega) ?_ | refine vops_storeM tyOk rfl rfl rfl rfl rfl (by repeat (first | exact upd_here | apply upd_next | apply upd_past)) (by simp) ?_ | refine vops_storeAM tyOk rfl rfl rfl (by first | rfl | (rw [ints_length]; first | assumption | omega | (rw [ints_length]; first | assumption | omega | simp [*])) | simp [*]) (by first | exact ints_one | simp [Value.oneCell']) (by repeat (first | exact upd_here | apply upd_next | apply upd_past)) (by first | rfl | (rw [ints_length]; first | assumption | omega | (rw [ints_length]; first | assumption | omega | simp [*])) | simp [*]) ?_) | refine vops_build2 rfl rfl (by kernel_rfl) ?_ | refine vops_buildZ tyOk rfl (by kernel_rfl) ?_ | refine vops_slice tyOk rfl rfl rfl rfl rfl (by omega) ?_)
  refine vw_loop (fun m' f own => ∃ i : Nat, i ≤ l.length ∧ m' = l.length - i ∧ f 8 = .int .i64 i ∧ f 7 = .int .i64 l.length ∧ f 0 = .slice a l.length cap ∧ f 1 = .int .i64 x ∧ own = [] ∧ ∀ j : Nat, j < i → x ≠ l.getD j 0) l.length
    ⟨0, by omega, by omega, rfl, rfl, rfl, rfl, rfl, fun j hj => by omega⟩ ?_
  rintro m' f own ⟨i, hi, rfl, h8, h7, h0, h1, rfl, hall⟩
  rw [upd_of h8, upd_of h7, upd_of h0, upd_of h1]
  repeat (first | refine vops_q tyOk rfl ?_ | refine vops_nil ?_ | refine vw_seq ?_ | refine vw_region (by kernel_rfl) ?_ | refine vops_guardT rfl rfl ?_ | refine vops_guardF rfl rfl ?_ | refine vops_guardU rfl rfl ?_ | with_reducible refine bs_nbeq rfl ?_ | with_reducible refine bs_true ?_ | with_reducible refine bs_false ?_ | with_reducible refine bs_ntrue ?_ | with_reducible refine bs_nfalse ?_ | refine vops_p tyOk rfl (by (try simp only [inR]); omega) ?_ | refine vw_cond rfl ?_ | refine vw_skip ?_ | refine vw_block ?_ | refine vw_ret ?_ | refine vw_exit ?_ | ((show VOps _ _ _ _ (⟨some _, Go.Op.load _ _, _, _, _, none⟩ :: _) _ _); first | refine vops_loadM tyOk rfl rfl rfl (by repeat (first | exact mem_here | apply mem_next | apply mem_past)) (by rfl) ?_ | refine vops_loadM tyOk rfl rfl rfl (by repeat (first | exact mem_here | apply mem_next | apply mem_past)) (by exact ints_get0 (by omega)) ?_ | refine vops_loadNM tyOk rfl rfl rfl (by repeat (first | exact mem_here | apply mem_next | apply mem_past)) (by first | rfl | (rw [ints_length]; first | assumption | omega | (rw [ints_length]; first | assumption | omega | simp [*])) | simp [*]) ?_) | ((show VOps _ _ _ _ (⟨none, Go.Op.store _ _ _, _, _, _, none⟩ :: _) _ _); first | refine vops_storeIM tyOk rfl rfl rfl rfl (by repeat (first | exact upd_here | apply upd_next | apply upd_past)) (by omega) ?_ | refine vops_storeM tyOk rfl rfl rfl rfl rfl (by repeat (first | exact upd_here | apply upd_next | apply upd_past)) (by simp) ?_ | refine vops_storeAM tyOk rfl rfl rfl (by first | rfl | (rw [ints_length]; first | assumption | omega | (rw [ints_length]; first | assumption | omega | simp [*])) | simp [*]) (by first | exact ints_one | simp [Value.oneCell']) (by repeat (first | exact upd_here | apply upd_next | apply upd_past)) (by first | rfl | (rw [ints_length]; first | assumption | omega | (rw [ints_length]; first | assumption | omega | simp [*])) | simp [*]) ?_) | refine vops_build2 rfl rfl (by kernel_rfl) ?_ | refine vops_buildZ tyOk rfl (by kernel_rfl) ?_ | refine vops_slice tyOk rfl rfl rfl rfl rfl (by omega) ?_)
  refine bs_dec (fun h4 => ?_) (fun h4 => ?_)
  · have hil : i < l.length := by omega
    obtain ⟨b', o, cap', hee, hcell⟩ := hv.at (i := i) hil
    cases hee
    have hc := hcell i hil
    repeat (first | refine vops_q tyOk rfl ?_ | refine vops_nil ?_ | refine vw_seq ?_ | refine vw_region (by kernel_rfl) ?_ | refine vops_guardT rfl rfl ?_ | refine vops_guardF rfl rfl ?_ | refine vops_guardU rfl rfl ?_ | with_reducible refine bs_nbeq rfl ?_ | with_reducible refine bs_true ?_ | with_reducible refine bs_false ?_ | with_reducible refine bs_ntrue ?_ | with_reducible refine bs_nfalse ?_ | refine vops_p tyOk rfl (by (try simp only [inR]); omega) ?_ | refine vw_cond rfl ?_ | refine vw_skip ?_ | refine vw_block ?_ | refine vw_ret ?_ | refine vw_exit ?_ | refine vops_load tyOk rfl rfl rfl (sees_old hc (by simp)) ?_ | ((show VOps _ _ _ _ (⟨some _, Go.Op.load _ _, _, _, _, none⟩ :: _) _ _); first | refine vops_loadM tyOk rfl rfl rfl (by repeat (first | exact mem_here | apply mem_next | apply mem_past)) (by rfl) ?_ | refine vops_loadM tyOk rfl rfl rfl (by repeat (first | exact mem_here | apply mem_next | apply mem_past)) (by exact ints_get0 (by omega)) ?_ | refine vops_loadNM tyOk rfl rfl rfl (by repeat (first | exact mem_here | apply mem_next | apply mem_past)) (by first | rfl | (rw [ints_length]; first | assumption | omega | (rw [ints_length]; first | assumption | omega | simp [*])) | simp [*]) ?_) | ((show VOps _ _ _ _ (⟨none, Go.Op.store _ _ _, _, _, _, none⟩ :: _) _ _); first | refine vops_storeIM tyOk rfl rfl rfl rfl (by repeat (first | exact upd_here | apply upd_next | apply upd_past)) (by omega) ?_ | refine vops_storeM tyOk rfl rfl rfl rfl rfl (by repeat (first | exact upd_here | apply upd_next | apply upd_past)) (by simp) ?_ | refine vops_storeAM tyOk rfl rfl rfl (by first | rfl | (rw [ints_length]; first | assumption | omega | (rw [ints_length]; first | assumption | omega | simp [*])) | simp [*]) (by first | exact ints_one | simp [Value.oneCell']) (by repeat (first | exact upd_here | apply upd_next | apply upd_past)) (by first | rfl | (rw [ints_length]; first | assumption | omega | (rw [ints_length]; first | assumption | omega | simp [*])) | simp [*]) ?_) | refine vops_build2 rfl rfl (by kernel_rfl) ?_ | refine vops_buildZ tyOk rfl (by kernel_rfl) ?_ | refine vops_slice tyOk rfl rfl rfl rfl rfl (by omega) ?_)
    refine bs_dec (fun h6 => ?_) (fun h6 => ?_)
    · repeat (first | refine vops_q tyOk rfl ?_ | refine vops_nil ?_ | refine vw_seq ?_ | refine vw_region (by kernel_rfl) ?_ | refine vops_guardT rfl rfl ?_ | refine vops_guardF rfl rfl ?_ | refine vops_guardU rfl rfl ?_ | with_reducible refine bs_nbeq rfl ?_ | with_reducible refine bs_true ?_ | with_reducible refine bs_false ?_ | with_reducible refine bs_ntrue ?_ | with_reducible refine bs_nfalse ?_ | refine vops_p tyOk rfl (by (try simp only [inR]); omega) ?_ | refine vw_cond rfl ?_ | refine vw_skip ?_ | refine vw_block ?_ | refine vw_ret ?_ | refine vw_exit ?_ | ((show VOps _ _ _ _ (⟨some _, Go.Op.load _ _, _, _, _, none⟩ :: _) _ _); first | refine vops_loadM tyOk rfl rfl rfl (by repeat (first | exact mem_here | apply mem_next | apply mem_past)) (by rfl) ?_ | refine vops_loadM tyOk rfl rfl rfl (by repeat (first | exact mem_here | apply mem_next | apply mem_past)) (by exact ints_get0 (by omega)) ?_ | refine vops_loadNM tyOk rfl rfl rfl (by repeat (first | exact mem_here | apply mem_next | apply mem_past)) (by first | rfl | (rw [ints_length]; first | assumption | omega | (rw [ints_length]; first | assumption | omega | simp [*])) | simp [*]) ?_) | ((show VOps _ _ _ _ (⟨none, Go.Op.store _ _ _, _, _, _, none⟩ :: _) _ _); first | refine vops_storeIM tyOk rfl rfl rfl rfl (by repeat (first | exact upd_here | apply upd_next | apply upd_past)) (by omega) ?_ | refine vops_storeM tyOk rfl rfl rfl rfl rfl (by repeat (first | exact upd_here | apply upd_next | apply upd_past)) (by simp) ?_ | refine vops_storeAM tyOk rfl rfl rfl (by first | rfl | (rw [ints_length]; first | assumption | omega | (rw [ints_length]; first | assumption | omega | simp [*])) | simp [*]) (by first | exact ints_one | simp [Value.oneCell']) (by repeat (first | exact upd_here | apply upd_next | apply upd_past)) (by first | rfl | (rw [ints_length]; first | assumption | omega | (rw [ints_length]; first | assumption | omega | simp [*])) | simp [*]) ?_) | refine vops_build2 rfl rfl (by kernel_rfl) ?_ | refine vops_buildZ tyOk rfl (by kernel_rfl) ?_ | refine vops_slice tyOk rfl rfl rfl rfl rfl (by omega) ?_)
      exact out1 rfl rfl (new := []) List.nodup_nil sub_nil ⟨rfl, i, rfl, ⟨fun _ => by rw [h6]; exact mem_getD hil, fun _ => by omega⟩⟩
    repeat (first | refine vops_q tyOk rfl ?_ | refine vops_nil ?_ | refine vw_seq ?_ | refine vw_region (by kernel_rfl) ?_ | refine vops_guardT rfl rfl ?_ | refine vops_guardF rfl rfl ?_ | refine vops_guardU rfl rfl ?_ | with_reducible refine bs_nbeq rfl ?_ | with_reducible refine bs_true ?_ | with_reducible refine bs_false ?_ | with_reducible refine bs_ntrue ?_ | with_reducible refine bs_nfalse ?_ | refine vops_p tyOk rfl (by (try simp only [inR]); omega) ?_ | refine vw_cond rfl ?_ | refine vw_skip ?_ | refine vw_block ?_ | refine vw_ret ?_ | refine vw_exit ?_ | ((show VOps _ _ _ _ (⟨some _, Go.Op.load _ _, _, _, _, none⟩ :: _) _ _); first | refine vops_loadM tyOk rfl rfl rfl (by repeat (first | exact mem_here | apply mem_next | apply mem_past)) (by rfl) ?_ | refine vops_loadM tyOk rfl rfl rfl (by repeat (first | exact mem_here | apply mem_next | apply mem_past)) (by exact ints_get0 (by omega)) ?_ | refine vops_loadNM tyOk rfl rfl rfl (by repeat (first | exact mem_here | apply mem_next | apply mem_past)) (by first | rfl | (rw [ints_length]; first | assumption | omega | (rw [ints_length]; first | assumption | omega | simp [*])) | simp [*]) ?_) | ((show VOps _ _ _ _ (⟨none, Go.Op.store _ _ _, _, _, _, none⟩ :: _) _ _); first | refine vops_storeIM tyOk rfl rfl rfl rfl (by repeat (first | exact upd_here | apply upd_next | apply upd_past)) (by omega) ?_ | refine vops_storeM tyOk rfl rfl rfl rfl rfl (by repeat (first | exact upd_here | apply upd_next | apply upd_past)) (by simp) ?_ | refine vops_storeAM tyOk rfl rfl rfl (by first | rfl | (rw [ints_length]; first | assumption | omega | (rw [ints_length]; first | assumption | omega | simp [*])) | simp [*]) (by first | exact ints_one | simp [Value.oneCell']) (by repeat (first | exact upd_here | apply upd_next | apply upd_past)) (by first | rfl | (rw [ints_length]; first | assumption | omega | (rw [ints_length]; first | assumption | omega | simp [*])) | simp [*]) ?_) | refine vops_build2 rfl rfl (by kernel_rfl) ?_ | refine vops_buildZ tyOk rfl (by kernel_rfl) ?_ | refine vops_slice tyOk rfl rfl rfl rfl rfl (by omega) ?_)
    exact ⟨l.length - (i + 1), by omega, i + 1, by omega, rfl, rfl, rfl, rfl, rfl, rfl, fun j hj => by
      by_cases hji : j = i
      · subst hji; exact h6
      · exact hall j (by omega)⟩
  · repeat (first | refine vops_q tyOk rfl ?_ | refine vops_nil ?_ | refine vw_seq ?_ | refine vw_region (by kernel_rfl) ?_ | refine vops_guardT rfl rfl ?_ | refine vops_guardF rfl rfl ?_ | refine vops_guardU rfl rfl ?_ | with_reducible refine bs_nbeq rfl ?_ | with_reducible refine bs_true ?_ | with_reducible refine bs_false ?_ | with_reducible refine bs_ntrue ?_ | with_reducible refine bs_nfalse ?_ | refine vops_p tyOk rfl (by (try simp only [inR]); omega) ?_ | refine vw_cond rfl ?_ | refine vw_skip ?_ | refine vw_block ?_ | refine vw_ret ?_ | refine vw_exit ?_ | ((show VOps _ _ _ _ (⟨some _, Go.Op.load _ _, _, _, _, none⟩ :: _) _ _); first | refine vops_loadM tyOk rfl rfl rfl (by repeat (first | exact mem_here | apply mem_next | apply mem_past)) (by rfl) ?_ | refine vops_loadM tyOk rfl rfl rfl (by repeat (first | exact mem_here | apply mem_next | apply mem_past)) (by exact ints_get0 (by omega)) ?_ | refine vops_loadNM tyOk rfl rfl rfl (by repeat (first | exact mem_here | apply mem_next | apply mem_past)) (by first | rfl | (rw [ints_length]; first | assumption | omega | (rw [ints_length]; first | assumption | omega | simp [*])) | simp [*]) ?_) | ((show VOps _ _ _ _ (⟨none, Go.Op.store _ _ _, _, _, _, none⟩ :: _) _ _); first | refine vops_storeIM tyOk rfl rfl rfl rfl (by repeat (first | exact upd_here | apply upd_next | apply upd_past)) (by omega) ?_ | refine vops_storeM tyOk rfl rfl rfl rfl rfl (by repeat (first | exact upd_here | apply upd_next | apply upd_past)) (by simp) ?_ | refine vops_storeAM tyOk rfl rfl rfl (by first | rfl | (rw [ints_length]; first | assumption | omega | (rw [ints_length]; first | assumption | omega | simp [*])) | simp [*]) (by first | exact ints_one | simp [Value.oneCell']) (by repeat (first | exact upd_here | apply upd_next | apply upd_past)) (by first | rfl | (rw [ints_length]; first | assumption | omega | (rw [ints_length]; first | assumption | omega | simp [*])) | simp [*]) ?_) | refine vops_build2 rfl rfl (by kernel_rfl) ?_ | refine vops_buildZ tyOk rfl (by kernel_rfl) ?_ | refine vops_slice tyOk rfl rfl rfl rfl rfl (by omega) ?_)
    refine out1 rfl rfl (new := []) List.nodup_nil sub_nil ⟨rfl, -1, rfl, ⟨fun h => by omega, fun h => ?_⟩⟩
    obtain ⟨j, hj⟩ := List.mem_iff_getElem?.1 h
    have hjl := (List.getElem?_eq_some_iff.1 hj).1
    exact absurd (by rw [List.getD_eq_getElem?_getD, hj]; rfl) (hall j (by omega))
open Classical in
theorem c_has (v : Value) (l : List Int) (x : Int) (w : World) (hv : RdI w v l) (hl : l.length ≤ 1048576) :
    Calls Try.prog 134 [v, .int .i64 x].toArray w (Res w (Is (.bool (decide (x ∈ l))))) := by
  obtain ⟨a, cap, rfl⟩ := hv.len
  refine calls_of_vw Try.func134 rfl Try.ntmps134 (by simp) ?_
  repeat (first | refine vops_q tyOk rfl ?_ | refine vops_nil ?_ | refine vw_seq ?_ | refine vw_region (by kernel_rfl) ?_ | refine vops_guardT rfl rfl ?_ | refine vops_guardF rfl rfl ?_ | refine vops_guardU rfl rfl ?_ | with_reducible refine bs_nbeq rfl ?_ | with_reducible refine bs_true ?_ | with_reducible refine bs_false ?_ | with_reducible refine bs_ntrue ?_ | with_reducible refine bs_nfalse ?_ | refine vops_p tyOk rfl (by (try simp only [inR]); omega) ?_ | refine vw_cond rfl ?_ | refine vw_skip ?_ | refine vw_block ?_ | refine vw_ret ?_ | refine vw_exit ?_ | (apply vops_call ent221 rfl; (intro w' hg; exact c_idx _ l x w' (hv.same hg.fr) hl); (rintro _ newN ⟨rfl, r, rfl, hr⟩)) | ((show VOps _ _ _ _ (⟨some _, Go.Op.load _ _, _, _, _, none⟩ :: _) _ _); first | refine vops_loadM tyOk rfl rfl rfl (by repeat (first | exact mem_here | apply mem_next | apply mem_past)) (by rfl) ?_ | refine vops_loadM tyOk rfl rfl rfl (by repeat (first | exact mem_here | apply mem_next | apply mem_past)) (by exact ints_get0 (by omega)) ?_ | refine vops_loadNM tyOk rfl rfl rfl (by repeat (first | exact mem_here | apply mem_next | apply mem_past)) (by first | rfl | (rw [ints_length]; first | assumption | omega | (rw [ints_length]; first | assumption | omega | simp [*])) | simp [*]) ?_) | ((show VOps _ _ _ _ (⟨none, Go.Op.store _ _ _, _, _, _, none⟩ :: _) _ _); first | refine vops_storeIM tyOk rfl rfl rfl rfl (by repeat (first | exact upd_here | apply upd_next | apply upd_past)) (by omega) ?_ | refine vops_storeM tyOk rfl rfl rfl rfl rfl (by repeat (first | exact upd_here | apply upd_next | apply upd_past)) (by simp) ?_ | refine vops_storeAM tyOk rfl rfl rfl (by first | rfl | (rw [ints_length]; first | assumption | omega | (rw [ints_length]; first | assumption | omega | simp [*])) | simp [*]) (by first | exact ints_one | simp [Value.oneCell']) (by repeat (first | exact upd_here | apply upd_next | apply upd_past)) (by first | rfl | (rw [ints_length]; first | assumption | omega | (rw [ints_length]; first | assumption | omega | simp [*])) | simp [*]) ?_) | refine vops_build2 rfl rfl (by kernel_rfl) ?_ | refine vops_buildZ tyOk rfl (by kernel_rfl) ?_ | refine vops_slice tyOk rfl rfl rfl rfl rfl (by omega) ?_)
  exact rv_bool rfl rfl (decide_eq_decide.2 hr)
end Go.Proofs.Ytjbhmdhebmkgkaa

/- A part of the proof: W4. No conditions of its own. -/
namespace Go.Proofs.Ytjbhmdhebmkgkaa
open Go.VL
attribute [local irreducible] VWr VOps VD Calls

end Go.Proofs.Ytjbhmdhebmkgkaa

/- A part of the proof: W5. No conditions of its own. -/
namespace Go.Proofs.Ytjbhmdhebmkgkaa
open Go.VL
attribute [local irreducible] VWr VOps VD Calls

/-- The numbers below k that are not in a list. -/
def sitTo (l : List Int) (k : Nat) : List Int := ((List.range k).map fun (x : Nat) => (x : Int)).filter fun x => decide (x ∉ l)
open Classical in
noncomputable def sitR (n : Int) (es : List (List Int)) (i : Int) : List Int × Int :=
  if IsEv n es then (if 0 ≤ i ∧ i < es.length then (sitTo (es.getD i.toNat []) n.toNat, 0) else ([], 2)) else ([], 1)
/-- Where a round of an evening lies. -/
theorem rdRow {w : World} {v : Value} {ls : List (List Int)} (hv : RdII w v ls) {i : Nat} (hi : i < ls.length) :
    ∃ b o cap u cap2, v = .slice (some ⟨b, o, none⟩) ls.length cap ∧ w.cell? ⟨b, o + i, none⟩ = some (.slice u (ls.getD i []).length cap2) ∧ RdI w (.slice u (ls.getD i []).length cap2) (ls.getD i []) := by
  have hl : ls[i]? = some (ls.getD i []) := by rw [List.getD_eq_getElem?_getD, List.getElem?_eq_getElem hi]; rfl
  obtain ⟨b, o, cap, u, he, hc, hu⟩ := hv.at hl
  obtain ⟨a2, cap2, rfl⟩ := hu.len
  exact ⟨b, o, cap, a2, cap2, he, hc, hu⟩

end Go.Proofs.Ytjbhmdhebmkgkaa

