import Derived.Test.YtdgaabkgfbihpaaSY
import Derived.Test.YtdgaabkgfbihpaaVLArr
import Derived.Test.YtdgaabkgfbihpaaSA
import Derived.Test.YtdgaabkgfbihpaaVLPlay
import Derived.Test.YtdgaabkgfbihpaaVLSquare
/- Parts of the proof, one after another. No conditions of their own. -/
/- A part of the proof: W1. No conditions of its own. -/
namespace Go.Proofs.Ytdgaabkgfbihpaa
open Go.VL

/-- Different numbers below n. -/
def DiffL (n : Int) (l : List Int) : Prop := (∀ x ∈ l, 0 ≤ x ∧ x < n) ∧ l.Nodup
/-- A round of players. -/
def EvRow (n : Int) (r : List Int) : Prop := r.length % 4 = 0 ∧ DiffL n r
/-- An evening. -/
def IsEv (n : Int) (es : List (List Int)) : Prop := 4 ≤ n ∧ n ≤ 16 ∧ es.length ≤ 20 ∧ ∀ r ∈ es, EvRow n r
theorem DiffL.len {n : Int} {l : List Int} (h : DiffL n l) : l.length ≤ n.toNat := pigeon n.toNat l h.2 fun x hx => by have := h.1 x hx; omega
theorem IsEv.row {n : Int} {es : List (List Int)} (h : IsEv n es) {i : Nat} {r : List Int} (hi : es[i]? = some r) : EvRow n r := h.2.2.2 r (List.mem_of_getElem? hi)
theorem IsEv.len {n : Int} {es : List (List Int)} (h : IsEv n es) {r : List Int} (hr : r ∈ es) : r.length ≤ 16 := by
  have h1 := (h.2.2.2 r hr).2.len
  have h2 := h.2.1
  omega
theorem DiffL.get {n : Int} {l : List Int} (h : DiffL n l) {i : Nat} (hi : i < l.length) : 0 ≤ l.getD i 0 ∧ l.getD i 0 < n := h.1 _ (mem_getD hi)
theorem DiffL.ne {n : Int} {l : List Int} (h : DiffL n l) {i j : Nat} (hi : i < l.length) (hj : j < l.length) (hij : i ≠ j) : l.getD i 0 ≠ l.getD j 0 := fun e => hij (getD_inj h.2 hi hj e)

/-- The pairs of a table that stand in the relation d: partners for 1, opponents of both kinds for 2 and 3. -/
def pairs4 (d : Nat) (a b c e : Int) : List (List Int) := if d = 1 then [[a, b], [c, e]] else if d = 2 then [[a, c], [b, e]] else [[a, e], [b, c]]
def tabP (ds : List Nat) (a b c e : Int) : List (List Int) := (ds.map fun d => pairs4 d a b c e).flatten
/-- The pairs of some tables. -/
def relP (ds : List Nat) : List Int → List (List Int)
  | a :: b :: c :: e :: t => tabP ds a b c e ++ relP ds t
  | _ => []
theorem relP_nil (ds : List Nat) : relP ds [] = [] := by simp [relP]
theorem relP_app (ds : List Nat) : ∀ (m : Nat) (s t : List Int), s.length = 4 * m → relP ds (s ++ t) = relP ds s ++ relP ds t
  | 0, s, t, h => by
    obtain rfl : s = [] := List.length_eq_zero_iff.1 (by omega)
    simp [relP_nil]
  | m + 1, [], t, h => by simp only [List.length_nil] at h; omega
  | m + 1, [a], t, h => by simp only [List.length_cons, List.length_nil] at h; omega
  | m + 1, [a, b], t, h => by simp only [List.length_cons, List.length_nil] at h; omega
  | m + 1, [a, b, c], t, h => by simp only [List.length_cons, List.length_nil] at h; omega
  | m + 1, a :: b :: c :: e :: s, t, h => by
    have := relP_app ds m s t (by simp only [List.length_cons] at h; omega)
    simp only [List.cons_append, relP, this, List.append_assoc]
theorem pairs4_length (d : Nat) (a b c e : Int) : (pairs4 d a b c e).length = 2 := by unfold pairs4; split <;> (try split) <;> rfl
theorem tabP_length (ds : List Nat) (a b c e : Int) : (tabP ds a b c e).length = 2 * ds.length := by
  induction ds with
  | nil => rfl
  | cons d ds ih => unfold tabP at ih ⊢; rw [List.map_cons, List.flatten_cons, List.length_append, ih, pairs4_length, List.length_cons]; omega
theorem tabP_cons (ds : List Nat) (d : Nat) (a b c e : Int) : tabP (d :: ds) a b c e = pairs4 d a b c e ++ tabP ds a b c e := by simp [tabP]
theorem take4 {t : List Int} {i : Nat} (h : 4 * i + 4 ≤ t.length) : t.take (4 * (i + 1)) = t.take (4 * i) ++ [t.getD (4 * i) 0, t.getD (4 * i + 1) 0, t.getD (4 * i + 2) 0, t.getD (4 * i + 3) 0] := by
  rw [show 4 * (i + 1) = 4 * i + 3 + 1 by omega, take_snoc (by omega), show 4 * i + 3 = 4 * i + 2 + 1 by omega, take_snoc (by omega), show 4 * i + 2 = 4 * i + 1 + 1 by omega, take_snoc (by omega), take_snoc (by omega)]
  simp
theorem relP_take {ds : List Nat} {t : List Int} {i : Nat} (h : 4 * i + 4 ≤ t.length) : relP ds (t.take (4 * (i + 1))) = relP ds (t.take (4 * i)) ++ tabP ds (t.getD (4 * i) 0) (t.getD (4 * i + 1) 0) (t.getD (4 * i + 2) 0) (t.getD (4 * i + 3) 0) := by
  rw [take4 h, relP_app ds i _ _ (by rw [List.length_take]; omega)]
  simp [relP]
theorem relP_length (ds : List Nat) : ∀ (m : Nat) (t : List Int), t.length = 4 * m → (relP ds t).length = m * (2 * ds.length)
  | 0, t, h => by
    obtain rfl : t = [] := List.length_eq_zero_iff.1 (by omega)
    simp [relP_nil]
  | m + 1, t, h => by
    match t, h with
    | a :: b :: c :: e :: s, h =>
      have := relP_length ds m s (by simp only [List.length_cons] at h; omega)
      rw [relP, List.length_append, tabP_length, this, Nat.add_mul]; omega
    | [], h | [_], h | [_, _], h | [_, _, _], h => simp only [List.length_cons, List.length_nil] at h; omega
theorem relP_flat (ds : List Nat) : ∀ (es : List (List Int)), (∀ r ∈ es, r.length % 4 = 0) → ∀ (t : List Int), relP ds (es.flatten ++ t) = (es.map (relP ds)).flatten ++ relP ds t
  | [], _, t => rfl
  | r :: es, h, t => by
    have h4 := h r (by simp)
    rw [List.flatten_cons, List.append_assoc, relP_app ds (r.length / 4) _ _ (by omega), relP_flat ds es (fun q hq => h q (by simp [hq])), List.map_cons, List.flatten_cons, List.append_assoc]
theorem hits_app (p q : List (List Int)) (x y : Nat) : hits (p ++ q) x y = hits p x y + hits q x y := by
  unfold hits; rw [List.filter_append, List.length_append]
theorem hits_nil (x y : Nat) : hits [] x y = 0 := rfl
theorem hits_symm (p : List (List Int)) (x y : Nat) : hits p x y = hits p y x := by
  unfold hits
  congr 1
  apply List.filter_congr
  intro r _
  exact decide_eq_decide.2 Or.comm
theorem hits_flat (es : List (List (List Int))) (x y : Nat) : hits es.flatten x y = (es.map fun p => hits p x y).sum := by
  induction es with
  | nil => rfl
  | cons p es ih => rw [List.flatten_cons, hits_app, ih, List.map_cons, List.sum_cons]
/-- What the place k of a round adds to the place x, y of a table. -/
def ordW (ds : List Nat) (r : List Int) (k x y : Nat) : Nat := (ds.filter fun d => decide (r.getD k 0 = (x : Int) ∧ r.getD (k / 4 * 4 + (k % 4 ^^^ d)) 0 = (y : Int))).length
/-- .. and all places below k. -/
def ordC (ds : List Nat) (r : List Int) (x y : Nat) : Nat → Nat
  | 0 => 0
  | k + 1 => ordC ds r x y k + ordW ds r k x y
theorem ordW_cons (d : Nat) (ds : List Nat) (r : List Int) (k x y : Nat) : ordW (d :: ds) r k x y = (if r.getD k 0 = (x : Int) ∧ r.getD (k / 4 * 4 + (k % 4 ^^^ d)) 0 = (y : Int) then 1 else 0) + ordW ds r k x y := by
  unfold ordW
  rw [List.filter_cons]
  split
  · rename_i h
    have h' := of_decide_eq_true h
    rw [if_pos h', List.length_cons]; omega
  · rename_i h
    have h' : ¬ _ := fun hh => h (decide_eq_true hh)
    rw [if_neg h']; omega
theorem xor4 {d : Nat} (_hd : d = 1 ∨ d = 2 ∨ d = 3) (i : Nat) : (4 * i) / 4 * 4 + ((4 * i) % 4 ^^^ d) = 4 * i + d ∧ (4 * i + 1) / 4 * 4 + ((4 * i + 1) % 4 ^^^ d) = 4 * i + (1 ^^^ d) ∧ (4 * i + 2) / 4 * 4 + ((4 * i + 2) % 4 ^^^ d) = 4 * i + (2 ^^^ d) ∧ (4 * i + 3) / 4 * 4 + ((4 * i + 3) % 4 ^^^ d) = 4 * i + (3 ^^^ d) := by
  rw [show (4 * i) / 4 = i by omega, show (4 * i) % 4 = 0 by omega, show (4 * i + 1) / 4 = i by omega, show (4 * i + 1) % 4 = 1 by omega, show (4 * i + 2) / 4 = i by omega, show (4 * i + 2) % 4 = 2 by omega, show (4 * i + 3) / 4 = i by omega, show (4 * i + 3) % 4 = 3 by omega, Nat.zero_xor]
  omega
theorem one4 {d : Nat} (hd : d = 1 ∨ d = 2 ∨ d = 3) (a b c e x y : Int) (hab : a ≠ b) (hac : a ≠ c) (hae : a ≠ e) (hbc : b ≠ c) (hbe : b ≠ e) (hce : c ≠ e) (X : Nat → Int) (h0 : X 0 = a) (h1 : X 1 = b) (h2 : X 2 = c) (h3 : X 3 = e) :
    (if a = x ∧ X d = y then 1 else 0) + (if b = x ∧ X (1 ^^^ d) = y then 1 else 0) + (if c = x ∧ X (2 ^^^ d) = y then 1 else 0) + (if e = x ∧ X (3 ^^^ d) = y then 1 else 0)
      = ((pairs4 d a b c e).filter fun p => decide ((p.getD 0 0 = x ∧ p.getD 1 0 = y) ∨ (p.getD 0 0 = y ∧ p.getD 1 0 = x))).length := by
  have two : ∀ p q r s : Int, p ≠ q → r ≠ s → p ≠ r → p ≠ s → q ≠ r → q ≠ s → (if p = x ∧ q = y then 1 else 0) + (if q = x ∧ p = y then 1 else 0) + ((if r = x ∧ s = y then 1 else 0) + (if s = x ∧ r = y then 1 else 0))
      = (([[p, q], [r, s]] : List (List Int)).filter fun p => decide ((p.getD 0 0 = x ∧ p.getD 1 0 = y) ∨ (p.getD 0 0 = y ∧ p.getD 1 0 = x))).length := fun p q r s _ _ _ _ _ _ => by
    simp only [List.filter_cons, List.filter_nil, decide_eq_true_eq, List.getD_cons_zero, List.getD_cons_succ]
    repeat' split
    all_goals first | rfl | (exfalso; omega) | simp
    all_goals omega
  rcases hd with rfl | rfl | rfl
  · rw [show (1 ^^^ 1) = 0 from rfl, show (2 ^^^ 1) = 3 from rfl, show (3 ^^^ 1) = 2 from rfl, h0, h1, h2, h3]
    have := two a b c e hab hce hac hae hbc hbe
    unfold pairs4; rw [if_pos (show (1 : Nat) = 1 from rfl), ← this]; omega
  · rw [show (1 ^^^ 2) = 3 from rfl, show (2 ^^^ 2) = 0 from rfl, show (3 ^^^ 2) = 1 from rfl, h0, h1, h2, h3]
    have := two a c b e hac hbe hab hae (Ne.symm hbc) hce
    unfold pairs4; rw [if_neg (show ¬ (2 : Nat) = 1 by decide), if_pos (show (2 : Nat) = 2 from rfl), ← this]; omega
  · rw [show (1 ^^^ 3) = 2 from rfl, show (2 ^^^ 3) = 1 from rfl, show (3 ^^^ 3) = 0 from rfl, h0, h1, h2, h3]
    have := two a e b c hae hbc hab hac (Ne.symm hbe) (Ne.symm hce)
    unfold pairs4; rw [if_neg (show ¬ (3 : Nat) = 1 by decide), if_neg (show ¬ (3 : Nat) = 2 by decide), ← this]; omega
/-- A table, place by place, and as pairs. -/
theorem ord_table {n : Int} {r : List Int} (hr : DiffL n r) {i : Nat} (hi : 4 * i + 4 ≤ r.length) (x y : Nat) : ∀ (ds : List Nat), (∀ d ∈ ds, d = 1 ∨ d = 2 ∨ d = 3) →
    ordW ds r (4 * i) x y + ordW ds r (4 * i + 1) x y + ordW ds r (4 * i + 2) x y + ordW ds r (4 * i + 3) x y = hits (tabP ds (r.getD (4 * i) 0) (r.getD (4 * i + 1) 0) (r.getD (4 * i + 2) 0) (r.getD (4 * i + 3) 0)) x y
  | [], _ => by simp [ordW, tabP, hits]
  | d :: ds, h => by
    have ih := ord_table hr hi x y ds fun q hq => h q (by simp [hq])
    have hd := h d (by simp)
    obtain ⟨e0, e1, e2, e3⟩ := xor4 hd i
    rw [tabP_cons, hits_app, ← ih, ordW_cons, ordW_cons, ordW_cons, ordW_cons, e0, e1, e2, e3]
    have := one4 hd (r.getD (4 * i) 0) (r.getD (4 * i + 1) 0) (r.getD (4 * i + 2) 0) (r.getD (4 * i + 3) 0) x y (hr.ne (by omega) (by omega) (by omega)) (hr.ne (by omega) (by omega) (by omega)) (hr.ne (by omega) (by omega) (by omega)) (hr.ne (by omega) (by omega) (by omega)) (hr.ne (by omega) (by omega) (by omega)) (hr.ne (by omega) (by omega) (by omega)) (fun j => r.getD (4 * i + j) 0) rfl rfl rfl rfl
    unfold hits
    rw [← this]; omega
theorem ord_to {n : Int} {r : List Int} (hr : DiffL n r) {ds : List Nat} (hd : ∀ d ∈ ds, d = 1 ∨ d = 2 ∨ d = 3) (x y : Nat) : ∀ (i : Nat), 4 * i ≤ r.length → ordC ds r x y (4 * i) = hits (relP ds (r.take (4 * i))) x y
  | 0, _ => by simp [ordC, relP_nil, hits_nil]
  | i + 1, hi => by
    have ih := ord_to hr hd x y i (by omega)
    have := ord_table hr (i := i) (by omega) x y ds hd
    rw [relP_take (by omega), hits_app, ← ih, ← this]
    show ordC ds r x y (4 * i + 3 + 1) = _
    simp only [ordC]; omega
theorem ord_all {n : Int} {r : List Int} (hr : EvRow n r) {ds : List Nat} (hd : ∀ d ∈ ds, d = 1 ∨ d = 2 ∨ d = 3) (x y : Nat) : ordC ds r x y r.length = hits (relP ds r) x y := by
  have h4 := hr.1
  have := ord_to hr.2 hd x y (r.length / 4) (by omega)
  rw [show 4 * (r.length / 4) = r.length by omega, List.take_length] at this
  exact this
/-- How often x and y stand in one of the relations. -/
def relN (ds : List Nat) (es : List (List Int)) (x y : Nat) : Nat := hits (relP ds es.flatten) x y
theorem relN_snoc {n : Int} {es : List (List Int)} {r : List Int} (hes : ∀ q ∈ es, EvRow n q) (hr : EvRow n r) {ds : List Nat} (hd : ∀ d ∈ ds, d = 1 ∨ d = 2 ∨ d = 3) (x y : Nat) : relN ds (es ++ [r]) x y = relN ds es x y + ordC ds r x y r.length := by
  unfold relN
  rw [List.flatten_append, relP_flat ds es fun q hq => (hes q hq).1, hits_app, ord_all hr hd]
  have := relP_flat ds es (fun q hq => (hes q hq).1) []
  rw [List.append_nil, relP_nil, List.append_nil] at this
  rw [this]
  simp
theorem relN_nil (ds : List Nat) (x y : Nat) : relN ds [] x y = 0 := by unfold relN; rw [List.flatten_nil, relP_nil]; rfl
theorem relN_symm (ds : List Nat) (es : List (List Int)) (x y : Nat) : relN ds es x y = relN ds es y x := hits_symm _ x y
theorem flat_len4 {n : Int} {es : List (List Int)} (h : IsEv n es) : es.flatten.length ≤ 320 ∧ es.flatten.length % 4 = 0 := by
  have key : ∀ (l : List (List Int)), (∀ r ∈ l, r.length ≤ 16 ∧ r.length % 4 = 0) → l.flatten.length ≤ l.length * 16 ∧ l.flatten.length % 4 = 0 := by
    intro l
    induction l with
    | nil => intro _; simp
    | cons r l ih =>
      intro hl
      have a := hl r (by simp)
      have b := ih fun q hq => hl q (by simp [hq])
      rw [List.flatten_cons, List.length_append, List.length_cons]; omega
  have := key es fun r hr => ⟨h.len hr, (h.2.2.2 r hr).1⟩
  have := h.2.2.1
  omega
theorem relN_le {n : Int} {es : List (List Int)} (h : IsEv n es) {ds : List Nat} (hd : ds.length ≤ 3) (x y : Nat) : relN ds es x y ≤ 480 := by
  have h1 := flat_len4 h
  have h2 := relP_length ds (es.flatten.length / 4) es.flatten (by omega)
  have h3 : es.flatten.length / 4 * (2 * ds.length) ≤ 80 * (2 * 3) := Nat.mul_le_mul (by omega) (by omega)
  have := hits_le (relP ds es.flatten) x y
  unfold relN; omega
/-- The table of a relation. -/
def relT (n : Nat) (ds : List Nat) (es : List (List Int)) : List (List Int) := tabOf n fun x y => (relN ds es x y : Int)
end Go.Proofs.Ytdgaabkgfbihpaa

/- A part of the proof: W3. No conditions of its own. -/
namespace Go.Proofs.Ytdgaabkgfbihpaa
open Go.VL
attribute [local irreducible] VWr VOps VD Calls

open Classical in
set_option maxRecDepth 100000 in
theorem c_idx (v : Value) (l : List Int) (x : Int) (w : World) (hv : RdI w v l) (hl : l.length ≤ 1048576) :
    Calls Try.prog 306 [v, .int .i64 x].toArray w (Res w (fun u new => new = [] ∧ ∃ r : Int, u = .int .i64 r ∧ (0 ≤ r ↔ x ∈ l))) := by
  obtain ⟨a, cap, rfl⟩ := hv.len
  refine calls_of_vw Try.func306 rfl Try.ntmps306 (by simp) ?_
  repeat (first | refine vops_q tyOk rfl ?_ | refine vops_nil ?_ | refine vw_seq ?_ | refine vw_region (by kernel_rfl) ?_ | refine vw_block ?_)
  refine vw_loop (fun m' f own => ∃ i : Nat, i ≤ l.length ∧ m' = l.length - i ∧ f 8 = .int .i64 i ∧ f 7 = .int .i64 l.length ∧ f 0 = .slice a l.length cap ∧ f 1 = .int .i64 x ∧ own = [] ∧ ∀ j : Nat, j < i → x ≠ l.getD j 0) l.length
    ⟨0, by omega, by omega, rfl, rfl, rfl, rfl, rfl, fun j hj => by omega⟩ ?_
  rintro m' f own ⟨i, hi, rfl, h8, h7, h0, h1, rfl, hall⟩
  rw [upd_of h8, upd_of h7, upd_of h0, upd_of h1]
  repeat (first | refine vops_q tyOk rfl ?_ | refine vops_nil ?_ | refine vw_seq ?_ | refine vw_region (by kernel_rfl) ?_ | refine vw_cond rfl ?_)
  refine bs_dec (fun h4 => ?_) (fun h4 => ?_)
  · have hil : i < l.length := by omega
    obtain ⟨b', o, cap', hee, hcell⟩ := hv.at (i := i) hil
    cases hee
    have hc := hcell i hil
    repeat (first | refine vops_q tyOk rfl ?_ | refine vops_nil ?_ | refine vw_seq ?_ | refine vw_region (by kernel_rfl) ?_ | refine vops_p tyOk rfl (by (try simp only [inR]); omega) ?_ | refine vw_cond rfl ?_ | refine vw_skip ?_ | refine vw_block ?_ | refine vops_load tyOk rfl rfl rfl (sees_old hc (by simp)) ?_)
    refine bs_dec (fun h6 => ?_) (fun h6 => ?_)
    · repeat (first | refine vops_q tyOk rfl ?_ | refine vops_nil ?_ | refine vw_seq ?_ | refine vw_region (by kernel_rfl) ?_ | refine vw_ret ?_)
      exact out1 rfl rfl (new := []) List.nodup_nil sub_nil ⟨rfl, i, rfl, ⟨fun _ => by rw [h6]; exact mem_getD hil, fun _ => by omega⟩⟩
    repeat (first | refine vops_q tyOk rfl ?_ | refine vops_nil ?_ | refine vw_region (by kernel_rfl) ?_ | refine vops_p tyOk rfl (by (try simp only [inR]); omega) ?_ | refine vw_skip ?_)
    exact ⟨l.length - (i + 1), by omega, i + 1, by omega, rfl, rfl, rfl, rfl, rfl, rfl, fun j hj => by
      by_cases hji : j = i
      · subst hji; exact h6
      · exact hall j (by omega)⟩
  · repeat (first | refine vops_q tyOk rfl ?_ | refine vops_nil ?_ | refine vw_seq ?_ | refine vw_region (by kernel_rfl) ?_ | refine vw_ret ?_ | refine vw_exit ?_)
    refine out1 rfl rfl (new := []) List.nodup_nil sub_nil ⟨rfl, -1, rfl, ⟨fun h => by omega, fun h => ?_⟩⟩
    obtain ⟨j, hj⟩ := List.mem_iff_getElem?.1 h
    have hjl := (List.getElem?_eq_some_iff.1 hj).1
    exact absurd (by rw [List.getD_eq_getElem?_getD, hj]; rfl) (hall j (by omega))
open Classical in
theorem c_has (v : Value) (l : List Int) (x : Int) (w : World) (hv : RdI w v l) (hl : l.length ≤ 1048576) :
    Calls Try.prog 249 [v, .int .i64 x].toArray w (Res w (Is (.bool (decide (x ∈ l))))) := by
  obtain ⟨a, cap, rfl⟩ := hv.len
  refine calls_of_vw Try.func249 rfl Try.ntmps249 (by simp) ?_
  repeat (first | refine vops_q tyOk rfl ?_ | refine vops_nil ?_ | refine vw_seq ?_ | refine vw_region (by kernel_rfl) ?_ | refine vw_ret ?_ | (apply vops_call ent306 rfl; (intro w' hg; exact c_idx _ l x w' (hv.same hg.fr) hl); (rintro _ newN ⟨rfl, r, rfl, hr⟩)))
  exact rv_bool rfl rfl (decide_eq_decide.2 hr)
/-- The first numbers of a list that is read. -/
theorem rdI_cut {w : World} {b o n i cap : Nat} {l : List Int} (h : RdI w (.slice (some ⟨b, o, none⟩) n cap) l) (hi : i ≤ l.length) (cap2 : Nat) : RdI w (.slice (some ⟨b, o, none⟩) i cap2) (l.take i) := by
  have hl : (l.take i).length = i := by rw [List.length_take]; omega
  refine .inr ⟨b, o, cap2, by rw [hl], fun j x hx => ?_⟩
  have hj : j < i := by have := (List.getElem?_eq_some_iff.1 hx).1; rw [ints_length, hl] at this; exact this
  have hx' : (ints l)[j]? = some x := by
    have : (ints (l.take i))[j]? = (ints l)[j]? := by
      unfold ints
      rw [List.map_take, List.getElem?_take_of_lt hj]
    rw [← this]; exact hx
  obtain ⟨b', o', cap', he, hc⟩ := h.at (i := j) (by omega)
  cases he
  have hjl : j < l.length := by omega
  rw [ints_get hjl] at hx'
  cases hx'
  exact hc j hjl
theorem diff_snoc {n : Int} {l : List Int} {i : Nat} (hi : i < l.length) (h : DiffL n (l.take i)) (h1 : 0 ≤ l.getD i 0 ∧ l.getD i 0 < n) (h2 : l.getD i 0 ∉ l.take i) : DiffL n (l.take (i + 1)) := by
  refine ⟨fun x hx => ?_, nodup_snoc hi h.2 h2⟩
  rw [take_snoc hi] at hx
  rcases List.mem_append.1 hx with hx | hx
  · exact h.1 x hx
  · obtain rfl : x = l.getD i 0 := by simpa using hx
    exact h1

open Classical in
set_option maxHeartbeats 1000000 in
set_option maxRecDepth 100000 in
theorem c_areDifferent (v : Value) (l : List Int) (n : Int) (w : World) (hv : RdC w v l) (hl : l.length ≤ 1048576) :
    Calls Try.prog 174 [v, .int .i64 n].toArray w (Res w (Is (.bool (decide (DiffL n l))))) := by
  obtain ⟨a, cap, rfl, hcap⟩ := hv.len
  refine calls_of_vw Try.func174 rfl Try.ntmps174 (by simp) ?_
  repeat (first | refine vops_q tyOk rfl ?_ | refine vops_nil ?_ | refine vw_seq ?_ | refine vw_region (by kernel_rfl) ?_ | refine vw_block ?_)
  refine vw_loop (fun m f own => ∃ i : Nat, i ≤ l.length ∧ m = l.length - i ∧ f 9 = .int .i64 i ∧ f 8 = .int .i64 l.length ∧ f 7 = .slice a l.length cap ∧ f 0 = .slice a l.length cap ∧ f 1 = .int .i64 n ∧ own = [] ∧ DiffL n (l.take i)) l.length
    ⟨0, by omega, by omega, rfl, rfl, rfl, rfl, rfl, rfl, ⟨by simp, by simp⟩⟩ ?_
  rintro m f own ⟨i, hi, rfl, h9, h8, h7, h0, h1, rfl, hD⟩
  rw [upd_of h9, upd_of h8, upd_of h7, upd_of h0, upd_of h1]
  repeat (first | refine vops_q tyOk rfl ?_ | refine vops_nil ?_ | refine vw_seq ?_ | refine vw_region (by kernel_rfl) ?_ | refine vw_cond rfl ?_)
  refine bs_dec (fun h4 => ?_) (fun h4 => ?_)
  · have hil : i < l.length := by omega
    obtain ⟨b', o, cap', he, hcell⟩ := hv.1.at (i := i) hil
    cases he
    have hc := hcell i hil
    have hno : ¬ (0 ≤ l.getD i 0 ∧ l.getD i 0 < n) → decide (DiffL n l) = false := fun hh => decide_eq_false fun hd => hh (hd.1 _ (mem_getD hil))
    have hsl : sliced (some ⟨b', o, none⟩) (Int.toNat 0) (i : Int).toNat cap 1 = .slice (some ⟨b', o, none⟩) i cap := by simp [sliced, Addr.add]
    by_cases hr : 0 ≤ l.getD i 0 ∧ l.getD i 0 < n
    · repeat' (first | refine vops_q tyOk rfl ?_ | refine vops_nil ?_ | refine vw_seq ?_ | refine vw_region (by kernel_rfl) ?_ | refine vops_guardF rfl rfl ?_ | with_reducible refine bs_false ?_ | refine vops_p tyOk rfl (by (try simp only [inR]); omega) ?_ | refine vw_cond rfl ?_ | refine vw_skip ?_ | refine vw_block ?_ | refine vw_ret ?_ | (with_reducible refine bs_dec (fun _ => ?_) (fun _ => ?_)) <;> try (exfalso; omega) | (with_reducible refine bs_ndec (fun _ => ?_) (fun _ => ?_)) <;> try (exfalso; omega) | refine vops_load tyOk rfl rfl rfl (sees_old hc (by simp)) ?_ | (apply vops_callp ent124 rfl; (intro w _; exact c_isBelow _ _ w)) | (apply vops_callp ent249 rfl; (intro w' hg; exact c_has _ (l.take i) _ w' (by rw [hsl]; exact rdI_cut (hv.1.same hg.fr) (by omega) _) (by rw [List.length_take]; omega))) | refine vops_slice tyOk rfl rfl rfl rfl rfl (by omega) ?_)
      · rename_i h6
        exact rv_bool rfl rfl (decide_eq_false fun hh => not_nodup hil h6 hh.2).symm
      · rename_i h6
        exact ⟨l.length - (i + 1), by omega, i + 1, by omega, rfl, rfl, rfl, rfl, rfl, rfl, rfl, diff_snoc hil hD hr h6⟩
    · repeat' (first | refine vops_q tyOk rfl ?_ | refine vops_nil ?_ | refine vw_seq ?_ | refine vw_region (by kernel_rfl) ?_ | refine vops_guardF rfl rfl ?_ | with_reducible refine bs_true ?_ | refine vops_p tyOk rfl (by (try simp only [inR]); omega) ?_ | refine vw_cond rfl ?_ | refine vw_skip ?_ | refine vw_block ?_ | refine vw_ret ?_ | (with_reducible refine bs_ndec (fun _ => ?_) (fun _ => ?_)) <;> try (exfalso; omega) | refine vops_load tyOk rfl rfl rfl (sees_old hc (by simp)) ?_ | (apply vops_callp ent124 rfl; (intro w _; exact c_isBelow _ _ w)))
      all_goals first | exact rv_bool rfl rfl (hno hr).symm | (exfalso; exact hr (by assumption))
  · obtain rfl : i = l.length := by omega
    repeat (first | refine vops_q tyOk rfl ?_ | refine vops_nil ?_ | refine vw_seq ?_ | refine vw_region (by kernel_rfl) ?_ | refine vw_ret ?_ | refine vw_exit ?_)
    exact rv_bool rfl rfl (decide_eq_true (by rwa [List.take_length] at hD)).symm

open Classical in
set_option maxHeartbeats 1000000 in
set_option maxRecDepth 100000 in
theorem c_l06Round (v : Value) (l : List Int) (n : Int) (w : World) (hv : RdI w v l) (hl : l.length ≤ 1048576) (h0 : 0 ≤ n) (h1 : n ≤ 1048576) :
    Calls Try.prog 176 [.int .i64 n, v].toArray w (Res w (Is (.bool (decide (EvRow n l))))) := by
  obtain ⟨a, cap, rfl⟩ := hv.len
  refine calls_of_vw Try.func176 rfl Try.ntmps176 (by simp) ?_
  obtain ⟨k, rfl⟩ : ∃ k : Nat, n = (k : Int) := ⟨n.toNat, by omega⟩
  repeat (first | refine vops_q tyOk rfl ?_ | refine vops_nil ?_ | refine vw_seq ?_ | refine vw_region (by kernel_rfl) ?_)
  refine vops_makeBools (n := k) tyOk rfl rfl rfl rfl rfl rfl rfl (by decide) (by omega) (fun b hb => ?_)
  repeat (first | refine vops_q tyOk rfl ?_ | refine vops_nil ?_ | refine vw_seq ?_ | refine vw_region (by kernel_rfl) ?_ | refine vw_block ?_)
  refine vw_loop (fun m f own => ∃ i : Nat, i ≤ l.length ∧ m = l.length - i ∧ f 6 = .int .i64 i ∧ f 1 = .slice a l.length cap ∧ f 0 = .int .i64 k ∧ f 5 = .slice (some ⟨b, 0, none⟩) k k ∧ own = [(b, ⟨bools (seenOf l i k), 4, k, none⟩)] ∧ DiffL k (l.take i)) l.length
    ⟨0, by omega, by omega, rfl, rfl, rfl, rfl, by rw [seenOf_zero], ⟨by simp, by simp⟩⟩ ?_
  rintro m f own ⟨i, hi, rfl, h6, h1', h0', h5, rfl, hD⟩
  rw [upd_of h6, upd_of h1', upd_of h0', upd_of h5]
  repeat (first | refine vops_q tyOk rfl ?_ | refine vops_nil ?_ | refine vw_seq ?_ | refine vw_region (by kernel_rfl) ?_ | refine vw_cond rfl ?_)
  refine bs_dec (fun h4 => ?_) (fun h4 => ?_)
  · have hil : i < l.length := by omega
    obtain ⟨b', o, cap', he, hcell⟩ := hv.at (i := i) hil
    cases he
    have hc := hcell i hil
    have hno : ¬ (0 ≤ l.getD i 0 ∧ l.getD i 0 < k) → decide (EvRow k l) = false := fun hh => decide_eq_false fun hd => hh (hd.2.1 _ (mem_getD hil))
    repeat (first | refine vops_q tyOk rfl ?_ | refine vw_seq ?_ | refine vw_region (by kernel_rfl) ?_ | refine vops_guardF rfl rfl ?_ | refine vops_p tyOk rfl (by (try simp only [inR]); omega) ?_ | refine vw_skip ?_ | refine vw_block ?_ | refine vops_load tyOk rfl rfl rfl (sees_old hc (by simp)) ?_ | (apply vops_callp ent155 rfl; (intro w _; exact c_l01In _ _ _ w)))
    by_cases hr : 0 ≤ l.getD i 0 ∧ l.getD i 0 < k
    rotate_left
    · repeat' (first | refine vops_q tyOk rfl ?_ | refine vops_nil ?_ | refine vw_seq ?_ | refine vw_region (by kernel_rfl) ?_ | refine vops_guardF rfl rfl ?_ | with_reducible refine bs_true ?_ | refine vw_cond rfl ?_ | refine vw_ret ?_ | (with_reducible refine bs_ndec (fun _ => ?_) (fun _ => ?_)) <;> try (exfalso; omega))
      all_goals first | exact rv_bool rfl rfl (hno hr).symm | (exfalso; omega)
    have hsg := seenOf_get (l := l) (i := i) (n := k) (x := (l.getD i 0).toNat) (by omega)
    rw [show (((l.getD i 0).toNat : Nat) : Int) = l.getD i 0 by omega] at hsg
    have hld : (bools (seenOf l i k))[0 + (l.getD i 0).toNat]? = some (.bool (decide (l.getD i 0 ∈ l.take i))) := by rw [← hsg]; exact bools_get (by rw [seenOf_length]; omega)
    repeat' (first | refine vops_q tyOk rfl ?_ | refine vops_nil ?_ | refine vw_seq ?_ | refine vw_region (by kernel_rfl) ?_ | refine vops_guardF rfl rfl ?_ | with_reducible refine bs_false ?_ | refine vops_p tyOk rfl (by (try simp only [inR]); omega) ?_ | refine vw_cond rfl ?_ | refine vw_skip ?_ | refine vw_ret ?_ | (with_reducible refine bs_dec (fun _ => ?_) (fun _ => ?_)) <;> try (exfalso; omega) | (with_reducible refine bs_ndec (fun _ => ?_) (fun _ => ?_)) <;> try (exfalso; omega) | refine vops_load tyOk rfl rfl rfl (sees_old hc (by simp)) ?_ | refine vops_loadM tyOk rfl rfl rfl (by repeat (first | exact mem_here | apply mem_next | apply mem_past)) (by exact hld) ?_ | refine vops_storeBM tyOk rfl rfl rfl rfl (by repeat (first | exact upd_here | apply upd_next | apply upd_past)) (by simp only [seenOf_length]; omega) ?_)
    · rename_i h7
      exact rv_bool rfl rfl (decide_eq_false fun hh => not_nodup hil h7 hh.2.2).symm
    · rename_i h7
      refine ⟨l.length - (i + 1), by omega, i + 1, by omega, rfl, rfl, rfl, rfl, rfl, ?_, diff_snoc hil hD hr h7⟩
      rw [← seenOf_set hil hr.1 hr.2]
  · obtain rfl : i = l.length := by omega
    rw [List.take_length] at hD
    repeat (first | refine vops_q tyOk rfl ?_ | refine vops_nil ?_ | refine vw_seq ?_ | refine vw_region (by kernel_rfl) ?_ | refine vops_p tyOk rfl (by (try simp only [inR]); omega) ?_ | refine vw_ret ?_ | refine vw_exit ?_)
    refine rv_bool rfl rfl (decide_eq_decide.2 ⟨fun h => ⟨by omega, hD⟩, fun h => by have := h.1; omega⟩)
end Go.Proofs.Ytdgaabkgfbihpaa

/- A part of the proof: W4. No conditions of its own. -/
namespace Go.Proofs.Ytdgaabkgfbihpaa
open Go.VL
attribute [local irreducible] VWr VOps VD Calls

theorem c_isPlayerCount (n : Int) (w : World) : Calls Try.prog 172 [Value.int .i64 n].toArray w (Res w (Is (.bool (decide (4 ≤ n ∧ n ≤ 16))))) := by
  refine calls_of_vw Try.func172 rfl Try.ntmps172 (by simp) ?_
  repeat' (first | refine vops_q tyOk rfl ?_ | refine vops_nil ?_ | refine vw_seq ?_ | refine vw_region (by kernel_rfl) ?_ | refine vops_guardT rfl rfl ?_ | with_reducible refine bs_true ?_ | with_reducible refine bs_false ?_ | refine vw_ret ?_ | (with_reducible refine bs_dec (fun _ => ?_) (fun _ => ?_)) <;> try (exfalso; omega))
  · rename_i h
    exact rv_bool rfl rfl (decide_eq_decide.2 ⟨fun h1 => ⟨h, h1⟩, fun h => h.2⟩)
  · exact rv_bool rfl rfl (decide_eq_false fun h => by omega).symm

open Classical in
set_option maxHeartbeats 1000000 in
set_option maxRecDepth 100000 in
theorem c_IsEvening (m : Int) (v : Value) (ls : List (List Int)) (w : World) (hv : RdCC w v ls) (_hl : ls.length ≤ 1048576) (hll : ∀ l ∈ ls, l.length ≤ 1048576) :
    Calls Try.prog 160 [.agg #[.int .i64 m, v]].toArray w (Res w (Is (.bool (decide (IsEv m ls))))) := by
  obtain ⟨a, cap, rfl⟩ := hv.len
  refine calls_of_vw Try.func160 rfl Try.ntmps160 (by simp) ?_
  refine vw_seq (vw_region (by kernel_rfl) (vops_box [.int .i64 m, .slice a ls.length cap] rfl (fun b0 hb0 => ?_)))
  by_cases hs : (4 ≤ m ∧ m ≤ 16) ∧ ls.length ≤ 20
  rotate_left
  · repeat' (first | refine vops_q tyOk rfl ?_ | refine vops_nil ?_ | refine vw_seq ?_ | refine vw_region (by kernel_rfl) ?_ | refine vops_guardF rfl rfl ?_ | with_reducible refine bs_true ?_ | with_reducible refine bs_false ?_ | refine vw_cond rfl ?_ | refine vw_ret ?_ | (with_reducible refine bs_dec (fun _ => ?_) (fun _ => ?_)) <;> try (exfalso; omega) | (with_reducible refine bs_ndec (fun _ => ?_) (fun _ => ?_)) <;> try (exfalso; omega) | (apply vops_callp ent172 rfl; (intro w _; exact c_isPlayerCount _ w)) | ((show VOps _ _ _ _ (⟨some _, Go.Op.load _ _, _, _, _, none⟩ :: _) _ _); refine vops_loadM tyOk rfl rfl rfl (by repeat (first | exact mem_here | apply mem_next | apply mem_past)) (by rfl) ?_))
    all_goals exact rv_bool rfl rfl (decide_eq_false fun hh => hs ⟨⟨hh.1, hh.2.1⟩, hh.2.2.1⟩).symm
  obtain ⟨hsd, hln⟩ := hs
  repeat' (first | refine vops_q tyOk rfl ?_ | refine vops_nil ?_ | refine vw_seq ?_ | refine vw_region (by kernel_rfl) ?_ | refine vops_guardF rfl rfl ?_ | with_reducible refine bs_false ?_ | refine vw_cond rfl ?_ | refine vw_skip ?_ | refine vw_block ?_ | (with_reducible refine bs_dec (fun _ => ?_) (fun _ => ?_)) <;> try (exfalso; omega) | (with_reducible refine bs_ndec (fun _ => ?_) (fun _ => ?_)) <;> try (exfalso; omega) | (apply vops_callp ent172 rfl; (intro w _; exact c_isPlayerCount _ w)) | ((show VOps _ _ _ _ (⟨some _, Go.Op.load _ _, _, _, _, none⟩ :: _) _ _); refine vops_loadM tyOk rfl rfl rfl (by repeat (first | exact mem_here | apply mem_next | apply mem_past)) (by rfl) ?_))
  refine vw_loop (fun k f own => ∃ i : Nat, i ≤ ls.length ∧ k = ls.length - i ∧ f 18 = .int .i64 i ∧ f 17 = .int .i64 ls.length ∧ f 16 = .slice a ls.length cap ∧ f 1 = .pointer (some ⟨b0, 0, none⟩) ∧ own = [(b0, ⟨[.int .i64 m, .slice a ls.length cap], 58, 2, none⟩)] ∧ ∀ (j : Nat) (l : List Int), j < i → ls[j]? = some l → EvRow m l) ls.length
    ⟨0, by omega, by omega, rfl, rfl, rfl, rfl, rfl, fun j l hj => by omega⟩ ?_
  rintro k f own ⟨i, hi, rfl, h18, h17, h16, h1, rfl, hall⟩
  rw [upd_of h18, upd_of h17, upd_of h16, upd_of h1]
  repeat (first | refine vops_q tyOk rfl ?_ | refine vops_nil ?_ | refine vw_seq ?_ | refine vw_region (by kernel_rfl) ?_ | refine vw_cond rfl ?_)
  refine bs_dec (fun hlt => ?_) (fun hlt => ?_)
  · obtain ⟨l, hli⟩ : ∃ l, ls[i]? = some l := ⟨_, List.getElem?_eq_getElem (by omega)⟩
    have hmem := List.mem_of_getElem? hli
    have hl1 := hll l hmem
    obtain ⟨b', o, cap', u, he, hcu, hu⟩ := RdL.at hv hli
    cases he
    obtain ⟨a2, cap2, rfl, _⟩ := hu.len
    have hnx : EvRow m l → ∀ (j : Nat) (l' : List Int), j < i + 1 → ls[j]? = some l' → EvRow m l' := fun hr j l' hj hj' => by
      by_cases hji : j = i
      · subst hji
        obtain rfl : l = l' := Option.some.inj (hli.symm.trans hj')
        exact hr
      · exact hall j l' (by omega) hj'
    repeat' (first | refine vops_q tyOk rfl ?_ | refine vops_nil ?_ | refine vw_seq ?_ | refine vw_region (by kernel_rfl) ?_ | refine vops_guardF rfl rfl ?_ | with_reducible refine bs_true ?_ | with_reducible refine bs_false ?_ | refine vops_p tyOk rfl (by (try simp only [inR]); omega) ?_ | refine vw_cond rfl ?_ | refine vw_skip ?_ | refine vw_block ?_ | refine vw_ret ?_ | (with_reducible refine bs_ndec (fun _ => ?_) (fun _ => ?_)) <;> try (exfalso; omega) | refine vops_load tyOk rfl rfl rfl (sees_old hcu (by simp)) ?_ | (apply vops_callp ent174 rfl; (intro w' hg; exact c_areDifferent _ l _ w' (hu.same hg.fr) hl1)) | ((show VOps _ _ _ _ (⟨some _, Go.Op.load _ _, _, _, _, none⟩ :: _) _ _); refine vops_loadM tyOk rfl rfl rfl (by repeat (first | exact mem_here | apply mem_next | apply mem_past)) (by rfl) ?_))
    all_goals first | exact rv_bool rfl rfl (decide_eq_false fun hh => by have := (hh.2.2.2 l hmem).1; omega).symm | exact rv_bool rfl rfl (decide_eq_false fun hh => absurd (hh.2.2.2 l hmem).2 (by assumption)).symm | exact ⟨ls.length - (i + 1), by omega, i + 1, by omega, rfl, rfl, rfl, rfl, rfl, rfl, hnx ⟨by omega, by assumption⟩⟩
  · repeat (first | refine vops_q tyOk rfl ?_ | refine vops_nil ?_ | refine vw_seq ?_ | refine vw_region (by kernel_rfl) ?_ | refine vw_ret ?_ | refine vw_exit ?_)
    refine rv_bool rfl rfl (decide_eq_true ⟨hsd.1, hsd.2, hln, fun l hl => ?_⟩).symm
    obtain ⟨j, hj⟩ := List.mem_iff_getElem?.1 hl
    exact hall j l (by have := (List.getElem?_eq_some_iff.1 hj).1; omega) hj

open Classical in
set_option maxHeartbeats 1000000 in
set_option maxRecDepth 100000 in
theorem c_l06Is (m : Int) (v : Value) (ls : List (List Int)) (w : World) (hv : RdII w v ls) (_hl : ls.length ≤ 1048576) (hll : ∀ l ∈ ls, l.length ≤ 1048576) :
    Calls Try.prog 163 [.agg #[.int .i64 m, v]].toArray w (Res w (Is (.bool (decide (IsEv m ls))))) := by
  obtain ⟨a, cap, rfl⟩ := hv.len
  refine calls_of_vw Try.func163 rfl Try.ntmps163 (by simp) ?_
  refine vw_seq (vw_region (by kernel_rfl) (vops_box [.int .i64 m, .slice a ls.length cap] rfl (fun b0 hb0 => ?_)))
  by_cases hs : (4 ≤ m ∧ m ≤ 16) ∧ ls.length ≤ 20
  rotate_left
  · repeat' (first | refine vops_q tyOk rfl ?_ | refine vops_nil ?_ | refine vw_seq ?_ | refine vw_region (by kernel_rfl) ?_ | refine vops_guardF rfl rfl ?_ | with_reducible refine bs_true ?_ | with_reducible refine bs_false ?_ | refine vw_cond rfl ?_ | refine vw_ret ?_ | (with_reducible refine bs_dec (fun _ => ?_) (fun _ => ?_)) <;> try (exfalso; omega) | (with_reducible refine bs_ndec (fun _ => ?_) (fun _ => ?_)) <;> try (exfalso; omega) | (apply vops_callp ent155 rfl; (intro w _; exact c_l01In _ _ _ w)) | ((show VOps _ _ _ _ (⟨some _, Go.Op.load _ _, _, _, _, none⟩ :: _) _ _); refine vops_loadM tyOk rfl rfl rfl (by repeat (first | exact mem_here | apply mem_next | apply mem_past)) (by rfl) ?_))
    all_goals exact rv_bool rfl rfl (decide_eq_false fun hh => hs ⟨⟨hh.1, hh.2.1⟩, hh.2.2.1⟩).symm
  obtain ⟨hsd, hln⟩ := hs
  repeat' (first | refine vops_q tyOk rfl ?_ | refine vops_nil ?_ | refine vw_seq ?_ | refine vw_region (by kernel_rfl) ?_ | refine vops_guardF rfl rfl ?_ | with_reducible refine bs_false ?_ | refine vw_cond rfl ?_ | refine vw_skip ?_ | refine vw_block ?_ | (with_reducible refine bs_dec (fun _ => ?_) (fun _ => ?_)) <;> try (exfalso; omega) | (with_reducible refine bs_ndec (fun _ => ?_) (fun _ => ?_)) <;> try (exfalso; omega) | (apply vops_callp ent155 rfl; (intro w _; exact c_l01In _ _ _ w)) | ((show VOps _ _ _ _ (⟨some _, Go.Op.load _ _, _, _, _, none⟩ :: _) _ _); refine vops_loadM tyOk rfl rfl rfl (by repeat (first | exact mem_here | apply mem_next | apply mem_past)) (by rfl) ?_))
  refine vw_loop (fun k f own => ∃ i : Nat, i ≤ ls.length ∧ k = ls.length - i ∧ f 3 = .int .i64 i ∧ f 1 = .pointer (some ⟨b0, 0, none⟩) ∧ own = [(b0, ⟨[.int .i64 m, .slice a ls.length cap], 58, 2, none⟩)] ∧ ∀ (j : Nat) (l : List Int), j < i → ls[j]? = some l → EvRow m l) ls.length
    ⟨0, by omega, by omega, rfl, rfl, rfl, fun j l hj => by omega⟩ ?_
  rintro k f own ⟨i, hi, rfl, h3, h1, rfl, hall⟩
  rw [upd_of h3, upd_of h1]
  repeat (first | refine vops_q tyOk rfl ?_ | refine vops_nil ?_ | refine vw_seq ?_ | refine vw_region (by kernel_rfl) ?_ | refine vw_cond rfl ?_ | ((show VOps _ _ _ _ (⟨some _, Go.Op.load _ _, _, _, _, none⟩ :: _) _ _); refine vops_loadM tyOk rfl rfl rfl (by repeat (first | exact mem_here | apply mem_next | apply mem_past)) (by rfl) ?_))
  refine bs_dec (fun hlt => ?_) (fun hlt => ?_)
  · obtain ⟨l, hli⟩ : ∃ l, ls[i]? = some l := ⟨_, List.getElem?_eq_getElem (by omega)⟩
    have hmem := List.mem_of_getElem? hli
    have hl1 := hll l hmem
    obtain ⟨b', o, cap', u, he, hcu, hu⟩ := hv.at hli
    cases he
    obtain ⟨a2, cap2, rfl⟩ := hu.len
    repeat (first | refine vw_seq ?_ | refine vw_skip ?_ | refine vw_block ?_)
    refine vw_draw [0, 1, 2, 3, 4, 5, 6, 7, 8] (by kernel_rfl) (by kernel_rfl) (by kernel_rfl) rfl ?_
    repeat' (first | refine vd_q tyOk rfl (by first | trivial | rfl) rfl (by kernel_rfl) (by kernel_rfl) ?_ | refine vd_p tyOk rfl (by first | trivial | rfl) rfl (by kernel_rfl) (by kernel_rfl) (by (try simp only [inR]); omega) ?_ | refine vops_nil ?_ | refine vd_nil (by kernel_rfl) ?_ | refine ⟨fun _ _ _ h => h, ?_⟩ | refine vd_load tyOk rfl (by first | trivial | rfl) rfl rfl rfl (by kernel_rfl) (by kernel_rfl) (by kernel_rfl) (sees_mem (by repeat (first | exact mem_here | apply mem_next | apply mem_past)) (by rfl)) (by repeat (first | exact sub_hereL | exact sub_refl | apply sub_cons | apply sub_app)) ?_ | refine vd_load tyOk rfl (by first | trivial | rfl) rfl rfl rfl (by kernel_rfl) (by kernel_rfl) (by kernel_rfl) (sees_old hcu (by simp)) (by repeat (first | exact sub_hereL | exact sub_refl | apply sub_cons | apply sub_app)) ?_ | (apply vops_callp ent176 rfl; (intro w' hg; exact c_l06Round _ l _ w' (hu.same hg.fr) hl1 (by omega) (by omega))) | refine vd_one rfl (by kernel_rfl) (by kernel_rfl) rfl ?_)
    repeat (first | refine vw_cond rfl ?_)
    refine bs_ndec2 (fun h7 => ?_) (fun h7 => ?_)
    · repeat (first | refine vops_q tyOk rfl ?_ | refine vops_nil ?_ | refine vw_seq ?_ | refine vw_region (by kernel_rfl) ?_ | refine vw_ret ?_)
      exact rv_bool rfl rfl (decide_eq_false fun hh => h7 (hh.2.2.2 l hmem)).symm
    · repeat (first | refine vops_q tyOk rfl ?_ | refine vops_nil ?_ | refine vw_region (by kernel_rfl) ?_ | refine vops_p tyOk rfl (by (try simp only [inR]); omega) ?_ | refine vw_skip ?_)
      refine ⟨ls.length - (i + 1), by omega, i + 1, by omega, rfl, rfl, rfl, rfl, fun j l' hj hj' => ?_⟩
      by_cases hji : j = i
      · subst hji
        obtain rfl : l = l' := Option.some.inj (hli.symm.trans hj')
        exact h7
      · exact hall j l' (by omega) hj'
  · repeat (first | refine vops_q tyOk rfl ?_ | refine vops_nil ?_ | refine vw_seq ?_ | refine vw_region (by kernel_rfl) ?_ | refine vw_ret ?_ | refine vw_exit ?_)
    refine rv_bool rfl rfl (decide_eq_true ⟨hsd.1, hsd.2, hln, fun l hl => ?_⟩).symm
    obtain ⟨j, hj⟩ := List.mem_iff_getElem?.1 hl
    exact hall j l (by have := (List.getElem?_eq_some_iff.1 hj).1; omega) hj
end Go.Proofs.Ytdgaabkgfbihpaa

/- A part of the proof: W5. No conditions of its own. -/
namespace Go.Proofs.Ytdgaabkgfbihpaa
open Go.VL
attribute [local irreducible] VWr VOps VD Calls

/-- The numbers below k that are not in a list. -/
def sitTo (l : List Int) (k : Nat) : List Int := ((List.range k).map fun (x : Nat) => (x : Int)).filter fun x => decide (x ∉ l)
open Classical in
noncomputable def sitR (n : Int) (es : List (List Int)) (i : Int) : List Int × Int :=
  if IsEv n es then (if 0 ≤ i ∧ i < es.length then (sitTo (es.getD i.toNat []) n.toNat, 0) else ([], 2)) else ([], 1)
/-- Where a round of an evening lies. -/
theorem rdRow {w : World} {v : Value} {ls : List (List Int)} (hv : RdII w v ls) {i : Nat} (hi : i < ls.length) :
    ∃ b o cap u cap2, v = .slice (some ⟨b, o, none⟩) ls.length cap ∧ w.cell? ⟨b, o + i, none⟩ = some (.slice u (ls.getD i []).length cap2) ∧ RdI w (.slice u (ls.getD i []).length cap2) (ls.getD i []) := by
  have hl : ls[i]? = some (ls.getD i []) := by rw [List.getD_eq_getElem?_getD, List.getElem?_eq_getElem hi]; rfl
  obtain ⟨b, o, cap, u, he, hc, hu⟩ := hv.at hl
  obtain ⟨a2, cap2, rfl⟩ := hu.len
  exact ⟨b, o, cap, a2, cap2, he, hc, hu⟩

end Go.Proofs.Ytdgaabkgfbihpaa

