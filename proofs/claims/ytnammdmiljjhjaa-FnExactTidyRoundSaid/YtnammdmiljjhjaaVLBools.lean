import Derived.Test.YtnammdmiljjhjaaVLMake
/-! Lists of booleans; rows laid by search; drawn regions over a part of what is owned. -/
namespace Go.VL
open Go.RowKit
def bools (r : List Bool) : List Value := r.map Value.bool
theorem bools_length (r : List Bool) : (bools r).length = r.length := by simp [bools]
theorem bools_get {r : List Bool} {i : Nat} (h : i < r.length) : (bools r)[0 + i]? = some (.bool (r.getD i false)) := by simp [bools, h]
theorem bools_set (q : List Bool) (o : Nat) (x : Bool) : (bools q).set o (.bool x) = bools (q.set o x) := by simp [bools, List.map_set]
section
variable {P : Program} {T : Nat → Option TI} {Γ : Ctx} {ops : Array Oper} {Q : (Nat → Value) → Own → Prop} {rest : List Oper} {f : Nat → Value} {own own' : Own}
variable {ty : TypeId} {pos : String} {aft : Array Edge}
theorem vops_storeBM (hT : TyOk P T) {t : Nat} {x y : Operand} {b o : Nat} {v : Bool} {ti : TI} {q : List Bool} {e n : Nat} (ht : T t = some ti) (hp : ti.size = 1) (hx : ev f x = .pointer (some ⟨b, 0 + o, none⟩)) (hy : ev f y = .bool v)
    (hu : Upd own own' b ⟨bools q, e, n, none⟩ ⟨bools (q.set o v), e, n, none⟩) (hlt : o < q.length)
    (kk : VOps P Γ ops Q rest f own') : VOps P Γ ops Q (⟨none, .store t x y, ty, pos, aft, none⟩ :: rest) f own := by
  rw [Nat.zero_add] at hx
  rw [← bools_set] at hu
  exact vops_storeM hT (v := .bool v) ht hp hx (by rw [hy]; rfl) rfl hu (by rw [bools_length]; exact hlt) kk
/-- A list of booleans, all false. -/
theorem vops_makeBools (hT : TyOk P T) {d t e a b : Nat} {z : List Value} {x y : Operand} {ei : TI} {kl kc : IntKind} {c : Int} {n : Nat} (ht : T t = some ⟨.slice e, a, b, z⟩) (he : T e = some ei) (hz : ei.zero = [.bool false]) (hs : ei.size = 1)
    (hx : ev f x = .int kl c) (hy : ev f y = .int kc c) (hc : c = n) (hb : ei.bytes ≤ 1000) (hn : n ≤ 1073741824)
    (kk : ∀ b, b ∉ ids own → VOps P Γ ops Q rest (upd f d (.slice (some ⟨b, 0, none⟩) n n)) ((b, ⟨bools (List.replicate n false), e, n, none⟩) :: own)) :
    VOps P Γ ops Q (⟨some d, .makeSlice t x y, ty, pos, aft, none⟩ :: rest) f own := by
  subst hc
  have hbb : ei.bytes * n ≤ 281474976710656 := calc ei.bytes * n ≤ 1000 * 1073741824 := Nat.mul_le_mul hb hn
    _ ≤ _ := by omega
  refine vops_make hT ht he (by rw [hz]; simp) hx hy hbb (by omega) fun b hbn => ?_
  have e1 : (madeCells ei.zero.toArray (n * ei.size)).toList = bools (List.replicate n false) := by
    rw [hz, hs, show ([Value.bool false] : List Value) = List.replicate 1 (.bool false) from rfl, made_same _ _ _ (by omega)]
    simp [bools]
  rw [e1, hs, Nat.mul_one]
  exact kk b hbn
theorem vops_storeRowM (hT : TyOk P T) {t : Nat} {x y : Operand} {b o : Nat} {q r : List Int} {ti : TI} {e n : Nat} (ht : T t = some ti) (hn : r.length = ti.size) (hx : ev f x = .pointer (some ⟨b, 0 + o, none⟩)) (hy : ev f y = .agg (ints r).toArray)
    (hu : Upd own own' b ⟨ints q, e, n, none⟩ ⟨ints (spl q o r), e, n, none⟩) (hq : q.length = n) (hlen : o + r.length ≤ n)
    (kk : VOps P Γ ops Q rest f own') : VOps P Γ ops Q (⟨none, .store t x y, ty, pos, aft, none⟩ :: rest) f own := by
  obtain ⟨i, h1, rfl⟩ := hu.idx
  exact vops_storeRow i hT ht hn hx hy h1 hq hlen kk
theorem vw_drawB {ro : Option Nat} {n : Nat} {id : Nat} {l : List Oper} {Q : Post} (base : Own) (L : List Nat) (hm : P.follows .mixedOrders = true) (hd : dstOk n l = true) (hsel : Region.noSelect l.toArray = true) (hL : L.length = l.length) (hb : OLe base own)
    (h : VD P Γ l.toArray base (fun f own => Q .normal f own) L (Array.replicate l.length false) f own) : VWr ro P Γ n (.region id l.toArray true) Q f own := by
  intro a w ha hg hmk
  refine wpIn_region_any hm ?_
  have h1 := anyV_of_vd (base := base) (hb.nodup hg.ok.nodup) hsel L _ f own h
  have h2 := anyV_sound (ro := ro) (n := n) (Q := Q) (by simpa using hd) _ _ f own h1 a { w with drawn := w.drawn + 1 } ha hg.drew hmk.drew
  rw [hL] at h2
  simpa using h2
end
/-- A place in the middle. -/
theorem set_mid {A c B : List Int} {k x : Nat} {v : Int} (hA : A.length = k) (hx : x < c.length) : (A ++ (c ++ B)).set (k + x) v = A ++ (c.set x v ++ B) := by
  subst hA
  rw [List.set_append_right _ _ (by omega), Nat.add_sub_cancel_left, List.set_append_left _ _ hx]
/-- A list in the making: the first i rows of rs, the row c, and nothing behind. -/
def part (k : Nat) (rs : List (List Int)) (i : Nat) (c : List Int) : List Int := (rs.take i).flatten ++ (c ++ List.replicate ((rs.length - (i + 1)) * k) 0)
theorem part_zero {k : Nat} {rs : List (List Int)} {i : Nat} (hi : i < rs.length) : fill k rs i = part k rs i (List.replicate k 0) := by
  unfold fill part
  congr 1
  rw [List.replicate_append_replicate]
  congr 1
  rw [show rs.length - i = 1 + (rs.length - (i + 1)) by omega, Nat.add_mul]; omega
theorem part_done {k : Nat} {rs : List (List Int)} {i : Nat} {r : List Int} (hi : rs[i]? = some r) : part k rs i r = fill k rs (i + 1) := by
  have : (rs.take (i + 1)).flatten = (rs.take i).flatten ++ r := by rw [List.take_add_one, hi]; simp
  unfold fill part
  rw [this, List.append_assoc]
theorem part_length {k : Nat} {rs : List (List Int)} (hk : ∀ r ∈ rs, r.length = k) {i : Nat} (hi : i < rs.length) {c : List Int} (hc : c.length = k) : (part k rs i c).length = rs.length * k := by
  unfold part
  rw [List.length_append, List.length_append, flat_length (k := k) (fun r hr => hk r (List.mem_of_mem_take hr)), hc, List.length_replicate, List.length_take, Nat.min_eq_left (by omega)]
  rw [show rs.length = i + (1 + (rs.length - (i + 1))) by omega, Nat.add_mul, Nat.add_mul, Nat.one_mul]
  congr 2
  rw [show i + (1 + (rs.length - (i + 1))) - (i + 1) = rs.length - (i + 1) by omega]
theorem part_set {k : Nat} {rs : List (List Int)} (hk : ∀ r ∈ rs, r.length = k) {i x : Nat} (hi : i < rs.length) {c : List Int} (hx : x < c.length) (v : Int) : (part k rs i c).set (i * k + x) v = part k rs i (c.set x v) := by
  unfold part
  refine set_mid ?_ hx
  rw [flat_length (k := k) (fun r hr => hk r (List.mem_of_mem_take hr)), List.length_take, Nat.min_eq_left (by omega)]
/-- Which numbers have come. -/
def seenOf (l : List Int) (i n : Nat) : List Bool := (List.range n).map fun (x : Nat) => decide ((x : Int) ∈ l.take i)
theorem seenOf_length (l : List Int) (i n : Nat) : (seenOf l i n).length = n := by simp [seenOf]
theorem seenOf_get {l : List Int} {i n x : Nat} (h : x < n) : (seenOf l i n).getD x false = decide ((x : Int) ∈ l.take i) := by simp [seenOf, h]
theorem seenOf_zero (l : List Int) (n : Nat) : seenOf l 0 n = List.replicate n false := by
  apply List.ext_getElem (by simp [seenOf])
  intro j h1 h2; simp [seenOf]
theorem seenOf_set {l : List Int} {i n : Nat} (hi : i < l.length) (h0 : 0 ≤ l.getD i 0) (_h1 : l.getD i 0 < n) : (seenOf l i n).set (l.getD i 0).toNat true = seenOf l (i + 1) n := by
  apply List.ext_getElem (by simp [seenOf])
  intro j h2 h3
  have hj : j < n := by simpa [seenOf] using h3
  rw [List.getElem_set]
  simp only [seenOf, List.getElem_map, List.getElem_range, take_snoc hi, List.mem_append, List.mem_singleton]
  split
  · rename_i hh; symm; apply decide_eq_true; right; omega
  · rename_i hh
    congr 1
    apply propext
    constructor
    · exact .inl
    · rintro (h | h)
      · exact h
      · omega
/-- A list of all numbers below n. -/
def IsPerm (n : Int) (l : List Int) : Prop := (l.length : Int) = n ∧ (∀ x ∈ l, 0 ≤ x ∧ x < n) ∧ l.Nodup
theorem nodup_snoc {l : List Int} {i : Nat} (hi : i < l.length) (h : (l.take i).Nodup) (hn : l.getD i 0 ∉ l.take i) : (l.take (i + 1)).Nodup := by
  rw [take_snoc hi]
  refine List.nodup_append.2 ⟨h, by simp, fun a ha b hb => ?_⟩
  have : b = l.getD i 0 := by simpa using hb
  rw [this]; intro e; subst e; exact hn ha
theorem mem_getD {l : List Int} {i : Nat} (hi : i < l.length) : l.getD i 0 ∈ l := by
  rw [List.getD_eq_getElem?_getD, List.getElem?_eq_getElem hi]; exact List.getElem_mem _
theorem not_nodup {l : List Int} {i : Nat} (hi : i < l.length) (hm : l.getD i 0 ∈ l.take i) : ¬ l.Nodup := by
  intro hn
  obtain ⟨j, hj⟩ := List.mem_iff_getElem?.1 hm
  have hji : j < i := by have := (List.getElem?_eq_some_iff.1 hj).1; simp at this; omega
  rw [List.getElem?_take_of_lt hji] at hj
  have h2 : l[i]? = some (l.getD i 0) := by rw [List.getD_eq_getElem?_getD, List.getElem?_eq_getElem hi]; rfl
  have := (List.getElem?_inj hi hn).1 (h2.trans hj.symm)
  omega
end Go.VL

namespace Go.VL
theorem ole_sfx {A b : Own} : OLe b (A ++ b) := ⟨A, List.perm_append_comm⟩
end Go.VL
