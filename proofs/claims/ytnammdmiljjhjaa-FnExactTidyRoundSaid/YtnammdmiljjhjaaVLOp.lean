import Derived.Test.YtnammdmiljjhjaaVLStep
/- A part of the proof: Op. No conditions of its own. -/
namespace Go.VL
open Go.RowKit

/-- i times s, handed on: s = 1 leaves no trace. -/
def withMul {α : Type} (i s : Nat) (k : Nat → α) : α := match s with | 1 => k i | s => k (i * s)
theorem withMul_eq {α : Type} (i s : Nat) (k : Nat → α) : withMul i s k = k (i * s) := by unfold withMul; split <;> simp

def fieldOf (T : Nat → Option TI) (t i : Nat) : Option (Nat × TI) :=
  match T t with
  | some ⟨.struct fs, _, _, _⟩ => match fs[i]? with
    | some (off, ft) => match T ft with | some fi => some (off, fi) | none => none
    | none => none
  | _ => none

def aexec (T : Nat → Option TI) (f : Nat → Value) (op : Op) : Option (Prop × Value) :=
  match op with
  | .move x | .assign x => match force (ev f x) with | some v => some (True, v) | none => none
  | .pick c a b => match ev f c with
    | .bool true => match force (ev f a) with | some v => some (True, v) | none => none
    | .bool false => match force (ev f b) with | some v => some (True, v) | none => none
    | _ => none
  | .binOp op t x y _ => match ev f x, ev f y with
    | .int k a, .int j b => match ikeq k j with | true => intOp op k a b | false => none
    | .bool a, .bool b => match T t with | some ⟨.bool, _, _, _⟩ => boolOp op a b | _ => none
    | _, _ => none
  | .unOp .not _ x => match ev f x with | .bool b => some (True, .bool (!b)) | _ => none
  | .unOp .neg _ x => match ev f x with | .int k n => some (inR k (-n), .int k (-n)) | _ => none
  | .convert s d x => match T s, T d, ev f x with | some _, some ⟨.int k, _, _, _⟩, .int _ n => some (inR k n, .int k n) | _, _, _ => none
  | .extract x i => match ev f x with
    | .tuple vs => match vs[i]? with | some v => (match force v with | some v => some (True, v) | none => none) | none => none
    | _ => none
  | .field t x i => match fieldOf T t i, ev f x with
    | some (off, fi), .agg cs => match fi.plain with
      | true => match cs[off]? with | some v => (match force v with | some v => some (True, v) | none => none) | none => none
      | false => none
    | _, _ => none
  | .fieldAddr t x i => match fieldOf T t i, ev f x with
    | some (off, fi), .pointer (some ⟨b, o, none⟩) => match fi.size with | 0 => none | _ + 1 => some (True, .pointer (some ⟨b, o + off, none⟩))
    | _, _ => none
  | .indexAddr t x i => match T t, ev f x, ev f i with
    | some ⟨.slice e, _, _, _⟩, .slice (some ⟨b, o, none⟩) len _, .int _ i => match T e with
      | some ei => withMul i.toNat ei.size fun m => some (0 ≤ i ∧ i < len, .pointer (some ⟨b, o + m, none⟩))
      | none => none
    | some ⟨.arr n e, _, _, _⟩, .pointer (some ⟨b, o, none⟩), .int _ i => match T e with
      | some ei => withMul i.toNat ei.size fun m => some (0 ≤ i ∧ i < n, .pointer (some ⟨b, o + m, none⟩))
      | none => none
    | _, _, _ => none
  | .call ⟨.builtin .len, args, atys⟩ => match args[0]?, atys[0]? with
    | some x, some t => match T t, ev f x with
      | some ⟨.slice _, _, _, _⟩, .slice _ n _ => some (True, .int .i64 n)
      | some ⟨.string, _, _, _⟩, .string s => some (True, .int .i64 s.size)
      | some ⟨.arr n _, _, _, _⟩, _ => some (True, .int .i64 n)
      | _, _ => none
    | _, _ => none
  | .nilCheck x => match ev f x with
    | .pointer (some a) => some (True, .pointer (some a))
    | _ => none
  | _ => none

section
variable {P : Program} {T : Nat → Option TI}

theorem run_val (s : Sem Value) (w : World) : (s >>= fun v => pure (Next.value v)).run P w = (s.run P w).andThen fun v w => .ok (.value v) w := by
  rw [Sem.run_bind]; rfl

theorem TyOk.und {t : Nat} {i : TI} (h : TyOk P T) (ht : T t = some i) {d : TypeDesc} (hf : ∀ d', i.sh.fits d' → d' = d) : P.underlying t = some d := by
  obtain ⟨d', hd, hfit⟩ := (h t i ht).desc
  rw [hd, hf d' hfit]
theorem TyOk.size {t : Nat} {i : TI} (h : TyOk P T) (ht : T t = some i) (w : World) : (sizeOf t).run P w = .ok i.size w := by
  obtain ⟨x, hx, hs, _⟩ := (h t i ht).info
  simp [sizeOf, typeInfo, hx, hs]

theorem fieldOf_spec {t i off : Nat} {fi : TI} (hT : TyOk P T) (h : fieldOf T t i = some (off, fi)) :
    ∃ fields fd, P.underlying t = some (.struct fields) ∧ fields[i]? = some fd ∧ fd.offset = off ∧ T fd.type = some fi := by
  unfold fieldOf at h
  split at h
  · rename_i fs a b c ht
    split at h
    · rename_i off' ft hft
      split at h
      · rename_i fi' hfi
        simp only [Option.some.injEq, Prod.mk.injEq] at h
        obtain ⟨rfl, rfl⟩ := h
        obtain ⟨d, hd, fields, rfl, hm⟩ := (hT t _ ht).desc
        have hm' : fields.toList.map (fun f => (f.offset, f.type)) = fs := hm
        rw [← hm', List.getElem?_map] at hft
        cases hfd : fields.toList[i]? with
        | none => rw [hfd] at hft; cases hft
        | some fd =>
          rw [hfd] at hft
          simp only [Option.map_some, Option.some.injEq, Prod.mk.injEq] at hft
          exact ⟨fields, fd, hd, by simpa using hfd, hft.1, by rw [hft.2]; exact hfi⟩
      · cases h
    · cases h
  · cases h

theorem isAgg_plain {t : Nat} {i : TI} (hT : TyOk P T) (ht : T t = some i) (hp : i.plain = true) (w : World) : (isAgg t).run P w = .ok false w := by
  obtain ⟨d, hd, hf⟩ := (hT t i ht).desc
  unfold isAgg
  rw [Sem.run_bind, run_underlying hd]
  cases hs : i.sh <;> simp only [TI.plain, hs] at hp <;> simp only [hs, Sh.fits] at hf <;> first | (cases hp; done) | (subst hf; rfl) | (obtain ⟨_, _, _, rfl⟩ := hf; rfl)

theorem aexec_sound {f : Nat → Value} {op : Op} {c : Prop} {v : Value} (hT : TyOk P T) (h : aexec T f op = some (c, v)) (hc : c)
    (d : Option Tmp) (ty : TypeId) (pos : String) (aft : Array Edge) (g : Option (Nat × Bool)) (w : World) :
    (execOp (ev f) ⟨d, op, ty, pos, aft, g⟩).run P w = .ok (.value v) w := by
  unfold aexec at h
  split at h
  case h_1 x =>
    split at h
    · rename_i u hu
      simp only [Option.some.injEq, Prod.mk.injEq] at h
      obtain ⟨-, rfl⟩ := h
      rw [← force_eq hu]; rfl
    · cases h
  case h_2 x =>
    split at h
    · rename_i u hu
      simp only [Option.some.injEq, Prod.mk.injEq] at h
      obtain ⟨-, rfl⟩ := h
      rw [← force_eq hu]; rfl
    · cases h
  case h_3 x a b =>
    split at h
    · rename_i hx
      split at h
      · rename_i u hu
        simp only [Option.some.injEq, Prod.mk.injEq] at h
        obtain ⟨-, rfl⟩ := h
        show (do pure (Next.value (if ← asBool (ev f x) then ev f a else ev f b)) : Sem Next).run P w = _
        rw [hx, ← force_eq hu]; rfl
      · cases h
    · rename_i hx
      split at h
      · rename_i u hu
        simp only [Option.some.injEq, Prod.mk.injEq] at h
        obtain ⟨-, rfl⟩ := h
        show (do pure (Next.value (if ← asBool (ev f x) then ev f a else ev f b)) : Sem Next).run P w = _
        rw [hx, ← force_eq hu]; rfl
      · cases h
    · cases h
  case h_4 bop t x y yt =>
    show ((do eqGuard bop t x y (ev f x) (ev f y); binOp bop t (ev f x) (ev f y)) >>= fun v => pure (Next.value v)).run P w = _
    rw [run_val]
    split at h
    · rename_i k a j b hx hy
      split at h
      · rename_i hk
        have := ikeq_eq hk
        subst this
        rw [hx, hy, eqGuard_at_int, Sem.run_bind, Sem.run_pure, Result.andThen_ok, run_intOp h hc]; rfl
      · cases h
    · rename_i a b hx hy
      split at h
      · rename_i ht
        have hu := hT.und ht (d := .bool) (fun d' hd' => hd')
        rw [hx, hy, eqGuard_at_bool, Sem.run_bind, Sem.run_pure, Result.andThen_ok, run_boolOp h hu]; rfl
      · cases h
    · cases h
  case h_5 t x =>
    split at h
    · rename_i b hx
      simp only [Option.some.injEq, Prod.mk.injEq] at h
      obtain ⟨-, rfl⟩ := h
      show (Op.unary .not (ev f x) >>= fun v => pure (Next.value v)).run P w = _
      rw [hx]; rfl
    · cases h
  case h_6 t x =>
    split at h
    · rename_i k n hx
      simp only [Option.some.injEq, Prod.mk.injEq] at h
      obtain ⟨rfl, rfl⟩ := h
      show (Op.unary .neg (ev f x) >>= fun v => pure (Next.value v)).run P w = _
      rw [hx]
      show Result.ok (Next.value (.int k (k.wrap (0 - n)))) w = _
      rw [Int.zero_sub, wrap_of_inR hc]
    · cases h
  case h_7 s d' x =>
    split at h
    · rename_i si k s1 s2 s3 q n hs hd hx
      simp only [Option.some.injEq, Prod.mk.injEq] at h
      obtain ⟨rfl, rfl⟩ := h
      obtain ⟨ds, hds, _⟩ := (hT _ _ hs).desc
      have hu := hT.und hd (d := .int k) (fun d' hd' => hd')
      show (convert s d' (ev f x) >>= fun v => pure (Next.value v)).run P w = _
      rw [hx, run_val]
      have : (convert s d' (.int q n)).run P w = .ok (.int k (k.wrap n)) w := by
        unfold convert
        rw [Sem.run_bind, run_underlying hds, Result.andThen_ok, Sem.run_bind, run_underlying hu, Result.andThen_ok]
        cases ds <;> rfl
      rw [this, wrap_of_inR hc]; rfl
    · cases h
  case h_8 x i =>
    split at h
    · rename_i vs hx
      split at h
      · rename_i u hu
        split at h
        · rename_i u' hu'
          simp only [Option.some.injEq, Prod.mk.injEq] at h
          obtain ⟨-, rfl⟩ := h
          show (Instr.extract (ev f x) i >>= fun v => pure (Next.value v)).run P w = _
          rw [hx, run_val, ← force_eq hu']
          simp [Instr.extract, hu]
        · cases h
      · cases h
    · cases h
  case h_9 t x i =>
    split at h
    · rename_i off fi cs hf hx
      split at h
      · rename_i hp
        split at h
        · rename_i u hu
          split at h
          · rename_i u' hu'
            simp only [Option.some.injEq, Prod.mk.injEq] at h
            obtain ⟨-, rfl⟩ := h
            obtain ⟨fields, fd, h1, h2, h3, h4⟩ := fieldOf_spec hT hf
            show (Instr.field t (ev f x) i >>= fun v => pure (Next.value v)).run P w = _
            rw [hx, run_val, ← force_eq hu']
            unfold Instr.field
            rw [Sem.run_bind, run_underlying h1, Result.andThen_ok]
            simp only [h2]
            have : (part fd.type cs fd.offset).run P w = .ok u w := by
              unfold part
              rw [Sem.run_bind, isAgg_plain hT h4 hp, Result.andThen_ok]
              simp [h3, hu]
            rw [Sem.run_bind]
            show ((part fd.type cs fd.offset).run P w).andThen _ = _
            rw [this]; rfl
          · cases h
        · cases h
      · cases h
    · cases h
  case h_10 t x i =>
    split at h
    · rename_i off fi b o hf hx
      split at h
      · cases h
      · rename_i m hm
        simp only [Option.some.injEq, Prod.mk.injEq] at h
        obtain ⟨-, rfl⟩ := h
        obtain ⟨fields, fd, h1, h2, h3, h4⟩ := fieldOf_spec hT hf
        show (Instr.fieldAt t (ev f x) i >>= fun v => pure (Next.value v)).run P w = _
        rw [hx, run_val]
        unfold Instr.fieldAt
        rw [Sem.run_bind, run_underlying h1, Result.andThen_ok]
        simp only [h2]
        rw [Sem.run_bind]
        show ((fieldPlace ⟨b, o, none⟩ fd >>= fun a => pure (Value.pointer (some a))).run P w).andThen _ = _
        have : (fieldPlace ⟨b, o, none⟩ fd).run P w = .ok ⟨b, o + off, none⟩ w := by
          unfold fieldPlace
          rw [Sem.run_bind, hT.size h4, Result.andThen_ok, hm]
          simp [Addr.add_lit, h3]
        rw [Sem.run_bind, this]; rfl
    · cases h
  case h_11 t x i =>
    split at h
    · rename_i e s1 s2 s3 b o len cap k n ht hx hi
      split at h
      · rename_i ei he
        simp only [withMul_eq, Option.some.injEq, Prod.mk.injEq] at h
        obtain ⟨rfl, rfl⟩ := h
        have hu := hT.und ht (d := .slice e) (fun d' hd' => hd')
        have hel : P.elem t = e := by simp [Program.elem, hu]
        show (Instr.indexAt t (ev f x) (ev f i) >>= fun v => pure (Next.value v)).run P w = _
        rw [hx, hi, run_val, run_indexAt_slice w t ⟨b, o, none⟩ len cap k n (by rw [hel]; exact hu), if_pos hc, hel, hT.size he]
        simp only [Result.andThen_ok, Addr.add_lit]
      · cases h
    · rename_i m e s1 s2 s3 b o k n ht hx hi
      split at h
      · rename_i ei he
        simp only [withMul_eq, Option.some.injEq, Prod.mk.injEq] at h
        obtain ⟨rfl, rfl⟩ := h
        have hu := hT.und ht (d := .array m e) (fun d' hd' => hd')
        have hel : P.elem t = e := by simp [Program.elem, hu]
        have hal : P.arrayLen t = m := by simp [Program.arrayLen, hu]
        show (Instr.indexAt t (ev f x) (ev f i) >>= fun v => pure (Next.value v)).run P w = _
        rw [hx, hi, run_val, run_indexAt_array w t ⟨b, o, none⟩ k n (by rw [hel, hal]; exact hu), if_pos (by rw [hal]; exact hc), hel, hT.size he]
        simp only [Result.andThen_ok, Addr.add_lit]
      · cases h
    · cases h
  case h_12 args atys =>
    split at h
    · rename_i x t hx0 ht0
      have hrun : ∀ n : Int, (Builtin.len_ atys ty (args.map (ev f))).run P w = .ok (goInt n) w →
          (execOp (ev f) ⟨d, .call ⟨.builtin .len, args, atys⟩, ty, pos, aft, g⟩).run P w = .ok (.value (.int .i64 n)) w := fun n hn => by
        show (Builtin.len_ atys ty (args.map (ev f)) >>= fun v => pure (Next.value v)).run P w = _
        rw [run_val, hn]; rfl
      have hm : (args.map (ev f))[0]? = some (ev f x) := by rw [Array.getElem?_map, hx0]; rfl
      split at h
      · rename_i e s1 s2 s3 base n cap ht hx
        simp only [Option.some.injEq, Prod.mk.injEq] at h
        obtain ⟨-, rfl⟩ := h
        have hu := hT.und ht (d := .slice e) (fun d' hd' => hd')
        refine hrun n ?_
        unfold Builtin.len_
        simp only [ht0, hm, hx]
        rw [Sem.run_bind, run_underlying hu]; rfl
      · rename_i s1 s2 s3 st ht hx
        simp only [Option.some.injEq, Prod.mk.injEq] at h
        obtain ⟨-, rfl⟩ := h
        have hu := hT.und ht (d := .string) (fun d' hd' => hd')
        refine hrun st.size ?_
        unfold Builtin.len_
        simp only [ht0, hm, hx]
        rw [Sem.run_bind, run_underlying hu]; rfl
      · rename_i q n e s1 s2 s3 ht
        simp only [Option.some.injEq, Prod.mk.injEq] at h
        obtain ⟨-, rfl⟩ := h
        have hu := hT.und ht (d := .array n e) (fun d' hd' => hd')
        refine hrun n ?_
        unfold Builtin.len_
        simp only [ht0, hm]
        rw [Sem.run_bind, run_underlying hu, Result.andThen_ok]
        cases ev f x <;> rfl
      · cases h
    · cases h
  case h_13 x =>
    split at h
    · rename_i a hx
      simp only [Option.some.injEq, Prod.mk.injEq] at h
      obtain ⟨-, rfl⟩ := h
      show (match ev f x with
        | .pointer none | .nilIface | .nilFunc => _
        | .func (.method name) first captured => _
        | x => pure (Next.value x) : Sem Next).run P w = _
      rw [hx]; rfl
    · cases h
  case h_14 => cases h
end
end Go.VL
