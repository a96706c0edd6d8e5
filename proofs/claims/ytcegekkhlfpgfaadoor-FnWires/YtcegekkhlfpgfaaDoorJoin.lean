/-
  Appends of whole slices and texts onto a row of the call's own; the contracts of spec.l01Bytes, spec.l01Join, and of addText and addBytes.
-/
import Derived.Test.YtcegekkhlfpgfaaDoorWire
import Derived.Lib.AppendStr
namespace Go.Proofs.YtcegekkhlfpgfaaDoor
open Go.RowKit
set_option linter.unusedSimpArgs false
set_option linter.unusedVariables false

def strL (s : ByteArray) : List Int := s.data.toList.map fun b => (b.toNat : Int)
theorem strL_len (s : ByteArray) : (strL s).length = s.size := by simp [strL]
theorem strL_by (s : ByteArray) : By (strL s) := by
  intro z hz
  obtain ⟨b, _, rfl⟩ := List.mem_map.1 hz
  have := b.toNat_lt
  omega
theorem strCells_strL (s : ByteArray) : Lib.strCells s = (strL s).map (Value.int .u8) := by simp [Lib.strCells, strL]

theorem append_types {P : Program} (w : World) (t tx e ex ty : TypeId) (i : TypeInfo) (b : Option Addr) (n c : Nat) (x : Value) (ht : P.underlying t = some (.slice e)) (hx : P.underlying tx = some (.slice ex)) (hi : P.info? e = some i) :
    (Builtin.append_ #[t, tx] ty #[.slice b n c, x]).run P w = (Builtin.append_ #[t, t] ty #[.slice b n c, x]).run P w := by
  simp [Builtin.append_, run_underlying ht, run_underlying hx, sizeOf, typeInfo, hi]

/-- 'append(out, xs...)': out a row of the call's own, xs a slice that reads as m. -/
theorem wpList_appendR {P : Program} (w : World) {ops : Array Oper} {rest : List Oper} {o : Oper} {a : Act} {Q : Exit → Act → World → Prop} (hgd : o.guard = none) (s x : Operand) (t tx : TypeId)
    (ho : o.op = .call { callee := .builtin .append, args := #[s, x], argTypes := #[t, tx] })
    (base : Nat) (e ex : TypeId) (k : IntKind) (bytes : Nat) (ht : P.underlying t = some (.slice e)) (htx : P.underlying tx = some (.slice ex)) (hinfo : (P.info? e).map (fun i => (i.zero, i.size, i.bytes)) = some (some (.int k 0), 1, bytes))
    (ao : Option Addr) (c n : Nat) (l : List Int) (hs : a.eval s = .slice ao n c) (hn : n = l.length) (hown : Own w base e k ao c l)
    (xo : Option Addr) (cx nx : Nat) (m : List Int) (hx : a.eval x = .slice xo nx cx) (hnx : nx = m.length) (hr : Rd w k xo m) (hnil : xo = none → cx = 0)
    (h63 : l.length + m.length ≤ maxLen) (hbytes : (l.length + m.length) * bytes ≤ 140737488355328) (hbase : base ≤ w.heap.size)
    (h : ∀ ao' c' w', Own w' base e k ao' c' (l ++ m) → w.grownBy w' (ao.map (·.block)) → wpList P ops Q rest (a.put o.dst (.slice ao' (l.length + m.length) c')) w') : wpList P ops Q (o :: rest) a w := by
  subst hn; subst hnx
  obtain ⟨i, hi, hz, hsize, hby⟩ := info_parts hinfo
  have key : ∃ ao' c' w', (Builtin.append_ #[t, tx] o.type #[.slice ao l.length c, .slice xo m.length cx]).run P w = .ok (.slice ao' (l.length + m.length) c') w' ∧ Own w' base e k ao' c' (l ++ m) ∧ w.grownBy w' (ao.map (·.block)) := by
    rw [append_types w t tx e ex o.type i _ _ _ _ ht htx hi]
    cases xo with
    | none =>
      have hm : m = [] := by
        rcases hr with rfl | ⟨_, _, hh, _⟩
        · rfl
        · cases hh
      subst hm
      rw [hnil rfl]
      exact ⟨ao, c, w, run_append_owned_none (P := P) (w := w) base t o.type e i 1 ht hi _ _ _ hown, by rw [List.append_nil]; exact hown, World.grownBy.refl _ _⟩
    | some ad =>
      have hc : ∀ j u, (m.map (Value.int k))[j]? = some u → w.cell? (ad.add j) = some u := by
        intro j u hu
        rcases hr with rfl | ⟨b, off, hh, hcell⟩
        · simp at hu
        · injection hh with hh
          subst hh
          rw [List.getElem?_map] at hu
          rcases hmj : m[j]? with _ | z
          · rw [hmj] at hu; cases hu
          · rw [hmj] at hu
            have hj : j < m.length := (List.getElem?_eq_some_iff.1 hmj).1
            have := hcell j hj
            rw [List.getD_eq_getElem?_getD, hmj] at this
            simp at hu; subst hu
            unfold Addr.add
            split
            · rename_i h0; subst h0; exact this
            · exact this
      obtain ⟨v', w', hrun, h2, h3, _⟩ := run_append_own (P := P) w base t o.type e i (.int k 0) 1 bytes ht hi hz hsize hby rfl (by decide) _ _ _ hown ad m.length cx (m.map (Value.int k)) (by simp) hc (ints_oneCell _ _) h63 hbytes hbase
      obtain ⟨ao', c', rfl⟩ := own_slice h2
      refine ⟨ao', c', w', hrun, ?_, ?_⟩
      · unfold Own; simpa using h2
      · cases ao <;> exact h3
  obtain ⟨ao', c', w', hrun, h2, h3⟩ := key
  refine wpList_plain hgd fun K hK => ?_
  unfold Oper.wp execOp
  simp only [ho, resolve, invoke, builtin, Sem.run_bind, Sem.run_pure, Result.andThen_ok, List.map_toArray, List.map_cons, List.map_nil, hs, hx, hrun]
  exact hK _ _ (h ao' c' w' h2 h3)

/-- 'append(out, s...)', s a text. -/
theorem wpList_appendS {P : Program} (w : World) {ops : Array Oper} {rest : List Oper} {o : Oper} {a : Act} {Q : Exit → Act → World → Prop} (hgd : o.guard = none) (sl x : Operand) (t u : TypeId)
    (ho : o.op = .call { callee := .builtin .append, args := #[sl, x], argTypes := #[t, u] })
    (base : Nat) (e : TypeId) (ht : P.underlying t = some (.slice e)) (hu : P.underlying u = some .string) (hinfo : (P.info? e).map (fun i => (i.zero, i.size, i.bytes)) = some (some (.int .u8 0), 1, 1))
    (ao : Option Addr) (c n : Nat) (l : List Int) (hs : a.eval sl = .slice ao n c) (hn : n = l.length) (hown : Own w base e .u8 ao c l) (s : ByteArray) (hx : a.eval x = .string s)
    (hbytes : l.length + s.size ≤ 140737488355328) (hbase : base ≤ w.heap.size)
    (h : ∀ ao' c' w', Own w' base e .u8 ao' c' (l ++ strL s) → w.grownBy w' (ao.map (·.block)) → wpList P ops Q rest (a.put o.dst (.slice ao' (l.length + s.size) c')) w') : wpList P ops Q (o :: rest) a w := by
  subst hn
  obtain ⟨i, hi, hz, hsize, hby⟩ := info_parts hinfo
  refine Lib.wpList_append_own_string (P := P) w hgd sl x t u ho base e i ht hu hi hz hsize hby _ _ _ hs hown s hx (by unfold maxLen; omega) hbytes hbase ?_
  intro v' w' h2 h3 _
  obtain ⟨ao', c', rfl⟩ := own_slice h2
  refine h ao' c' w' ?_ ?_
  · unfold Own
    rw [strCells_strL] at h2
    simpa [strL_len] using h2
  · cases ao <;> exact h3
end Go.Proofs.YtcegekkhlfpgfaaDoor
