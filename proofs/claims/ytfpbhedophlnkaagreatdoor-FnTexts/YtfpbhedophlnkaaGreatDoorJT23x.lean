/-
  The program's reader of words: contract of nodes. For every list of words that are none of them empty. The program's ParsePlan: contracts of its deferred closure, as it is called where the reader has panicked and where it has returned. A text read rune by rune: bytes below 128 stand for themselves, whatever else stands in a rune is 128 or more. Plain facts; no program, no walk. Contracts of impl.wordsIn and impl.WordsOf: a range over a text, rune by rune. For every text. The call that answers nodes of its own beside a number.
-/
import Derived.Test.YtfpbhedophlnkaaGreatDoorIPrF
import Derived.Test.YtfpbhedophlnkaaGreatDoorJT22x
import Derived.Test.YtfpbhedophlnkaaGreatDoorJT10x
import Derived.Defers
import Derived.Recover
import Derived.Laws.Pointers
import Derived.Test.YtfpbhedophlnkaaGreatDoorJT3x
import Derived.Laws.RangeAny
import Derived.Lib.DecodeN
import Derived.Test.YtfpbhedophlnkaaGreatDoorSWords
import Derived.Lib.OthersKept
import Derived.LoopTactic
namespace Go.Proofs.YtfpbhedophlnkaaGreatDoor
open Go.RowKit
set_option linter.unusedSimpArgs false
set_option linter.unusedVariables false

theorem arI_eq {k : Int} (h : 0 ≤ k ∧ k ≤ 7) : arI k = arity k := by
  have hc : k = 0 ∨ k = 1 ∨ k = 2 ∨ k = 3 ∨ k = 4 ∨ k = 5 ∨ k = 6 ∨ k = 7 := by omega
  rcases hc with rfl | rfl | rfl | rfl | rfl | rfl | rfl | rfl <;> decide
theorem arI_bd (k : Int) : 0 ≤ arI k ∧ arI k ≤ 2 := by unfold arI; split <;> (try split) <;> omega
/-- The place at which the reader in block R stands. -/
def posOf (R : Nat) (w : World) : Nat := match w.cell? ⟨R, 1, none⟩ with | some (.int _ z) => z.toNat | _ => 0
theorem posOf_prd {w : World} {R c p : Nat} {ao : Option Addr} {ws : List ByteArray} (h : Prd w R ao c ws p) : posOf R w = p := by
  unfold posOf; rw [prd_c1 h]; simp
def NodesI (r : Nat ⊕ (List Nd × Nat)) (R : Nat) (ao : Option Addr) (c : Nat) (ws : List ByteArray) (w : World) (e : Ending) (w' : World) : Prop :=
  match r with
  | .inl q => Pnk q R w e w'
  | .inr x => if x.2 < ws.length then Pnk x.2 R w e w' else ∃ a cc, e = .returned (.slice a x.1.length cc) ∧ OwnN w' w.heap.size a cc x.1 ∧ Prd w' R ao c ws x.2 ∧ w.grownBy w' (some R)
def NsRel (w : World) (R : Nat) (ao : Option Addr) (c : Nat) (ws : List ByteArray) (RES : Nat ⊕ (List Nd × Nat)) (wr : World) (v i : Value) : Prop :=
  ∃ (f q n cc : Nat) (need : Int) (acc : List Nd) (a : Option Addr), v = .slice a n cc ∧ i = .int .i64 need ∧ n = acc.length ∧ goQ ws f acc need q = RES ∧ GrowN wr w.heap.size wr.heap.size (.slice a acc.length cc) acc ∧ Prd wr R ao c ws q ∧ w.grownBy wr (some R) ∧ ws.length + 2 ≤ f + q ∧ acc.length ≤ q ∧ (0 ≤ need ∧ need ≤ acc.length + 1)
theorem nsRel_next {w w4 : World} {R c : Nat} {ao : Option Addr} {ws : List ByteArray} {RES : Nat ⊕ (List Nd × Nat)} {f q q' n cc : Nat} {need z : Int} {acc : List Nd} {nd : Nd} {a : Option Addr}
    (hg : goQ ws f acc need q = RES) (h0 : 0 < need) (hq : nodeQ ws q = .inr (nd, q')) (ho : GrowN w4 w.heap.size w4.heap.size (.slice a (acc.length + 1) cc) (acc ++ [nd])) (hp : Prd w4 R ao c ws q') (hgr : w.grownBy w4 (some R)) (hf : ws.length + 2 ≤ f + q) (hal : acc.length ≤ q) (hn : need ≤ acc.length + 1) (hz : z = need + (arI nd.kind - 1)) (hlen : n = acc.length + 1) :
    NsRel w R ao c ws RES w4 (.slice a n cc) (.int .i64 z) := by
  have hb := nodeQ_bd hq
  have ha := arI_bd nd.kind
  cases f with
  | zero => omega
  | succ f =>
    simp only [goQ, if_neg (show ¬ need ≤ 0 by omega), hq] at hg
    refine ⟨f, q', n, cc, need + arI nd.kind - 1, acc ++ [nd], a, rfl, by rw [hz]; congr 1; omega, by simp [hlen], hg, by simpa using ho, hp, hgr, by omega, by simp; omega, by simp; omega⟩

set_option maxRecDepth 100000 in
set_option maxHeartbeats 1600000 in
theorem nodes_any {R c : Nat} {ao : Option Addr} {ws : List ByteArray} (w : World) (hw : WdsI ws) (hg : GKeep R w) (h : Prd w R ao c ws 0) :
    Calls Tryz.prog 136 #[.pointer (some ⟨R, 0, none⟩)] w (NodesI (goQ ws (ws.length + 2) [] 1 0) R ao c ws w) := by
  have G := Lib.hid hg
  have HR := h.lt
  have HWD := Lib.hid h.words
  have HN := Lib.hid hw
  have hwl := h.2.2.2.2
  have ND := Lib.hid (fun W q (g : GKeep R W) (h : Prd W R ao c ws q) => nodeI_any W hw g h)
  obtain ⟨RES, hres⟩ : ∃ r, r = goQ ws (ws.length + 2) [] 1 0 := ⟨_, rfl⟩
  have P0 := Lib.hid (show NsRel w R ao c ws RES w (.slice none 0 0) (.int .i64 1) from ⟨ws.length + 2, 0, 0, 0, 1, [], none, rfl, rfl, rfl, hres.symm, GrowN.nil, h, World.grownBy.refl w (some R), by omega, by simp, by simp⟩)
  rw [← hres]
  clear h hw hg hres
  go_enter Tryz.func136, Tryz.ntmps136
  go_wp2_with fail
  go_loopw [3, 4] (fun v i wr => NsRel w R ao c ws RES wr v i) (fun _ _ wr => ws.length - posOf R wr)
  case atStart => exact P0.out
  case round =>
    clear P0
    obtain ⟨f, q, n, cc, need, acc, a, rfl, rfl, hn, hgo, ho, hp, hgr, hf, hal, hnd⟩ := hrel
    have GO := Lib.hid hgo; have HO := Lib.hid ho; have HP := Lib.hid hp; have GR := Lib.hid hgr; have HNL := Lib.hid hn
    have hql := hp.2.2.1
    have po := Lib.hid (posOf_prd hp)
    have szr := hgr.size
    clear hgo ho hp hgr hn
    by_cases h0 : 0 < need
    · have d0 : decide (0 < need) = true := by simpa using h0
      have NQ := Lib.hid (ND.out wr q (G.out.step GR.out) HP.out)
      obtain ⟨r2, hr2⟩ : ∃ r2, r2 = nodeQ ws q := ⟨_, rfl⟩
      rw [← hr2] at NQ
      have HQ := Lib.hid hr2.symm
      clear hr2
      cases r2 with
      | inl q2 =>
        have E : Hid (RES = .inl q2) := by
          show _ = _
          rw [← GO.out]
          cases f with
          | zero => omega
          | succ f => simp only [goQ, if_neg (show ¬ need ≤ 0 by omega), HQ.out]
        go_wp2_with fail
        refine NQ.out.mono ?_
        rintro e w2 ⟨rfl, g2⟩
        have G2 := Lib.hid (grownBy_trans GR.out g2)
        clear g2
        go_wp2_with fail
        rw [E.out]
        exact ⟨rfl, rfl, G2.out⟩
      | inr x =>
        obtain ⟨nd, q'⟩ := x
        have hb := nodeQ_bd HQ.out
        have hab := arI_bd nd.kind
        have AR := Lib.hid (fun W => implArity_any nd.kind W)
        rw [← arI_eq hb.2.2.2.1] at AR
        go_wp2_with fail
        refine NQ.out.mono ?_
        rintro e w2 ⟨a2, c2, rfl, ho2, h2, g2⟩
        simp only at ho2 h2 ⊢
        have hz2 := g2.size
        have OW2 := Lib.hid (HO.out.grown g2 (fun r hr => by cases hr; exact HR))
        have H2 := Lib.hid h2; have G2 := Lib.hid (grownBy_trans GR.out g2)
        have BX := Lib.hid ((Below.refl w.heap.size w2).alloc (by omega) (.cells #[.int .i64 nd.kind, .string nd.name, .int .i64 nd.col, .int .i64 nd.op, .int .i64 nd.num, .bool nd.slot, .slice a2 nd.cols.length c2] 92))
        have BA := Lib.hid (BX.out.alloc (by have := BX.out.size; simp at this ⊢; omega) (.cells #[.int .i64 nd.kind, .string nd.name, .int .i64 nd.col, .int .i64 nd.op, .int .i64 nd.num, .bool nd.slot, .slice a2 nd.cols.length c2] 92))
        have CA := Lib.hid ((ho2.alloc (.cells #[.int .i64 nd.kind, .string nd.name, .int .i64 nd.col, .int .i64 nd.op, .int .i64 nd.num, .bool nd.slot, .slice a2 nd.cols.length c2] 92)).alloc (.cells #[.int .i64 nd.kind, .string nd.name, .int .i64 nd.col, .int .i64 nd.op, .int .i64 nd.num, .bool nd.slot, .slice a2 nd.cols.length c2] 92))
        have W2 := Lib.hid (((Below.refl _ w2).alloc (Nat.le_refl _) (.cells #[.int .i64 nd.kind, .string nd.name, .int .i64 nd.col, .int .i64 nd.op, .int .i64 nd.num, .bool nd.slot, .slice a2 nd.cols.length c2] 92)).alloc (by simp) (.cells #[.int .i64 nd.kind, .string nd.name, .int .i64 nd.col, .int .i64 nd.op, .int .i64 nd.num, .bool nd.slot, .slice a2 nd.cols.length c2] 92))
        have OL := Lib.hid (fun x hx => (HO.out.lt x hx).1)
        have OU := Lib.hid (fun x hx => (HO.out.lt x hx).2)
        have K0 : Hid (((w2.alloc (.cells #[.int .i64 nd.kind, .string nd.name, .int .i64 nd.col, .int .i64 nd.op, .int .i64 nd.num, .bool nd.slot, .slice a2 nd.cols.length c2] 92)).alloc (.cells #[.int .i64 nd.kind, .string nd.name, .int .i64 nd.col, .int .i64 nd.op, .int .i64 nd.num, .bool nd.slot, .slice a2 nd.cols.length c2] 92)).cell? ⟨w2.heap.size, 0, none⟩ = some (.int .i64 nd.kind)) := by
          show _ = _
          rw [World.cell?_alloc_lt _ _ ⟨w2.heap.size, 0, none⟩ (by simp)]
          exact (cell_of_row _ _ _ _ _ _ (heap_alloc_new w2 _)).trans rfl
        have hs12 : nd.name.size ≤ maxLen := by have := hb.2.2.2.2; unfold maxLen; omega
        clear ho2 h2 g2
        go_wp2_with (at_builtin; go_must (refine wpList_appendG _ rfl (.tmp 10) (.tmp 12) 25 rfl w.heap.size wr.heap.size Tryz.underlying25 Tryz.infoNodeG rfl a cc n acc rfl HNL.out (OW2.out.below W2.out) (by simp; omega) szr (w2.heap.size + 1) 1 nd a2 c2 rfl (ndRow_at (by simp)) CA.out hs12 (by omega) ?_; intro ao' c' w4 o4 g4; have O4 := Lib.hid o4; have B4 := Lib.hid (below_grow BA.out (by omega) g4 (fun x hx => OL.out x hx)); have k0 : w4.cell? ⟨w2.heap.size, 0, none⟩ = some (.int .i64 nd.kind) := g4.cell K0.out (by cases a with | none => simp | some x => simp; have := OU.out x rfl; omega); clear o4 g4))
        refine (AR.out _).mono ?_
        rintro e w5 ⟨rfl, b5⟩
        have H5 := Lib.hid ((H2.out.belowB HR HWD.out B4.out).below b5)
        have G5 := Lib.hid (grown_belowI (grown_belowI G2.out B4.out) (b5.mono (Nat.le_trans G2.out.size B4.out.size)))
        have O5 := Lib.hid ((O4.out.below b5).top_)
        clear b5 k0
        go_wp2_with fail
        go_roundw
        case rel => exact nsRel_next GO.out h0 HQ.out O5.out H5.out G5.out hf hal hnd.2 (by first | rfl | (unfold RowKit.wrap64; omega)) (by first | rfl | simp)
        case measure => rw [posOf_prd H5.out, po.out]; omega
    · have d0 : decide (0 < need) = false := by simpa using h0
      have E : Hid (RES = .inr (acc, q)) := by
        show _ = _
        rw [← GO.out]
        cases f with
        | zero => omega
        | succ f => simp only [goQ, if_pos (show need ≤ 0 by omega)]
      have c0 : wr.cell? ⟨R, 0, none⟩ = some (.slice ao ws.length c) := cell_of_row wr R 0 _ _ _ HP.out.1
      have c1 := prd_c1 HP.out
      by_cases hq : q < ws.length
      · have d1 : decide ((q : Int) < (ws.length : Int)) = true := by simp; omega
        go_wp2_with fail
        go_quiet (fail)
        go_wp2_with fail
        rw [E.out]
        show _ ∧ NodesI _ _ _ _ _ _ _ _
        refine ⟨rfl, ?_⟩
        unfold NodesI
        simp only [if_pos hq]
        exact ⟨rfl, grown_belowI GR.out (below_drewN (Below.refl _ _) _)⟩
      · have d1 : decide ((q : Int) < (ws.length : Int)) = false := by simp; omega
        go_wp2_with fail
        go_quiet (fail)
        go_wp2_with fail
        go_ret
        rw [E.out]
        unfold NodesI
        simp only [if_neg hq]
        exact ⟨a, cc, by rw [HNL.out]; rfl, (HO.out.below (below_drewN (Below.refl _ _) _)).ownN, HP.out.below (below_drewN (Below.refl _ _) _), grown_belowI GR.out (below_drewN (Below.refl _ _) _)⟩
end Go.Proofs.YtfpbhedophlnkaaGreatDoor
namespace Go.Proofs.YtfpbhedophlnkaaGreatDoor
open Go.RowKit
set_option linter.unusedSimpArgs false
set_option linter.unusedVariables false

theorem Tryz.as_bad (v : Value) (W : World) : (Instr.typeAssert (.iface 146 v) 20 146 true).run Tryz.prog W = .ok (.tuple #[v, .bool true]) W := by kernel_rfl
theorem Tryz.as_none (W : World) : (Instr.typeAssert .nilIface 20 146 true).run Tryz.prog W = .ok (.tuple #[.int .i64 0, .bool false]) W := by kernel_rfl

set_option maxRecDepth 100000 in
set_option maxHeartbeats 1600000 in
theorem catchB (B1 B2 q : Nat) (v1 v2 : Value) (t1 t2 : TypeId) (older : List PanicEntry) (w : World) (h1 : w.heap[B1]? = some (.cells #[v1] t1 (0, 0))) (h2 : w.heap[B2]? = some (.cells #[v2] t2 (0, 0))) (hne : B1 ≠ B2) :
    CallsD Tryz.prog 134 #[.pointer (some ⟨B1, 0, none⟩), .pointer (some ⟨B2, 0, none⟩)] (.panicking ({ v := .iface 146 (.int .i64 q), recovered := false } :: older)) w fun e u' w' =>
      e = .returned (.tuple #[]) ∧ u' = .panicking ({ v := .iface 146 (.int .i64 q), recovered := true } :: older) ∧ w' = (w.setCell ⟨B1, 0, none⟩ (.slice none 0 0)).setCell ⟨B2, 0, none⟩ (.int .i64 q) := by
  have c1 : w.cell? ⟨B1, 0, none⟩ = some v1 := cell_of_row w B1 0 _ _ _ h1
  have f1 : w.frozen? ⟨B1, 0, none⟩ = false := by simp [World.frozen?, h1]
  have c2 : (w.setCell ⟨B1, 0, none⟩ (.slice none 0 0)).cell? ⟨B2, 0, none⟩ = some v2 := by
    rw [World.cell?_setCell_other _ _ _ _ (show (⟨B1, 0, none⟩ : Addr) ≠ ⟨B2, 0, none⟩ from fun e => hne (congrArg Addr.block e))]
    exact cell_of_row w B2 0 _ _ _ h2
  have f2 : (w.setCell ⟨B1, 0, none⟩ (.slice none 0 0)).frozen? ⟨B2, 0, none⟩ = false := by
    have hh : (w.setCell ⟨B1, 0, none⟩ (.slice none 0 0)).heap[B2]? = some (.cells #[v2] t2 (0, 0)) := by rw [heap_setCell_other _ _ _ _ (fun e => hne e.symm)]; exact h2
    simp [World.frozen?, hh]
  refine callsD_of_wpS Tryz.func134 rfl fun c₀ cs hu => ?_
  apply wpS_seq
  apply wpS_region
  simp [wpOpsS, go_sem, recoverD, hu, Tryz.ntmps134, Exit.thenS, Tryz.as_bad]
  apply wpS_seq
  apply wpS_region
  simp [wpOpsS, go_sem, Exit.thenS]
  refine wpS_cond (t := true) (by simp [Act.eval, Array.replicate]) ?_
  simp only [if_true]
  apply wpS_region
  simp [wpOpsS, go_sem, c1, f1, c2, f2, bodyPostS, results, Tryz.results134]
set_option maxRecDepth 100000 in
set_option maxHeartbeats 1600000 in
theorem catchN (B1 B2 : Nat) (w : World) :
    CallsD Tryz.prog 134 #[.pointer (some ⟨B1, 0, none⟩), .pointer (some ⟨B2, 0, none⟩)] .returning w fun e u' w' => e = .returned (.tuple #[]) ∧ u' = .returning ∧ w' = w := by
  refine callsD_of_wpS Tryz.func134 rfl fun c₀ cs hu => ?_
  apply wpS_seq
  apply wpS_region
  simp [wpOpsS, go_sem, recoverD, hu, Tryz.ntmps134, Exit.thenS, Tryz.as_none]
  apply wpS_seq
  apply wpS_region
  simp [wpOpsS, go_sem, Exit.thenS]
  refine wpS_cond (t := false) (by simp [Act.eval, Array.replicate]) ?_
  simp only [Bool.false_eq_true, if_false]
  refine wpS_of_wp (wp_skip ?_)
  cases c₀
  simp_all [bodyPostS, results, Tryz.results134]
end Go.Proofs.YtfpbhedophlnkaaGreatDoor
namespace Go.Proofs.YtfpbhedophlnkaaGreatDoor
set_option linter.unusedSimpArgs false
set_option linter.unusedVariables false

theorem get_of {s : ByteArray} {i : Nat} {c : UInt8} (h : s.data.toList[i]? = some c) : s.get! i = c := by
  rw [Array.getElem?_toList] at h
  obtain ⟨hi, he⟩ := Array.getElem?_eq_some_iff.1 h
  show s.data.get!Internal i = c
  rw [Array.get!Internal_eq_getElem!, getElem!_pos s.data i hi]; exact he
theorem dec_rune (s : ByteArray) (pos : Nat) (c : UInt8) (h : s.data.toList[pos]? = some c) :
    1 ≤ (Utf8.decode s pos).2 ∧ pos + (Utf8.decode s pos).2 ≤ s.size ∧
    ((c.toNat < 128 ∧ Utf8.decode s pos = (c.toNat, 1)) ∨ (128 ≤ c.toNat ∧ 128 ≤ (Utf8.decode s pos).1 ∧ ∀ i, pos ≤ i → i < pos + (Utf8.decode s pos).2 → ∀ d, s.data.toList[i]? = some d → 128 ≤ d.toNat)) := by
  have hlt : pos < s.size := by
    have := (List.getElem?_eq_some_iff.1 h).1
    rw [Array.length_toList] at this; exact this
  have h0 := get_of h
  rw [Lib.decode_at, h0]
  have hd : ∀ k (d : UInt8), s.data.toList[pos + k]? = some d → (s.get! (pos + k)).toNat = d.toNat := fun k d hk => by rw [get_of hk]
  generalize hb1 : (s.get! (pos + 1)).toNat = b1 at *
  generalize hb2 : (s.get! (pos + 2)).toNat = b2 at *
  generalize hb3 : (s.get! (pos + 3)).toNat = b3 at *
  have d1 : ∀ d : UInt8, s.data.toList[pos + 1]? = some d → b1 = d.toNat := fun d hk => by rw [← hb1]; exact hd 1 d hk
  have d2 : ∀ d : UInt8, s.data.toList[pos + 2]? = some d → b2 = d.toNat := fun d hk => by rw [← hb2]; exact hd 2 d hk
  have d3 : ∀ d : UInt8, s.data.toList[pos + 3]? = some d → b3 = d.toNat := fun d hk => by rw [← hb3]; exact hd 3 d hk
  clear hd hb1 hb2 hb3 h0
  have one : ∀ (x : Nat), 128 ≤ c.toNat → ∀ i, pos ≤ i → i < pos + 1 → ∀ d, s.data.toList[i]? = some d → 128 ≤ d.toNat := fun x hc i h1 h2 d hk => by
    obtain rfl : i = pos := by omega
    rw [h] at hk; cases hk; exact hc
  have upto : ∀ m, 128 ≤ c.toNat → m ≤ 4 → (2 ≤ m → 128 ≤ b1) → (3 ≤ m → 128 ≤ b2) → (4 ≤ m → 128 ≤ b3) → ∀ i, pos ≤ i → i < pos + m → ∀ d, s.data.toList[i]? = some d → 128 ≤ d.toNat := fun m hc hm h1 h2 h3 i hi1 hi2 d hk => by
    have hcs : i = pos ∨ i = pos + 1 ∨ i = pos + 2 ∨ i = pos + 3 := by omega
    rcases hcs with rfl | rfl | rfl | rfl
    · rw [h] at hk; cases hk; exact hc
    · rw [← d1 d hk]; exact h1 (by omega)
    · rw [← d2 d hk]; exact h2 (by omega)
    · rw [← d3 d hk]; exact h3 (by omega)
  unfold Lib.decodeN
  split
  · rename_i hc
    exact ⟨by simp, by simp only; omega, .inl ⟨hc, rfl⟩⟩
  · rename_i hc
    have hc' : 128 ≤ c.toNat := by omega
    repeat' split
    all_goals simp only
    all_goals first
      | exact ⟨by omega, by omega, .inr ⟨hc', by omega, upto 1 hc' (by omega) (by omega) (by omega) (by omega)⟩⟩
      | exact ⟨by omega, by omega, .inr ⟨hc', by omega, upto 2 hc' (by omega) (by omega) (by omega) (by omega)⟩⟩
      | exact ⟨by omega, by omega, .inr ⟨hc', by omega, upto 3 hc' (by omega) (by omega) (by omega) (by omega)⟩⟩
      | exact ⟨by omega, by omega, .inr ⟨hc', by omega, upto 4 hc' (by omega) (by omega) (by omega) (by omega)⟩⟩
theorem blank_lt {c : UInt8} (h : blankB c = true) : c.toNat = 32 ∨ c.toNat = 10 := by
  unfold blankB at h
  simp at h
  rcases h with rfl | rfl
  · left; rfl
  · right; rfl
theorem blank_of {c : UInt8} (h : c.toNat = 32 ∨ c.toNat = 10) : blankB c = true := by
  unfold blankB
  simp
  rcases h with h | h
  · left; exact UInt8.toNat_inj.1 h
  · right; exact UInt8.toNat_inj.1 h
theorem blank_not {c : UInt8} (h : ¬ (c.toNat = 32 ∨ c.toNat = 10)) : blankB c = false := by
  cases hb : blankB c with
  | false => rfl
  | true => exact absurd (blank_lt hb) h
end Go.Proofs.YtfpbhedophlnkaaGreatDoor
namespace Go.Proofs.YtfpbhedophlnkaaGreatDoor
open Go.RowKit
set_option linter.unusedSimpArgs false
set_option linter.unusedVariables false

/-- A slice of texts of the call's own is not where an iterator lies. -/
theorem ownS_iter {w : World} {base K p : Nat} {s : ByteArray} {ao : Option Addr} {c : Nat} {l : List ByteArray} (h : OwnS w base ao c l) (hk : w.heap[K]? = some (.stringIter s p)) : ∀ a, ao = some a → a.block ≠ K := by
  intro a ha hK
  rcases h.2 with ⟨hv, _⟩ | ⟨g, cap, cur, hv, _, hg, _⟩
  · simp only [Value.slice.injEq] at hv; rw [hv.1] at ha; cases ha
  · simp only [Value.slice.injEq] at hv
    rw [ha] at hv
    have hb : a.block = g := by have := hv.1; simp only [Option.some.injEq] at this; rw [this]
    rw [← hb, hK, hk] at hg
    cases hg
theorem ownS_iterAt {w : World} {base K p : Nat} {s : ByteArray} {ao : Option Addr} {c : Nat} {l : List ByteArray} (h : OwnS w base ao c l) (hk : w.heap[K]? = some (.stringIter s p)) (p' : Nat) : OwnS (w.iterAt K s p') base ao c l :=
  h.keep fun a ha _ => Lib.iterAt_other w K a.block s p' (ownS_iter h hk a ha)
theorem iter_grown {w w' : World} {base K p : Nat} {s : ByteArray} {ao : Option Addr} {c : Nat} {l : List ByteArray} {o : Obj} (h : OwnS w base ao c l) (hk : w.heap[K]? = some (.stringIter s p)) (hg : (w.alloc o).grownBy w' (ao.map (·.block))) : w'.heap[K]? = some (.stringIter s p) := by
  have hlt : K < w.heap.size := (Array.getElem?_eq_some_iff.1 hk).1
  rw [hg.block K (by simp; omega) (by
    cases ao with
    | none => simp
    | some a => simp; exact fun e => ownS_iter h hk a rfl e.symm)]
  exact ((World.grownBy_alloc w o none).block K hlt (by simp)).trans hk
theorem cell_one_z {w : World} {y : ByteArray} {t : TypeId} {b : Nat} (hb : b = w.heap.size) : ∀ i, i < [y].length → (w.alloc (.cells #[.string y] t)).cell? ⟨b, i, none⟩ = some (.string ([y].getD i ByteArray.empty)) := by
  subst hb; exact cell_one_x w y t
theorem wr_next {s : ByteArray} {pos wd fr : Nat} (h1 : pos + wd ≤ s.size) (hf : fr ≤ pos) (hw : (wrun (s.data.toList.take pos)).2 = (s.data.toList.drop fr).take (pos - fr))
    (h : ∀ i, pos ≤ i → i < pos + wd → ∀ d, s.data.toList[i]? = some d → blankB d = false) :
    (wrun (s.data.toList.take (pos + wd))).1 = (wrun (s.data.toList.take pos)).1 ∧ (wrun (s.data.toList.take (pos + wd))).2 = (s.data.toList.drop fr).take (pos + wd - fr) := by
  rw [wrun_others (j := pos) (k := pos + wd) (by omega) h]
  refine ⟨rfl, ?_⟩
  simp only
  rw [hw, show pos + wd - fr = (pos - fr) + (pos + wd - pos) by omega, List.take_add, List.drop_drop, show fr + (pos - fr) = pos by omega]

def WiRel (w : World) (s : ByteArray) (wr : World) (o f : Value) : Prop :=
  ∃ (pos fr n cc : Nat) (ao : Option Addr) (acc : List ByteArray), o = .slice ao n cc ∧ f = .int .i64 fr ∧ n = acc.length ∧ OwnS wr w.heap.size ao cc acc ∧ Below w.heap.size w wr ∧ acc.length ≤ 2000 ∧
    wr.heap[w.heap.size]? = some (.stringIter s pos) ∧ (fr ≤ pos ∧ pos ≤ s.size) ∧ acc = (wrun (s.data.toList.take pos)).1.map mkBs ∧ (wrun (s.data.toList.take pos)).2 = (s.data.toList.drop fr).take (pos - fr)

set_option maxRecDepth 100000 in
set_option maxHeartbeats 3200000 in
theorem wordsIn_any (s : ByteArray) (w : World) (hs : s.size ≤ 2000) :
    Calls Tryz.prog 135 #[.string s] w (MadeS w ((wordsL s.data.toList).map mkBs)) := by
  have P0 := Lib.hid (show WiRel w s (w.iter s 0) (.slice none 0 0) (.int .i64 0) from
    ⟨0, 0, 0, 0, none, [], rfl, rfl, rfl, OwnS.none_, (Below.refl _ w).alloc (Nat.le_refl _) _, by simp, World.iter_heap w s 0, ⟨Nat.le_refl _, Nat.zero_le _⟩, by simp [wrun], by simp [wrun]⟩)
  go_enter Tryz.func135, Tryz.ntmps135
  go_wp2_with fail
  go_loopw [3, 4] (fun o f wr => WiRel w s wr o f) (fun _ _ wr => s.size - wr.iterPos w.heap.size)
  case atStart => exact P0.out
  case round =>
    clear P0
    obtain ⟨pos, fr, n, cc, ao, acc, rfl, rfl, hn, ho, hb, hal, hk, ⟨hf, hp⟩, ha, hw⟩ := hrel
    have HN := Lib.hid hn; have HO := Lib.hid ho; have HB := Lib.hid hb; have HK := Lib.hid hk; have HA := Lib.hid ha; have HW := Lib.hid hw
    have hzb := hb.size
    have ip : wr.iterPos w.heap.size = pos := by simp [World.iterPos, hk]
    have IP := Lib.hid ip
    clear hn ho hb ha hw ip
    by_cases hlt : pos < s.size
    · have hx : s.data.toList[pos]? = some s[pos] := by rw [Array.getElem?_toList, Array.getElem?_eq_getElem (show pos < s.data.size from hlt)]; rfl
      obtain ⟨d1, d2, d3⟩ := dec_rune s pos s[pos] hx
      have dl := decode_le s pos
      have hnx : ∀ ty, (Instr.next (.pointer (some ⟨w.heap.size, 0, none⟩)) true ty).run Tryz.prog wr = _ := fun ty => Lib.run_next_any_at wr w.heap.size s pos ty hk hlt
      have OI := Lib.hid (ownS_iterAt HO.out hk (pos + (Utf8.decode s pos).2))
      have KI := Lib.hid (Lib.iterAt_heap wr w.heap.size s pos (pos + (Utf8.decode s pos).2) hk)
      have BI := Lib.hid (Lib.below_iterAt HB.out (Nat.le_refl _) s (pos + (Utf8.decode s pos).2))
      have zI := Lib.iterAt_size wr w.heap.size s (pos + (Utf8.decode s pos).2)
      have ipn : (wr.iterAt w.heap.size s (pos + (Utf8.decode s pos).2)).iterPos w.heap.size = pos + (Utf8.decode s pos).2 := by simp [World.iterPos, KI.out]
      have IPN := Lib.hid ipn
      have WT := Lib.hid (fun c (h : s.data.toList[pos]? = some c) => wrun_take h)
      have WN := Lib.hid (fun h => wr_next (wd := (Utf8.decode s pos).2) d2 hf HW.out h)
      have hal2 : ((wrun (s.data.toList.take (pos + 1))).1.map mkBs).length ≤ 2000 := (wrun_acc hs (pos + 1)).1
      have hal3 : ((wrun (s.data.toList.take (pos + (Utf8.decode s pos).2))).1.map mkBs).length ≤ 2000 := (wrun_acc hs _).1
      clear hk ipn
      generalize wr.iterAt w.heap.size s (pos + (Utf8.decode s pos).2) = wi at hnx OI KI BI zI IPN
      generalize hdec : Utf8.decode s pos = dec at hnx d1 d2 d3 dl KI IPN WN hal3
      obtain ⟨rn, wd⟩ := dec
      simp only at hnx d1 d2 d3 dl KI IPN WN hal3
      have HX := Lib.hid hx
      generalize s[pos] = ch at d3 HX
      clear hx hdec
      by_cases hbk : rn = 32 ∨ rn = 10
      · obtain ⟨hc, rfl, rfl⟩ : ch.toNat < 128 ∧ rn = ch.toNat ∧ wd = 1 := by
          rcases d3 with ⟨h1, h2⟩ | ⟨_, h2, _⟩
          · injection h2 with h2 h3; exact ⟨h1, h2, h3⟩
          · omega
        have hb1 : blankB ch = true := blank_of hbk
        have WS := Lib.hid ((WT.out ch HX.out).trans (wstep_blank hb1))
        have W1 := Lib.hid (congrArg Prod.fst WS.out); have W2 := Lib.hid (congrArg Prod.snd WS.out)
        simp only at W1 W2
        clear d3 WS WT WN hal3
        by_cases hfp : fr < pos
        · have FE := Lib.hid (show (wrun (s.data.toList.take (pos + 1))).1.map mkBs = acc ++ [s.extract fr pos] by
            rw [W1.out]; unfold wfin
            rw [HW.out, if_neg (by intro h; have := congrArg List.length h; simp [size_listW] at this; omega), List.map_append, ← HA.out, List.map_cons, List.map_nil, ext_mkW])
          rw [FE.out] at hal2
          have i1 : (fr : Int) < (pos : Int) := by omega
          have i2 : (fr : Int) ≤ (pos : Int) := by omega
          rcases hbk with hbk | hbk
          all_goals
            have q1 := hbk
            go_wp2_with (at_builtin; go_must (refine wpList_appendSs _ rfl (.tmp 22) (.tmp 27) 70 rfl w.heap.size Tryz.underlying70 Tryz.infoStr ao cc n acc rfl HN.out (OI.out.alloc _) _ 1 1 [s.extract fr pos] rfl rfl (cell_one_z zI.symm) (by simp; omega) (by simp; omega) ?_; intro ao' c' w4 o4 g4; have K4 := Lib.hid (iter_grown OI.out KI.out g4); have O4 := Lib.hid o4; have B4 := Lib.hid (below_appS BI.out OI.out g4); clear o4 g4))
            go_roundw
            case rel => exact ⟨pos + 1, pos + 1, _, c', ao', _, rfl, by go_num, by simp, O4.out, B4.out, hal2, K4.out, ⟨Nat.le_refl _, hlt⟩, FE.out.symm, by rw [W2.out]; simp⟩
            case measure =>
              have e4 : w4.iterPos w.heap.size = pos + 1 := by simp [World.iterPos, K4.out]
              rw [e4, IP.out]; omega
        · obtain rfl : fr = pos := by omega
          have FE := Lib.hid (show (wrun (s.data.toList.take (fr + 1))).1 = (wrun (s.data.toList.take fr)).1 by rw [W1.out]; unfold wfin; rw [HW.out, if_pos (by simp)])
          rcases hbk with hbk | hbk
          all_goals
            have q1 := hbk
            go_wp2_with fail
            go_roundw
            case rel => exact ⟨fr + 1, fr + 1, n, cc, ao, acc, rfl, by go_num, HN.out, OI.out, BI.out, hal, KI.out, ⟨Nat.le_refl _, hlt⟩, by rw [FE.out]; exact HA.out, by rw [W2.out]; simp⟩
            case measure => rw [IPN.out, IP.out]; omega
      · have hno : ∀ i, pos ≤ i → i < pos + wd → ∀ d, s.data.toList[i]? = some d → blankB d = false := by
          rcases d3 with ⟨h1, h2⟩ | ⟨h1, _, h2⟩
          · injection h2 with h2 h3
            intro i hi1 hi2 d hd
            obtain rfl : i = pos := by omega
            rw [HX.out] at hd; cases hd
            exact blank_not (by rw [← h2]; exact hbk)
          · intro i hi1 hi2 d hd
            have := h2 i hi1 hi2 d hd
            exact blank_not (by omega)
        obtain ⟨W1, W2⟩ := WN.out hno
        have W1 := Lib.hid W1; have W2 := Lib.hid W2
        have q1 : ((rn : Int) != 32) = true := by simp; omega
        have q2 : ((rn : Int) != 10) = true := by simp; omega
        clear d3 WT WN hno hbk
        go_wp2_with fail
        go_roundw
        case rel => exact ⟨pos + wd, fr, n, cc, ao, acc, rfl, rfl, HN.out, OI.out, BI.out, hal, KI.out, ⟨by omega, d2⟩, by rw [W1.out]; exact HA.out, W2.out⟩
        case measure => rw [IPN.out, IP.out]; omega
    · obtain rfl : pos = s.size := by omega
      have hnx : ∀ ty, (Instr.next (.pointer (some ⟨w.heap.size, 0, none⟩)) true ty).run Tryz.prog wr = _ := fun ty => Lib.run_next_end_at wr w.heap.size s s.size ty hk hlt
      have TL := Lib.hid (show s.data.toList.take s.size = s.data.toList from List.take_of_length_le (by rw [size_listW]; exact Nat.le_refl _))
      rw [TL.out] at HA HW
      clear hk
      by_cases hfp : fr < s.size
      · have FE := Lib.hid (show (wordsL s.data.toList).map mkBs = acc ++ [s.extract fr s.size] by
          unfold wordsL wfin
          rw [HW.out, if_neg (by intro h; have := congrArg List.length h; simp [size_listW] at this; omega), List.map_append, ← HA.out, List.map_cons, List.map_nil, ext_mkW])
        have i1 : (fr : Int) < (s.size : Int) := by omega
        have i2 : (fr : Int) ≤ (s.size : Int) := by omega
        go_wp2_with (at_builtin; go_must (refine wpList_appendSs _ rfl (.tmp 35) (.tmp 39) 70 rfl w.heap.size Tryz.underlying70 Tryz.infoStr ao cc n acc rfl HN.out (HO.out.alloc _) _ 1 1 [s.extract fr s.size] rfl rfl (cell_one_x _ _ _) (by simp; omega) (by simp; omega) ?_; intro ao' c' w4 o4 g4; have O4 := Lib.hid o4; have B4 := Lib.hid (below_appS HB.out HO.out g4); clear o4 g4))
        go_ret
        rw [FE.out]
        exact ⟨ao', c', by simp, O4.out, B4.out⟩
      · obtain rfl : fr = s.size := by omega
        have FE := Lib.hid (show (wordsL s.data.toList).map mkBs = acc by unfold wordsL wfin; rw [HW.out, if_pos (by simp)]; exact HA.out.symm)
        go_wp2_with fail
        go_ret
        rw [FE.out]
        exact ⟨ao, cc, by rw [← HN.out]; rfl, HO.out, HB.out⟩
theorem implWordsOf_any (s : ByteArray) (w : World) (hs : s.size ≤ 9223372036854775807) :
    Calls Tryz.prog 58 #[.string s] w (MadeS w (wordsO s)) := by
  by_cases h2 : 2000 < s.size
  · have h2' : (2000 : Int) < (s.size : Int) := by omega
    have E : wordsO s = [] := by unfold wordsO; rw [if_pos h2]
    rw [E]
    clear E h2
    go_enter Tryz.func58, Tryz.ntmps58
    go_wp2_with fail
    go_ret
    exact ⟨none, 0, rfl, OwnS.none_, Below.refl _ _⟩
  · have h2' : (s.size : Int) ≤ 2000 := by omega
    have E := Lib.hid (show wordsO s = (wordsL s.data.toList).map mkBs by unfold wordsO; rw [if_neg h2])
    have WI := Lib.hid (wordsIn_any s w (by omega))
    rw [E.out]
    generalize (wordsL s.data.toList).map mkBs = xs at WI ⊢
    clear E h2
    go_enter Tryz.func58, Tryz.ntmps58
    go_wp2_with fail
    refine WI.out.mono ?_
    rintro e w1 ⟨ao, c, rfl, o1, b1⟩
    go_wp2_with fail
    go_ret
    exact ⟨ao, c, rfl, o1, b1⟩
end Go.Proofs.YtfpbhedophlnkaaGreatDoor
namespace Go.Proofs.YtfpbhedophlnkaaGreatDoor
open Go.RowKit
set_option linter.unusedSimpArgs false
set_option linter.unusedVariables false

/-- The call returned nodes of its own beside a number, and nothing that was there has turned. -/
def MadeN2 (res : List Nd × Int) (w : World) (e : Ending) (w' : World) : Prop :=
  ∃ ao c, e = .returned (.tuple #[.slice ao res.1.length c, .int .i64 res.2]) ∧ OwnN w' w.heap.size ao c res.1 ∧ Below w.heap.size w w'
theorem madeN2_no {res : List Nd × Int} {x : Int} {w w' : World} (h : res = ([], x)) (hb : Below w.heap.size w w') : MadeN2 res w (.returned (.tuple #[.slice none 0 0, .int .i64 x])) w' := by
  rw [h]; exact ⟨none, 0, rfl, .inl rfl, hb⟩
theorem madeN2_yes {res : List Nd × Int} {x : Int} {w w' : World} {acc : List Nd} {ao : Option Addr} {c n : Nat} (h : res = (acc, x)) (hn : n = acc.length) (ho : OwnN w' w.heap.size ao c acc) (hb : Below w.heap.size w w') : MadeN2 res w (.returned (.tuple #[.slice ao n c, .int .i64 x])) w' := by
  rw [h, hn]; exact ⟨ao, c, rfl, ho, hb⟩
end Go.Proofs.YtfpbhedophlnkaaGreatDoor
