/-
  Contract of slices.symMergeCmpFunc at rows: two sorted neighbours are merged, and those of which none is less keep their order.
-/
import Derived.Test.YtanfllednlpbaaaGreatM19x
namespace Go.Proofs.YtanfllednlpbaaaGreat
open Go.Shelf Go.RowKit Go.Lib Go.Sort
set_option linter.unusedSimpArgs false
set_option linter.unusedVariables false

section
variable {α : Type} [Inhabited α]
/-- What a merge of two neighbours ends in. -/
def SymPost (enc : α → Value) (cf : α → α → Int) (blk off : Nat) (w0 : World) (L U V T : List α) (r : Ending) (w' : World) : Prop :=
  r = .returned (.tuple #[]) ∧ ∃ Z, St (ltOf cf) Z (U ++ V) ∧ SW enc w0 blk off (L ++ Z ++ T).toArray w'

/-- Where the first is one alone: the search. -/
def Bin1 (lt : α → α → Bool) (d : Array α) (u : α) (m b i j : Nat) : Prop := m ≤ i ∧ i ≤ j ∧ j ≤ b ∧ (i = m ∨ lt d[i - 1]! u = true) ∧ (j = b ∨ lt d[j]! u = false)
theorem Bin1.parts {lt : α → α → Bool} (hw : Wk lt) (L : List α) (u : α) (V T : List α) {i : Nat} (hV : Asc lt V) (h : Bin1 lt (L ++ [u] ++ V ++ T).toArray u (L.length + 1) (L.length + 1 + V.length) i i) :
    (∀ y ∈ V.take (i - (L.length + 1)), lt y u = true) ∧ (∀ y ∈ V.drop (i - (L.length + 1)), lt y u = false) := by
  obtain ⟨h1, _, h2, h3, h4⟩ := h
  constructor
  · rcases Nat.lt_or_eq_of_le h1 with hl | hl
    · rcases h3 with h3 | h3
      · omega
      · have e := at_right L [u] V T (i := i - 1) (by simp; omega) (by simp; omega)
        have := lt_take hw hV e h3
        simp only [List.length_singleton] at this
        rwa [show i - 1 - (L.length + 1) + 1 = i - (L.length + 1) by omega] at this
    · rw [← hl, Nat.sub_self]; simp
  · rcases Nat.lt_or_eq_of_le h2 with hl | hl
    · rcases h4 with h4 | h4
      · omega
      · have e := at_right L [u] V T (i := i) (by simp; omega) (by simp; omega)
        exact ge_drop hw hV e h4
    · rw [hl]; intro y hy; simp at hy
def Bin2 (lt : α → α → Bool) (d : Array α) (v : α) (a m i j : Nat) : Prop := a ≤ i ∧ i ≤ j ∧ j ≤ m ∧ (i = a ∨ lt v d[i - 1]! = false) ∧ (j = m ∨ lt v d[j]! = true)
theorem Bin2.parts {lt : α → α → Bool} (hw : Wk lt) (L U V T : List α) (v : α) {i : Nat} (hU : Asc lt U) (h : Bin2 lt (L ++ U ++ V ++ T).toArray v L.length (L.length + U.length) i i) :
    (∀ x ∈ U.take (i - L.length), lt v x = false) ∧ (∀ x ∈ U.drop (i - L.length), lt v x = true) := by
  obtain ⟨h1, _, h2, h3, h4⟩ := h
  constructor
  · rcases Nat.lt_or_eq_of_le h1 with hl | hl
    · rcases h3 with h3 | h3
      · omega
      · have e := at_left L U V T (i := i - 1) (by omega) (by omega)
        have := ge_take hw hU e h3
        rwa [show i - 1 - L.length + 1 = i - L.length by omega] at this
    · rw [← hl, Nat.sub_self]; simp
  · rcases Nat.lt_or_eq_of_le h2 with hl | hl
    · rcases h4 with h4 | h4
      · omega
      · have e := at_left L U V T (i := i) (by omega) (by omega)
        exact lt_drop hw hU e h4
    · rw [hl]; intro y hy; simp at hy

/-- One that goes right, and one that goes left. -/
def mvR (L : List α) (u : α) (V T : List α) (q : Nat) : List α := L ++ V.take q ++ u :: (V.drop q ++ T)
end
theorem mvR_len {α : Type} (L : List α) (u : α) (V T : List α) (q : Nat) : (mvR L u V T q).length = L.length + 1 + V.length + T.length := by simp [mvR]; omega
section
variable {α : Type} [Inhabited α]
theorem mvR_up (L : List α) (u : α) (V T : List α) {q k k1 : Nat} (hk : k = L.length + q) (hk1 : k1 = k + 1) (hq : q < V.length) : swp (mvR L u V T q).toArray k k1 = (mvR L u V T (q + 1)).toArray := by
  obtain ⟨v, v1, v2, _⟩ := take_snoc (l := V) hq
  unfold mvR
  rw [v1, v2]
  have := swp_mid (L ++ V.take q) u [] v (V.drop (q + 1) ++ T) (i := k) (j := k1) (by simp; omega) (by simp; omega)
  simpa using this
theorem mvR_down (L : List α) (u : α) (V T : List α) {q k k1 : Nat} (hk : k = L.length + (q + 1)) (hk1 : k1 + 1 = k) (hq : q < V.length) : swp (mvR L u V T (q + 1)).toArray k k1 = (mvR L u V T q).toArray := by
  obtain ⟨v, v1, v2, _⟩ := take_snoc (l := V) hq
  unfold mvR
  rw [v1, v2]
  have := swp_dim (L ++ V.take q) v [] u (V.drop (q + 1) ++ T) (i := k1) (j := k) (by simp; omega) (by simp; omega)
  simpa using this

set_option maxHeartbeats 8000000 in
set_option maxRecDepth 1000000 in
theorem sym_left (enc : α → Value) (cf : α → α → Int) (g : Nat) (cb : Array Value) (blk off cap : Nat) (d0 : Array α) (w0 w : World) (L : List α) (u : α) (V T : List α)
    (eg : ∀ args w, (callFunc g args).run Tryz.prog w = .ok (.enter g args) w) (hcmp : CmpLays1 Tryz.prog g cb enc cf blk off d0.size w0) (hw : Wk (ltOf cf)) (R : Row1 enc w0 blk off d0) (hsz : d0.size ≤ 1048576)
    (hV : Asc (ltOf cf) V) (hs : d0.size = (L ++ [u] ++ V ++ T).length) (S : SW enc w0 blk off (L ++ [u] ++ V ++ T).toArray w) (a m b : Nat) (ha : a = L.length) (hm : m = L.length + 1) (hb : b = L.length + 1 + V.length) :
    Calls Tryz.prog 180 #[.slice (some ⟨blk, off, none⟩) d0.size cap, .int .i64 a, .int .i64 m, .int .i64 b, .func (.func g) #[] cb] w (SymPost enc cf blk off w0 L [u] V T) := by
  have hcl0 := R.hO.cells
  simp only [Value.cells] at hcl0
  have hst := R.hO.store Tryz.prog
  have mixed : Tryz.prog.follows .mixedOrders = true := by kernel_rfl
  have HC : Aside _ := hcmp
  clear hcmp
  have hbn : b ≤ d0.size := by rw [hs]; simp; omega
  have ham : a + 1 ≤ m ∧ m ≤ a + 1 := by omega
  obtain ⟨ham, ham'⟩ := ham
  have hmb : m ≤ b := by omega
  have EA : Hid (a = L.length) := ha
  have EM : Hid (m = L.length + 1) := hm
  have EB : Hid (b = L.length + 1 + V.length) := hb
  have t1 : ((m : Int) - (a : Int) == 1) = true := by simp; omega
  have t1' : (m : Int) - (a : Int) = 1 := by omega
  have hdk : ∃ dk : Array α, dk = (L ++ [u] ++ V ++ T).toArray := ⟨_, rfl⟩
  obtain ⟨dk, hdk⟩ := hdk
  have hsk : dk.size = d0.size := by rw [hdk, hs]; simp
  have S0 : Aside (SW enc w0 blk off dk w) := by rw [hdk]; exact S
  have DK : Hid _ := hdk
  have hau : dk[a]! = u := by
    have := get_at L u (V ++ T) (i := a) ha
    rw [hdk]; simpa using this
  have HAU : Hid _ := hau
  clear S ha hm hb hs hdk hau
  go_enter Tryz.func180, Tryz.ntmps180
  go_wp2
  clear t1 t1'
  go_loopg [10, 11] (b - m) (fun kx s t wr => ∃ (i j : Nat), s = .int .i64 i ∧ t = .int .i64 j ∧ m ≤ i ∧ i ≤ j ∧ j ≤ b ∧ j - i ≤ kx ∧ Aside (Bin1 (ltOf cf) dk u m b i j) ∧ Aside (SW enc w0 blk off dk wr))
  case atStart => exact ⟨m, b, rfl, rfl, Nat.le_refl _, hmb, Nat.le_refl _, Nat.le_refl _, ⟨Nat.le_refl _, hmb, Nat.le_refl _, .inl rfl, .inl rfl⟩, S0⟩
  case round =>
    clear S0
    obtain ⟨i, j, rfl, rfl, hmi, hij, hjb, hkx, HB, S1⟩ := hrel
    by_cases hlt : i < j
    · have hltz : (i : Int) < (j : Int) := by omega
      obtain ⟨h, hh⟩ : ∃ h : Nat, h = (i + j) / 2 := ⟨_, rfl⟩
      have zh : ((i : Int) + (j : Int)) / 2 = (h : Int) := by omega
      have hh1 : i ≤ h ∧ h < j := by omega
      obtain ⟨hh1, hh2⟩ := hh1
      clear hh
      cases hlv : ltOf cf dk[h]! dk[a]! with
      | true =>
        obtain ⟨iN, hiN⟩ : ∃ q, q = h := ⟨_, rfl⟩
        obtain ⟨jN, hjN⟩ : ∃ q, q = a := ⟨_, rfl⟩
        have ea : ((h : Int)).toNat = iN := by omega
        have pa : (0 : Int) ≤ (h : Int) := by omega
        have ba : (h : Int) < (d0.size : Int) := by omega
        have ra : IntKind.i64.wrap ((h : Int)) = (h : Int) := by rw [IntKind.wrap_i64]; omega
        have ec : ((a : Int)).toNat = jN := by omega
        have pc : (0 : Int) ≤ (a : Int) := by omega
        have bc : (a : Int) < (d0.size : Int) := by omega
        have rc : IntKind.i64.wrap ((a : Int)) = (a : Int) := by rw [IntKind.wrap_i64]; omega
        obtain ⟨x, hx⟩ : ∃ x, x = dk[h]! := ⟨_, rfl⟩
        obtain ⟨y, hy⟩ : ∃ x, x = dk[a]! := ⟨_, rfl⟩
        have la := S1.out.cl R (by omega) (h) (by omega)
        have lb := S1.out.cl R (by omega) (a) (by omega)
        rw [← hx, ← hiN] at la
        rw [← hy, ← hjN] at lb
        have hc := S1.out.cmp HC.out (by omega) x y
        have hv : cf x y < 0 := by rw [hx, hy]; exact of_decide_eq_true hlv
        have hd : decide (cf x y < 0) = true := decide_eq_true hv
        have HLV : Hid _ := hlv
        clear hx hy hiN hjN hlv
        go_wp2_with fail
        go_quiet_grown (first | (go_at_fn g; refine Calls.grown_of (hc _ _)))
        have S2 : Aside (SW enc w0 blk off dk (grow (wr.drewN nq) osq)) := S1.out.grown nq osq
        clear la lb hc S1
        generalize grow (wr.drewN nq) osq = w2 at S2 ⊢
        clear nq osq ea ec
        go_wp2_with fail
        go_roundg (j - (h + 1))
        case measure => omega
        case rel => exact ⟨h + 1, j, by go_num, rfl, by omega, by omega, hjb, Nat.le_refl _, ⟨by omega, by omega, hjb, .inr (by rw [Nat.add_sub_cancel, ← HAU.out]; exact HLV.out), HB.out.2.2.2.2⟩, S2⟩
      | false =>
        obtain ⟨iN, hiN⟩ : ∃ q, q = h := ⟨_, rfl⟩
        obtain ⟨jN, hjN⟩ : ∃ q, q = a := ⟨_, rfl⟩
        have ea : ((h : Int)).toNat = iN := by omega
        have pa : (0 : Int) ≤ (h : Int) := by omega
        have ba : (h : Int) < (d0.size : Int) := by omega
        have ra : IntKind.i64.wrap ((h : Int)) = (h : Int) := by rw [IntKind.wrap_i64]; omega
        have ec : ((a : Int)).toNat = jN := by omega
        have pc : (0 : Int) ≤ (a : Int) := by omega
        have bc : (a : Int) < (d0.size : Int) := by omega
        have rc : IntKind.i64.wrap ((a : Int)) = (a : Int) := by rw [IntKind.wrap_i64]; omega
        obtain ⟨x, hx⟩ : ∃ x, x = dk[h]! := ⟨_, rfl⟩
        obtain ⟨y, hy⟩ : ∃ x, x = dk[a]! := ⟨_, rfl⟩
        have la := S1.out.cl R (by omega) (h) (by omega)
        have lb := S1.out.cl R (by omega) (a) (by omega)
        rw [← hx, ← hiN] at la
        rw [← hy, ← hjN] at lb
        have hc := S1.out.cmp HC.out (by omega) x y
        have hv : ¬ cf x y < 0 := by rw [hx, hy]; exact of_decide_eq_false hlv
        have hd : decide (cf x y < 0) = false := decide_eq_false hv
        have HLV : Hid _ := hlv
        clear hx hy hiN hjN hlv
        go_wp2_with fail
        go_quiet_grown (first | (go_at_fn g; refine Calls.grown_of (hc _ _)))
        have S2 : Aside (SW enc w0 blk off dk (grow (wr.drewN nq) osq)) := S1.out.grown nq osq
        clear la lb hc S1
        generalize grow (wr.drewN nq) osq = w2 at S2 ⊢
        clear nq osq ea ec
        go_wp2_with fail
        go_roundg (h - i)
        case measure => omega
        case rel => exact ⟨i, h, rfl, rfl, hmi, hh1, by omega, Nat.le_refl _, ⟨hmi, hh1, by omega, HB.out.2.2.2.1, .inr (by rw [← HAU.out]; exact HLV.out)⟩, S2⟩
    · obtain rfl : j = i := by omega
      have PT : Hid _ := Bin1.parts hw L u V T hV (i := j) (by have := HB.out; rw [DK.out, EM.out, EB.out] at this; exact this)
      obtain ⟨V1, hV1⟩ : ∃ l, l = V.take (j - (L.length + 1)) := ⟨_, rfl⟩
      obtain ⟨V2, hV2⟩ : ∃ l, l = V.drop (j - (L.length + 1)) := ⟨_, rfl⟩
      have hVV : Hid (V = V1 ++ V2) := by rw [hV1, hV2]; exact (List.take_append_drop _ _).symm
      have hl1 : Hid (V1.length + m = j) := by have := EM.out; have := EB.out; show _ = _; rw [hV1]; simp; omega
      have PP : Hid ((∀ y ∈ V1, ltOf cf y u = true) ∧ (∀ y ∈ V2, ltOf cf y u = false)) := by rw [hV1, hV2]; exact PT.out
      have SZ : Aside (SW enc w0 blk off (mvR L u V1 (V2 ++ T) 0).toArray wr) := show SW _ _ _ _ _ _ from by
        have := S1.out
        rw [DK.out, hVV.out] at this
        simpa [mvR] using this
      have hds : ∀ q, (mvR L u V1 (V2 ++ T) q).toArray.size = d0.size := fun q => by
        rw [List.size_toArray, mvR_len, ← hsk, DK.out, hVV.out]; simp; omega
      clear hV1 hV2 HB PT S1 hsk HC
      go_wp2_with fail
      go_loopg [13] V1.length (fun kx s wr => ∃ (q : Nat), s = .int .i64 (a + q : Nat) ∧ q ≤ V1.length ∧ V1.length - q ≤ kx ∧ Aside (SW enc w0 blk off (mvR L u V1 (V2 ++ T) q).toArray wr))
      case atStart => exact ⟨0, rfl, Nat.zero_le _, by omega, SZ⟩
      case round =>
        clear SZ
        obtain ⟨q, rfl, hq, hkx2, S1⟩ := hrel
        by_cases hlt2 : q < V1.length
        · have hltz : ((a + q : Nat) : Int) < (j : Int) - 1 := by have := hl1.out; omega
          have hqb : a + q + 1 < d0.size := by have := hl1.out; omega
          have hd := hds q
          have ST : Aside _ := mvR_up L u V1 (V2 ++ T) (q := q) (k := a + q) (k1 := a + q + 1) (by rw [EA.out]) rfl hlt2
          generalize (mvR L u V1 (V2 ++ T) q).toArray = dk at S1 ST hd
          obtain ⟨k, hk⟩ : ∃ k : Nat, k = a + q := ⟨_, rfl⟩
          rw [← hk] at hltz hqb ST
          rw [← hk]
          have HK : Hid _ := hk
          clear hk
          go_wp2_with fail
          obtain ⟨iN, hiN⟩ : ∃ q, q = k := ⟨_, rfl⟩
          obtain ⟨jN, hjN⟩ : ∃ q, q = k + 1 := ⟨_, rfl⟩
          have ea : ((k : Int)).toNat = iN := by omega
          have pa : (0 : Int) ≤ (k : Int) := by omega
          have ba : (k : Int) < (d0.size : Int) := by omega
          have ra : IntKind.i64.wrap ((k : Int)) = (k : Int) := by rw [IntKind.wrap_i64]; omega
          have ec : ((k : Int) + 1).toNat = jN := by omega
          have pc : (0 : Int) ≤ (k : Int) + 1 := by omega
          have bc : (k : Int) + 1 < (d0.size : Int) := by omega
          have rc : IntKind.i64.wrap ((k : Int) + 1) = (k : Int) + 1 := by rw [IntKind.wrap_i64]; omega
          obtain ⟨x, hx⟩ : ∃ x, x = dk[k]! := ⟨_, rfl⟩
          obtain ⟨y, hy⟩ : ∃ x, x = dk[k + 1]! := ⟨_, rfl⟩
          have S2 : Aside (SW enc w0 blk off (swp dk (k) (k + 1)) ((wr.setCell ⟨blk, off + iN, none⟩ (enc y)).setCell ⟨blk, off + jN, none⟩ (enc x)).drew) := by rw [hiN, hjN, hx, hy]; exact S1.out.swapped R (k) (k + 1) (by omega) (by omega)
          have ca := S1.out.c1 R (by omega) (k) (by omega)
          have cc := S1.out.c1 R (by omega) (k + 1) (by omega)
          have fa := S1.out.f1 R (by omega) (k) (by omega)
          have fb := S1.out.f1 R (by omega) (k + 1) (by omega)
          obtain ⟨u0, cd⟩ := S1.out.c2 R (by omega) (k) (k + 1) (by omega) (by omega) (enc y)
          rw [← hjN, ← hiN] at cd
          rw [← hx, ← hiN] at ca
          rw [← hy, ← hjN] at cc
          rw [← hiN] at fa
          rw [← hjN] at fb
          rw [ST.out] at S2
          clear S1 hx hy hiN hjN ST hd
          go_wp2_with fail
          go_big_region_o
          clear ca cc cd fa fb
          generalize ((wr.setCell ⟨blk, off + iN, none⟩ (enc y)).setCell ⟨blk, off + jN, none⟩ (enc x)).drew = w2 at S2 ⊢
          clear ea ec
          go_wp2
          go_roundg (V1.length - (q + 1))
          case measure => omega
          case rel => exact ⟨q + 1, by rw [HK.out]; go_num, by omega, Nat.le_refl _, S2⟩
        · have e : q = V1.length := by omega
          subst e
          have hnz : ¬ (((a + V1.length : Nat) : Int) < (j : Int) - 1) := by have := hl1.out; omega
          have hnz' : (j : Int) - 1 ≤ ((a + V1.length : Nat) : Int) := by omega
          obtain ⟨k, hk⟩ : ∃ k : Nat, k = a + V1.length := ⟨_, rfl⟩
          rw [← hk] at hnz hnz'
          rw [← hk]
          clear hk
          go_wp2_with fail
          go_end0
          refine ⟨rfl, V1 ++ u :: V2, ?_, ?_⟩
          · rw [hVV.out]; exact st_one_left hw u (by rw [← hVV.out]; exact hV) PP.out.1 PP.out.2
          · have := S1.out
            simpa [mvR] using this

set_option maxHeartbeats 8000000 in
set_option maxRecDepth 1000000 in
theorem sym_right (enc : α → Value) (cf : α → α → Int) (g : Nat) (cb : Array Value) (blk off cap : Nat) (d0 : Array α) (w0 w : World) (L U : List α) (v : α) (T : List α)
    (eg : ∀ args w, (callFunc g args).run Tryz.prog w = .ok (.enter g args) w) (hcmp : CmpLays1 Tryz.prog g cb enc cf blk off d0.size w0) (hw : Wk (ltOf cf)) (R : Row1 enc w0 blk off d0) (hsz : d0.size ≤ 1048576)
    (hU : Asc (ltOf cf) U) (hU1 : U.length ≠ 1) (hs : d0.size = (L ++ U ++ [v] ++ T).length) (S : SW enc w0 blk off (L ++ U ++ [v] ++ T).toArray w) (a m b : Nat) (ha : a = L.length) (hm : m = L.length + U.length) (hb : b = L.length + U.length + 1) :
    Calls Tryz.prog 180 #[.slice (some ⟨blk, off, none⟩) d0.size cap, .int .i64 a, .int .i64 m, .int .i64 b, .func (.func g) #[] cb] w (SymPost enc cf blk off w0 L U [v] T) := by
  have hcl0 := R.hO.cells
  simp only [Value.cells] at hcl0
  have hst := R.hO.store Tryz.prog
  have mixed : Tryz.prog.follows .mixedOrders = true := by kernel_rfl
  have HC : Aside _ := hcmp
  clear hcmp
  have hbn : b ≤ d0.size := by rw [hs]; simp; omega
  have hbm : m + 1 ≤ b ∧ b ≤ m + 1 := by omega
  obtain ⟨hbm, hbm'⟩ := hbm
  have ham : a ≤ m := by omega
  have EA : Hid (a = L.length) := ha
  have EM : Hid (m = L.length + U.length) := hm
  have t0 : ((m : Int) - (a : Int) == 1) = false := by simp; omega
  have t0' : ¬ ((m : Int) - (a : Int) = 1) := by omega
  have t1 : ((b : Int) - (m : Int) == 1) = true := by simp; omega
  have t1' : (b : Int) - (m : Int) = 1 := by omega
  have hdk : ∃ dk : Array α, dk = (L ++ U ++ [v] ++ T).toArray := ⟨_, rfl⟩
  obtain ⟨dk, hdk⟩ := hdk
  have hsk : dk.size = d0.size := by rw [hdk, hs]; simp
  have S0 : Aside (SW enc w0 blk off dk w) := by rw [hdk]; exact S
  have DK : Hid _ := hdk
  have hau : dk[m]! = v := by
    have := get_at (L ++ U) v T (i := m) (by simp; omega)
    rw [hdk]; simpa using this
  have HAU : Hid _ := hau
  clear S ha hm hb hs hdk hau hU1
  go_enter Tryz.func180, Tryz.ntmps180
  go_wp2
  clear t0 t0' t1 t1'
  go_loopg [14, 15] (m - a) (fun kx s t wr => ∃ (i j : Nat), s = .int .i64 i ∧ t = .int .i64 j ∧ a ≤ i ∧ i ≤ j ∧ j ≤ m ∧ j - i ≤ kx ∧ Aside (Bin2 (ltOf cf) dk v a m i j) ∧ Aside (SW enc w0 blk off dk wr))
  case atStart => exact ⟨a, m, rfl, rfl, Nat.le_refl _, ham, Nat.le_refl _, Nat.le_refl _, ⟨Nat.le_refl _, ham, Nat.le_refl _, .inl rfl, .inl rfl⟩, S0⟩
  case round =>
    clear S0
    obtain ⟨i, j, rfl, rfl, hmi, hij, hjb, hkx, HB, S1⟩ := hrel
    by_cases hlt : i < j
    · have hltz : (i : Int) < (j : Int) := by omega
      obtain ⟨h, hh⟩ : ∃ h : Nat, h = (i + j) / 2 := ⟨_, rfl⟩
      have zh : ((i : Int) + (j : Int)) / 2 = (h : Int) := by omega
      have hh1 : i ≤ h ∧ h < j := by omega
      obtain ⟨hh1, hh2⟩ := hh1
      clear hh
      cases hlv : ltOf cf dk[m]! dk[h]! with
      | true =>
        obtain ⟨iN, hiN⟩ : ∃ q, q = m := ⟨_, rfl⟩
        obtain ⟨jN, hjN⟩ : ∃ q, q = h := ⟨_, rfl⟩
        have ea : ((m : Int)).toNat = iN := by omega
        have pa : (0 : Int) ≤ (m : Int) := by omega
        have ba : (m : Int) < (d0.size : Int) := by omega
        have ra : IntKind.i64.wrap ((m : Int)) = (m : Int) := by rw [IntKind.wrap_i64]; omega
        have ec : ((h : Int)).toNat = jN := by omega
        have pc : (0 : Int) ≤ (h : Int) := by omega
        have bc : (h : Int) < (d0.size : Int) := by omega
        have rc : IntKind.i64.wrap ((h : Int)) = (h : Int) := by rw [IntKind.wrap_i64]; omega
        obtain ⟨x, hx⟩ : ∃ x, x = dk[m]! := ⟨_, rfl⟩
        obtain ⟨y, hy⟩ : ∃ x, x = dk[h]! := ⟨_, rfl⟩
        have la := S1.out.cl R (by omega) (m) (by omega)
        have lb := S1.out.cl R (by omega) (h) (by omega)
        rw [← hx, ← hiN] at la
        rw [← hy, ← hjN] at lb
        have hc := S1.out.cmp HC.out (by omega) x y
        have hv : cf x y < 0 := by rw [hx, hy]; exact of_decide_eq_true hlv
        have hd : decide (cf x y < 0) = true := decide_eq_true hv
        have HLV : Hid _ := hlv
        clear hx hy hiN hjN hlv
        go_wp2_with fail
        go_quiet_grown (first | (go_at_fn g; refine Calls.grown_of (hc _ _)))
        have S2 : Aside (SW enc w0 blk off dk (grow (wr.drewN nq) osq)) := S1.out.grown nq osq
        clear la lb hc S1
        generalize grow (wr.drewN nq) osq = w2 at S2 ⊢
        clear nq osq ea ec
        go_wp2_with fail
        go_roundg (h - i)
        case measure => omega
        case rel => exact ⟨i, h, rfl, rfl, hmi, hh1, by omega, Nat.le_refl _, ⟨hmi, hh1, by omega, HB.out.2.2.2.1, .inr (by rw [← HAU.out]; exact HLV.out)⟩, S2⟩
      | false =>
        obtain ⟨iN, hiN⟩ : ∃ q, q = m := ⟨_, rfl⟩
        obtain ⟨jN, hjN⟩ : ∃ q, q = h := ⟨_, rfl⟩
        have ea : ((m : Int)).toNat = iN := by omega
        have pa : (0 : Int) ≤ (m : Int) := by omega
        have ba : (m : Int) < (d0.size : Int) := by omega
        have ra : IntKind.i64.wrap ((m : Int)) = (m : Int) := by rw [IntKind.wrap_i64]; omega
        have ec : ((h : Int)).toNat = jN := by omega
        have pc : (0 : Int) ≤ (h : Int) := by omega
        have bc : (h : Int) < (d0.size : Int) := by omega
        have rc : IntKind.i64.wrap ((h : Int)) = (h : Int) := by rw [IntKind.wrap_i64]; omega
        obtain ⟨x, hx⟩ : ∃ x, x = dk[m]! := ⟨_, rfl⟩
        obtain ⟨y, hy⟩ : ∃ x, x = dk[h]! := ⟨_, rfl⟩
        have la := S1.out.cl R (by omega) (m) (by omega)
        have lb := S1.out.cl R (by omega) (h) (by omega)
        rw [← hx, ← hiN] at la
        rw [← hy, ← hjN] at lb
        have hc := S1.out.cmp HC.out (by omega) x y
        have hv : ¬ cf x y < 0 := by rw [hx, hy]; exact of_decide_eq_false hlv
        have hd : decide (cf x y < 0) = false := decide_eq_false hv
        have HLV : Hid _ := hlv
        clear hx hy hiN hjN hlv
        go_wp2_with fail
        go_quiet_grown (first | (go_at_fn g; refine Calls.grown_of (hc _ _)))
        have S2 : Aside (SW enc w0 blk off dk (grow (wr.drewN nq) osq)) := S1.out.grown nq osq
        clear la lb hc S1
        generalize grow (wr.drewN nq) osq = w2 at S2 ⊢
        clear nq osq ea ec
        go_wp2_with fail
        go_roundg (j - (h + 1))
        case measure => omega
        case rel => exact ⟨h + 1, j, by go_num, rfl, by omega, by omega, hjb, Nat.le_refl _, ⟨by omega, by omega, hjb, .inr (by rw [Nat.add_sub_cancel, ← HAU.out]; exact HLV.out), HB.out.2.2.2.2⟩, S2⟩
    · obtain rfl : j = i := by omega
      have PT : Hid _ := Bin2.parts hw L U [v] T v hU (i := j) (by have := HB.out; rw [DK.out, EM.out, EA.out] at this; exact this)
      obtain ⟨V1, hV1⟩ : ∃ l, l = U.take (j - L.length) := ⟨_, rfl⟩
      obtain ⟨V2, hV2⟩ : ∃ l, l = U.drop (j - L.length) := ⟨_, rfl⟩
      have hVV : Hid (U = V1 ++ V2) := by rw [hV1, hV2]; exact (List.take_append_drop _ _).symm
      have hl1 : Hid (j + V2.length = m ∧ (L ++ V1).length = j) := by have := EM.out; have := EA.out; show _ ∧ _; rw [hV1, hV2]; simp; omega
      have PP : Hid ((∀ y ∈ V1, ltOf cf v y = false) ∧ (∀ y ∈ V2, ltOf cf v y = true)) := by rw [hV1, hV2]; exact PT.out
      have SZ : Aside (SW enc w0 blk off (mvR (L ++ V1) v V2 T V2.length).toArray wr) := show SW _ _ _ _ _ _ from by
        have := S1.out
        rw [DK.out, hVV.out] at this
        simpa [mvR] using this
      have hds : ∀ q, (mvR (L ++ V1) v V2 T q).toArray.size = d0.size := fun q => by
        rw [List.size_toArray, mvR_len, ← hsk, DK.out, hVV.out]; simp; omega
      clear hV1 hV2 HB PT S1 hsk HC
      go_wp2_with fail
      go_loopg [17] V2.length (fun kx s wr => ∃ (q : Nat), s = .int .i64 (j + q : Nat) ∧ q ≤ V2.length ∧ q ≤ kx ∧ Aside (SW enc w0 blk off (mvR (L ++ V1) v V2 T q).toArray wr))
      case atStart => exact ⟨V2.length, by rw [hl1.out.1], Nat.le_refl _, Nat.le_refl _, SZ⟩
      case round =>
        clear SZ
        obtain ⟨q, rfl, hq, hkx2, S1⟩ := hrel
        match q with
        | q' + 1 =>
          have hltz : (j : Int) < ((j + (q' + 1) : Nat) : Int) := by omega
          have hqb : j + (q' + 1) < d0.size := by have := hl1.out; omega
          have hd := hds (q' + 1)
          have ST : Aside _ := mvR_down (L ++ V1) v V2 T (q := q') (k := j + (q' + 1)) (k1 := j + (q' + 1) - 1) (by rw [hl1.out.2]) (by omega) (by omega)
          generalize (mvR (L ++ V1) v V2 T (q' + 1)).toArray = dk at S1 ST hd
          obtain ⟨k, hk⟩ : ∃ k : Nat, k = j + (q' + 1) := ⟨_, rfl⟩
          rw [← hk] at hltz hqb ST
          rw [← hk]
          have hk1 : 1 ≤ k := by omega
          have HK : Hid _ := hk
          clear hk
          go_wp2_with fail
          obtain ⟨iN, hiN⟩ : ∃ q, q = k := ⟨_, rfl⟩
          obtain ⟨jN, hjN⟩ : ∃ q, q = k - 1 := ⟨_, rfl⟩
          have ea : ((k : Int)).toNat = iN := by omega
          have pa : (0 : Int) ≤ (k : Int) := by omega
          have ba : (k : Int) < (d0.size : Int) := by omega
          have ra : IntKind.i64.wrap ((k : Int)) = (k : Int) := by rw [IntKind.wrap_i64]; omega
          have ec : ((k : Int) - 1).toNat = jN := by omega
          have pc : (0 : Int) ≤ (k : Int) - 1 := by omega
          have bc : (k : Int) - 1 < (d0.size : Int) := by omega
          have rc : IntKind.i64.wrap ((k : Int) - 1) = (k : Int) - 1 := by rw [IntKind.wrap_i64]; omega
          obtain ⟨x, hx⟩ : ∃ x, x = dk[k]! := ⟨_, rfl⟩
          obtain ⟨y, hy⟩ : ∃ x, x = dk[k - 1]! := ⟨_, rfl⟩
          have S2 : Aside (SW enc w0 blk off (swp dk (k) (k - 1)) ((wr.setCell ⟨blk, off + iN, none⟩ (enc y)).setCell ⟨blk, off + jN, none⟩ (enc x)).drew) := by rw [hiN, hjN, hx, hy]; exact S1.out.swapped R (k) (k - 1) (by omega) (by omega)
          have ca := S1.out.c1 R (by omega) (k) (by omega)
          have cc := S1.out.c1 R (by omega) (k - 1) (by omega)
          have fa := S1.out.f1 R (by omega) (k) (by omega)
          have fb := S1.out.f1 R (by omega) (k - 1) (by omega)
          obtain ⟨u0, cd⟩ := S1.out.c2 R (by omega) (k) (k - 1) (by omega) (by omega) (enc y)
          rw [← hjN, ← hiN] at cd
          rw [← hx, ← hiN] at ca
          rw [← hy, ← hjN] at cc
          rw [← hiN] at fa
          rw [← hjN] at fb
          rw [ST.out] at S2
          clear S1 hx hy hiN hjN ST hd
          go_wp2_with fail
          go_big_region_o
          clear ca cc cd fa fb
          generalize ((wr.setCell ⟨blk, off + iN, none⟩ (enc y)).setCell ⟨blk, off + jN, none⟩ (enc x)).drew = w2 at S2 ⊢
          clear ea ec
          go_wp2
          go_roundg q'
          case measure => omega
          case rel => exact ⟨q', by rw [HK.out]; congr 1; omega, by omega, Nat.le_refl _, S2⟩
        | 0 =>
          have hnz : ¬ ((j : Int) < ((j + 0 : Nat) : Int)) := by omega
          go_wp2_with fail
          go_end0
          refine ⟨rfl, V1 ++ v :: V2, ?_, ?_⟩
          · rw [hVV.out]; exact st_one_right hw v (by rw [← hVV.out]; exact hU) PP.out.1 PP.out.2
          · have := S1.out
            simpa [mvR] using this

end
end Go.Proofs.YtanfllednlpbaaaGreat

