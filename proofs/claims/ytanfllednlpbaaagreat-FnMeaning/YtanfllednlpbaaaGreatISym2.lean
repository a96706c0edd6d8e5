/-
  Contract of slices.symMergeCmpFunc at rows, whole: two sorted neighbours are merged, and those of which none is less keep their order.
-/
import Derived.Test.YtanfllednlpbaaaGreatISym
namespace Go.Proofs.YtanfllednlpbaaaGreat
open Go.Shelf Go.RowKit Go.Lib Go.Sort
set_option linter.unusedSimpArgs false
set_option linter.unusedVariables false

section
variable {α : Type} [Inhabited α]
/-- The contract, for neighbours of fewer than N places. -/
def SymAt (enc : α → Value) (cf : α → α → Int) (g : Nat) (cb : Array Value) (blk off cap : Nat) (d0 : Array α) (w0 : World) (N : Nat) : Prop :=
  ∀ (L U V T d : List α) (w : World) (a m b : Nat), d = L ++ U ++ V ++ T → U.length + V.length < N → 0 < U.length → 0 < V.length → Asc (ltOf cf) U → Asc (ltOf cf) V → d0.size = d.length → SW enc w0 blk off d.toArray w → a = L.length → m = L.length + U.length → b = L.length + U.length + V.length →
    Calls Tryz.prog 180 #[.slice (some ⟨blk, off, none⟩) d0.size cap, .int .i64 a, .int .i64 m, .int .i64 b, .func (.func g) #[] cb] w (SymPost enc cf blk off w0 L U V T)

set_option maxHeartbeats 32000000 in
set_option maxRecDepth 1000000 in
theorem sym_gen (enc : α → Value) (cf : α → α → Int) (g : Nat) (cb : Array Value) (blk off cap : Nat) (d0 : Array α) (w0 w : World) (L U V T : List α)
    (eg : ∀ args w, (callFunc g args).run Tryz.prog w = .ok (.enter g args) w) (hcmp : CmpLays1 Tryz.prog g cb enc cf blk off d0.size w0) (hw : Wk (ltOf cf)) (R : Row1 enc w0 blk off d0) (hsz : d0.size ≤ 1048576)
    (hU : Asc (ltOf cf) U) (hV : Asc (ltOf cf) V) (hU1 : 1 < U.length) (hV1 : 1 < V.length) (ih0 : SymAt enc cf g cb blk off cap d0 w0 (U.length + V.length)) (hs : d0.size = (L ++ U ++ V ++ T).length) (S : SW enc w0 blk off (L ++ U ++ V ++ T).toArray w) (a m b : Nat) (ha : a = L.length) (hm : m = L.length + U.length) (hb : b = L.length + U.length + V.length) (mid : Nat) (hmid : mid = (a + b) / 2) (big : Bool) (hbig : big = decide (mid < m)) :
    Calls Tryz.prog 180 #[.slice (some ⟨blk, off, none⟩) d0.size cap, .int .i64 a, .int .i64 m, .int .i64 b, .func (.func g) #[] cb] w (SymPost enc cf blk off w0 L U V T) := by
  have hcl0 := R.hO.cells
  simp only [Value.cells] at hcl0
  have hst := R.hO.store Tryz.prog
  have mixed : Tryz.prog.follows .mixedOrders = true := by kernel_rfl
  have HC : Aside _ := hcmp
  clear hcmp
  have ih : Aside _ := ih0
  have hbn : b ≤ d0.size := by rw [hs]; simp; omega
  have EA : Hid (a = L.length) := ha
  have EM : Hid (m = L.length + U.length) := hm
  have EB : Hid (b = L.length + U.length + V.length) := hb
  have MID : Hid _ := hmid
  have bd : a + 2 ≤ m ∧ m + 2 ≤ b ∧ a + b ≤ 2 * mid + 1 ∧ 2 * mid ≤ a + b := by omega
  obtain ⟨bd1, bd2, bd3, bd4⟩ := bd
  have t0 : ((m : Int) - (a : Int) == 1) = false := by simp; omega
  have t0' : ¬ ((m : Int) - (a : Int) = 1) := by omega
  have t1 : ((b : Int) - (m : Int) == 1) = false := by simp; omega
  have t1' : ¬ ((b : Int) - (m : Int) = 1) := by omega
  have zm : ((a : Int) + (b : Int)) / 2 = (mid : Int) := by omega
  have hdk : ∃ dk : Array α, dk = (L ++ U ++ V ++ T).toArray := ⟨_, rfl⟩
  obtain ⟨dk, hdk⟩ := hdk
  have hsk : dk.size = d0.size := by rw [hdk, hs]; simp
  have S0 : Aside (SW enc w0 blk off dk w) := by rw [hdk]; exact S
  have DK : Hid _ := hdk
  have HS : Hid _ := hs
  have hlo : (big = true → mid < m ∧ loOf a m b = mid + m - b ∧ hiOf a m b = mid) ∧ (big = false → m ≤ mid ∧ loOf a m b = a ∧ hiOf a m b = m) := by
    rw [hbig]; unfold loOf hiOf; rw [← hmid]
    constructor
    · intro h; have := of_decide_eq_true h; simp [this]
    · intro h; have := of_decide_eq_false h; simp [this]; omega
  have hlh : loOf a m b ≤ hiOf a m b := by
    cases big
    · have := hlo.2 rfl; omega
    · have := hlo.1 rfl; omega
  have hhi : hiOf a m b ≤ m ∧ hiOf a m b ≤ mid := by
    cases big
    · have := hlo.2 rfl; omega
    · have := hlo.1 rfl; omega
  have hlo2 : a ≤ loOf a m b ∧ mid + m ≤ loOf a m b + b := by
    cases big
    · have := hlo.2 rfl; omega
    · have := hlo.1 rfl; omega
  obtain ⟨hh1, hh2⟩ := hhi
  obtain ⟨hh3, hh4⟩ := hlo2
  have ST : Aside (CutAt (ltOf cf) dk a m b (loOf a m b) (hiOf a m b)) := ⟨Nat.le_refl _, hlh, Nat.le_refl _, .inl rfl, .inl rfl⟩
  have HLO : Hid _ := hlo
  obtain ⟨lo, elo⟩ : ∃ q, q = loOf a m b := ⟨_, rfl⟩
  obtain ⟨hi, ehi⟩ : ∃ q, q = hiOf a m b := ⟨_, rfl⟩
  rw [← elo] at hlh hh3 hh4 ST HLO
  rw [← ehi] at hlh hh1 hh2 ST HLO
  have ELO : Hid _ := elo
  have EHI : Hid _ := ehi
  clear S ha hm hb hs hdk hU1 hV1 hmid hbig hlo ih0 elo ehi
  go_enter Tryz.func180, Tryz.ntmps180
  cases big
  all_goals
    obtain ⟨g1, g2, g3⟩ := (by first | exact HLO.out.2 rfl | exact HLO.out.1 rfl)
    first
    | have g1z : decide ((mid : Int) < (m : Int)) = false ∧ decide (mid < m) = false := ⟨decide_eq_false (by omega), decide_eq_false (by omega)⟩
    | have g1z : decide ((mid : Int) < (m : Int)) = true ∧ decide (mid < m) = true := ⟨decide_eq_true (by omega), decide_eq_true (by omega)⟩
    obtain ⟨g1z, g1y⟩ := g1z
    have G2 : Hid _ := g2
    have G3 : Hid _ := g3
    clear HLO g2 g3
    go_wp2_with fail
    clear t0 t0' t1 t1' zm
    go_loopg [20, 21] (hi - lo) (fun kx s t wr => ∃ (i j : Nat), s = .int .i64 i ∧ t = .int .i64 j ∧ lo ≤ i ∧ i ≤ j ∧ j ≤ hi ∧ j - i ≤ kx ∧ Aside (CutAt (ltOf cf) dk a m b i j) ∧ Aside (SW enc w0 blk off dk wr))
    case atStart => exact ⟨lo, hi, by first | (rw [G2.out]; done) | (rw [G2.out]; congr 1; omega), by rw [G3.out], Nat.le_refl _, hlh, Nat.le_refl _, Nat.le_refl _, ST, S0⟩
    case round =>
      clear S0 ST
      obtain ⟨i, j, rfl, rfl, hmi, hij, hjb, hkx, HB, S1⟩ := hrel
      by_cases hlt : i < j
      · have hltz : (i : Int) < (j : Int) := by omega
        obtain ⟨h, hh⟩ : ∃ h : Nat, h = (i + j) / 2 := ⟨_, rfl⟩
        have zh : ((i : Int) + (j : Int)) / 2 = (h : Int) := by omega
        have hh1 : i ≤ h ∧ h < j := by omega
        obtain ⟨hh1, hh2⟩ := hh1
        clear hh
        have HB2 : Hid _ := HB.out
        unfold CutAt at HB2
        rw [← ELO.out, ← EHI.out, ← MID.out] at HB2
        clear HB
        obtain ⟨pN, hpN⟩ : ∃ q : Nat, q = mid + m - 1 - h := ⟨_, rfl⟩
        have zp : (mid : Int) + (m : Int) - 1 - (h : Int) = (pN : Int) := by omega
        have hpn : pN < d0.size := by omega
        have PN : Hid _ := hpN
        clear hpN
        cases hlv : ltOf cf dk[pN]! dk[h]! with
        | true =>
          obtain ⟨iN, hiN⟩ : ∃ q, q = pN := ⟨_, rfl⟩
          obtain ⟨jN, hjN⟩ : ∃ q, q = h := ⟨_, rfl⟩
          have ea : ((pN : Int)).toNat = iN := by omega
          have pa : (0 : Int) ≤ (pN : Int) := by omega
          have ba : (pN : Int) < (d0.size : Int) := by omega
          have ra : IntKind.i64.wrap ((pN : Int)) = (pN : Int) := by rw [IntKind.wrap_i64]; omega
          have ec : ((h : Int)).toNat = jN := by omega
          have pc : (0 : Int) ≤ (h : Int) := by omega
          have bc : (h : Int) < (d0.size : Int) := by omega
          have rc : IntKind.i64.wrap ((h : Int)) = (h : Int) := by rw [IntKind.wrap_i64]; omega
          obtain ⟨x, hx⟩ : ∃ x, x = dk[pN]! := ⟨_, rfl⟩
          obtain ⟨y, hy⟩ : ∃ x, x = dk[h]! := ⟨_, rfl⟩
          have la := S1.out.cl R (by omega) (pN) (by omega)
          have lb := S1.out.cl R (by omega) (h) (by omega)
          rw [← hx, ← hiN] at la
          rw [← hy, ← hjN] at lb
          have hc := S1.out.cmp HC.out (by omega) x y
          have hv : cf x y < 0 := by rw [hx, hy]; exact of_decide_eq_true hlv
          have hd : decide (cf x y < 0) = true := decide_eq_true hv
          have HLV : Hid _ := hlv
          clear hx hy hiN hjN hlv
          go_wp2_with fail
          go_quiet_grown (first | (go_at_fn g; refine Calls.grown_of (hc _ _)))
          have S2 : Aside (SW enc w0 blk off dk (grow (wr.drewN nq) osq)) := S1.out.grown nq osq
          clear la lb hc S1
          generalize grow (wr.drewN nq) osq = w2 at S2 ⊢
          clear nq osq ea ec
          go_wp2_with fail
          go_roundg (h - i)
          case measure => omega
          case rel =>
            refine ⟨i, h, rfl, rfl, hmi, hh1, by omega, Nat.le_refl _, ?_, S2⟩
            show CutAt _ _ _ _ _ _ _
            unfold CutAt
            rw [← ELO.out, ← EHI.out, ← MID.out]
            exact ⟨hmi, hh1, by omega, HB2.out.2.2.2.1, .inr (by rw [← PN.out]; exact HLV.out)⟩
        | false =>
          obtain ⟨iN, hiN⟩ : ∃ q, q = pN := ⟨_, rfl⟩
          obtain ⟨jN, hjN⟩ : ∃ q, q = h := ⟨_, rfl⟩
          have ea : ((pN : Int)).toNat = iN := by omega
          have pa : (0 : Int) ≤ (pN : Int) := by omega
          have ba : (pN : Int) < (d0.size : Int) := by omega
          have ra : IntKind.i64.wrap ((pN : Int)) = (pN : Int) := by rw [IntKind.wrap_i64]; omega
          have ec : ((h : Int)).toNat = jN := by omega
          have pc : (0 : Int) ≤ (h : Int) := by omega
          have bc : (h : Int) < (d0.size : Int) := by omega
          have rc : IntKind.i64.wrap ((h : Int)) = (h : Int) := by rw [IntKind.wrap_i64]; omega
          obtain ⟨x, hx⟩ : ∃ x, x = dk[pN]! := ⟨_, rfl⟩
          obtain ⟨y, hy⟩ : ∃ x, x = dk[h]! := ⟨_, rfl⟩
          have la := S1.out.cl R (by omega) (pN) (by omega)
          have lb := S1.out.cl R (by omega) (h) (by omega)
          rw [← hx, ← hiN] at la
          rw [← hy, ← hjN] at lb
          have hc := S1.out.cmp HC.out (by omega) x y
          have hv : ¬ cf x y < 0 := by rw [hx, hy]; exact of_decide_eq_false hlv
          have hd : decide (cf x y < 0) = false := decide_eq_false hv
          have HLV : Hid _ := hlv
          clear hx hy hiN hjN hlv
          go_wp2_with fail
          go_quiet_grown (first | (go_at_fn g; refine Calls.grown_of (hc _ _)))
          have S2 : Aside (SW enc w0 blk off dk (grow (wr.drewN nq) osq)) := S1.out.grown nq osq
          clear la lb hc S1
          generalize grow (wr.drewN nq) osq = w2 at S2 ⊢
          clear nq osq ea ec
          go_wp2_with fail
          go_roundg (j - (h + 1))
          case measure => omega
          case rel =>
            refine ⟨h + 1, j, by go_num, rfl, by omega, by omega, hjb, Nat.le_refl _, ?_, S2⟩
            show CutAt _ _ _ _ _ _ _
            unfold CutAt
            rw [← ELO.out, ← EHI.out, ← MID.out]
            exact ⟨by omega, by omega, hjb, .inr (by rw [Nat.add_sub_cancel, ← PN.out]; exact HLV.out), HB2.out.2.2.2.2⟩
      · obtain rfl : j = i := by omega
        obtain ⟨s, hsj⟩ : ∃ s, s = j := ⟨_, rfl⟩
        subst hsj
        have CU := cut_parts hw L U V T (a := a) (m := m) (b := b) (s := s) EA.out EM.out EB.out hU hV (by rw [← DK.out]; exact HB.out) (by have := EM.out; have := EA.out; omega) (by have := EM.out; have := EB.out; omega)
        rw [← MID.out] at CU
        obtain ⟨e, he⟩ : ∃ e : Nat, e = mid + m - s := ⟨_, rfl⟩
        rw [← he] at CU
        obtain ⟨k1, k2, k3, k4, k5, k6, k7⟩ := CU
        obtain ⟨U1, hU1⟩ : ∃ l, l = U.take (s - a) := ⟨_, rfl⟩
        obtain ⟨U2, hU2⟩ : ∃ l, l = U.drop (s - a) := ⟨_, rfl⟩
        obtain ⟨V1, hV1⟩ : ∃ l, l = V.take (e - m) := ⟨_, rfl⟩
        obtain ⟨V2, hV2⟩ : ∃ l, l = V.drop (e - m) := ⟨_, rfl⟩
        have EU : Hid (U = U1 ++ U2) := by rw [hU1, hU2]; exact (List.take_append_drop _ _).symm
        have EV : Hid (V = V1 ++ V2) := by rw [hV1, hV2]; exact (List.take_append_drop _ _).symm
        have CP : Hid ((∀ x ∈ U2, ∀ y ∈ V1, ltOf cf y x = true) ∧ (∀ x ∈ U1, ∀ y ∈ V2, ltOf cf y x = false)) := by rw [hU1, hU2, hV1, hV2]; exact ⟨k6, k7⟩
        have HA : Hid (Asc (ltOf cf) U1 ∧ Asc (ltOf cf) U2 ∧ Asc (ltOf cf) V1 ∧ Asc (ltOf cf) V2) :=
          ⟨(show Asc _ (U1 ++ U2) by rw [← EU.out]; exact hU).left, (show Asc _ (U1 ++ U2) by rw [← EU.out]; exact hU).right, (show Asc _ (V1 ++ V2) by rw [← EV.out]; exact hV).left, (show Asc _ (V1 ++ V2) by rw [← EV.out]; exact hV).right⟩
        have LU : Hid (U1.length + a = s ∧ U2.length + s = m ∧ V1.length + m = e ∧ V2.length + e = b ∧ a = L.length ∧ U.length = U1.length + U2.length ∧ V.length = V1.length + V2.length) := by
          have x1 := EA.out; have x2 := EM.out; have x3 := EB.out
          have x4 := congrArg List.length EU.out; have x5 := congrArg List.length EV.out
          simp at x4 x5
          have x6 : U1.length = s - a := by rw [hU1]; simp; omega
          have x7 : V1.length = e - m := by rw [hV1]; simp; omega
          show _ ∧ _ ∧ _ ∧ _ ∧ _ ∧ _ ∧ _
          omega
        have ze : (mid : Int) + (m : Int) - (s : Int) = (e : Int) := by omega
        have hse : s + e ≤ mid + m ∧ mid + m ≤ s + e := by omega
        obtain ⟨hse, hse'⟩ := hse
        have SB : Hid (SW enc w0 blk off dk wr) := S1.out
        have hns : ¬ ((s : Int) < (s : Int)) := by omega
        clear hU1 hU2 hV1 hV2 k6 k7 he HB S1 HC hlt hij
        by_cases c1 : s < m
        · by_cases c2 : m < e
          · by_cases c3 : a < s
            · by_cases c4 : e < b
              · -- all three
                have q1 : (s : Int) < (m : Int) := by omega
                have q2 : (m : Int) < (e : Int) := by omega
                have q3 : (a : Int) < (s : Int) := by omega
                have q4 : (s : Int) < (mid : Int) := by omega
                have q5 : (mid : Int) < (e : Int) := by omega
                have q6 : (e : Int) < (b : Int) := by omega
                go_wp2_with fail
                refine (rotate_s enc g cb blk off cap d0 w0 _ (L ++ U1) U2 V1 (V2 ++ T) R (by have := HS.out; have := LU.out; show _ = _; rw [HS.out, EU.out, EV.out]; simp <;> omega) (by have := SB.out; rw [DK.out, EU.out, EV.out] at this; simpa using this) (by have := LU.out; omega) (by have := LU.out; omega) s m e (by have := LU.out; simp; omega) (by have := LU.out; simp; omega) (by have := LU.out; simp; omega) hsz).mono ?_
                rintro r w1 ⟨rfl, s1⟩
                have S1 : Hid (SW enc w0 blk off (L ++ U1 ++ V1 ++ (U2 ++ V2 ++ T)).toArray w1) := show SW _ _ _ _ _ _ from by simpa using s1
                clear s1 SB q1 q2
                go_wp2_with fail
                refine (ih.out L U1 V1 (U2 ++ V2 ++ T) _ _ a s mid rfl (by have := LU.out; omega) (by have := LU.out; omega) (by have := LU.out; omega) HA.out.1 HA.out.2.2.1 (by have := LU.out; show _ = _; rw [HS.out, EU.out, EV.out]; simp <;> omega) S1.out EA.out (by have := LU.out; omega) (by have := LU.out; omega)).mono ?_
                rintro r w2 ⟨rfl, Z1, z1, s2⟩
                have ZA : Hid (St (ltOf cf) Z1 (U1 ++ V1)) := z1
                have S2 : Hid (SW enc w0 blk off (L ++ Z1 ++ (U2 ++ V2 ++ T)).toArray w2) := s2
                clear z1 s2 S1 q3 q4
                go_wp2_with fail
                refine (ih.out (L ++ Z1) U2 V2 T _ _ mid e b rfl (by have := LU.out; omega) (by have := LU.out; omega) (by have := LU.out; omega) HA.out.2.1 HA.out.2.2.2 (by have := LU.out; have := ZA.out.len; show _ = _; rw [HS.out, EU.out, EV.out]; simp at this ⊢; omega) (by have := S2.out; simpa using this) (by have := LU.out; have := ZA.out.len; simp at this ⊢; omega) (by have := LU.out; have := ZA.out.len; simp at this ⊢; omega) (by have := LU.out; have := ZA.out.len; simp at this ⊢; omega)).mono ?_
                rintro r w3 ⟨rfl, Z2, z2, s3⟩
                have ZB : Hid (St (ltOf cf) Z2 (U2 ++ V2)) := z2
                have S3 : Hid (SW enc w0 blk off (L ++ Z1 ++ Z2 ++ T).toArray w3) := s3
                clear z2 s3 S2
                go_wp2_with fail
                go_end0
                refine ⟨rfl, Z1 ++ Z2, ?_, by have := S3.out; simpa using this⟩
                rw [EU.out, EV.out]
                exact st_merge hw (by rw [← EU.out]; exact hU) (by rw [← EV.out]; exact hV) CP.out.1 CP.out.2 ZA.out ZB.out
              · -- no right half
                have q1 : (s : Int) < (m : Int) := by omega
                have q2 : (m : Int) < (e : Int) := by omega
                have q3 : (a : Int) < (s : Int) := by omega
                have q4 : (s : Int) < (mid : Int) := by omega
                have q5 : (mid : Int) < (e : Int) := by omega
                have q6 : ¬ ((e : Int) < (b : Int)) := by omega
                have q6' : (b : Int) ≤ (e : Int) := by omega
                go_wp2_with fail
                refine (rotate_s enc g cb blk off cap d0 w0 _ (L ++ U1) U2 V1 (V2 ++ T) R (by have := HS.out; have := LU.out; show _ = _; rw [HS.out, EU.out, EV.out]; simp <;> omega) (by have := SB.out; rw [DK.out, EU.out, EV.out] at this; simpa using this) (by have := LU.out; omega) (by have := LU.out; omega) s m e (by have := LU.out; simp; omega) (by have := LU.out; simp; omega) (by have := LU.out; simp; omega) hsz).mono ?_
                rintro r w1 ⟨rfl, s1⟩
                have S1 : Hid (SW enc w0 blk off (L ++ U1 ++ V1 ++ (U2 ++ V2 ++ T)).toArray w1) := show SW _ _ _ _ _ _ from by simpa using s1
                clear s1 SB q1 q2
                go_wp2_with fail
                refine (ih.out L U1 V1 (U2 ++ V2 ++ T) _ _ a s mid rfl (by have := LU.out; omega) (by have := LU.out; omega) (by have := LU.out; omega) HA.out.1 HA.out.2.2.1 (by have := LU.out; show _ = _; rw [HS.out, EU.out, EV.out]; simp <;> omega) S1.out EA.out (by have := LU.out; omega) (by have := LU.out; omega)).mono ?_
                rintro r w2 ⟨rfl, Z1, z1, s2⟩
                have ZA : Hid (St (ltOf cf) Z1 (U1 ++ V1)) := z1
                have S2 : Hid (SW enc w0 blk off (L ++ Z1 ++ (U2 ++ V2 ++ T)).toArray w2) := s2
                clear z1 s2 S1 q3 q4
                go_wp2_with fail
                have E2 : V2 = [] := List.eq_nil_of_length_eq_zero (by have := LU.out; omega)
                obtain ⟨Z2, hZ2⟩ : ∃ Z, Z = U2 ++ V2 := ⟨_, rfl⟩
                have ZB : Hid (St (ltOf cf) Z2 (U2 ++ V2)) := by rw [hZ2]; exact St.refl (by rw [E2]; simpa using HA.out.2.1)
                have S3 : Hid (SW enc w0 blk off (L ++ Z1 ++ Z2 ++ T).toArray _) := show SW _ _ _ _ _ _ from by have := S2.out; rw [hZ2]; simpa using this
                go_end0
                refine ⟨rfl, Z1 ++ Z2, ?_, by have := S3.out; simpa using this⟩
                rw [EU.out, EV.out]
                exact st_merge hw (by rw [← EU.out]; exact hU) (by rw [← EV.out]; exact hV) CP.out.1 CP.out.2 ZA.out ZB.out
            · by_cases c4 : e < b
              · -- no left half
                have q1 : (s : Int) < (m : Int) := by omega
                have q2 : (m : Int) < (e : Int) := by omega
                have q3 : ¬ ((a : Int) < (s : Int)) := by omega
                have q3' : (s : Int) ≤ (a : Int) := by omega
                have q5 : (mid : Int) < (e : Int) := by omega
                have q6 : (e : Int) < (b : Int) := by omega
                go_wp2_with fail
                refine (rotate_s enc g cb blk off cap d0 w0 _ (L ++ U1) U2 V1 (V2 ++ T) R (by have := HS.out; have := LU.out; show _ = _; rw [HS.out, EU.out, EV.out]; simp <;> omega) (by have := SB.out; rw [DK.out, EU.out, EV.out] at this; simpa using this) (by have := LU.out; omega) (by have := LU.out; omega) s m e (by have := LU.out; simp; omega) (by have := LU.out; simp; omega) (by have := LU.out; simp; omega) hsz).mono ?_
                rintro r w1 ⟨rfl, s1⟩
                have S1 : Hid (SW enc w0 blk off (L ++ U1 ++ V1 ++ (U2 ++ V2 ++ T)).toArray w1) := show SW _ _ _ _ _ _ from by simpa using s1
                clear s1 SB q1 q2
                go_wp2_with fail
                have E1 : U1 = [] := List.eq_nil_of_length_eq_zero (by have := LU.out; omega)
                obtain ⟨Z1, hZ1⟩ : ∃ Z, Z = U1 ++ V1 := ⟨_, rfl⟩
                have ZA : Hid (St (ltOf cf) Z1 (U1 ++ V1)) := by rw [hZ1]; exact St.refl (by rw [E1]; simpa using HA.out.2.2.1)
                have S2 : Hid (SW enc w0 blk off (L ++ Z1 ++ (U2 ++ V2 ++ T)).toArray _) := show SW _ _ _ _ _ _ from by have := S1.out; rw [hZ1]; simpa using this
                clear S1 E1 hZ1
                refine (ih.out (L ++ Z1) U2 V2 T _ _ mid e b rfl (by have := LU.out; omega) (by have := LU.out; omega) (by have := LU.out; omega) HA.out.2.1 HA.out.2.2.2 (by have := LU.out; have := ZA.out.len; show _ = _; rw [HS.out, EU.out, EV.out]; simp at this ⊢; omega) (by have := S2.out; simpa using this) (by have := LU.out; have := ZA.out.len; simp at this ⊢; omega) (by have := LU.out; have := ZA.out.len; simp at this ⊢; omega) (by have := LU.out; have := ZA.out.len; simp at this ⊢; omega)).mono ?_
                rintro r w3 ⟨rfl, Z2, z2, s3⟩
                have ZB : Hid (St (ltOf cf) Z2 (U2 ++ V2)) := z2
                have S3 : Hid (SW enc w0 blk off (L ++ Z1 ++ Z2 ++ T).toArray w3) := s3
                clear z2 s3 S2
                go_wp2_with fail
                go_end0
                refine ⟨rfl, Z1 ++ Z2, ?_, by have := S3.out; simpa using this⟩
                rw [EU.out, EV.out]
                exact st_merge hw (by rw [← EU.out]; exact hU) (by rw [← EV.out]; exact hV) CP.out.1 CP.out.2 ZA.out ZB.out
              · -- neither
                have q1 : (s : Int) < (m : Int) := by omega
                have q2 : (m : Int) < (e : Int) := by omega
                have q3 : ¬ ((a : Int) < (s : Int)) := by omega
                have q3' : (s : Int) ≤ (a : Int) := by omega
                have q5 : (mid : Int) < (e : Int) := by omega
                have q6 : ¬ ((e : Int) < (b : Int)) := by omega
                have q6' : (b : Int) ≤ (e : Int) := by omega
                go_wp2_with fail
                refine (rotate_s enc g cb blk off cap d0 w0 _ (L ++ U1) U2 V1 (V2 ++ T) R (by have := HS.out; have := LU.out; show _ = _; rw [HS.out, EU.out, EV.out]; simp <;> omega) (by have := SB.out; rw [DK.out, EU.out, EV.out] at this; simpa using this) (by have := LU.out; omega) (by have := LU.out; omega) s m e (by have := LU.out; simp; omega) (by have := LU.out; simp; omega) (by have := LU.out; simp; omega) hsz).mono ?_
                rintro r w1 ⟨rfl, s1⟩
                have S1 : Hid (SW enc w0 blk off (L ++ U1 ++ V1 ++ (U2 ++ V2 ++ T)).toArray w1) := show SW _ _ _ _ _ _ from by simpa using s1
                clear s1 SB q1 q2
                go_wp2_with fail
                have E1 : U1 = [] := List.eq_nil_of_length_eq_zero (by have := LU.out; omega)
                obtain ⟨Z1, hZ1⟩ : ∃ Z, Z = U1 ++ V1 := ⟨_, rfl⟩
                have ZA : Hid (St (ltOf cf) Z1 (U1 ++ V1)) := by rw [hZ1]; exact St.refl (by rw [E1]; simpa using HA.out.2.2.1)
                have S2 : Hid (SW enc w0 blk off (L ++ Z1 ++ (U2 ++ V2 ++ T)).toArray _) := show SW _ _ _ _ _ _ from by have := S1.out; rw [hZ1]; simpa using this
                clear S1 E1 hZ1
                have E2 : V2 = [] := List.eq_nil_of_length_eq_zero (by have := LU.out; omega)
                obtain ⟨Z2, hZ2⟩ : ∃ Z, Z = U2 ++ V2 := ⟨_, rfl⟩
                have ZB : Hid (St (ltOf cf) Z2 (U2 ++ V2)) := by rw [hZ2]; exact St.refl (by rw [E2]; simpa using HA.out.2.1)
                have S3 : Hid (SW enc w0 blk off (L ++ Z1 ++ Z2 ++ T).toArray _) := show SW _ _ _ _ _ _ from by have := S2.out; rw [hZ2]; simpa using this
                go_end0
                refine ⟨rfl, Z1 ++ Z2, ?_, by have := S3.out; simpa using this⟩
                rw [EU.out, EV.out]
                exact st_merge hw (by rw [← EU.out]; exact hU) (by rw [← EV.out]; exact hV) CP.out.1 CP.out.2 ZA.out ZB.out
          · -- no turn: s is the middle
            have q1 : (s : Int) < (m : Int) := by omega
            have q2 : ¬ ((m : Int) < (e : Int)) := by omega
            have q2' : (e : Int) ≤ (m : Int) := by omega
            have q3 : (a : Int) < (s : Int) := by omega
            have q4 : ¬ ((s : Int) < (mid : Int)) := by omega
            have q4' : (mid : Int) ≤ (s : Int) := by omega
            have q5 : (mid : Int) < (e : Int) := by omega
            have q6 : (e : Int) < (b : Int) := by omega
            go_wp2_with fail
            have E0 : V1 = [] := List.eq_nil_of_length_eq_zero (by have := LU.out; omega)
            have S1 : Hid (SW enc w0 blk off (L ++ U1 ++ V1 ++ (U2 ++ V2 ++ T)).toArray _) := show SW _ _ _ _ _ _ from by have := SB.out; rw [DK.out, EU.out, EV.out] at this; rw [E0] at this ⊢; simpa using this
            clear SB E0
            have E1 : V1 = [] := List.eq_nil_of_length_eq_zero (by have := LU.out; omega)
            obtain ⟨Z1, hZ1⟩ : ∃ Z, Z = U1 ++ V1 := ⟨_, rfl⟩
            have ZA : Hid (St (ltOf cf) Z1 (U1 ++ V1)) := by rw [hZ1]; exact St.refl (by rw [E1]; simpa using HA.out.1)
            have S2 : Hid (SW enc w0 blk off (L ++ Z1 ++ (U2 ++ V2 ++ T)).toArray _) := show SW _ _ _ _ _ _ from by have := S1.out; rw [hZ1]; simpa using this
            clear S1 E1 hZ1
            refine (ih.out (L ++ Z1) U2 V2 T _ _ mid e b rfl (by have := LU.out; omega) (by have := LU.out; omega) (by have := LU.out; omega) HA.out.2.1 HA.out.2.2.2 (by have := LU.out; have := ZA.out.len; show _ = _; rw [HS.out, EU.out, EV.out]; simp at this ⊢; omega) (by have := S2.out; simpa using this) (by have := LU.out; have := ZA.out.len; simp at this ⊢; omega) (by have := LU.out; have := ZA.out.len; simp at this ⊢; omega) (by have := LU.out; have := ZA.out.len; simp at this ⊢; omega)).mono ?_
            rintro r w3 ⟨rfl, Z2, z2, s3⟩
            have ZB : Hid (St (ltOf cf) Z2 (U2 ++ V2)) := z2
            have S3 : Hid (SW enc w0 blk off (L ++ Z1 ++ Z2 ++ T).toArray w3) := s3
            clear z2 s3 S2
            go_wp2_with fail
            go_end0
            refine ⟨rfl, Z1 ++ Z2, ?_, by have := S3.out; simpa using this⟩
            rw [EU.out, EV.out]
            exact st_merge hw (by rw [← EU.out]; exact hU) (by rw [← EV.out]; exact hV) CP.out.1 CP.out.2 ZA.out ZB.out
        · first
          | (exfalso; omega)
          | by_cases c3 : s < mid
            · -- no turn, the left half
              have q1 : ¬ ((s : Int) < (m : Int)) := by omega
              have q1' : (m : Int) ≤ (s : Int) := by omega
              have q3 : (a : Int) < (s : Int) := by omega
              have q4 : (s : Int) < (mid : Int) := by omega
              have q5 : ¬ ((mid : Int) < (e : Int)) := by omega
              have q5' : (e : Int) ≤ (mid : Int) := by omega
              go_wp2_with fail
              have E0 : U2 = [] := List.eq_nil_of_length_eq_zero (by have := LU.out; omega)
              have S1 : Hid (SW enc w0 blk off (L ++ U1 ++ V1 ++ (U2 ++ V2 ++ T)).toArray _) := show SW _ _ _ _ _ _ from by have := SB.out; rw [DK.out, EU.out, EV.out] at this; rw [E0] at this ⊢; simpa using this
              clear SB E0
              refine (ih.out L U1 V1 (U2 ++ V2 ++ T) _ _ a s mid rfl (by have := LU.out; omega) (by have := LU.out; omega) (by have := LU.out; omega) HA.out.1 HA.out.2.2.1 (by have := LU.out; show _ = _; rw [HS.out, EU.out, EV.out]; simp <;> omega) S1.out EA.out (by have := LU.out; omega) (by have := LU.out; omega)).mono ?_
              rintro r w2 ⟨rfl, Z1, z1, s2⟩
              have ZA : Hid (St (ltOf cf) Z1 (U1 ++ V1)) := z1
              have S2 : Hid (SW enc w0 blk off (L ++ Z1 ++ (U2 ++ V2 ++ T)).toArray w2) := s2
              clear z1 s2 S1 q3 q4
              go_wp2_with fail
              have E2 : U2 = [] := List.eq_nil_of_length_eq_zero (by have := LU.out; omega)
              obtain ⟨Z2, hZ2⟩ : ∃ Z, Z = U2 ++ V2 := ⟨_, rfl⟩
              have ZB : Hid (St (ltOf cf) Z2 (U2 ++ V2)) := by rw [hZ2]; exact St.refl (by rw [E2]; simpa using HA.out.2.2.2)
              have S3 : Hid (SW enc w0 blk off (L ++ Z1 ++ Z2 ++ T).toArray _) := show SW _ _ _ _ _ _ from by have := S2.out; rw [hZ2]; simpa using this
              go_end0
              refine ⟨rfl, Z1 ++ Z2, ?_, by have := S3.out; simpa using this⟩
              rw [EU.out, EV.out]
              exact st_merge hw (by rw [← EU.out]; exact hU) (by rw [← EV.out]; exact hV) CP.out.1 CP.out.2 ZA.out ZB.out
            · -- no turn, nothing
              have q1 : ¬ ((s : Int) < (m : Int)) := by omega
              have q1' : (m : Int) ≤ (s : Int) := by omega
              have q3 : (a : Int) < (s : Int) := by omega
              have q4 : ¬ ((s : Int) < (mid : Int)) := by omega
              have q4' : (mid : Int) ≤ (s : Int) := by omega
              have q5 : ¬ ((mid : Int) < (e : Int)) := by omega
              have q5' : (e : Int) ≤ (mid : Int) := by omega
              go_wp2_with fail
              have E0 : U2 = [] := List.eq_nil_of_length_eq_zero (by have := LU.out; omega)
              have S1 : Hid (SW enc w0 blk off (L ++ U1 ++ V1 ++ (U2 ++ V2 ++ T)).toArray _) := show SW _ _ _ _ _ _ from by have := SB.out; rw [DK.out, EU.out, EV.out] at this; rw [E0] at this ⊢; simpa using this
              clear SB E0
              have E1 : V1 = [] := List.eq_nil_of_length_eq_zero (by have := LU.out; omega)
              obtain ⟨Z1, hZ1⟩ : ∃ Z, Z = U1 ++ V1 := ⟨_, rfl⟩
              have ZA : Hid (St (ltOf cf) Z1 (U1 ++ V1)) := by rw [hZ1]; exact St.refl (by rw [E1]; simpa using HA.out.1)
              have S2 : Hid (SW enc w0 blk off (L ++ Z1 ++ (U2 ++ V2 ++ T)).toArray _) := show SW _ _ _ _ _ _ from by have := S1.out; rw [hZ1]; simpa using this
              clear S1 E1 hZ1
              have E2 : U2 = [] := List.eq_nil_of_length_eq_zero (by have := LU.out; omega)
              obtain ⟨Z2, hZ2⟩ : ∃ Z, Z = U2 ++ V2 := ⟨_, rfl⟩
              have ZB : Hid (St (ltOf cf) Z2 (U2 ++ V2)) := by rw [hZ2]; exact St.refl (by rw [E2]; simpa using HA.out.2.2.2)
              have S3 : Hid (SW enc w0 blk off (L ++ Z1 ++ Z2 ++ T).toArray _) := show SW _ _ _ _ _ _ from by have := S2.out; rw [hZ2]; simpa using this
              go_end0
              refine ⟨rfl, Z1 ++ Z2, ?_, by have := S3.out; simpa using this⟩
              rw [EU.out, EV.out]
              exact st_merge hw (by rw [← EU.out]; exact hU) (by rw [← EV.out]; exact hV) CP.out.1 CP.out.2 ZA.out ZB.out

/-- Two sorted neighbours are merged. -/
theorem symMerge_at (enc : α → Value) (cf : α → α → Int) (g : Nat) (cb : Array Value) (blk off cap : Nat) (d0 : Array α) (w0 : World)
    (eg : ∀ args w, (callFunc g args).run Tryz.prog w = .ok (.enter g args) w) (hcmp : CmpLays1 Tryz.prog g cb enc cf blk off d0.size w0) (hw : Wk (ltOf cf)) (R : Row1 enc w0 blk off d0) (hsz : d0.size ≤ 1048576) : ∀ N, SymAt enc cf g cb blk off cap d0 w0 N := by
  intro N
  induction N with
  | zero => intro L U V T d w a m b _ h; omega
  | succ N ih =>
    intro L U V T d w a m b hd hN hu hv aU aV hs S ha hm hb
    subst hd
    by_cases h1 : U.length = 1
    · obtain ⟨u, rfl⟩ := List.length_eq_one_iff.1 h1
      exact sym_left enc cf g cb blk off cap d0 w0 w L u V T eg hcmp hw R hsz aV hs S a m b ha (by simpa using hm) (by simpa using hb)
    · by_cases h2 : V.length = 1
      · obtain ⟨v, rfl⟩ := List.length_eq_one_iff.1 h2
        exact sym_right enc cf g cb blk off cap d0 w0 w L U v T eg hcmp hw R hsz aU h1 hs S a m b ha hm (by simpa using hb)
      · refine sym_gen enc cf g cb blk off cap d0 w0 w L U V T eg hcmp hw R hsz aU aV (by omega) (by omega) ?_ hs S a m b ha hm hb _ rfl _ rfl
        intro L' U' V' T' d' w' a' m' b' h1 h2
        exact ih L' U' V' T' d' w' a' m' b' h1 (by omega)
end
end Go.Proofs.YtanfllednlpbaaaGreat

