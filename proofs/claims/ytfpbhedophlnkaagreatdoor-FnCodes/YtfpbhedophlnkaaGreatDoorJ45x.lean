/-
  The contract of the program's frame: the part of the bytes that the frame holds; else its error. For every slice of bytes. The contracts of slices.Clone at the program's wire and of impl.Unframe. For every slice of bytes. Contract of impl.DecodePlan. For every slice of bytes.
-/
import Derived.Test.YtfpbhedophlnkaaGreatDoorJ11x
import Derived.Test.YtfpbhedophlnkaaGreatDoorJ3x
import Derived.ChangeKeysEq
import Derived.Test.YtfpbhedophlnkaaGreatDoorJ44x
import Derived.Test.YtfpbhedophlnkaaGreatDoorJ27x
namespace Go.Proofs.YtfpbhedophlnkaaGreatDoor
open Go.RowKit
set_option linter.unusedSimpArgs false
set_option linter.unusedVariables false

def FramePost (r : Option (List Int)) (w : World) (e : Ending) (w' : World) : Prop :=
  ((r = none ∧ ∃ k1 k2 : Int, e = .returned (.tuple #[.slice none 0 0, .iface 200 (.agg #[.int .i64 k1, .int .i64 k2])])) ∨
   (∃ ao n m, r = some m ∧ e = .returned (.tuple #[.slice ao n n, .nilIface]) ∧ Rd w' .u8 ao m ∧ m.length = n ∧ (ao = none → n = 0))) ∧ Below w.heap.size w w'
theorem framePost_noB {r : Option (List Int)} {w w' : World} {k1 k2 : Int} (h : r = none) (hb : Below w.heap.size w w') : FramePost r w (.returned (.tuple #[.slice none 0 0, .iface 200 (.agg #[.int .i64 k1, .int .i64 k2])])) w' := ⟨.inl ⟨h, _, _, rfl⟩, hb⟩
theorem framePost_no {r : Option (List Int)} {w : World} {k1 k2 : Int} (h : r = none) : FramePost r w (.returned (.tuple #[.slice none 0 0, .iface 200 (.agg #[.int .i64 k1, .int .i64 k2])])) w := framePost_noB h (Below.refl _ _)
theorem framePost_yes {r : Option (List Int)} {w w' : World} {ao : Option Addr} {n : Nat} {m : List Int} (h : r = some m) (hr : Rd w .u8 ao m) (hn : m.length = n) (hz : ao = none → n = 0) (hb : Below w.heap.size w w') : FramePost r w (.returned (.tuple #[.slice ao n n, .nilIface])) w' := ⟨.inr ⟨_, _, _, h, rfl, hr.below hb, hn, hz⟩, hb⟩
theorem eqSeal (a b c d : Int) (W : World) : (Op.equalIn 10000 248 (.agg #[.int .i64 a, .int .i64 b]) (.agg #[.int .i64 c, .int .i64 d])).run Tryz.prog W = .ok (a == c && b == d) W := by
  obtain ⟨i, hi, _⟩ := info_parts Tryz.infoI64
  have p : ∀ x y : Int, (part 3 #[.int .i64 x, .int .i64 y] 0).run Tryz.prog W = .ok (.int .i64 x) W := fun x y => by kernel_rfl
  have q : ∀ x y : Int, (part 3 #[.int .i64 x, .int .i64 y] 1).run Tryz.prog W = .ok (.int .i64 y) W := fun x y => by kernel_rfl
  have hc : Tryz.prog.cellsOf 3 = 1 := by kernel_rfl
  have e := fun x y : Int => run_equalIn_int (P := Tryz.prog) W 9998 3 .i64 .i64 x y Tryz.underlying3
  rw [show (10000 : Nat) = (9998 + 1) + 1 from rfl, run_equalIn_array W (9998 + 1) _ _ Tryz.underlying248 hi, hc]
  simp only [show List.range 2 = [0, 1] from rfl, Op.eqItems, Sem.run_bind, Nat.zero_mul, Nat.one_mul, p, q, Result.andThen_ok, e]
  have e9 : ∀ x y : Int, (Op.equalIn 9999 3 (.int .i64 x) (.int .i64 y)).run Tryz.prog W = .ok (x == y) W := e
  cases a == c <;> cases hbd : (b == d) <;> simp [q, e9, Result.andThen, hbd]
theorem two_alloc (w : World) (x y : Obj) : Below w.heap.size w ((w.alloc x).alloc y) := ((Below.refl _ w).alloc (Nat.le_refl _) x).alloc (by simp) y
theorem ps_iff {x y : Int} (h0 : 0 ≤ x ∧ x < 256) (h1 : 0 ≤ y ∧ y < 256) : (strOfNums [x, y]).toList = [80, 83] ↔ x = 80 ∧ y = 83 := by
  have key : ∀ (z : Int) (k : Nat), 0 ≤ z → z < 256 → k < 256 → (UInt8.ofNat z.toNat = UInt8.ofNat k ↔ z = k) := by
    intro z k hz0 hz1 hk
    constructor
    · intro h
      have := congrArg UInt8.toNat h
      simp [UInt8.toNat_ofNat'] at this
      omega
    · intro h; subst h; simp
  rw [ByteArray.toList_eq, strOfNums_data]
  have e0 := key x 80 h0.1 h0.2 (by omega)
  have e1 := key y 83 h1.1 h1.2 (by omega)
  show [UInt8.ofNat x.toNat, UInt8.ofNat y.toNat] = [UInt8.ofNat 80, UInt8.ofNat 83] ↔ _
  simp only [List.cons.injEq, and_true]
  rw [e0, e1]; rfl

set_option maxRecDepth 100000 in
set_option maxHeartbeats 1600000 in
theorem frame_any (b : Option Addr) (d : Nat) (l : List Int) (w : World) (h : Rd w .u8 b l) (hby : By l) (hl : l.length ≤ maxLen) (hd : l.length ≤ d) (hd2 : d ≤ maxLen) :
    Calls Tryz.prog 176 #[.slice b l.length d] w (FramePost (unfL l) w) := by
  have HL := Lib.hid hl; have HD := Lib.hid hd; have HD2 := Lib.hid hd2; have H := Lib.hid h; have HBY := Lib.hid hby
  unfold maxLen at hl
  obtain ⟨r, hr⟩ : ∃ r, r = unfL l := ⟨_, rfl⟩
  rw [← hr]
  unfold unfL at hr
  have HR0 := Lib.hid hr
  clear hr hd hd2 h hby
  by_cases h2 : l.length < 2
  · have HE : Hid (r = none) := by
      show r = none
      rw [HR0.out, if_neg (by rw [List.getElem?_eq_none (show l.length ≤ 1 by omega)]; simp)]
    go_enter Tryz.func176, Tryz.ntmps176
    go_wp2_with fail
    refine (cut_no _ _ _ _ _ _ HL.out (by omega) (by omega) (by omega)).mono ?_
    rintro e w' ⟨rfl, rfl⟩
    go_wp2
    go_ret2
    exact framePost_no HE.out
  have hx0 := List.getElem?_eq_getElem (show 0 < l.length by omega)
  have hx1 := List.getElem?_eq_getElem (show 1 < l.length by omega)
  have v0 := HBY.out _ (List.getElem_mem (show 0 < l.length by omega))
  have v1 := HBY.out _ (List.getElem_mem (show 1 < l.length by omega))
  generalize l[0] = x0 at hx0 v0
  generalize l[1] = x1 at hx1 v1
  have hm2 : (l.drop 0).take 2 = [x0, x1] := by
    apply List.ext_getElem?
    intro i
    match i with
    | 0 => simpa using hx0
    | 1 => simpa using hx1
    | i + 2 => simp; omega
  have K := Lib.hid (cut_yes' b d l 0 2 0 2 rfl rfl w HL.out HD.out HD2.out H.out (by omega))
  rw [hm2] at K
  have CV : Hid (∀ ao, Rd w .u8 ao [x0, x1] → (convert 112 9 (.slice ao 2 2)).run Tryz.prog w = .ok (.string (strOfNums [x0, x1])) w) := fun ao h1 => conv_str w 112 Tryz.underlying112 ao 2 2 _ h1 rfl
  have hps := ps_iff v0 v1
  generalize strOfNums [x0, x1] = st at CV hps
  by_cases hP : x0 = 80 ∧ x1 = 83
  · have hs1 : (st.toList == [80, 83]) = true := by rw [hps.2 hP]; rfl
    have hr := HR0.out
    rw [if_pos (by rw [hx0, hx1, hP.1, hP.2]; exact ⟨rfl, rfl⟩)] at hr
    unfold unfT at hr
    have C := Lib.hid (numAt_any b d l 2 w H.out HBY.out HL.out HD.out HD2.out (by omega) (by omega))
    have CA : Hid (∀ p : Int, p ≤ 9223372036854775807 → 0 ≤ p → Calls Tryz.prog 234 #[.slice b l.length d, .int .i64 p] w (NumPost (takeN l p) p w)) := fun p hp h0 => numAt_any b d l p w H.out HBY.out HL.out HD.out HD2.out hp (by omega)
    have bd := takeN_bd HBY.out 2
    obtain ⟨⟨n, nx⟩, hnx⟩ : ∃ x, x = takeN l 2 := ⟨_, rfl⟩
    rw [← hnx] at C bd hr
    simp only at hr bd
    have HR := Lib.hid hr; have BD := Lib.hid bd
    clear hr hnx hps hP hm2 hx0 hx1 bd HR0 v0 v1
    go_enter Tryz.func176, Tryz.ntmps176
    go_wp2_with fail
    refine K.out.mono ?_
    rintro e w' ⟨ao, rfl, hrd, hlen, _, rfl⟩
    have hcv := CV.out ao hrd
    clear hrd hlen
    go_wp2_with fail
    refine C.out.mono ?_
    rintro e w' ⟨hh | hh, rfl⟩
    · obtain ⟨h1, rfl⟩ := hh
      simp only at h1
      have HE : Hid (r = none) := by
        show r = _
        rw [HR.out, if_pos (.inl (by omega))]
      clear h1
      go_wp2
      go_ret2
      exact framePost_no HE.out
    · obtain ⟨h1, rfl⟩ := hh
      simp only at h1 ⊢
      have hb := BD.out
      have hx0 : 0 ≤ nx := by omega
      have hx1 : nx ≤ l.length := by omega
      have hn0 : -1000000 ≤ n := hb.1
      have hn1 : n ≤ 1000000 := hb.2.1
      clear h1 hb
      by_cases hc : 0 ≤ n ∧ n ≤ l.length - nx
      · obtain ⟨p, rfl⟩ : ∃ p : Nat, nx = p := ⟨nx.toNat, by omega⟩
        obtain ⟨q, rfl⟩ : ∃ q : Nat, n = q := ⟨n.toNat, by omega⟩
        have hpq : (p : Int) + q ≤ l.length := by omega
        have K2 := Lib.hid (cut_yes' b d l p q p q rfl rfl w HL.out HD.out HD2.out H.out (by omega))
        by_cases h4 : q ≤ 4000
        · have hb4 : decide ((4000 : Int) < q) = false := by simp; omega
          have e : r = if (takeN l ((p : Int) + q)).2 = l.length ∧ (takeN l ((p : Int) + q)).1 = chk ((l.drop p).take q) then some ((l.drop p).take q) else none := by rw [HR.out, if_neg (by omega)]; rfl
          have CP := Lib.hid (CA.out ((p : Int) + q) (by omega) (by omega))
          have CK : Hid (∀ ao, Rd w .u8 ao ((l.drop p).take q) → ((l.drop p).take q).length = q → Calls Tryz.prog 118 #[.slice ao q q] w fun e w' => e = .returned (.int .i64 (chk ((l.drop p).take q))) ∧ w = w') := fun ao h1 h2 => implCheckOf_n ao q q _ w h1 (HBY.out.take_drop p q) (by unfold maxLen; omega) h2
          have cb := chk_bd ((l.drop p).take q)
          generalize (l.drop p).take q = m at K2 e CK cb
          generalize hck : chk m = ck at e CK cb
          have bq := takeN_bd HBY.out ((p : Int) + q)
          obtain ⟨⟨sm, en⟩, hse⟩ : ∃ x, x = takeN l ((p : Int) + q) := ⟨_, rfl⟩
          rw [← hse] at CP e bq
          simp only at e bq
          have HE := Lib.hid e; have BQ := Lib.hid bq
          clear e hse bq hck hc
          go_wp2_with fail
          refine K2.out.mono ?_
          rintro e w' ⟨a2, rfl, hrd, hlen, hz, rfl⟩
          have CK2 := Lib.hid (CK.out a2 hrd hlen)
          have RD := Lib.hid hrd; have LEN := Lib.hid hlen; have HZ := Lib.hid hz
          clear hrd hlen hz
          go_wp2_with fail
          refine CP.out.mono ?_
          rintro e w' ⟨hh | hh, rfl⟩
          · obtain ⟨h1, rfl⟩ := hh
            simp only at h1
            have HE1 : Hid (r = none) := by
              show r = _
              rw [HE.out, if_neg (by omega)]
            clear h1
            go_wp2
            go_ret2
            exact framePost_no HE1.out
          · obtain ⟨h1, rfl⟩ := hh
            simp only at h1 ⊢
            clear h1
            by_cases hs : sm = ck
            · by_cases hen : en = l.length
              · have HE1 : Hid (r = some m) := by
                  show r = _
                  rw [HE.out, if_pos ⟨hen, hs⟩]
                have hsb : (sm == ck) = true := by simp [hs]
                have hnb : (en == (l.length : Int)) = true := by simp [hen]
                have hq := fun W : World => eqSeal sm en ck (l.length : Int) W
                clear hs hen
                go_wp2_with fail
                refine CK2.out.mono ?_
                rintro e w' ⟨rfl, rfl⟩
                go_wp2
                go_ret2
                exact framePost_yes HE1.out RD.out LEN.out HZ.out (two_alloc _ _ _)
              · have HE1 : Hid (r = none) := by
                  show r = _
                  rw [HE.out, if_neg (fun hh => hen hh.1)]
                have hsb : (sm == ck) = true := by simp [hs]
                have hnb : (en == (l.length : Int)) = false := by simp [hen]
                have hq := fun W : World => eqSeal sm en ck (l.length : Int) W
                clear hs hen
                go_wp2_with fail
                refine CK2.out.mono ?_
                rintro e w' ⟨rfl, rfl⟩
                go_wp2
                go_ret2
                exact framePost_noB HE1.out (two_alloc _ _ _)
            · have HE1 : Hid (r = none) := by
                show r = _
                rw [HE.out, if_neg (fun hh => hs hh.2)]
              have hsb : (sm == ck) = false := by simp [hs]
              have hq := fun W : World => eqSeal sm en ck (l.length : Int) W
              clear hs
              go_wp2_with fail
              refine CK2.out.mono ?_
              rintro e w' ⟨rfl, rfl⟩
              go_wp2
              go_ret2
              exact framePost_noB HE1.out (two_alloc _ _ _)
        · have hb4 : decide ((4000 : Int) < q) = true := by simp; omega
          have HE : Hid (r = none) := by
            show r = _
            rw [HR.out, if_pos (by omega)]
          clear hc
          go_wp2_with fail
          refine K2.out.mono ?_
          rintro e w' ⟨a2, rfl, _, _, _, rfl⟩
          go_wp2
          go_ret2
          exact framePost_no HE.out
      · have HE : Hid (r = none) := by
          show r = _
          rw [HR.out, if_pos (by omega)]
        go_wp2_with fail
        refine (cut_no _ _ _ _ _ _ HL.out (by omega) (by omega) (by omega)).mono ?_
        rintro e w' ⟨rfl, rfl⟩
        go_wp2
        go_ret2
        exact framePost_no HE.out
  · have HE : Hid (r = none) := by
      show r = none
      rw [HR0.out, if_neg (by rw [hx0, hx1]; simpa using hP)]
    have hs1 : (st.toList == [80, 83]) = false := by
      cases hc : (st.toList == [80, 83]) with
      | false => rfl
      | true => exact absurd (hps.1 (by simpa using hc)) hP
    clear hps hP hm2 hx0 hx1
    go_enter Tryz.func176, Tryz.ntmps176
    go_wp2_with fail
    refine K.out.mono ?_
    rintro e w' ⟨ao, rfl, hrd, hlen, _, rfl⟩
    have hcv := CV.out ao hrd
    clear hrd hlen
    go_wp2
    go_ret2
    exact framePost_no HE.out
end Go.Proofs.YtfpbhedophlnkaaGreatDoor
namespace Go.Proofs.YtfpbhedophlnkaaGreatDoor
open Go.RowKit
set_option linter.unusedSimpArgs false
set_option linter.unusedVariables false

set_option maxRecDepth 100000 in
theorem clone_any (ao : Option Addr) (n : Nat) (m : List Int) (w : World) (h : Rd w .u8 ao m) (hn : m.length = n) (hz : ao = none → n = 0) (hl : n ≤ 70368744177664) :
    Calls Tryz.prog 178 #[.slice ao n n] w (Made w 5 .u8 m) := by
  have hq := fun (w : World) (a : Option Addr) (n c : Nat) => Lib.run_eql_slice_nil (P := Tryz.prog) w 112 5 a n c 0 0 Tryz.underlying112
  cases ao with
  | none =>
    obtain rfl : n = 0 := hz rfl
    obtain rfl : m = [] := List.eq_nil_of_length_eq_zero hn
    clear hz h hn
    go_enter Tryz.func178, Tryz.ntmps178
    go_wp2
    go_ret
    exact ⟨none, 0, rfl, Own.none_, Below.refl _ _⟩
  | some a =>
    have hst : Own (w.alloc (Obj.cells #[] 5)) w.heap.size 5 .u8 (some ⟨w.heap.size, 0, none⟩) 0 [] := World.ownsRow_lit w #[] 0 (Nat.le_refl _) (Nat.zero_le _) rfl
    have HST := Lib.hid hst; have H := Lib.hid (h.below ((Below.refl _ _).alloc (Nat.le_refl _) (Obj.cells #[] 5))); have HN := Lib.hid hn
    have hll : (n : Int) ≤ 70368744177664 := by omega
    clear hst h hn hz hl
    go_enter Tryz.func178, Tryz.ntmps178
    go_wp2_with (at_builtin; refine wpList_appendR _ rfl (.tmp 5) (.tmp 6) 112 112 rfl w.heap.size 5 5 .u8 1 Tryz.underlying112 Tryz.underlying112 Tryz.infoU8 (some ⟨w.heap.size, 0, none⟩) 0 0 [] rfl rfl HST.out (some a) n n m rfl HN.out.symm H.out (by intro hh; cases hh) (by have := HN.out; unfold maxLen; simp; omega) (by have := HN.out; simp; omega) (by simp) ?_; intro ao' c' w1 ho' hg'; have HO' := Lib.hid ho'; have HG' := Lib.hid hg'; clear ho' hg')
    go_ret
    refine ⟨ao', c', ret_slice (by simp), HO'.out, ?_⟩
    exact ((Below.refl _ _).alloc (Nat.le_refl _) _).grown HG'.out (by simp) (by intro g hg; simp at hg; omega)

set_option maxRecDepth 100000 in
theorem implUnframe_any (b : Option Addr) (d : Nat) (l : List Int) (w : World) (hg : ErrT w) (h : Rd w .u8 b l) (hby : By l) (hl : l.length ≤ maxLen) (hd : l.length ≤ d) (hd2 : d ≤ maxLen) :
    Calls Tryz.prog 92 #[.slice b l.length d] w (UnfPost (unfL l) w) := by
  have C := Lib.hid (frame_any b d l w h hby hl hd hd2)
  have G := Lib.hid hg
  have hlen : Hid (∀ m, unfL l = some m → m.length ≤ 4000) := by
    intro m hm
    unfold unfL unfT at hm
    split at hm
    · split at hm
      · cases hm
      · split at hm
        · injection hm with hm
          rw [← hm]; simp; omega
        · cases hm
    · cases hm
  obtain ⟨r, hr⟩ : ∃ r, r = unfL l := ⟨_, rfl⟩
  rw [← hr] at C hlen ⊢
  clear hr hg h hby hl hd hd2
  go_enter Tryz.func92, Tryz.ntmps92
  go_wp2_with fail
  refine C.out.mono ?_
  rintro e w' ⟨h | h, hb0⟩
  · obtain ⟨h1, k1, k2, rfl⟩ := h
    have H1 := Lib.hid h1; have B0 := Lib.hid hb0; clear h1 hb0
    go_wp2_with fail
    refine (isMissing_hit _ _ _ (G.out.below B0.out)).mono ?_
    rintro e w1 ⟨rfl, hb⟩
    have HB := Lib.hid (below_step B0.out (Nat.le_refl _) hb); clear hb
    go_wp2
    go_ret2
    exact unf_no H1.out HB.out
  · obtain ⟨ao, n, m, h1, rfl, hrd, hn, hz⟩ := h
    have H1 := Lib.hid h1; have RD := Lib.hid hrd; have HN := Lib.hid hn; have HZ := Lib.hid hz; have B0 := Lib.hid hb0; clear h1 hrd hn hz hb0
    go_wp2_with fail
    refine (isMissing_nil _).mono ?_
    rintro e w1 ⟨rfl, hb⟩
    have RD1 := Lib.hid (RD.out.below hb); have HB := Lib.hid (below_step B0.out (Nat.le_refl _) hb); clear hb
    go_wp2_with fail
    refine (clone_any ao n m w1 RD1.out HN.out HZ.out (by have := hlen.out m H1.out; have := HN.out; omega)).mono ?_
    rintro e w2 ⟨a2, c2, rfl, o2, b2⟩
    have O2 := Lib.hid o2; have B2 := Lib.hid (below_step HB.out (Nat.le_refl _) b2); clear o2 b2
    go_wp2
    go_ret2
    rw [H1.out]
    exact ⟨a2, c2, rfl, O2.out.base_le HB.out.size, B2.out⟩
end Go.Proofs.YtfpbhedophlnkaaGreatDoor
namespace Go.Proofs.YtfpbhedophlnkaaGreatDoor
open Go.RowKit
set_option linter.unusedSimpArgs false
set_option linter.unusedVariables false

set_option maxRecDepth 100000 in
set_option maxHeartbeats 1600000 in
theorem implDecodePlan_any (b : Option Addr) (d : Nat) (l : List Int) (w : World) (hg : ErrT w) (h : Rd w .u8 b l) (hby : By l) (hl : l.length ≤ maxLen) (hd : l.length ≤ d) (hd2 : d ≤ maxLen) :
    Calls Tryz.prog 42 #[.slice b l.length d] w (MadeN2 (decP l) w) := by
  have U := Lib.hid (implUnframe_any b d l w hg h hby hl hd hd2)
  have hmf : ∀ (fn : Go.Fn) (first cap : Array Value) (w : World), (Instr.makeFunc fn first cap).run Tryz.prog w = .ok (.func fn first cap) w := fun _ _ _ _ => rfl
  have D : Hid (decP l = match unfL l with | none => ([], 1) | some m => match countNd m (some 0) 40 with | none => ([], 2) | some (acc, q) => if q ≠ m.length then ([], 4) else if planB acc = true then (acc, 0) else ([], 3)) := rfl
  have h4 : Hid (∀ m, unfL l = some m → m.length ≤ 4000 ∧ By m) := fun m hm => ⟨unfL_4000 hm, unfL_by hby hm⟩
  obtain ⟨res, hres⟩ : ∃ r, r = decP l := ⟨_, rfl⟩
  rw [← hres] at D ⊢
  clear hres h hg hby hl hd hd2
  cases hu : unfL l with
  | none =>
    have E : Hid (res = ([], 1)) := by show _ = _; rw [D.out, hu]
    rw [hu] at U
    clear hu
    go_enter Tryz.func42, Tryz.ntmps42
    go_wp2_with fail
    refine U.out.mono ?_
    rintro e w1 ⟨a1, c1, rfl, o1, b1⟩
    clear o1
    go_wp2_with fail
    go_ret2
    exact madeN2_no E.out b1
  | some m =>
    obtain ⟨hm4, hmb⟩ := h4.out m hu
    rw [hu] at U D
    simp only at D
    have HMB := Lib.hid hmb
    obtain ⟨cn, hcn⟩ : ∃ cn, cn = countNd m (some 0) 40 := ⟨_, rfl⟩
    have TK := Lib.hid (fun W R b d (h : Rdr W R b d m (some 0)) => takeNods_any R b d m (some 0) W h)
    rw [← hcn] at D TK
    have CL : Hid (∀ acc q, cn = some (acc, q) → acc.length ≤ 40 ∧ ∀ n ∈ acc, n.cols.length ≤ 300) := fun acc q hq => ⟨countNd_40 (hcn.symm.trans hq), countNd_cols hmb (hcn.symm.trans hq)⟩
    clear hu hmb hcn h4
    go_enter Tryz.func42, Tryz.ntmps42
    go_wp2_with fail
    refine U.out.mono ?_
    rintro e w1 ⟨a1, c1, rfl, o1, b1⟩
    have o1' : Own w1 w.heap.size 5 .u8 a1 c1 m := o1
    have RB := Lib.hid (rdr_box (d := c1) o1'.rd HMB.out ⟨o1'.cap_ge, o1'.cap_le⟩ (fun a ha => (o1'.lt a ha).2))
    have B1 := Lib.hid (b1.alloc b1.size (.cells #[.slice a1 m.length c1, .int .i64 0, .nilIface] 116))
    have hz1 := b1.size
    clear o1 o1' b1 U
    go_wp2_with fail
    refine (TK.out _ _ _ _ RB.out).mono ?_
    rintro e w2 ⟨g2, hp⟩
    have B2 := Lib.hid (B1.out.grown g2 B1.out.size (by intro g hg; cases hg; exact hz1))
    have hz2 := g2.size
    clear g2
    cases cn with
    | none =>
      obtain ⟨rfl, s', hr⟩ := hp
      have E : Hid (res = ([], 2)) := D.out
      clear hr
      go_wp2_with fail
      go_ret2
      exact madeN2_no E.out B2.out
    | some x =>
      obtain ⟨acc, q⟩ := x
      obtain ⟨ao, c, rfl, ho, hr⟩ := hp
      simp only at ho hr ⊢
      have HO := Lib.hid ho
      obtain ⟨hal, hcl⟩ := CL.out acc q rfl
      have SM := Lib.hid (show Small acc from ⟨by omega, fun n hn => by have := hcl n hn; omega⟩)
      clear hcl CL
      have EN := Lib.hid (rEnd_any _ _ _ _ q _ hr)
      have D' : Hid (res = if q ≠ m.length then ([], 4) else if planB acc = true then (acc, 0) else ([], 3)) := D.out
      clear ho hr D
      by_cases hq : q = m.length
      · have hqb : (q == (m.length : Int)) = true := by simp [hq]
        go_wp2_with fail
        refine EN.out.mono ?_
        rintro e w3 ⟨rfl, b3⟩
        rw [hqb]
        have B3 := Lib.hid (below_step B2.out (Nat.le_refl _) b3)
        have O3 := Lib.hid (HO.out.below b3)
        clear b3
        go_wp2_with fail
        refine (implPlanOk_any ao c acc SM.out w3 O3.out.rd).mono ?_
        rintro e w4 ⟨rfl, b4⟩
        have B4 := Lib.hid (below_step B3.out (Nat.le_refl _) b4)
        have O4 := Lib.hid ((O3.out.below b4).base_le (base' := w.heap.size) (by simp; omega))
        clear b4
        cases hs : planB acc with
        | true =>
          have E : Hid (res = (acc, 0)) := by show _ = _; rw [D'.out, if_neg (fun h => h hq), if_pos hs]
          go_wp2_with fail
          go_ret2
          exact madeN2_yes E.out rfl O4.out B4.out
        | false =>
          have E : Hid (res = ([], 3)) := by show _ = _; rw [D'.out, if_neg (fun h => h hq), if_neg (by rw [hs]; simp)]
          go_wp2_with fail
          go_ret2
          exact madeN2_no E.out B4.out
      · have hqb : (q == (m.length : Int)) = false := by simp [hq]
        have E : Hid (res = ([], 4)) := by show _ = _; rw [D'.out, if_pos hq]
        go_wp2_with fail
        refine EN.out.mono ?_
        rintro e w3 ⟨rfl, b3⟩
        rw [hqb]
        have B3 := Lib.hid (below_step B2.out (Nat.le_refl _) b3)
        clear b3
        go_wp2_with fail
        go_ret2
        exact madeN2_no E.out B3.out
end Go.Proofs.YtfpbhedophlnkaaGreatDoor
