/-
  Plain facts on rows that are sorted block by block. No program, no walk. Contracts of slices.insertionSortCmpFunc and slices.stableCmpFunc at rows: sorted, and those of which none is less keep their order. Contracts of the helpers over slices of rows: szIntSS, toIntSS, eqIntSS. For every slice of rows. Plain facts on rows of numbers: which of two is less, how many are the same, a column. No program, no walk. Contract of impl.sorted at rows: whatever comes one by one, sorted, those of which none is less in their order.
-/
import Derived.Test.YtanfllednlpbaaaGreatM19x
import Derived.Test.YtanfllednlpbaaaGreatISym2
import Derived.Sort.WalkA
import Derived.Test.YtanfllednlpbaaaGreatM17x
import Derived.Deep.RegionWith
import Derived.Lib.OwnBridge
namespace Go.Proofs.YtanfllednlpbaaaGreat
set_option linter.unusedSimpArgs false
set_option linter.unusedVariables false
section
variable {α : Type} {lt : α → α → Bool}
inductive Ch (lt : α → α → Bool) (bs : Nat) : List α → Prop
  | last (l : List α) : l.length ≤ bs → Asc lt l → Ch lt bs l
  | cons (x l : List α) : x.length = bs → Asc lt x → Ch lt bs l → Ch lt bs (x ++ l)
inductive Full (lt : α → α → Bool) (bs : Nat) : List α → Prop
  | nil : Full lt bs []
  | snoc (X z : List α) : Full lt bs X → z.length = bs → Asc lt z → Full lt bs (X ++ z)
theorem Full.ch {bs : Nat} {X : List α} (h : Full lt bs X) : ∀ l, Ch lt bs l → Ch lt bs (X ++ l) := by
  induction h with
  | nil => intro l hl; exact hl
  | snoc X z _ hz ha ih =>
    intro l hl
    rw [List.append_assoc]
    exact ih _ (Ch.cons z l hz ha hl)
theorem Ch.done {bs : Nat} {Y : List α} (h : Ch lt bs Y) (hl : Y.length ≤ bs) : Asc lt Y := by
  cases h with
  | last _ _ ha => exact ha
  | cons x l hx ha _ =>
    have : l = [] := List.eq_nil_of_length_eq_zero (by simp at hl; omega)
    subst this; simpa using ha
theorem Ch.more {bs : Nat} {Y : List α} (h : Ch lt bs Y) (hl : bs < Y.length) : ∃ x l, Y = x ++ l ∧ x.length = bs ∧ Asc lt x ∧ Ch lt bs l := by
  cases h with
  | last _ h1 _ => omega
  | cons x l hx ha hc => exact ⟨x, l, rfl, hx, ha, hc⟩
theorem Ch.take {bs : Nat} {Y : List α} (h : Ch lt bs Y) (hl : bs ≤ Y.length) : ∃ x l, Y = x ++ l ∧ x.length = bs ∧ Asc lt x ∧ Ch lt bs l := by
  rcases Nat.lt_or_eq_of_le hl with h1 | h1
  · exact h.more h1
  · exact ⟨Y, [], by simp, h1.symm, h.done (by omega), Ch.last [] (Nat.zero_le _) Asc.nil⟩
theorem Ch.two {bs : Nat} {Y : List α} (h : Ch lt bs Y) (h0 : 0 < bs) (hl : 2 * bs ≤ Y.length) : ∃ x y l, Y = x ++ y ++ l ∧ x.length = bs ∧ y.length = bs ∧ Asc lt x ∧ Asc lt y ∧ Ch lt bs l := by
  obtain ⟨x, l, rfl, hx, ax, hc⟩ := h.more (by omega)
  obtain ⟨y, l', rfl, hy, ay, hc'⟩ := hc.take (by simp at hl; omega)
  exact ⟨x, y, l', by simp, hx, hy, ax, ay, hc'⟩
def Same (lt : α → α → Bool) (d D : List α) : Prop := SE lt d D ∧ d.Perm D
theorem Same.refl (D : List α) : Same lt D D := ⟨SE.refl D, List.Perm.refl D⟩
theorem Same.put {X Y Z T D : List α} (h : Same lt (X ++ Y ++ T) D) (k : St lt Z Y) : Same lt (X ++ Z ++ T) D :=
  ⟨(((SE.refl X).app k.2.1).app (SE.refl T)).trans h.1, ((k.2.2.append_left X).append_right T).trans h.2⟩
theorem Same.len {d D : List α} (h : Same lt d D) : d.length = D.length := h.2.length_eq
theorem Same.st {d D : List α} (h : Same lt d D) (ha : Asc lt d) : St lt d D := ⟨ha, h.1, h.2⟩
end
end Go.Proofs.YtanfllednlpbaaaGreat
namespace Go.Proofs.YtanfllednlpbaaaGreat
open Go.Shelf Go.RowKit Go.Lib Go.Sort
set_option linter.unusedSimpArgs false
set_option linter.unusedVariables false
section
variable {α : Type} [Inhabited α]
set_option maxHeartbeats 16000000 in
set_option maxRecDepth 1000000 in
theorem insertion_s (enc : α → Value) (cf : α → α → Int) (g : Nat) (cb : Array Value) (blk off cap : Nat) (d0 : Array α) (w0 w : World) (L D T d : List α)
    (eg : ∀ args w, (callFunc g args).run Tryz.prog w = .ok (.enter g args) w) (hcmp : CmpLays1 Tryz.prog g cb enc cf blk off d0.size w0) (hw : Wk (ltOf cf)) (R : Row1 enc w0 blk off d0) (hsz : d0.size ≤ 1048576)
    (hdd : d = L ++ D ++ T) (hs : d0.size = d.length) (S : SW enc w0 blk off d.toArray w) (a b : Nat) (ha : a = L.length) (hb : b = L.length + D.length) :
    Calls Tryz.prog 179 #[.slice (some ⟨blk, off, none⟩) d0.size cap, .int .i64 a, .int .i64 b, .func (.func g) #[] cb] w fun r w' => r = .returned (.tuple #[]) ∧ ∃ Z, St (ltOf cf) Z D ∧ SW enc w0 blk off (L ++ Z ++ T).toArray w' := by
  have hcl0 := R.hO.cells
  simp only [Value.cells] at hcl0
  have hst := R.hO.store Tryz.prog
  have mixed : Tryz.prog.follows .mixedOrders = true := by kernel_rfl
  have HC : Aside _ := hcmp
  clear hcmp
  have hbn : b ≤ d0.size := by rw [hs, hdd]; simp; omega
  have hab : a ≤ b := by omega
  have FIN : Hid _ := insertion_at hw L D T (a := a) (b := b) ha hb
  have DD : Hid _ := hdd
  obtain ⟨dA, hdA⟩ : ∃ x, x = d.toArray := ⟨_, rfl⟩
  have hsk : dA.size = d0.size := by rw [hdA, hs]; simp
  have S0 : Aside (SW enc w0 blk off dA w) := by rw [hdA]; exact S
  have DA : Hid _ := hdA
  clear S ha hb hs hdd hdA
  go_enter Tryz.func179, Tryz.ntmps179
  go_wp2
  go_loopg [8] (b - a) (fun g1 vi wr => ∃ (i : Nat) (dk : Array α), vi = .int .i64 i ∧ a < i ∧ i ≤ b + 1 ∧ b + 1 - i ≤ g1 + 1 ∧ dk.size = d0.size ∧ Aside (SW enc w0 blk off dk wr) ∧ Hid (insOuter (ltOf cf) a b i dk = insOuter (ltOf cf) a b (a + 1) dA))
  case atStart => exact ⟨a + 1, dA, by go_num, by omega, by omega, by omega, hsk, S0, rfl⟩
  case round =>
    clear S0 hsk
    obtain ⟨i, dk, rfl, hai, hib, hg1, hsk, S1, HO⟩ := hrel
    by_cases hlt : i < b
    · have hltz : (i : Int) < (b : Int) := by omega
      go_wp2
      go_loopg [9] i (fun g2 vj wr2 => ∃ (j : Nat) (dj : Array α), vj = .int .i64 j ∧ a ≤ j ∧ j ≤ i ∧ j ≤ g2 ∧ dj.size = d0.size ∧ Aside (SW enc w0 blk off dj wr2) ∧ Hid (insInner (ltOf cf) a j dj = insInner (ltOf cf) a i dk))
      case atStart => exact ⟨i, dk, rfl, by omega, Nat.le_refl _, Nat.le_refl _, hsk, S1, rfl⟩
      case round =>
        clear S1
        obtain ⟨j, dj, rfl, haj, hji, hg2, hsj, SJ, HI⟩ := hrel
        have out : (j ≤ a ∨ (ltOf cf) dj[j]! dj[j - 1]! = false) → Hid (insOuter (ltOf cf) a b (i + 1) dj = insOuter (ltOf cf) a b (a + 1) dA) := fun hs => by
          show _ = _
          rw [← HO.out, insOuter_go _ _ _ _ _ hlt, ← HI.out, insInner_stop _ _ _ _ hs]
        have OUT : Aside _ := out
        clear out
        by_cases hja : a < j
        · obtain ⟨jp, rfl⟩ : ∃ q, j = q + 1 := ⟨j - 1, by omega⟩
          have hjad : decide ((jp : Int) + 1 > (a : Int)) = true := decide_eq_true (by omega)
          have hjaz' : (a : Int) < (jp : Int) + 1 := by omega
          rw [Nat.add_sub_cancel] at OUT
          cases hlv : (ltOf cf) dj[jp + 1]! dj[jp]! with
          | true =>
            obtain ⟨iN, hiN⟩ : ∃ q, q = jp + 1 := ⟨_, rfl⟩
            obtain ⟨jN, hjN⟩ : ∃ q, q = jp := ⟨_, rfl⟩
            have ea : ((jp : Int) + 1).toNat = iN := by omega
            have pa : (0 : Int) ≤ (jp : Int) + 1 := by omega
            have ba : (jp : Int) + 1 < (d0.size : Int) := by omega
            have ra : IntKind.i64.wrap ((jp : Int) + 1) = (jp : Int) + 1 := by rw [IntKind.wrap_i64]; omega
            have ec : ((jp : Int)).toNat = jN := by omega
            have pc : (0 : Int) ≤ (jp : Int) := by omega
            have bc : (jp : Int) < (d0.size : Int) := by omega
            have rc : IntKind.i64.wrap ((jp : Int)) = (jp : Int) := by rw [IntKind.wrap_i64]; omega
            obtain ⟨x, hx⟩ : ∃ x, x = dj[jp + 1]! := ⟨_, rfl⟩
            obtain ⟨y, hy⟩ : ∃ x, x = dj[jp]! := ⟨_, rfl⟩
            have la := SJ.out.cl R (by omega) (jp + 1) (by omega)
            have lb := SJ.out.cl R (by omega) (jp) (by omega)
            rw [← hx, ← hiN] at la
            rw [← hy, ← hjN] at lb
            have hc := SJ.out.cmp HC.out (by omega) x y
            have hv : cf x y < 0 := by rw [hx, hy]; exact of_decide_eq_true hlv
            have hd : decide (cf x y < 0) = true := decide_eq_true hv
            have HLV : Hid _ := hlv
            clear hx hy hiN hjN hlv
            go_wp2_with fail
            go_quiet_grown (first | (go_at_fn g; refine Calls.grown_of (hc _ _)))
            have S3 : Aside (SW enc w0 blk off dj (grow (wr.drewN nq) osq)) := SJ.out.grown nq osq
            clear la lb hc SJ
            generalize grow (wr.drewN nq) osq = w2 at S3 ⊢
            clear nq osq ea ec
            go_wp2_with fail
            obtain ⟨iN, hiN⟩ : ∃ q, q = jp + 1 := ⟨_, rfl⟩
            obtain ⟨jN, hjN⟩ : ∃ q, q = jp := ⟨_, rfl⟩
            have ea : ((jp : Int) + 1).toNat = iN := by omega
            have pa : (0 : Int) ≤ (jp : Int) + 1 := by omega
            have ba : (jp : Int) + 1 < (d0.size : Int) := by omega
            have ra : IntKind.i64.wrap ((jp : Int) + 1) = (jp : Int) + 1 := by rw [IntKind.wrap_i64]; omega
            have ec : ((jp : Int)).toNat = jN := by omega
            have pc : (0 : Int) ≤ (jp : Int) := by omega
            have bc : (jp : Int) < (d0.size : Int) := by omega
            have rc : IntKind.i64.wrap ((jp : Int)) = (jp : Int) := by rw [IntKind.wrap_i64]; omega
            obtain ⟨x, hx⟩ : ∃ x, x = dj[jp + 1]! := ⟨_, rfl⟩
            obtain ⟨y, hy⟩ : ∃ x, x = dj[jp]! := ⟨_, rfl⟩
            have S4 : Aside (SW enc w0 blk off (swp dj (jp + 1) (jp)) ((w2.setCell ⟨blk, off + iN, none⟩ (enc y)).setCell ⟨blk, off + jN, none⟩ (enc x)).drew) := by rw [hiN, hjN, hx, hy]; exact S3.out.swapped R (jp + 1) (jp) (by omega) (by omega)
            have ca := S3.out.c1 R (by omega) (jp + 1) (by omega)
            have cc := S3.out.c1 R (by omega) (jp) (by omega)
            have fa := S3.out.f1 R (by omega) (jp + 1) (by omega)
            have fb := S3.out.f1 R (by omega) (jp) (by omega)
            obtain ⟨u0, cd⟩ := S3.out.c2 R (by omega) (jp + 1) (jp) (by omega) (by omega) (enc y)
            rw [← hiN, ← hjN] at cd
            rw [← hx, ← hiN] at ca
            rw [← hy, ← hjN] at cc
            rw [← hiN] at fa
            rw [← hjN] at fb
            clear S3 hx hy hiN hjN
            go_wp2_with fail
            go_big_region_o
            clear ca cc cd fa fb
            generalize ((w2.setCell ⟨blk, off + iN, none⟩ (enc y)).setCell ⟨blk, off + jN, none⟩ (enc x)).drew = w3 at S4 ⊢
            clear ea ec
            go_wp2
            go_roundg jp
            case measure => omega
            case rel => exact ⟨jp, swp dj (jp + 1) jp, rfl, by omega, by omega, Nat.le_refl _, by rw [size_swp]; exact hsj, S4, (show Hid _ from by rw [← HI.out, insInner_go (ltOf cf) a (jp + 1) dj hja HLV.out]; exact rfl)⟩
          | false =>
            obtain ⟨iN, hiN⟩ : ∃ q, q = jp + 1 := ⟨_, rfl⟩
            obtain ⟨jN, hjN⟩ : ∃ q, q = jp := ⟨_, rfl⟩
            have ea : ((jp : Int) + 1).toNat = iN := by omega
            have pa : (0 : Int) ≤ (jp : Int) + 1 := by omega
            have ba : (jp : Int) + 1 < (d0.size : Int) := by omega
            have ra : IntKind.i64.wrap ((jp : Int) + 1) = (jp : Int) + 1 := by rw [IntKind.wrap_i64]; omega
            have ec : ((jp : Int)).toNat = jN := by omega
            have pc : (0 : Int) ≤ (jp : Int) := by omega
            have bc : (jp : Int) < (d0.size : Int) := by omega
            have rc : IntKind.i64.wrap ((jp : Int)) = (jp : Int) := by rw [IntKind.wrap_i64]; omega
            obtain ⟨x, hx⟩ : ∃ x, x = dj[jp + 1]! := ⟨_, rfl⟩
            obtain ⟨y, hy⟩ : ∃ x, x = dj[jp]! := ⟨_, rfl⟩
            have la := SJ.out.cl R (by omega) (jp + 1) (by omega)
            have lb := SJ.out.cl R (by omega) (jp) (by omega)
            rw [← hx, ← hiN] at la
            rw [← hy, ← hjN] at lb
            have hc := SJ.out.cmp HC.out (by omega) x y
            have hv : ¬ cf x y < 0 := by rw [hx, hy]; exact of_decide_eq_false hlv
            have hd : decide (cf x y < 0) = false := decide_eq_false hv
            have HLV : Hid _ := hlv
            clear hx hy hiN hjN hlv
            go_wp2_with fail
            go_quiet_grown (first | (go_at_fn g; refine Calls.grown_of (hc _ _)))
            have S2 : Aside (SW enc w0 blk off dj (grow (wr.drewN nq) osq)) := SJ.out.grown nq osq
            clear la lb hc SJ
            generalize grow (wr.drewN nq) osq = w2 at S2 ⊢
            clear nq osq ea ec
            go_wp2_with fail
            go_roundg (b - (i + 1))
            case measure => omega
            case rel => exact ⟨i + 1, dj, by go_num, by omega, by omega, by omega, hsj, S2, OUT.out (Or.inr HLV.out)⟩
        · have hjaz : decide ((j : Int) > (a : Int)) = false := decide_eq_false (by omega)
          have hjaz' : ¬ (a : Int) < (j : Int) := by omega
          go_wp2_with fail
          go_big_region_o
          have S2 : Aside (SW enc w0 blk off dj wr.drew) := SJ.out.drew
          clear SJ
          generalize wr.drew = w2 at S2 ⊢
          go_wp2
          go_roundg (b - (i + 1))
          case measure => omega
          case rel => exact ⟨i + 1, dj, by go_num, by omega, by omega, by omega, hsj, S2, OUT.out (Or.inl (by omega))⟩
    · have hltz : ¬ (i : Int) < (b : Int) := by omega
      go_wp2
      go_end0
      obtain ⟨Z, hZ, hst⟩ := FIN.out
      have F : SW enc w0 blk off (L ++ Z ++ T).toArray wr := by
        rw [← hZ, ← DD.out]
        unfold Sort.insertionSort
        rw [← DA.out, ← HO.out, insOuter_stop _ _ _ _ _ hlt]
        exact S1.out
      exact ⟨rfl, Z, hst, by simpa using F⟩
set_option maxHeartbeats 16000000 in
set_option maxRecDepth 1000000 in
theorem stable_s (enc : α → Value) (cf : α → α → Int) (g : Nat) (cb : Array Value) (blk off cap : Nat) (d0 : Array α) (w0 w : World) (D : List α)
    (eg : ∀ args w, (callFunc g args).run Tryz.prog w = .ok (.enter g args) w) (hcmp : CmpLays1 Tryz.prog g cb enc cf blk off d0.size w0) (hw : Wk (ltOf cf)) (R : Row1 enc w0 blk off d0) (hsz : d0.size ≤ 1048576)
    (hs : d0.size = D.length) (S : SW enc w0 blk off D.toArray w) :
    Calls Tryz.prog 156 #[.slice (some ⟨blk, off, none⟩) d0.size cap, .int .i64 d0.size, .func (.func g) #[] cb] w fun r w' => r = .returned (.tuple #[]) ∧ ∃ Z, St (ltOf cf) Z D ∧ SW enc w0 blk off Z.toArray w' := by
  have INS : Aside _ := fun (L D T d : List α) (w : World) => insertion_s enc cf g cb blk off cap d0 w0 w L D T d eg hcmp hw R hsz
  have SYM : Aside _ := fun N => symMerge_at enc cf g cb blk off cap d0 w0 eg hcmp hw R hsz N
  have HS : Hid _ := hs
  have LEN : Aside (∀ d : List α, Same (ltOf cf) d D → d0.size = d.length) := fun d h => by rw [hs, h.len]
  obtain ⟨n, hn⟩ : ∃ n, n = d0.size := ⟨_, rfl⟩
  have hn1 : n ≤ 1048576 := by omega
  have HN : Hid _ := hn
  have S0 : Aside (∃ X Y, X.length = 0 ∧ Full (ltOf cf) 20 X ∧ Same (ltOf cf) (X ++ Y) D ∧ SW enc w0 blk off (X ++ Y).toArray w) := ⟨[], D, rfl, Full.nil, Same.refl D, S⟩
  rw [← hn] at LEN
  rw [← hn]
  clear S hs hn hsz hcmp eg
  go_enter Tryz.func156, Tryz.ntmps156
  go_wp2_with fail
  go_loopg [7, 8] n (fun kx s t wr => ∃ (a : Nat), s = .int .i64 a ∧ t = .int .i64 (a + 20 : Nat) ∧ a ≤ n ∧ n - a ≤ kx ∧ Aside (∃ X Y, X.length = a ∧ Full (ltOf cf) 20 X ∧ Same (ltOf cf) (X ++ Y) D ∧ SW enc w0 blk off (X ++ Y).toArray wr))
  case atStart => exact ⟨0, rfl, rfl, Nat.zero_le _, by omega, S0⟩
  case round =>
    clear S0
    obtain ⟨a, rfl, rfl, han, hkx, S1⟩ := hrel
    obtain ⟨X, Y, hX, hF, hSm, hS⟩ := S1.out
    have XL : Hid (X.length = a) := hX
    have FF : Hid _ := hF
    have SM : Hid _ := hSm
    have SS : Hid _ := hS
    have YL : Hid (Y.length + a = n) := by have := LEN.out _ hSm; show _ = _; simp at this; omega
    clear hX hF hSm hS S1
    by_cases hlt : a + 20 ≤ n
    · have hltz : ((a + 20 : Nat) : Int) ≤ (n : Int) := by omega
      obtain ⟨b, hb⟩ : ∃ b, b = a + 20 := ⟨_, rfl⟩
      rw [← hb] at hltz
      rw [← hb]
      have HB : Hid _ := hb
      clear hb
      go_wp2_with fail
      rw [HN.out]
      refine (INS.out X (Y.take 20) (Y.drop 20) _ _ (by simp) (LEN.out _ SM.out ▸ HN.out ▸ rfl) SS.out a b XL.out.symm (by have := HB.out; have := XL.out; have := YL.out; simp; omega)).mono ?_
      rintro r w1 ⟨rfl, Z, z1, s1⟩
      rw [← HN.out]
      have N1 : Hid (Same (ltOf cf) (X ++ Z ++ Y.drop 20) D) := by
        refine Same.put (Y := Y.take 20) ?_ z1
        have := SM.out
        rwa [List.append_assoc, List.take_append_drop]
      have N2 : Hid (Full (ltOf cf) 20 (X ++ Z)) := Full.snoc X Z FF.out (by have := z1.len; have := YL.out; rw [z1.len]; simp; omega) z1.1
      have N3 : Hid ((X ++ Z).length = b) := by have := z1.len; have := YL.out; have := HB.out; have := XL.out; show _ = _; simp at *; omega
      have N4 : Hid _ := s1
      clear z1 s1 SS
      go_wp2_with fail
      go_roundg (n - b)
      case measure => have := HB.out; omega
      case rel => exact ⟨b, rfl, by go_num, by omega, Nat.le_refl _, ⟨X ++ Z, Y.drop 20, N3.out, N2.out, N1.out, N4.out⟩⟩
    · have hltz : ¬ (((a + 20 : Nat) : Int) ≤ (n : Int)) := by omega
      have hltz' : (n : Int) < ((a + 20 : Nat) : Int) := by omega
      obtain ⟨b, hb⟩ : ∃ b, b = a + 20 := ⟨_, rfl⟩
      rw [← hb] at hltz hltz'
      rw [← hb]
      have HB : Hid _ := hb
      clear hb
      go_wp2_with fail
      rw [HN.out]
      refine (INS.out X Y [] _ _ (by simp) (LEN.out _ SM.out ▸ HN.out ▸ rfl) SS.out a d0.size XL.out.symm (by have := HN.out; have := XL.out; have := YL.out; omega)).mono ?_
      rintro r w1 ⟨rfl, Z, z1, s1⟩
      rw [← HN.out]
      have C0 : Aside (∃ d, Ch (ltOf cf) 20 d ∧ Same (ltOf cf) d D ∧ SW enc w0 blk off d.toArray w1) := by
        refine ⟨X ++ Z, FF.out.ch Z (Ch.last Z (by have := z1.len; have := YL.out; omega) z1.1), ?_, by simpa using s1⟩
        have := Same.put (T := []) (by rw [List.append_nil]; exact SM.out) z1
        simpa using this
      clear z1 s1 SS SM FF YL XL hltz hltz' HB
      go_wp2_with fail
      go_loopg [6, 7, 8, 9] n (fun kx s t u v wr => ∃ (bs : Nat), s = .int .i64 bs ∧ 20 ≤ bs ∧ bs ≤ 4194304 ∧ n - bs ≤ kx ∧ Aside (∃ d, Ch (ltOf cf) bs d ∧ Same (ltOf cf) d D ∧ SW enc w0 blk off d.toArray wr))
      case atStart => exact ⟨20, rfl, Nat.le_refl _, by omega, by omega, C0⟩
      case round =>
        clear C0
        obtain ⟨bs, rfl, hb1, hb2, hkx2, S1⟩ := hrel
        obtain ⟨d, hC, hSm, hS⟩ := S1.out
        by_cases hlt2 : bs < n
        · have hltz : (bs : Int) < (n : Int) := by omega
          have C1 : Aside (∃ X Y, X.length = 0 ∧ Full (ltOf cf) (2 * bs) X ∧ Ch (ltOf cf) bs Y ∧ Same (ltOf cf) (X ++ Y) D ∧ SW enc w0 blk off (X ++ Y).toArray wr) := ⟨[], d, rfl, Full.nil, hC, hSm, hS⟩
          clear hC hSm hS S1
          go_wp2_with fail
          go_loopg [7, 8] n (fun kx s t wr => ∃ (a : Nat), s = .int .i64 a ∧ t = .int .i64 (a + 2 * bs : Nat) ∧ a ≤ n ∧ n - a ≤ kx ∧ Aside (∃ X Y, X.length = a ∧ Full (ltOf cf) (2 * bs) X ∧ Ch (ltOf cf) bs Y ∧ Same (ltOf cf) (X ++ Y) D ∧ SW enc w0 blk off (X ++ Y).toArray wr))
          case atStart => exact ⟨0, rfl, by congr 1; omega, Nat.zero_le _, by omega, C1⟩
          case round =>
            clear C1
            obtain ⟨a, rfl, rfl, han, hkx3, S1⟩ := hrel
            obtain ⟨X, Y, hX, hF, hCY, hSm, hS⟩ := S1.out
            have hYL : Y.length + a = n := by have := LEN.out _ hSm; simp at this; omega
            have XL : Hid (X.length = a) := hX
            have FF : Hid _ := hF
            have SM : Hid _ := hSm
            have SS : Hid _ := hS
            have CY : Hid _ := hCY
            have YL : Hid _ := hYL
            clear hX hF hSm hS S1 hCY hYL
            obtain ⟨b, hb⟩ : ∃ b, b = a + 2 * bs := ⟨_, rfl⟩
            rw [← hb]
            by_cases hlt3 : b ≤ n
            · have hltz3 : (b : Int) ≤ (n : Int) := by omega
              obtain ⟨x, y, l, e1, e2, e3, e4, e5, e6⟩ := CY.out.two (by omega) (by have := YL.out; omega)
              have E1 : Hid _ := e1
              have E23 : Hid (x.length = bs ∧ y.length = bs) := ⟨e2, e3⟩
              have E45 : Hid (Asc (ltOf cf) x ∧ Asc (ltOf cf) y) := ⟨e4, e5⟩
              have E6 : Hid _ := e6
              have HB : Hid _ := hb
              have hbb : a + bs + bs ≤ b ∧ b ≤ a + bs + bs := by omega
              obtain ⟨hbb1, hbb2⟩ := hbb
              obtain ⟨m, hm⟩ : ∃ m : Nat, m = a + bs := ⟨_, rfl⟩
              have zm : (a : Int) + (bs : Int) = (m : Int) := by omega
              have HM : Hid _ := hm
              clear e1 e2 e3 e4 e5 e6 hb hm
              go_wp2_with fail
              rw [HN.out]
              refine (SYM.out (bs + bs + 1) X x y l (X ++ Y) _ a m b (by rw [E1.out]; simp) (by have := E23.out; omega) (by have := E23.out; omega) (by have := E23.out; omega) E45.out.1 E45.out.2 (LEN.out _ SM.out ▸ HN.out ▸ rfl) SS.out XL.out.symm (by have := E23.out; have := XL.out; have := HM.out; omega) (by have := E23.out; have := XL.out; omega)).mono ?_
              rintro r w2 ⟨rfl, Z, z1, s1⟩
              rw [← HN.out]
              have N1 : Hid (Same (ltOf cf) (X ++ Z ++ l) D) := by
                refine Same.put (Y := x ++ y) ?_ z1
                have e : X ++ Y = X ++ (x ++ y) ++ l := by rw [E1.out]; simp
                rw [← e]; exact SM.out
              have N5 : Z.length = 2 * bs := by have := z1.len; have := E23.out; simp at *; omega
              have N2 : Hid (Full (ltOf cf) (2 * bs) (X ++ Z)) := Full.snoc X Z FF.out N5 z1.1
              have N3 : Hid ((X ++ Z).length = b) := by have := XL.out; show _ = _; rw [List.length_append, N5, XL.out]; omega
              have N4 : Hid _ := s1
              clear z1 s1 SS N5
              go_wp2_with fail
              go_roundg (n - b)
              case measure => omega
              case rel => exact ⟨b, rfl, by first | rfl | (congr 1; omega), by omega, Nat.le_refl _, ⟨X ++ Z, l, N3.out, N2.out, E6.out, N1.out, N4.out⟩⟩
            · have hltz3 : ¬ ((b : Int) ≤ (n : Int)) := by omega
              have hltz3' : (n : Int) < (b : Int) := by omega
              have hbb : a + bs + bs ≤ b ∧ b ≤ a + bs + bs := by omega
              obtain ⟨hbb1, hbb2⟩ := hbb
              obtain ⟨m, hm⟩ : ∃ m : Nat, m = a + bs := ⟨_, rfl⟩
              have zm : (a : Int) + (bs : Int) = (m : Int) := by omega
              have HM : Hid _ := hm
              have hm' : m ≤ a + bs ∧ a + bs ≤ m := by omega
              obtain ⟨hm1, hm2⟩ := hm'
              clear hb hm
              by_cases hlt4 : m < n
              · have hltz4 : (m : Int) < (n : Int) := by omega
                obtain ⟨x, y, e1, e2, e4, e5⟩ := CY.out.more (by have := YL.out; omega)
                have hy : y.length ≤ bs := by have h1 := congrArg List.length e1; have := YL.out; rw [List.length_append] at h1; omega
                have E1 : Hid _ := e1
                have E23 : Hid (x.length = bs ∧ y.length + m = n) := ⟨e2, by have h1 := congrArg List.length e1; have := YL.out; rw [List.length_append] at h1; omega⟩
                have E45 : Hid (Asc (ltOf cf) x ∧ Asc (ltOf cf) y) := ⟨e4, e5.done hy⟩
                clear e1 e2 e4 e5 hy
                go_wp2_with fail
                rw [HN.out]
                refine (SYM.out (n + 1) X x y [] (X ++ Y) _ a m d0.size (by rw [E1.out]; simp) (by have := E23.out; omega) (by have := E23.out; omega) (by have := E23.out; omega) E45.out.1 E45.out.2 (LEN.out _ SM.out ▸ HN.out ▸ rfl) SS.out XL.out.symm (by have := E23.out; have := XL.out; have := HM.out; omega) (by have := E23.out; have := XL.out; have := HN.out; omega)).mono ?_
                rintro r w2 ⟨rfl, Z, z1, s1⟩
                rw [← HN.out]
                have N1 : Aside (∃ d, Ch (ltOf cf) (bs * 2) d ∧ Same (ltOf cf) d D ∧ SW enc w0 blk off d.toArray w2) := by
                  refine ⟨X ++ Z, ?_, ?_, by simpa using s1⟩
                  · rw [Nat.mul_comm]
                    exact FF.out.ch Z (Ch.last Z (by have := z1.len; have := E23.out; simp at *; omega) z1.1)
                  · have := Same.put (X := X) (Y := x ++ y) (T := []) (by rw [List.append_nil, ← E1.out]; exact SM.out) z1
                    simpa using this
                clear z1 s1 SS
                go_wp2_with fail
                go_roundg (n - bs * 2)
                case measure => omega
                case rel => exact ⟨bs * 2, by go_num, by omega, by omega, Nat.le_refl _, N1⟩
              · have hltz4 : ¬ ((m : Int) < (n : Int)) := by omega
                have hltz4' : (n : Int) ≤ (m : Int) := by omega
                have N1 : Aside (∃ d, Ch (ltOf cf) (bs * 2) d ∧ Same (ltOf cf) d D ∧ SW enc w0 blk off d.toArray wr) := by
                  refine ⟨X ++ Y, ?_, SM.out, SS.out⟩
                  rw [Nat.mul_comm]
                  exact FF.out.ch Y (Ch.last Y (by have := YL.out; omega) (CY.out.done (by have := YL.out; omega)))
                clear SS
                go_wp2_with fail
                go_roundg (n - bs * 2)
                case measure => omega
                case rel => exact ⟨bs * 2, by go_num, by omega, by omega, Nat.le_refl _, N1⟩
        · have hltz : ¬ ((bs : Int) < (n : Int)) := by omega
          have hltz' : (n : Int) ≤ (bs : Int) := by omega
          have FIN : Hid (∃ Z, St (ltOf cf) Z D ∧ SW enc w0 blk off Z.toArray wr) := ⟨d, hSm.st (hC.done (by have := LEN.out _ hSm; omega)), hS⟩
          clear hC hSm hS S1
          go_wp2_with fail
          go_end0
          exact ⟨rfl, FIN.out⟩
end
end Go.Proofs.YtanfllednlpbaaaGreat
namespace Go.Proofs.YtanfllednlpbaaaGreat
open Go.RowKit
set_option linter.unusedSimpArgs false
set_option linter.unusedVariables false
def eqR (l m : List (List Int)) : Bool := decide (l = m)
theorem eqR_refl (l : List (List Int)) : eqR l l = true := by simp [eqR]
theorem eqR_no {l m : List (List Int)} {j : Nat} {x y : List Int} (hx : l[j]? = some x) (hy : m[j]? = some y) (h : eqL x y = false) : eqR l m = false := by
  unfold eqR; simp; rintro rfl; rw [hx] at hy; cases hy; rw [eqL_refl] at h; cases h
theorem eqR_yes {l m : List (List Int)} {j : Nat} (h : l.length = m.length) (hj : l.length ≤ j) (ht : l.take j = m.take j) : eqR l m = true := by
  unfold eqR; simp; rw [List.take_of_length_le hj, List.take_of_length_le (by omega)] at ht; exact ht
theorem eqR_len {l m : List (List Int)} (h : l.length ≠ m.length) : eqR l m = false := by
  unfold eqR; simp; rintro rfl; exact h rfl
theorem eqL_eq {x y : List Int} (h : eqL x y = true) : x = y := by unfold eqL at h; simpa using h
theorem take_eq_step {α : Type} {l m : List α} {j : Nat} {x : α} (ht : l.take j = m.take j) (hx : l[j]? = some x) (hy : m[j]? = some x) : l.take (j + 1) = m.take (j + 1) := by
  rw [List.take_add_one, List.take_add_one, ht, hx, hy]
def lessL : List Int → List Int → Bool
  | [], [] => false
  | [], _ :: _ => true
  | _ :: _, [] => false
  | x :: a, y :: b => if x = y then lessL a b else decide (x < y)
theorem lessL_at : ∀ (a b : List Int) (j : Nat) (x y : Int), a.take j = b.take j → a[j]? = some x → b[j]? = some y → x ≠ y → lessL a b = decide (x < y)
  | [], _, _, _, _, _, h, _, _ => by simp at h
  | _ :: _, [], _, _, _, _, _, h, _ => by simp at h
  | u :: a, v :: b, 0, x, y, _, hx, hy, hne => by simp at hx hy; subst hx hy; simp [lessL, hne]
  | u :: a, v :: b, j + 1, x, y, ht, hx, hy, hne => by
    simp only [List.take_succ_cons, List.cons.injEq] at ht
    obtain ⟨rfl, ht⟩ := ht
    simp only [List.getElem?_cons_succ] at hx hy
    simp only [lessL, if_true]
    exact lessL_at a b j x y ht hx hy hne
theorem lessL_end : ∀ (a b : List Int) (j : Nat), a.take j = b.take j → (a.length ≤ j ∨ b.length ≤ j) → lessL a b = decide (a.length < b.length)
  | [], [], _, _, _ => by simp [lessL]
  | [], v :: b, _, _, _ => by simp [lessL]
  | u :: a, [], _, _, _ => by simp [lessL]
  | u :: a, v :: b, 0, _, h => by simp at h
  | u :: a, v :: b, j + 1, ht, h => by
    simp only [List.take_succ_cons, List.cons.injEq] at ht
    obtain ⟨rfl, ht⟩ := ht
    simp only [lessL, if_true, List.length_cons]
    rw [lessL_end a b j ht (by simp only [List.length_cons] at h; omega)]
    simp
def countL (l : List (List Int)) (r : List Int) : Nat := (l.filter fun x => eqL x r).length
theorem countL_take {l : List (List Int)} {j : Nat} {x r : List Int} (h : l[j]? = some x) : countL (l.take (j + 1)) r = countL (l.take j) r + (if eqL x r then 1 else 0) := by
  rw [List.take_add_one, h]
  unfold countL
  simp [List.filter_append, List.filter_cons]
  split <;> simp
theorem countL_le (l : List (List Int)) (r : List Int) : countL l r ≤ l.length := List.length_filter_le _ _
theorem countL_take_le (l : List (List Int)) (j : Nat) (r : List Int) : countL (l.take j) r ≤ j := Nat.le_trans (countL_le _ _) (by simp; omega)
end Go.Proofs.YtanfllednlpbaaaGreat
namespace Go.Proofs.YtanfllednlpbaaaGreat
open Go.RowKit Go.Shelf Go.Lib Go.Sort
set_option linter.unusedSimpArgs false
set_option linter.unusedVariables false
theorem lessL_asym : ∀ a b : List Int, lessL a b = true → lessL b a = false
  | [], [], _ => rfl
  | [], _ :: _, _ => rfl
  | _ :: _, [], h => by cases h
  | x :: a, y :: b, h => by
    unfold lessL at h ⊢
    by_cases e : x = y
    · subst e; simp at h ⊢; exact lessL_asym a b h
    · rw [if_neg e] at h; rw [if_neg (fun h' => e h'.symm)]
      have := of_decide_eq_true h
      exact decide_eq_false (by omega)
theorem lessL_ntrans : ∀ a b c : List Int, lessL b a = false → lessL c b = false → lessL c a = false
  | [], _, [], _, _ => rfl
  | [], _, _ :: _, _, _ => rfl
  | _ :: _, [], _, h, _ => by cases h
  | _ :: _, _ :: _, [], _, h => by cases h
  | x :: a, y :: b, z :: c, h, k => by
    unfold lessL at h k ⊢
    by_cases e1 : y = x
    · subst e1
      rw [if_pos rfl] at h
      by_cases e2 : z = y
      · subst e2; rw [if_pos rfl] at k ⊢; exact lessL_ntrans a b c h k
      · rw [if_neg e2] at k ⊢; exact k
    · rw [if_neg e1] at h
      have h1 := of_decide_eq_false h
      by_cases e2 : z = y
      · subst e2; rw [if_neg e1]; exact h
      · rw [if_neg e2] at k
        have k1 := of_decide_eq_false k
        rw [if_neg (by omega)]
        exact decide_eq_false (by omega)
theorem wkL : Wk lessL := ⟨lessL_asym, lessL_ntrans⟩
theorem wkOf {α β : Type} {lt : β → β → Bool} (h : Wk lt) (f : α → β) : Wk fun x y => lt (f x) (f y) := ⟨fun x y => h.asym _ _, fun x y z => h.trans _ _ _⟩
def cfOf {α : Type} (lt : α → α → Bool) (x y : α) : Int := if lt x y then -1 else if lt y x then 1 else 0
theorem ltOf_cfOf {α : Type} (lt : α → α → Bool) : ltOf (cfOf lt) = lt := by
  funext x y
  unfold ltOf cfOf
  cases lt x y
  · simp; cases lt y x <;> simp
  · simp
set_option maxHeartbeats 1000000 in
theorem sortedCmpV_any (vx vy : Value) (b1 b2 : Bool) (f Bl : Nat) (lb : Array Value) (W : World) (ef : ∀ args w, (callFunc f args).run Tryz.prog w = .ok (.enter f args) w) (hcell : W.cell? ⟨Bl, 0, none⟩ = some (.func (.func f) #[] lb))
    (h1 : Calls Tryz.prog f (#[vx, vy] ++ lb) W fun e w' => e = .returned (.bool b1) ∧ ∃ q', w' = W.drewN q') (h2 : ∀ q, Calls Tryz.prog f (#[vy, vx] ++ lb) (W.drewN q) fun e w' => e = .returned (.bool b2) ∧ ∃ q', w' = (W.drewN q).drewN q') :
    Calls Tryz.prog 105 #[vx, vy, .pointer (some ⟨Bl, 0, none⟩)] W fun e w' => e = .returned (.int .i64 (if b1 then -1 else if b2 then 1 else 0)) ∧ ∃ q, w' = W.drewN q := by
  have hcell' : ∀ q, (W.drewN q).cell? ⟨Bl, 0, none⟩ = some (.func (.func f) #[] lb) := fun _ => hcell
  cases b1 with
  | true =>
    go_enter Tryz.func105, Tryz.ntmps105
    go_wp2_with (go_at_fn f; refine h1.mono ?_; clear h1; rintro e w' ⟨rfl, q1, rfl⟩)
    go_ret
    exact ⟨rfl, q1, rfl⟩
  | false =>
    cases b2 with
    | true =>
      go_enter Tryz.func105, Tryz.ntmps105
      go_wp2_with (go_at_fn f; refine h1.mono ?_; clear h1; rintro e w' ⟨rfl, q1, rfl⟩; have hcq := hcell' q1)
      go_wp2_with (go_at_fn f; refine (h2 _).mono ?_; clear h2; rintro e w' ⟨rfl, q2, rfl⟩)
      go_ret
      exact ⟨rfl, q1 + q2, by simp [World.drewN, Nat.add_assoc]⟩
    | false =>
      go_enter Tryz.func105, Tryz.ntmps105
      go_wp2_with (go_at_fn f; refine h1.mono ?_; clear h1; rintro e w' ⟨rfl, q1, rfl⟩; have hcq := hcell' q1)
      go_wp2_with (go_at_fn f; refine (h2 _).mono ?_; clear h2; rintro e w' ⟨rfl, q2, rfl⟩)
      go_ret
      exact ⟨rfl, q1 + q2, by simp [World.drewN, Nat.add_assoc]⟩
end Go.Proofs.YtanfllednlpbaaaGreat
