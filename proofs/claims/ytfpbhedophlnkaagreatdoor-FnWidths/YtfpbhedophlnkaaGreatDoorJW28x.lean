/-
  The contract of impl.PutWord: it answers, in memory of its own, the word's length and its bytes; nothing where it is no word. For every text. Contracts of spec.CheckOf and impl.CheckOf: both answer the check sum of the bytes that the slice reads as, and change nothing. For every slice of bytes. The contracts of spec.Frame and impl.Frame: both answer, in memory of their own, the frame of the bytes and true; nothing and false where they are more than 4000. For every slice of bytes.
-/
import Derived.Test.YtfpbhedophlnkaaGreatDoorJW27x
import Derived.Test.YtfpbhedophlnkaaGreatDoorJW7x
import Derived.Laws.IdiomStrings
import Derived.Test.YtfpbhedophlnkaaGreatDoorRows
import Derived.Test.YtfpbhedophlnkaaGreatDoorJW3x
import Derived.WalkKit
import Derived.WalkSpells
import Derived.WalkLawsBesides
import Derived.Lib.SlBytesConst
namespace Go.Proofs.YtfpbhedophlnkaaGreatDoor
open Go.RowKit
set_option linter.unusedSimpArgs false
set_option linter.unusedVariables false

def putW (s : ByteArray) : List Int := if wordB s.data.toList then putN s.size ++ strL s else []
theorem wordB_size {s : ByteArray} (h : wordB s.data.toList = true) : 1 ≤ s.size ∧ s.size ≤ 12 := by
  have h0 : ¬ ¬ (1 ≤ s.size ∧ s.size ≤ 12) := fun hn => by rw [wordB_len hn] at h; cases h
  exact Decidable.not_not.1 h0
theorem putW_len (s : ByteArray) : (putW s).length ≤ 15 := by
  unfold putW
  split
  · rename_i h
    have := wordB_size h
    have := putN_len s.size
    simp [strL_len]; omega
  · simp
theorem putW_by (s : ByteArray) : By (putW s) := by
  unfold putW; split
  · exact (putN_by _).app (strL_by s)
  · exact By.nil
theorem putN_size {n : Nat} (h : n ≤ 1000000) : putN (n : Int) = enc (fold (n : Int)) := by
  unfold putN; rw [isN_mk (by omega)]; rfl

set_option maxRecDepth 100000 in
set_option maxHeartbeats 800000 in
theorem implPutWord_any (s : ByteArray) (w : World) (hs : s.size ≤ maxLen) : Calls Tryz.prog 89 #[.string s] w (Made w 5 .u8 (putW s)) := by
  have C := Lib.hid (implWordOk_any s w hs)
  cases hb : wordB s.data.toList with
  | false =>
    rw [show putW s = [] by unfold putW; rw [hb]; rfl]
    have c := C.out; rw [hb] at c
    have C1 := Lib.hid c; clear c C hb
    go_enter Tryz.func89, Tryz.ntmps89
    go_wp2_with (go_at_call 173; refine C1.out.mono ?_; rintro e w' ⟨rfl, rfl⟩)
    go_ret
    exact ⟨none, 0, rfl, Own.none_, Below.refl _ _⟩
  | true =>
    have hsz := wordB_size hb
    rw [show putW s = putN s.size ++ strL s by unfold putW; rw [hb]; rfl, putN_size (by omega)]
    have c := C.out; rw [hb] at c
    have C1 := Lib.hid c; clear c C hb
    have hel := enc_len (fold (s.size : Int)) (by have := fold_le (x := (s.size : Int)) (by omega); omega)
    obtain ⟨p, hp⟩ : ∃ p, p = enc (fold (s.size : Int)) := ⟨_, rfl⟩
    have N : Hid (∀ w : World, Calls Tryz.prog 172 #[.pointer (some ⟨w.heap.size, 0, none⟩), .int .i64 s.size] (w.alloc (Obj.cells #[.slice none 0 0] 112)) (Added (w.alloc (Obj.cells #[.slice none 0 0] 112)) w.heap.size w.heap.size 112 5 p)) := by
      intro w
      have := addNum_any w.heap.size w.heap.size [] (s.size : Int) _ (by omega) (Wr.new w 112 5) (by simp) (by simp)
      rw [List.nil_append, ← hp] at this
      exact this
    rw [← hp] at hel ⊢
    clear hp
    go_enter Tryz.func89, Tryz.ntmps89
    go_wp2_with (go_at_call 173; refine C1.out.mono ?_; rintro e w' ⟨rfl, rfl⟩)
    refine (N.out w).mono ?_
    rintro e w1 ⟨rfl, hw1, hb1⟩
    have W1 := Lib.hid hw1; have B1 := Lib.hid hb1; clear hw1 hb1
    go_wp2_with fail
    refine (addText_any w.heap.size w.heap.size p s w1 W1.out (by have := B1.out.size; simp at this; omega) (by omega)).mono ?_
    rintro e w2 ⟨rfl, ⟨ao, c, hblk, _, ho⟩, hb2⟩
    have hc := cell_of_one hblk
    have HO := Lib.hid ho; have B2 := Lib.hid hb2; clear ho hb2 hblk
    go_wp2
    go_ret
    exact ⟨ao, c, ret_slice (by simp), HO.out, (below_after B1.out).trans B2.out⟩
end Go.Proofs.YtfpbhedophlnkaaGreatDoor
namespace Go.Proofs.YtfpbhedophlnkaaGreatDoor
open Go.RowKit
set_option linter.unusedSimpArgs false
set_option linter.unusedVariables false

def chk (l : List Int) : Int := l.foldl (fun s c => (269 * s + c) % 999983) 5
theorem chk_snoc (l : List Int) (z : Int) : chk (l ++ [z]) = (269 * chk l + z) % 999983 := by unfold chk; rw [List.foldl_append]; rfl
theorem chk_bd (l : List Int) : 0 ≤ chk l ∧ chk l < 999983 := by
  rcases List.eq_nil_or_concat l with rfl | ⟨l', z, rfl⟩
  · exact ⟨by decide, by decide⟩
  · rw [List.concat_eq_append, chk_snoc]; omega

set_option maxHeartbeats 400000 in
theorem specCheckOf_any (ao : Option Addr) (c : Nat) (l : List Int) (w : World) (h : Rd w .u8 ao l) (hb : By l) (hn : l.length ≤ maxLen) :
    Calls Tryz.prog 119 #[.slice ao l.length c] w fun e w' => e = .returned (.int .i64 (chk l)) ∧ w = w' := by
  unfold maxLen at hn
  rcases h with rfl | ⟨b, off, rfl, hc⟩
  · go_enter Tryz.func119, Tryz.ntmps119
    go_wp2
    refine wp_loop_rounds 1 ?_; rw [rounds_succ]; go_wp2
    go_ret
    exact ⟨rfl, rfl⟩
  · go_enter Tryz.func119, Tryz.ntmps119
    go_wp2
    go_loop [3, 4] (fun s i => ∃ k : Nat, k ≤ l.length ∧ i = .int .i64 k ∧ s = .int .i64 (chk (l.take k))) (fun _ i => l.length - (intOf i).toNat)
    case atStart => exact ⟨0, Nat.zero_le _, rfl, rfl⟩
    case round =>
      obtain ⟨k, hk, rfl, rfl⟩ := hrel
      have bd := chk_bd (l.take k)
      by_cases hlt : k < l.length
      · obtain ⟨z, hz, _, hcz, ht⟩ := Rd.at_ hc hlt
        have zb := hb z hz
        have HT := Lib.hid ht; clear ht hc
        go_wp2
        go_round
        case rel => exact ⟨k + 1, by omega, by go_num, by rw [HT.out, chk_snoc]⟩
        case measure => simp [intOf]; omega
      · go_wp2
        go_ret
        exact ⟨ret_int (by rw [List.take_of_length_le (by omega)]), rfl⟩

set_option maxHeartbeats 400000 in
theorem implCheckOf_any (ao : Option Addr) (c : Nat) (l : List Int) (w : World) (h : Rd w .u8 ao l) (hb : By l) (hn : l.length ≤ maxLen) :
    Calls Tryz.prog 118 #[.slice ao l.length c] w fun e w' => e = .returned (.int .i64 (chk l)) ∧ w = w' := by
  unfold maxLen at hn
  rcases h with rfl | ⟨b, off, rfl, hc⟩
  · go_enter Tryz.func118, Tryz.ntmps118
    go_wp2
    refine wp_loop_rounds 1 ?_; rw [rounds_succ]; go_wp2
    go_ret
    exact ⟨rfl, rfl⟩
  · go_enter Tryz.func118, Tryz.ntmps118
    go_wp2
    go_loop [3, 8] (fun s i => ∃ k : Nat, k ≤ l.length ∧ i = .int .i64 k ∧ s = .int .i64 (chk (l.take k))) (fun _ i => l.length - (intOf i).toNat)
    case atStart => exact ⟨0, Nat.zero_le _, rfl, rfl⟩
    case round =>
      obtain ⟨k, hk, rfl, rfl⟩ := hrel
      have bd := chk_bd (l.take k)
      by_cases hlt : k < l.length
      · obtain ⟨z, hz, _, hcz, ht⟩ := Rd.at_ hc hlt
        have zb := hb z hz
        have HT := Lib.hid ht; clear ht hc
        go_wp2
        go_round
        case rel => exact ⟨k + 1, by omega, by go_num, by rw [HT.out, chk_snoc, Int.mul_comm 269]⟩
        case measure => simp [intOf]; omega
      · go_wp2
        go_ret
        exact ⟨ret_int (by rw [List.take_of_length_le (by omega)]), rfl⟩
end Go.Proofs.YtfpbhedophlnkaaGreatDoor
namespace Go.Proofs.YtfpbhedophlnkaaGreatDoor
open Go.RowKit
set_option linter.unusedSimpArgs false
set_option linter.unusedVariables false

def frameL (l : List Int) : List Int := if l.length ≤ 4000 then ((([80, 83] ++ putN l.length) ++ l) ++ putN (chk l)) else []
theorem frameL_yes {l : List Int} (h : l.length ≤ 4000) : frameL l = ((([80, 83] ++ putN l.length) ++ l) ++ putN (chk l)) := by unfold frameL; rw [if_pos h]
theorem frameL_no {l : List Int} (h : ¬ l.length ≤ 4000) : frameL l = [] := by unfold frameL; rw [if_neg h]
theorem frameL_len (l : List Int) : (frameL l).length ≤ 4008 := by
  unfold frameL; split
  · have := putN_len l.length; have := putN_len (chk l); simp only [List.length_append]; simp; omega
  · simp
theorem frameL_by {l : List Int} (h : By l) : By (frameL l) := by
  unfold frameL; split
  · refine ((By.app ?_ (putN_by _)).app h).app (putN_by _)
    intro z hz; simp at hz; omega
  · exact By.nil
theorem putN_size4 {n : Nat} (h : n ≤ 4000) : putN (n : Int) = enc (fold (n : Int)) := by
  unfold putN; rw [isN_mk (by omega)]; rfl
theorem putN_chk (l : List Int) : putN (chk l) = enc (fold (chk l)) := by
  have := chk_bd l
  unfold putN; rw [isN_mk (by omega)]; rfl
theorem rd_ps (w : World) (e : TypeId) (m : Nat × Nat) : Rd (w.alloc (.cells #[.int .u8 80, .int .u8 83] e m)) .u8 (some ⟨w.heap.size, 0, none⟩) [80, 83] := by
  refine .inr ⟨w.heap.size, 0, rfl, fun i hi => ?_⟩
  have hh : (w.alloc (.cells #[.int .u8 80, .int .u8 83] e m)).heap[w.heap.size]? = some (.cells #[.int .u8 80, .int .u8 83] e m) := heap_alloc_new w _
  rw [Nat.zero_add, cell_of_row _ _ _ _ _ _ hh]
  match i, hi with
  | 0, _ => rfl
  | 1, _ => rfl

set_option maxRecDepth 100000 in
set_option maxHeartbeats 1600000 in
theorem specFrame_any (b : Option Addr) (d : Nat) (l : List Int) (w : World) (h : Rd w .u8 b l) (hby : By l) (hl : l.length ≤ maxLen) :
    Calls Tryz.prog 116 #[.slice b l.length d] w (Made2 w 5 .u8 (frameL l) (decide (l.length ≤ 4000))) := by
  have hl' := hl
  unfold maxLen at hl
  by_cases h4 : l.length ≤ 4000
  · rw [frameL_yes h4, show decide (l.length ≤ 4000) = true by simpa using h4]
    have cb := chk_bd l
    have H := Lib.hid h; have HL := Lib.hid hl'; have HBY := Lib.hid hby
    have CK : Hid (∀ w : World, Rd w .u8 b l → Calls Tryz.prog 119 #[.slice b l.length d] w fun e w' => e = .returned (.int .i64 (chk l)) ∧ w = w') := fun w h => specCheckOf_any b d l w h hby hl'
    clear h hl' hby hl
    obtain ⟨p, hp⟩ : ∃ p, p = putN (l.length : Int) := ⟨_, rfl⟩
    obtain ⟨ck, hck⟩ : ∃ ck, ck = chk l := ⟨_, rfl⟩
    obtain ⟨r, hrr⟩ : ∃ r, r = putN ck := ⟨_, rfl⟩
    rw [← hck] at CK cb ⊢
    have hpl : p.length ≤ 3 := by rw [hp]; exact putN_len _
    have hrl : r.length ≤ 3 := by rw [hrr]; exact putN_len _
    have P1 : Hid (∀ w : World, Calls Tryz.prog 113 #[.int .i64 l.length] w (Made w 5 .u8 p)) := by rw [hp]; exact fun w => specPutNum_any _ w
    have P2 : Hid (∀ w : World, Calls Tryz.prog 113 #[.int .i64 ck] w (Made w 5 .u8 r)) := by rw [hrr]; exact fun w => specPutNum_any _ w
    rw [← hp, ← hrr]
    clear hp hck hrr
    obtain ⟨fl, hfl⟩ : ∃ fl, fl = ((([80, 83] ++ p) ++ l) ++ r) := ⟨_, rfl⟩
    rw [← hfl]
    have HFL := Lib.hid hfl; clear hfl
    have kc := fun (w : World) (C : Array Value) (n c : Nat) => Lib.run_convert_bytes_const (P := Tryz.prog) w 22 5 C n c Tryz.underlying22 Tryz.underlying5
    go_enter Tryz.func116, Tryz.ntmps116
    go_wp2_with fail
    refine (P1.out _).mono ?_
    rintro e w1 ⟨a1, c1, rfl, o1, b1⟩
    have hb1 : Below w.heap.size w w1 := ((Below.refl _ _).alloc (Nat.le_refl _) _).trans (b1.mono (by simp))
    have R1 := Lib.hid (H.out.below hb1); have T1 := Lib.hid hb1; have PS := Lib.hid ((rd_ps w _ _).below b1); have O1 := Lib.hid o1
    clear o1 b1 hb1 H kc
    go_wp2_with fail
    refine (l01Join_any _ _ _ _ [80, 83] p _ PS.out O1.out.rd (by simp; omega)).mono ?_
    obtain ⟨l1, hl1⟩ : ∃ l1, l1 = [80, 83] ++ p := ⟨_, rfl⟩
    rw [← hl1]
    have hl1l : l1.length ≤ 5 := by rw [hl1]; simp; omega
    have HL1 := Lib.hid hl1; clear hl1
    rintro e w2 ⟨a2, c2, rfl, o2, b2⟩
    have R2 := Lib.hid (R1.out.below b2); have T2 := Lib.hid (below_step T1.out (Nat.le_refl _) b2); have O2 := Lib.hid o2
    clear o2 b2 R1 T1 PS O1
    go_wp2_with fail
    refine (l01Join_any _ _ _ _ l1 l _ O2.out.rd R2.out (by omega)).mono ?_
    obtain ⟨l2, hl2⟩ : ∃ l2, l2 = l1 ++ l := ⟨_, rfl⟩
    rw [← hl2]
    have hl2l : l2.length ≤ 4005 := by rw [hl2]; simp; omega
    have HL2 := Lib.hid hl2; clear hl2
    rintro e w3 ⟨a3, c3, rfl, o3, b3⟩
    have R3 := Lib.hid (R2.out.below b3); have T3 := Lib.hid (below_step T2.out (Nat.le_refl _) b3); have O3 := Lib.hid o3
    clear o3 b3 R2 T2 O2
    go_wp2_with fail
    refine (CK.out _ R3.out).mono ?_
    rintro e w' ⟨rfl, rfl⟩
    go_wp2_with fail
    refine (P2.out _).mono ?_
    rintro e w4 ⟨a4, c4, rfl, o4, b4⟩
    have T4 := Lib.hid (below_step T3.out (Nat.le_refl _) b4); have O3' := Lib.hid (O3.out.below b4); have O4 := Lib.hid o4
    clear o4 b4 R3 T3 O3
    go_wp2_with fail
    refine (l01Join_any _ _ _ _ l2 r _ O3'.out.rd O4.out.rd (by omega)).mono ?_
    rintro e w5 ⟨a5, c5, rfl, o5, b5⟩
    have T5 := Lib.hid (below_step T4.out (Nat.le_refl _) b5); have O5 := Lib.hid (o5.base_le T4.out.size)
    clear o5 b5 T4 O3' O4
    go_wp2
    go_ret2
    have e : fl = l2 ++ r := by rw [HFL.out, HL2.out, HL1.out]
    exact ⟨a5, c5, ret_two (by rw [e]; simp), by rw [e]; exact O5.out, T5.out⟩
  · rw [frameL_no h4, show decide (l.length ≤ 4000) = false by simpa using h4]
    have h4' : (4000 : Int) < l.length := by omega
    go_enter Tryz.func116, Tryz.ntmps116
    go_wp2
    go_ret2
    exact ⟨none, 0, rfl, Own.none_, Below.refl _ _⟩

set_option maxRecDepth 100000 in
set_option maxHeartbeats 1600000 in
theorem implFrame_any (b : Option Addr) (d : Nat) (l : List Int) (w : World) (h : Rd w .u8 b l) (hnil : b = none → d = 0) (hby : By l) (hl : l.length ≤ maxLen) :
    Calls Tryz.prog 90 #[.slice b l.length d] w (Made2 w 5 .u8 (frameL l) (decide (l.length ≤ 4000))) := by
  have hl' := hl
  unfold maxLen at hl
  by_cases h4 : l.length ≤ 4000
  · rw [frameL_yes h4, show decide (l.length ≤ 4000) = true by simpa using h4]
    have cb := chk_bd l
    have H := Lib.hid h; have NIL := Lib.hid hnil
    have CK : Hid (∀ w : World, Rd w .u8 b l → Calls Tryz.prog 118 #[.slice b l.length d] w fun e w' => e = .returned (.int .i64 (chk l)) ∧ w = w') := fun w h => implCheckOf_any b d l w h hby hl'
    rw [putN_size4 h4, putN_chk]
    clear h hl' hby hl hnil
    obtain ⟨p, hp⟩ : ∃ p, p = enc (fold (l.length : Int)) := ⟨_, rfl⟩
    obtain ⟨ck, hck⟩ : ∃ ck, ck = chk l := ⟨_, rfl⟩
    obtain ⟨r, hrr⟩ : ∃ r, r = enc (fold ck) := ⟨_, rfl⟩
    rw [← hck] at CK cb ⊢
    have hpl : p.length ≤ 3 := by rw [hp]; exact (enc_len _ (by have := fold_le (x := (l.length : Int)) (by omega); omega)).2
    have N1 : Hid (∀ (B h : Nat) (m : List Int) (w : World), Wr w B h 112 5 m → B ≤ w.heap.size → m.length ≤ 1000000000 → Calls Tryz.prog 172 #[.pointer (some ⟨h, 0, none⟩), .int .i64 l.length] w (Added w B h 112 5 (m ++ p))) := by
      rw [hp]; exact fun B h m w h1 h2 h3 => addNum_any B h m _ w (by omega) h1 h2 h3
    have N2 : Hid (∀ (B h : Nat) (m : List Int) (w : World), Wr w B h 112 5 m → B ≤ w.heap.size → m.length ≤ 1000000000 → Calls Tryz.prog 172 #[.pointer (some ⟨h, 0, none⟩), .int .i64 ck] w (Added w B h 112 5 (m ++ r))) := by
      rw [hrr]; exact fun B h m w h1 h2 h3 => addNum_any B h m _ w (by omega) h1 h2 h3
    rw [← hp, ← hrr]
    clear hp hck hrr
    obtain ⟨fl, hfl⟩ : ∃ fl, fl = ((([80, 83] ++ p) ++ l) ++ r) := ⟨_, rfl⟩
    rw [← hfl]
    have HFL := Lib.hid hfl; clear hfl
    have A0 : Hid (Calls Tryz.prog 174 #[.pointer (some ⟨w.heap.size, 0, none⟩), .string ⟨#[80, 83]⟩] (w.alloc (Obj.cells #[.slice none 0 0] 112)) (Added (w.alloc (Obj.cells #[.slice none 0 0] 112)) w.heap.size w.heap.size 112 5 [80, 83])) :=
      addText_any w.heap.size w.heap.size [] ⟨#[80, 83]⟩ _ (Wr.new w 112 5) (by simp) (by decide)
    go_enter Tryz.func90, Tryz.ntmps90
    go_wp2_with fail
    refine A0.out.mono ?_
    rintro e w1 ⟨rfl, hw1, hb1⟩
    have T1 := Lib.hid (below_after hb1); have W1 := Lib.hid hw1
    clear hw1 hb1 A0
    go_wp2_with fail
    refine (N1.out _ _ _ _ W1.out T1.out.size (by simp)).mono ?_
    obtain ⟨l1, hl1⟩ : ∃ l1, l1 = [80, 83] ++ p := ⟨_, rfl⟩
    rw [← hl1]
    have hl1l : l1.length ≤ 5 := by rw [hl1]; simp; omega
    have HL1 := Lib.hid hl1; clear hl1
    rintro e w2 ⟨rfl, hw2, hb2⟩
    have T2 := Lib.hid (T1.out.trans hb2); have W2 := Lib.hid hw2
    clear hw2 hb2 T1 W1
    go_wp2_with fail
    refine (addBytes_any _ _ _ _ _ l _ W2.out T2.out.size (H.out.below T2.out) NIL.out (by omega)).mono ?_
    obtain ⟨l2, hl2⟩ : ∃ l2, l2 = l1 ++ l := ⟨_, rfl⟩
    rw [← hl2]
    have hl2l : l2.length ≤ 4005 := by rw [hl2]; simp; omega
    have HL2 := Lib.hid hl2; clear hl2
    rintro e w3 ⟨rfl, hw3, hb3⟩
    have T3 := Lib.hid (T2.out.trans hb3); have W3 := Lib.hid hw3
    clear hw3 hb3 T2 W2
    go_wp2_with fail
    refine (CK.out _ (H.out.below T3.out)).mono ?_
    rintro e w' ⟨rfl, rfl⟩
    go_wp2_with fail
    refine (N2.out _ _ _ _ W3.out T3.out.size (by omega)).mono ?_
    rintro e w4 ⟨rfl, ⟨ao, c, hblk, _, ho⟩, hb4⟩
    have hc := cell_of_one hblk
    have HO := Lib.hid ho; have T4 := Lib.hid (T3.out.trans hb4); clear ho hb4 hblk T3 W3
    go_wp2
    go_ret2
    have e : fl = l2 ++ r := by rw [HFL.out, HL2.out, HL1.out]
    exact ⟨ao, c, ret_two (by rw [e]; simp), by rw [e]; exact HO.out, T4.out⟩
  · rw [frameL_no h4, show decide (l.length ≤ 4000) = false by simpa using h4]
    have h4' : (4000 : Int) < l.length := by omega
    go_enter Tryz.func90, Tryz.ntmps90
    go_wp2
    go_ret2
    exact ⟨none, 0, rfl, Own.none_, Below.refl _ _⟩
end Go.Proofs.YtfpbhedophlnkaaGreatDoor
