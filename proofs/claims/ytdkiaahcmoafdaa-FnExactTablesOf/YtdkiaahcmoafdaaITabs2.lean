/-
  Contract of impl.TablesOf: the names of the scans, each once, by their bytes. For every slice of nodes.
-/
import Derived.Test.YtdkiaahcmoafdaaTabsP
import Derived.Test.YtdkiaahcmoafdaaShelf2
import Derived.Lib.OwnBridge
namespace Go.Proofs.Ytdkiaahcmoafdaa
open Go.RowKit Go.Shelf Go.Lib Go.Sort
set_option linter.unusedSimpArgs false
set_option linter.unusedVariables false

theorem ownS_enc {w : World} {base : Nat} {ao : Option Addr} {c : Nat} {l : List ByteArray} (h : OwnS w base ao c l) : w.ownsRow base 9 1 (.slice ao l.length c) l.length ((bytesS l).map encStr) := by
  unfold bytesS; rw [map_encStr]; exact h
theorem own_grow {w : World} {base : Nat} {e : TypeId} {v : Value} {n : Nat} {xs : List Value} (h : w.ownsRow base e 1 v n xs) (os : Array Obj) : (grow w os).ownsRow base e 1 v n xs := by
  refine ⟨h.1, ?_⟩
  rcases h.2 with h2 | ⟨g, cap, cur, hv, hb, hg, r⟩
  · exact .inl h2
  · refine .inr ⟨g, cap, cur, hv, hb, ?_, r⟩
    have hlt : g < w.heap.size := by
      rcases Nat.lt_or_ge g w.heap.size with h' | h'
      · exact h'
      · rw [Array.getElem?_eq_none h'] at hg; cases hg
    show (w.heap ++ os)[g]? = _
    rw [Array.getElem?_append_left hlt]; exact hg
theorem below_grow' {B : Nat} {a w : World} (h : Below B a w) (hB : B ≤ w.heap.size) (os : Array Obj) : Below B a (grow w os) :=
  ⟨h.os, h.tape, h.output, Nat.le_trans h.size (by show w.heap.size ≤ (w.heap ++ os).size; simp), fun k hk => by
    show (w.heap ++ os)[k]? = _
    rw [Array.getElem?_append_left (by omega)]; exact h.block k hk⟩
theorem bytesS_len (l : List ByteArray) : (bytesS l).length = l.length := by simp [bytesS]
theorem tabsOf_le (l : List ByteArray) : (tabsOf l).length ≤ l.length := by have := tabsOf_len l []; simpa [tabsOf] using this

theorem sortS_any (g cap : Nat) (l : List ByteArray) (base : Nat) (w : World) (h : OwnS w base (some ⟨g, 0, none⟩) cap l) (hl : l.length ≤ 1048576) :
    Calls Try.prog 68 #[.slice (some ⟨g, 0, none⟩) l.length cap] w fun e w' => e = .returned (.tuple #[]) ∧
      w'.ownsRow base 9 1 (.slice (some ⟨g, 0, none⟩) l.length cap) l.length (((bytesS l).mergeSort fun x y => decide (x ≤ y)).map encStr) ∧ Below base w w' := by
  have ho := ownS_enc h
  obtain ⟨g', cap', hv, hb, hg, hn, hm, hz, hH⟩ := holds_of_ownsRow ho (by intro e; cases e)
  simp only [Value.slice.injEq, Option.some.injEq, Addr.mk.injEq] at hv
  obtain ⟨⟨rfl, _⟩, _, rfl⟩ := hv
  have hc := Any.slices_Sort_string Try.lays190 g 0 cap (bytesS l) w hH hg (by rw [bytesS_len]; omega)
  rw [bytesS_len] at hc
  refine hc.mono ?_
  rintro e w' ⟨rfl, n, os, rfl⟩
  have hlen : ((bytesS l).mergeSort fun x y => decide (x ≤ y)).length = l.length := by rw [List.length_mergeSort, bytesS_len]
  have h1 := ownsRow_putRow (q := n) ho hlen (Nat.le_refl _)
  rw [List.take_of_length_le (by omega)] at h1
  refine ⟨rfl, own_grow h1 os, below_grow' (below_putRow (Below.refl _ _) hb) ?_ os⟩
  show base ≤ (putRow encStr (Sort.ahead w n) g 0 _).heap.size
  simp [putRow, mapBlock, Sort.ahead]; omega

theorem compactS_any (g cap n : Nat) (zs : List (List UInt8)) (base : Nat) (w : World) (hzn : zs.length = n) (h : w.ownsRow base 9 1 (.slice (some ⟨g, 0, none⟩) zs.length cap) zs.length (zs.map encStr)) (hl : zs.length ≤ 1048576) :
    Calls Try.prog 69 #[.slice (some ⟨g, 0, none⟩) n cap] w fun e w' => e = .returned (.slice (some ⟨g, 0, none⟩) (compact zs).length cap) ∧
      w'.ownsRow base 9 1 (.slice (some ⟨g, 0, none⟩) (compact zs).length cap) (compact zs).length ((compact zs).map encStr) ∧ Below base w w' := by
  subst hzn
  obtain ⟨g', cap', hv, hb, hg, hn, hm, hz, hH⟩ := holds_of_ownsRow h (by intro e; cases e)
  simp only [Value.slice.injEq, Option.some.injEq, Addr.mk.injEq] at hv
  obtain ⟨⟨rfl, _⟩, _, rfl⟩ := hv
  refine (Any.slices_Compact_string Try.lays194 g 0 cap zs w hH (by omega) hn).mono ?_
  rintro e w' ⟨rfl, q, rfl⟩
  have hle := compact_length_le zs
  have h1 := ownsRow_putRow (q := q) (k := (compact zs).length) (ys := compact zs ++ List.replicate (zs.length - (compact zs).length) []) h (by simp; omega) hle
  rw [List.take_left] at h1
  exact ⟨rfl, h1, below_putRow (Below.refl _ _) hb⟩

set_option maxRecDepth 100000 in
set_option maxHeartbeats 4000000 in
theorem implTables_any (ao : Option Addr) (c : Nat) (p : List Nd) (hp : Small p) (w : World) (h : RdN w ao p) :
    Calls Try.prog 24 #[.slice ao p.length c] w (MadeS w (if planB p = true then tabsOf (scans p) else [])) := by
  have H := Lib.hid h; clear h
  cases ht : treeN p with
  | none =>
    have E := Lib.hid (show (if planB p = true then tabsOf (scans p) else []) = [] by unfold planB; rw [ht]; rfl)
    have HT := Lib.hid ht; clear ht
    rw [E.out]
    go_enter Try.func24, Try.ntmps24
    go_wp2_with fail
    refine (treeOf_any ao c p hp _ H.out).mono ?_
    intro e w1 hpost
    rw [HT.out] at hpost
    obtain ⟨rfl, b1⟩ := hpost
    have B1 := Lib.hid b1; clear b1
    go_wp2_with fail
    refine (tablesNil_any _).mono ?_
    rintro e w' ⟨rfl, rfl⟩
    go_wp2_with fail
    refine (Any.slices_Sort_string_none Try.lays190 none 0 _).mono ?_
    rintro e w' ⟨rfl, rfl⟩
    go_wp2_with fail
    refine (Any.slices_Compact_string_empty Try.lays194 none 0 _).mono ?_
    rintro e w' ⟨rfl, rfl⟩
    go_wp2_with fail
    go_ret
    exact ⟨none, 0, rfl, OwnS.none_, B1.out⟩
  | some T =>
    obtain ⟨hok, htabs⟩ := treeN_tabs ht
    have h40 := (treeN_some ht).1
    have E := Lib.hid (show (if planB p = true then tabsOf (scans p) else []) = tabsOf T.tabs by unfold planB; rw [ht, htabs]; rfl)
    have hpos := T.tabs_pos
    have hlen : T.tabs.length ≤ 40 := by rw [htabs]; have := scans_len p; omega
    have HT := Lib.hid ht
    have HK := Lib.hid hok
    clear ht htabs hok
    rw [E.out]
    go_enter Try.func24, Try.ntmps24
    go_wp2_with fail
    refine (treeOf_any ao c p hp _ H.out).mono ?_
    intro e w1 hpost
    rw [HT.out] at hpost
    obtain ⟨b, rfl, tr, b1⟩ := hpost
    have B1 := Lib.hid b1; have TR := Lib.hid tr; clear b1 tr
    go_wp2_with fail
    refine (tables_any T _ _ _ b TR.out (Nat.le_refl _) HK.out (by omega)).mono ?_
    rintro e w2 ⟨a2, c2, rfl, o2, b2⟩
    have B2 := Lib.hid (below_step B1.out (Nat.le_refl _) b2)
    have O2 := Lib.hid (o2.base_le B1.out.size)
    obtain ⟨g, rfl⟩ : ∃ g, a2 = some ⟨g, 0, none⟩ := by
      rcases o2.form with ⟨_, _, hz⟩ | ⟨g, h1, _⟩
      · rw [hz] at hpos; simp at hpos
      · exact ⟨g, h1⟩
    clear o2 b2
    go_wp2_with fail
    refine (sortS_any g c2 T.tabs w.heap.size _ O2.out (by omega)).mono ?_
    rintro e w3 ⟨rfl, o3, b3⟩
    have B3 := Lib.hid (B2.out.trans b3)
    generalize hzs : (bytesS T.tabs).mergeSort (fun x y => decide (x ≤ y)) = zs at o3
    have ZS := Lib.hid hzs
    have hzl : zs.length = T.tabs.length := by rw [← hzs, List.length_mergeSort, bytesS_len]
    rw [← hzl] at o3
    have O3 := Lib.hid o3
    have HZ := Lib.hid hzl
    clear o3 b3 hzs hzl
    go_wp2_with fail
    refine (compactS_any g c2 T.tabs.length zs w.heap.size _ HZ.out O3.out (by rw [HZ.out]; omega)).mono ?_
    rintro e w4 ⟨rfl, o4, b4⟩
    have B4 := Lib.hid (B3.out.trans b4)
    have e4 : compact zs = bytesS (tabsOf T.tabs) := by rw [← ZS.out]; exact compact_sorted _
    rw [e4] at o4
    rw [e4, bytesS_len]
    have O4 := Lib.hid o4
    clear o4 b4 e4
    go_wp2_with fail
    go_ret
    refine ⟨_, _, rfl, ?_, B4.out⟩
    have := O4.out
    unfold bytesS at this
    rw [map_encStr, List.length_map] at this
    exact this
end Go.Proofs.Ytdkiaahcmoafdaa
