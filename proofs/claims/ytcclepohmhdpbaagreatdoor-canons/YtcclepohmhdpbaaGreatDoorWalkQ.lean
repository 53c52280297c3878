/- THE WALKS: (*World).owner. -/
import Derived.Test.YtcclepohmhdpbaaGreatDoorWalkP
namespace Go.Proofs.YtcclepohmhdpbaaGreatDoor
set_option linter.all false
open Go.RowKit Go.Deep

theorem point_any {w0 : World} (w : World) (Wb : Nat) (psv outv : Value) (mk : Int) (S : List SG) (O : List OG) (L : L3) (n : Nat) (h : Inv w0 w Wb psv outv mk S O L n) (hn : n ≤ 1048576) (kd a b c : Int) (s : ByteArray) :
    Calls Tryz.prog 107 #[.pointer (some ⟨Wb, 0, none⟩), .agg #[.int .i64 kd, .int .i64 a, .int .i64 b, .int .i64 c, .string s]] w fun e w' => e = .returned (.tuple #[]) ∧ ∃ L', Inv w0 w' Wb psv outv mk S O L' (n + 1) := by
  by_cases h0 : L.ps = []
  · exact (point_none w Wb psv outv mk S O L n h kd a b c s h0).mono fun e w' ⟨he, hu⟩ => ⟨he, L, (h.up hu).more⟩
  · obtain ⟨v, ps⟩ := L
    obtain ⟨A, x, rfl⟩ := snoc_of h0
    by_cases h1 : x.rs = []
    · exact (point_noring w Wb psv outv mk S O v A x n h hn kd a b c s h1).mono fun e w' ⟨he, hu⟩ => ⟨he, _, (h.up hu).more⟩
    · obtain ⟨xv, rs⟩ := x
      obtain ⟨B, y, rfl⟩ := snoc_of h1
      exact point_ring w Wb psv outv mk S O v xv A B y n h hn kd a b c s

set_option maxRecDepth 100000 in
set_option maxHeartbeats 4000000 in
theorem owner_point {w0 : World} (w : World) (Wb : Nat) (psv outv : Value) (mk : Int) (S : List SG) (O : List OG) (L : L3) (n : Nat) (h : Inv w0 w Wb psv outv mk S O L n) (hn : n ≤ 1048576) (a b c : Int) (s : ByteArray) :
    Calls Tryz.prog 67 #[.pointer (some ⟨Wb, 0, none⟩), .agg #[.int .i64 2, .int .i64 a, .int .i64 b, .int .i64 c, .string s]] w fun e w' => e = .returned (.bool true) ∧ ∃ L', Inv w0 w' Wb psv outv mk S O L' (n + 1) := by
  have h1 := hide (h.up ((Up.refl w).alloc (.cells #[.int .i64 2, .int .i64 a, .int .i64 b, .int .i64 c, .string s] 46)))
  clear h
  go_enter Tryz.func67, Tryz.ntmps67
  go_wp2_with (go_at_call 107; refine (point_any _ Wb psv outv mk S O L n h1.out hn 2 a b c s).mono ?_; rintro e w1 ⟨rfl, hL⟩; replace hL := hide hL)
  go_ret
  exact ⟨rfl, hL.out⟩

set_option maxRecDepth 100000 in
set_option maxHeartbeats 4000000 in
theorem owner_clear {w0 : World} (w : World) (Wb : Nat) (psv outv : Value) (mk : Int) (S : List SG) (O : List OG) (L : L3) (n : Nat) (h : Inv w0 w Wb psv outv mk S O L n) (a b c : Int) (s : ByteArray) :
    Calls Tryz.prog 67 #[.pointer (some ⟨Wb, 0, none⟩), .agg #[.int .i64 5, .int .i64 a, .int .i64 b, .int .i64 c, .string s]] w fun e w' => e = .returned (.bool true) ∧ ∃ L', Inv w0 w' Wb psv outv mk S O L' (n + 1) := by
  have h1 := hide (h.up ((Up.refl w).alloc (.cells #[.int .i64 5, .int .i64 a, .int .i64 b, .int .i64 c, .string s] 46)))
  have c1 := h1.out.wrow.c1
  have f1 := VRow.frozen h1.out.wrow 1
  clear h
  go_enter Tryz.func67, Tryz.ntmps67
  go_wp2
  go_ret
  refine ⟨rfl, L3.nil, h1.out.lists ?_ (VRow.set h1.out.wrow 1 _) ⟨World.ownsRow_nil _ _ _ _, by simp [L3.nil]⟩ (by simp [L3.bl, L3.nil, nilV, Value.ownBlock]) (by simp [L3.bl, L3.nil, nilV, Value.ownBlock]) (by simp [tot, L3.m, L3.nil, Pl.nR, Pl.nP])⟩
  exact (Fr.refl _ _).setCell (.inl rfl) _

set_option maxRecDepth 100000 in
set_option maxHeartbeats 4000000 in
theorem owner_other (w : World) (Wb : Nat) (kd a b c : Int) (s : ByteArray) (h2 : (kd == 2) = false) (h3 : (kd == 3) = false) (h4 : (kd == 4) = false) (h5 : (kd == 5) = false) :
    Calls Tryz.prog 67 #[.pointer (some ⟨Wb, 0, none⟩), .agg #[.int .i64 kd, .int .i64 a, .int .i64 b, .int .i64 c, .string s]] w fun e w' => e = .returned (.bool false) ∧ Up w w' := by
  go_enter Tryz.func67, Tryz.ntmps67
  go_wp2
  go_ret
  exact ⟨rfl, (Up.refl w).alloc _⟩

set_option maxRecDepth 100000 in
set_option maxHeartbeats 4000000 in
theorem owner_poly {w0 : World} (w : World) (Wb : Nat) (psv outv : Value) (mk : Int) (S : List SG) (O : List OG) (L : L3) (n : Nat) (h : Inv w0 w Wb psv outv mk S O L n) (hn : n ≤ 1048576) (a b c : Int) (s : ByteArray) :
    Calls Tryz.prog 67 #[.pointer (some ⟨Wb, 0, none⟩), .agg #[.int .i64 4, .int .i64 a, .int .i64 b, .int .i64 c, .string s]] w fun e w' => e = .returned (.bool true) ∧ ∃ L', Inv w0 w' Wb psv outv mk S O L' (n + 1) := by
  have hu := ((Up.refl w).alloc (.cells #[.int .i64 4, .int .i64 a, .int .i64 b, .int .i64 c, .string s] 46))
  have h1 := h.up hu
  have c1 := h1.wrow.c1
  have c1a := fun o => ((Up.refl _).alloc o).cell c1
  have h2 := hide (h1.up ((Up.refl _).alloc (.cells #[.slice none 0 0] 33)))
  have hll : Hid (L.ps.length ≤ 1073741824) := by
    have := h.tot_
    simp [tot, L3.m] at this
    show _ ≤ _
    omega
  have hne := hide (own_row_ne h2.out.lok.row h2.out.wrow (by decide))
  obtain ⟨W1, hW1⟩ : ∃ W1, W1 = w.alloc (.cells #[.int .i64 4, .int .i64 a, .int .i64 b, .int .i64 c, .string s] 46) := ⟨_, rfl⟩
  have hs1 : Hid (W1.heap.size = w.heap.size + 1) := by rw [hW1]; simp [Hid]
  have hnew : Hid ((W1.alloc (.cells #[.slice none 0 0] 33)).heap[w.heap.size + 1]? = some (.cells [nilV].toArray 33 (0, 0))) := by
    rw [← hs1.out]; exact heap_alloc_new W1 _
  rw [hW1] at hnew
  clear h h1 hu hW1 hs1
  go_enter Tryz.func67, Tryz.ntmps67
  go_wp2_with (at_builtin; refine wpList_app el_polys rfl (.tmp 50) (.tmp 51) rfl 0 L.v _ _ (by rfl) h2.out.lok.row (w.heap.size + 1) [nilV] (by rfl) rfl hnew.out (by intro u hu; simp at hu; subst hu; rfl) hll.out (by omega) ?_; intro g cap w1 hown1 hg1 hat1 hlt1; have r4 := VRow.grown h2.out.wrow hg1 hne.out; have rc4 := VRow.cell r4 (i := 1) (v := L.v) rfl; have rf4 := VRow.frozen r4 1; replace r4 := hide r4; replace hown1 := hide hown1; replace hg1 := hide hg1; replace hat1 := hide hat1)
  go_ret
  obtain ⟨p1, p0, p2, p3⟩ := L3.poly h2.out.lok h2.out.nodup hg1.out hown1.out hat1.out
  refine ⟨rfl, ⟨.slice (some ⟨g, 0, none⟩) (L.ps.length + 1) cap, L.ps ++ [L2.nil]⟩, h2.out.lists ?_ (VRow.set r4.out 1 _) ?_ p2 p3 ?_⟩
  · exact (((Fr.of_grown hg1.out).mono fun b _ e => .inr (by simp [L3.bl, e]))).setCell (.inl rfl) _
  · refine p1.of fun b hb => Below.heap_setCell _ _ _ _ ?_
    intro e
    have e : b = Wb := e
    subst e
    exact p1.not_row r4.out (by decide) (by decide) (by decide) hb
  · rw [tot_poly]
    have := h2.out.tot_
    omega

set_option maxRecDepth 100000 in
set_option maxHeartbeats 4000000 in
theorem owner_noring {w0 : World} (w : World) (Wb : Nat) (psv outv : Value) (mk : Int) (S : List SG) (O : List OG) (L : L3) (n : Nat) (h : Inv w0 w Wb psv outv mk S O L n) (a b c : Int) (s : ByteArray) (h0 : L.ps = []) :
    Calls Tryz.prog 67 #[.pointer (some ⟨Wb, 0, none⟩), .agg #[.int .i64 3, .int .i64 a, .int .i64 b, .int .i64 c, .string s]] w fun e w' => e = .returned (.bool true) ∧ Up w w' := by
  obtain ⟨ao, cap, hv⟩ := own_len h.lok.row
  rw [h0, List.length_nil] at hv
  have c1 := h.wrow.c1
  rw [hv] at c1
  have c1a := fun o => ((Up.refl w).alloc o).cell c1
  clear h hv h0
  go_enter Tryz.func67, Tryz.ntmps67
  go_wp2
  go_ret
  exact ⟨rfl, (Up.refl w).alloc _⟩

set_option maxRecDepth 100000 in
set_option maxHeartbeats 4000000 in
theorem owner_ring {w0 : World} (w : World) (Wb : Nat) (psv outv : Value) (mk : Int) (S : List SG) (O : List OG) (v : Value) (A : List L2) (x : L2) (n : Nat) (h : Inv w0 w Wb psv outv mk S O ⟨v, A ++ [x]⟩ n) (hn : n ≤ 1048576) (a b c : Int) (s : ByteArray) :
    Calls Tryz.prog 67 #[.pointer (some ⟨Wb, 0, none⟩), .agg #[.int .i64 3, .int .i64 a, .int .i64 b, .int .i64 c, .string s]] w fun e w' => e = .returned (.bool true) ∧ ∃ L', Inv w0 w' Wb psv outv mk S O L' (n + 1) := by
  obtain ⟨G0, cap0, hv0, hc0⟩ := own_cell h.lok.row (by simp)
  have hAl : A.length ≤ 1048576 := by
    have := h.tot_
    simp [tot, L3.m] at this
    omega
  have hxl : Hid (x.rs.length ≤ 1073741824) := by
    have := h.tot_
    simp [tot, L3.m, L2.pts, Pl.nR] at this
    show _ ≤ _
    omega
  have e0 := hc0 A.length x.v (by simp)
  have c1 := h.wrow.c1
  dsimp only at hv0 c1
  rw [hv0] at c1
  simp only [List.length_append, List.length_cons, List.length_nil, Nat.zero_add] at c1
  have hu := ((Up.refl w).alloc (.cells #[.int .i64 3, .int .i64 a, .int .i64 b, .int .i64 c, .string s] 46))
  have c1a := hu.cell c1
  have e0a := hu.cell e0
  have h1 := h.up hu
  have h2 := hide (h1.up ((Up.refl _).alloc (.cells #[.slice none 0 0] 30)))
  have hx2 : Hid (L2.ok _ x) := h2.out.lok.sub x (by simp)
  have hne := hide (own_row_ne hx2.out.row h2.out.wrow (by decide))
  have hap := hide (own_apart h2.out.lok.row hx2.out.row (by decide))
  have hG0 : Hid (v.ownBlock = some G0) := by rw [hv0]; rfl
  have hv0' := hide hv0
  obtain ⟨W1, hW1⟩ : ∃ W1, W1 = w.alloc (.cells #[.int .i64 3, .int .i64 a, .int .i64 b, .int .i64 c, .string s] 46) := ⟨_, rfl⟩
  have hs1 : Hid (W1.heap.size = w.heap.size + 1) := by rw [hW1]; simp [Hid]
  have hnew : Hid ((W1.alloc (.cells #[.slice none 0 0] 30)).heap[w.heap.size + 1]? = some (.cells [nilV].toArray 30 (0, 0))) := by
    rw [← hs1.out]; exact heap_alloc_new W1 _
  rw [hW1] at hnew
  clear h h1 hu hW1 hs1 hc0 hv0 c1 e0
  go_enter Tryz.func67, Tryz.ntmps67
  go_wp2_with (at_builtin; refine wpList_app el_rings rfl (.tmp 35) (.tmp 36) rfl 0 x.v _ _ (by rfl) hx2.out.row (w.heap.size + 1) [nilV] (by rfl) rfl hnew.out (by intro u hu; simp at hu; subst hu; rfl) hxl.out (by omega) ?_; intro g cap w1 hown1 hg1 hat1 hlt1; have r4 := VRow.grown h2.out.wrow hg1 hne.out; have rc4 := VRow.cell r4 (i := 1) (v := v) rfl; rw [hv0'.out] at rc4; simp only [List.length_append, List.length_cons, List.length_nil, Nat.zero_add] at rc4; have ro := h2.out.lok.row.kept hg1 hap.out; have rf4 := own_frozen ro hG0.out A.length; have rcc := ro.cells hG0.out A.length x.v (by simp); rw [show (⟨G0, 0, none⟩ : Addr).add A.length = ⟨G0, A.length, none⟩ from by unfold Addr.add; split <;> simp_all] at rcc; clear ro; replace r4 := hide r4; replace hown1 := hide hown1; replace hg1 := hide hg1; replace hat1 := hide hat1)
  go_ret
  obtain ⟨p1, p2, p3⟩ := L3.ring h2.out.lok h2.out.nodup hG0.out hg1.out hown1.out hat1.out
  refine ⟨rfl, _, h2.out.lists ?_ ?_ p1 p2 p3 ?_⟩
  · exact (((Fr.of_grown hg1.out).mono fun b _ e => .inr (by simp [L3.bl, L2.bl, e]))).setCell (.inr (by simp [L3.bl, hG0.out])) _
  · refine VRow.setOther r4.out (a := ⟨G0, A.length, none⟩) (fun e => ?_) _
    exact h2.out.lok.not_row h2.out.wrow (by decide) (by decide) (by decide) (show Wb ∈ _ from e ▸ (by simp [L3.bl, hG0.out]))
  · rw [tot_ring]
    have := h2.out.tot_
    omega

end Go.Proofs.YtcclepohmhdpbaaGreatDoor
