/- THE WALKS: grid. -/
import Derived.Test.YtcclepohmhdpbabVdK
import Derived.Test.YtcclepohmhdpbabHsB
import Derived.Test.YtcclepohmhdpbabWalkC
import Derived.Test.YtcclepohmhdpbabKeep
import Derived.Test.YtcclepohmhdpbabNoted
namespace Go.Proofs.Ytcclepohmhdpbab
set_option linter.all false
open Go.RowKit Go.Deep

set_option maxRecDepth 100000 in
theorem pick4_any (c : Int) (h1 : -9223372036854775808 ≤ c) (h2 : c ≤ 9223372036854775807) (w : World) :
    Calls Try.prog 5 #[.int .i64 c, .int .i64 4] w fun e w' => ∃ i : Nat, e = .returned (.int .i64 i) ∧ i < 4 ∧ w' = w := by
  by_cases h0 : c < 0
  · have e1 : wrap64 (c + 1) = c + 1 := by unfold wrap64; omega
    have e2 : wrap64 (-(c + 1)) = -(c + 1) := by unfold wrap64; omega
    go_enter Try.func5, Try.ntmps5
    go_wp2
    go_ret
    have hx : (-((c + 1).tmod 4)) = (-(c + 1)) % 4 := by rw [← Int.neg_tmod, Int.tmod_eq_emod_of_nonneg (by omega)]
    refine ⟨((-(c + 1)) % 4).toNat, ?_, by omega, rfl⟩
    rw [Int.toNat_of_nonneg (by omega)]
    rw [← hx]; first | rfl | (rw [hx]; rfl)
  · go_enter Try.func5, Try.ntmps5
    go_wp2
    go_ret
    refine ⟨(c % 4).toNat, ?_, by omega, rfl⟩
    rw [Int.toNat_of_nonneg (by omega)]
    first | rfl | rw [Int.tmod_eq_emod_of_nonneg (by omega)]
set_option maxRecDepth 100000 in
theorem pick3_any (c : Int) (h1 : -9223372036854775808 ≤ c) (h2 : c ≤ 9223372036854775807) (w : World) :
    Calls Try.prog 5 #[.int .i64 c, .int .i64 3] w fun e w' => ∃ i : Nat, e = .returned (.int .i64 i) ∧ i < 3 ∧ w' = w := by
  by_cases h0 : c < 0
  · have e1 : wrap64 (c + 1) = c + 1 := by unfold wrap64; omega
    have e2 : wrap64 (-(c + 1)) = -(c + 1) := by unfold wrap64; omega
    go_enter Try.func5, Try.ntmps5
    go_wp2
    go_ret
    have hx : (-((c + 1).tmod 3)) = (-(c + 1)) % 3 := by rw [← Int.neg_tmod, Int.tmod_eq_emod_of_nonneg (by omega)]
    refine ⟨((-(c + 1)) % 3).toNat, ?_, by omega, rfl⟩
    rw [Int.toNat_of_nonneg (by omega)]
    rw [← hx]; first | rfl | (rw [hx]; rfl)
  · go_enter Try.func5, Try.ntmps5
    go_wp2
    go_ret
    refine ⟨(c % 3).toNat, ?_, by omega, rfl⟩
    rw [Int.toNat_of_nonneg (by omega)]
    first | rfl | rw [Int.tmod_eq_emod_of_nonneg (by omega)]

/-- A ring of five that was laid. -/
theorem PRow5 {w : World} {g : Nat} {r : Ring} (h : PRow w g r) : Rd1 w (.slice (some ⟨g, 0, none⟩) r.length r.length) r := by
  refine ⟨_, _, rfl, fun i p hp => ⟨g, rfl, ?_⟩⟩
  exact ⟨h.cell (flat_at _ _ _ hp).1, h.cell (flat_at _ _ _ hp).2⟩
structure GV where
  g : Nat
  a : Option Nat
def GV.v (x : GV) : Value := .slice (some ⟨x.g, 0, none⟩) 5 5
structure GQ (base : Nat) (w h : Nat) (W : World) (v : Value) (Q : List GV) : Prop where
  own : W.ownsRow base 26 1 v Q.length (Q.map GV.v)
  ok : ∀ q ∈ Q, base ≤ q.g ∧ PRow W q.g (Vd.gR w h q.a)
theorem GQ.up {base w h : Nat} {W W' : World} {v : Value} {Q : List GV} (q : GQ base w h W v Q) (k : Up W W') : GQ base w h W' v Q := ⟨own_up q.own k, fun x hx => ⟨(q.ok x hx).1, VRow.up (q.ok x hx).2 k⟩⟩
theorem GQ.push {base w h : Nat} {W W' : World} {v : Value} {Q : List GV} {x : GV} {g cap : Nat} (q : GQ base w h W v Q) (hx : base ≤ x.g ∧ PRow W x.g (Vd.gR w h x.a)) (hg : W.grownBy W' v.ownBlock) (hown : W'.ownsRow base 26 1 (.slice (some ⟨g, 0, none⟩) (Q.length + 1) cap) (Q.length + 1) (Q.map GV.v ++ [x.v])) : GQ base w h W' (.slice (some ⟨g, 0, none⟩) (Q.length + 1) cap) (Q ++ [x]) := by
  refine ⟨by rw [List.map_append, List.length_append]; exact hown, fun y hy => ?_⟩
  have one : ∀ y : GV, base ≤ y.g ∧ PRow W y.g (Vd.gR w h y.a) → base ≤ y.g ∧ PRow W' y.g (Vd.gR w h y.a) := fun y k => ⟨k.1, VRow.grown k.2 hg (own_row_ne q.own k.2 (by decide))⟩
  rcases List.mem_append.1 hy with hy | hy
  · exact one y (q.ok y hy)
  · rw [List.mem_singleton.1 hy]; exact one x hx
theorem GQ.rd {base w h : Nat} {W : World} {v : Value} {Q : List GV} (q : GQ base w h W v Q) : Rd2 W v ((Q.map GV.a).map (Vd.gR w h)) := by
  obtain ⟨ao, cap, rfl⟩ := own_len q.own
  refine ⟨ao, cap, by rw [List.length_map, List.length_map], fun i r hi => ?_⟩
  rw [List.map_map, List.getElem?_map] at hi
  obtain ⟨x, hx, rfl⟩ := Option.map_eq_some_iff.1 hi
  obtain ⟨g', cap', e', hc⟩ := own_cell q.own (by have := Pl.lt_of_some hx; omega)
  cases e'
  refine ⟨g', x.v, rfl, hc i _ (by rw [List.getElem?_map, hx]; rfl), ?_⟩
  have := PRow5 (q.ok x (Pl.mem_of_some hx)).2
  rw [Vd.gR_len] at this
  exact this
theorem gJ_snoc (K : List Nat) (k : Nat) : Vd.gJ (K ++ [k]) = Vd.gJ K ++ [some k] := by unfold Vd.gJ; simp
theorem gbd_of {m : Mult} (h0 : Pl.wrong m = 0) : Pl.Bd m := by
  have hz := sz_of h0
  exact ⟨hz.len, hz.poly, fun l hl r hr => by have := hz.ring l hl r hr; omega⟩
theorem goodH_of {a b d : Int} (h : -1048576 ≤ a ∧ a ≤ 1048576 ∧ -1048576 ≤ b ∧ b ≤ 1048576 ∧ 1 ≤ d ∧ d ≤ 1048576) : goodH a b d := by
  unfold goodH partB
  simp only [Bool.and_eq_true, decide_eq_true_eq]
  omega
set_option maxRecDepth 8000 in
set_option maxHeartbeats 8000000 in
theorem grid_any (a b c : Int) (ha1 : -9223372036854775808 ≤ a) (ha2 : a ≤ 9223372036854775807) (hb1 : -9223372036854775808 ≤ b) (hb2 : b ≤ 9223372036854775807) (hc1 : -9223372036854775808 ≤ c) (hc2 : c ≤ 9223372036854775807) (W : World) :
    Calls Try.prog 4 #[.int .i64 a, .int .i64 b, .int .i64 c] W fun e W' => e = .returned (.bool true) ∧ Up W W' := by
  have HP4 := hide (pick4_any a ha1 ha2)
  have HP3 := hide (pick3_any b hb1 hb2)
  go_enter Try.func4, Try.ntmps4
  go_wp2_with fail
  refine (HP4.out _).mono ?_
  rintro e w1 ⟨i, rfl, hi, hw1⟩
  rw [hw1]
  obtain ⟨w, hw⟩ : ∃ w, w = i + 1 := ⟨_, rfl⟩
  have e1w : IntKind.i64.wrap ((1 : Int) + (i : Int)) = (w : Int) := by rw [wrap_id (by omega) (by omega)]; omega
  have hw14 : 1 ≤ w ∧ w ≤ 4 := by omega
  clear hw hi hw1 w1
  go_wp2_with fail
  refine (HP3.out _).mono ?_
  rintro e w1 ⟨j, rfl, hj, hw1⟩
  rw [hw1]
  obtain ⟨h, hh⟩ : ∃ h, h = j + 1 := ⟨_, rfl⟩
  have e2 : IntKind.i64.wrap ((1 : Int) + (j : Int)) = (h : Int) := by rw [wrap_id (by omega) (by omega)]; omega
  have m1 : IntKind.i64.wrap (48 * (w : Int)) = 48 * (w : Int) := wrap_id (by omega) (by omega)
  have m2 : IntKind.i64.wrap (48 * (h : Int)) = 48 * (h : Int) := wrap_id (by omega) (by omega)
  obtain ⟨w1', w4⟩ := hw14
  have h1 : 1 ≤ h := by omega
  have h3 : h ≤ 3 := by omega
  clear hh hj hw1 w1
  have hwh : w * h ≤ 12 := Nat.mul_le_mul w4 h3
  have mwh : IntKind.i64.wrap ((w : Int) * (h : Int)) = ((w * h : Nat) : Int) := by rw [wrap_id (by rw [← Int.natCast_mul]; omega) (by rw [← Int.natCast_mul]; omega)]; rw [Int.natCast_mul]
  obtain ⟨M, hM⟩ : ∃ M, w * h = M := ⟨_, rfl⟩
  rw [hM] at mwh hwh
  have HM := hide hM
  clear hM
  obtain ⟨f, hf⟩ : ∃ f : Nat → Bool, f = fun k => (bits BinOp.and IntKind.i64 (c / 2 ^ k) 1 == 1) := ⟨_, rfl⟩
  have HF : Hid (∀ k, (bits BinOp.and IntKind.i64 (c / 2 ^ k) 1 == 1) = f k) := fun k => by rw [hf]
  clear hf
  have HRow1 : Hid (PRow ((W.alloc (.cells #[.int .i64 0, .int .i64 0, .int .i64 (48 * (w : Int)), .int .i64 0, .int .i64 (48 * (w : Int)), .int .i64 (48 * (h : Int)), .int .i64 0, .int .i64 (48 * (h : Int)), .int .i64 0, .int .i64 0] 25)).alloc (.cells #[.slice (some ⟨W.heap.size, 0, none⟩) 5 5] 26)) W.heap.size (Vd.gR w h none)) := VRow.up (VRow.new W (flat (Vd.gR w h none)) _) ((Up.refl _).alloc _)
  have HU0 : Hid (Up W ((W.alloc (.cells #[.int .i64 0, .int .i64 0, .int .i64 (48 * (w : Int)), .int .i64 0, .int .i64 (48 * (w : Int)), .int .i64 (48 * (h : Int)), .int .i64 0, .int .i64 (48 * (h : Int)), .int .i64 0, .int .i64 0] 25)).alloc (.cells #[.slice (some ⟨W.heap.size, 0, none⟩) 5 5] 26))) := ((Up.refl _).alloc _).alloc _
  have HQ0 : Hid (GQ W.heap.size w h ((W.alloc (.cells #[.int .i64 0, .int .i64 0, .int .i64 (48 * (w : Int)), .int .i64 0, .int .i64 (48 * (w : Int)), .int .i64 (48 * (h : Int)), .int .i64 0, .int .i64 (48 * (h : Int)), .int .i64 0, .int .i64 0] 25)).alloc (.cells #[.slice (some ⟨W.heap.size, 0, none⟩) 5 5] 26)) (.slice (some ⟨W.heap.size + 1, 0, none⟩) 1 1) [⟨W.heap.size, none⟩]) := by
    refine ⟨?_, fun q hq => ?_⟩
    · have := World.ownsRow_lit (w := W.alloc (.cells #[.int .i64 0, .int .i64 0, .int .i64 (48 * (w : Int)), .int .i64 0, .int .i64 (48 * (w : Int)), .int .i64 (48 * (h : Int)), .int .i64 0, .int .i64 (48 * (h : Int)), .int .i64 0, .int .i64 0] 25)) (base := W.heap.size) (e := 26) (size := 1) #[.slice (some ⟨W.heap.size, 0, none⟩) 5 5] 1 (by simp) (by unfold maxLen; omega) rfl
      simpa [GV.v] using this
    · rw [List.mem_singleton.1 hq]
      exact ⟨Nat.le_refl _, HRow1.out⟩
  go_wp2
  go_loopw [10, 11] (fun qv i wr => ∃ (k : Nat) (u : Value) (Q : List GV), i = .int .i64 k ∧ u = qv ∧ k ≤ M ∧ Hid (Up W wr) ∧ Hid (GQ W.heap.size w h wr u Q) ∧ Hid (Q.map GV.a = Vd.gJ (Vd.gK f k))) (fun _ i _ => M - (intOf i).toNat)
  case atStart => exact ⟨0, _, _, rfl, rfl, Nat.zero_le _, HU0, HQ0, rfl⟩
  case round =>
    obtain ⟨k, u, Q, rfl, rfl, hk, HU, HQ, HE⟩ := hrel
    obtain ⟨ua, uc, rfl⟩ := own_len HQ.out.own
    have hQl : Q.length = (Vd.gK f k).length + 1 := by have h := congrArg List.length HE.out; unfold Vd.gJ at h; simpa using h
    have HQl := hide hQl
    have hQ12 : Q.length ≤ 12 := by have := Vd.gK_len f k; omega
    have hkf := HF.out k
    have i3 : (0 : Int) ≤ (k : Int) := by omega
    clear hQl
    by_cases hlt : k < M ∧ Q.length < 12
    · have i1 : (k : Int) < (M : Int) := by omega
      have i2 : (Q.length : Int) < 12 := by omega
      cases hfk : f k
      · rw [hfk] at hkf
        have HKs : Hid (Vd.gK f (k + 1) = Vd.gK f k) := by show Vd.gK f (k + 1) = _; rw [Vd.gK, hfk]; rfl
        clear hfk
        go_wp2
        go_roundw
        case rel => exact ⟨k + 1, _, Q, by go_num, rfl, by omega, HU, HQ, by rw [HKs.out]; exact HE⟩
        case measure => simp [intOf]; omega
      · rw [hfk] at hkf
        have HKs : Hid (Vd.gK f (k + 1) = Vd.gK f k ++ [k]) := by
          show Vd.gK f (k + 1) = _
          rw [Vd.gK, hfk, decide_eq_true (show (Vd.gK f k).length < 11 by have := HQl.out; omega)]; rfl
        clear hfk
        have x0 : (k : Int).tmod (w : Int) = ((k % w : Nat) : Int) := rfl
        have y0 : (k : Int).tdiv (w : Int) = ((k / w : Nat) : Int) := rfl
        obtain ⟨kx, hkx⟩ : ∃ kx, k % w = kx := ⟨_, rfl⟩
        obtain ⟨ky, hky⟩ : ∃ ky, k / w = ky := ⟨_, rfl⟩
        have hx12 : kx ≤ 12 := by rw [← hkx]; exact Nat.le_trans (Nat.mod_le _ _) (by omega)
        have hy12 : ky ≤ 12 := by rw [← hky]; exact Nat.le_trans (Nat.div_le_self _ _) (by omega)
        rw [hkx] at x0
        rw [hky] at y0
        have HXY : Hid (Vd.gR w h (some k) = [(48 * (kx : Int) + 16, 48 * (ky : Int) + 16), (48 * (kx : Int) + 32, 48 * (ky : Int) + 16), (48 * (kx : Int) + 32, 48 * (ky : Int) + 32), (48 * (kx : Int) + 16, 48 * (ky : Int) + 32), (48 * (kx : Int) + 16, 48 * (ky : Int) + 16)]) := by
          show Vd.gR w h (some k) = _
          rw [Vd.gR, Vd.gX, Vd.gY, hkx, hky]
        clear hkx hky
        have n1 : IntKind.i64.wrap (48 * (kx : Int)) = 48 * (kx : Int) := wrap_id (by omega) (by omega)
        have n2 : IntKind.i64.wrap (48 * (ky : Int)) = 48 * (ky : Int) := wrap_id (by omega) (by omega)
        have n3 : IntKind.i64.wrap (48 * (kx : Int) + 16) = 48 * (kx : Int) + 16 := wrap_id (by omega) (by omega)
        have n4 : IntKind.i64.wrap (48 * (ky : Int) + 16) = 48 * (ky : Int) + 16 := wrap_id (by omega) (by omega)
        have n5 : IntKind.i64.wrap (48 * (kx : Int) + 32) = 48 * (kx : Int) + 32 := wrap_id (by omega) (by omega)
        have n6 : IntKind.i64.wrap (48 * (ky : Int) + 32) = 48 * (ky : Int) + 32 := wrap_id (by omega) (by omega)
        have w0 : ¬ w = 0 := by omega
        go_upto_region 12 with fail
        have HA1 : Hid (Up wr ((wr.alloc (.cells #[.int .i64 (48 * (kx : Int) + 16), .int .i64 (48 * (ky : Int) + 16), .int .i64 (48 * (kx : Int) + 32), .int .i64 (48 * (ky : Int) + 16), .int .i64 (48 * (kx : Int) + 32), .int .i64 (48 * (ky : Int) + 32), .int .i64 (48 * (kx : Int) + 16), .int .i64 (48 * (ky : Int) + 32), .int .i64 (48 * (kx : Int) + 16), .int .i64 (48 * (ky : Int) + 16)] 25)))) := (Up.refl _).alloc _
        have HR1 : Hid (PRow (wr.alloc (.cells #[.int .i64 (48 * (kx : Int) + 16), .int .i64 (48 * (ky : Int) + 16), .int .i64 (48 * (kx : Int) + 32), .int .i64 (48 * (ky : Int) + 16), .int .i64 (48 * (kx : Int) + 32), .int .i64 (48 * (ky : Int) + 32), .int .i64 (48 * (kx : Int) + 16), .int .i64 (48 * (ky : Int) + 32), .int .i64 (48 * (kx : Int) + 16), .int .i64 (48 * (ky : Int) + 16)] 25)) wr.heap.size (Vd.gR w h (some k))) := by
          rw [HXY.out]; exact VRow.new wr _ _
        obtain ⟨wq, hwq⟩ : ∃ wq, wr.alloc (.cells #[.int .i64 (48 * (kx : Int) + 16), .int .i64 (48 * (ky : Int) + 16), .int .i64 (48 * (kx : Int) + 32), .int .i64 (48 * (ky : Int) + 16), .int .i64 (48 * (kx : Int) + 32), .int .i64 (48 * (ky : Int) + 32), .int .i64 (48 * (kx : Int) + 16), .int .i64 (48 * (ky : Int) + 32), .int .i64 (48 * (kx : Int) + 16), .int .i64 (48 * (ky : Int) + 16)] 25) = wq := ⟨_, rfl⟩
        rw [hwq] at HA1 HR1 ⊢
        clear hwq n1 n2 n3 n4 n5 n6 x0 y0
        obtain ⟨gr, hgr⟩ : ∃ gr, wr.heap.size = gr := ⟨_, rfl⟩
        have hbs : Hid (W.heap.size ≤ gr) := by rw [← hgr]; exact HU.out.size
        rw [hgr] at HR1 ⊢
        clear hgr
        have HUq : Hid (Up W wq) := HU.out.trans HA1.out
        have HQa : Hid (GQ W.heap.size w h (wq.alloc (.cells #[.slice (some ⟨gr, 0, none⟩) 5 5] 26)) (.slice ua Q.length uc) Q) := (HQ.out.up HA1.out).up ((Up.refl _).alloc _)
        have HXa : Hid (W.heap.size ≤ gr ∧ PRow (wq.alloc (.cells #[.slice (some ⟨gr, 0, none⟩) 5 5] 26)) gr (Vd.gR w h (some k))) := ⟨hbs.out, VRow.up HR1.out ((Up.refl _).alloc _)⟩
        have hHeap : Hid ((wq.alloc (.cells #[.slice (some ⟨gr, 0, none⟩) 5 5] 26)).heap[wq.heap.size]? = some (.cells [Value.slice (some ⟨gr, 0, none⟩) 5 5].toArray 26 (0, 0))) := VRow.new wq [.slice (some ⟨gr, 0, none⟩) 5 5] 26
        have hBs : Hid (W.heap.size ≤ (wq.alloc (.cells #[.slice (some ⟨gr, 0, none⟩) 5 5] 26)).heap.size) := by
          have := HUq.out.size; simp [Hid]; omega
        have hXb : Hid (Q.length ≤ 1073741824) := by show _ ≤ _; omega
        have HUa : Hid (Up W (wq.alloc (.cells #[.slice (some ⟨gr, 0, none⟩) 5 5] 26))) := HUq.out.alloc _
        go_wp2_with (at_builtin; refine wpList_app el_rings rfl (.tmp 110) (.tmp 112) rfl W.heap.size _ _ _ (by rfl) HQa.out.own wq.heap.size [.slice (some ⟨gr, 0, none⟩) 5 5] (by rfl) rfl hHeap.out (by intro z hz; simp at hz; subst hz; rfl) hXb.out hBs.out ?_; intro g5 cap5 w5 hown5 hg5 hat5 hlt5; have HQ5 := hide (HQa.out.push (x := ⟨gr, some k⟩) HXa.out hg5 hown5); have HU5 : Hid (Up W w5) := Fr.up (S := fun _ => False) ((Fr.of_up HUa.out).grown hg5 fun z hz => .inr (own_lt HQa.out.own hz).1) (fun _ _ h => h); clear hown5 hg5 hat5 hlt5)
        go_roundw
        case rel => exact ⟨k + 1, _, _, by go_num, rfl, by omega, HU5, HQ5, by rw [HKs.out, gJ_snoc, List.map_append, HE.out]; exact rfl⟩
        case measure => simp [intOf]; omega
    · have HEnd : Hid (Q.map GV.a = Vd.gJ (Vd.gK f M)) := by
        rw [HE.out]
        by_cases h0 : k < M
        · rw [Vd.gK_full f (k := k) (by have := HQl.out; omega) M (by omega)]; exact rfl
        · rw [show k = M by omega]; exact rfl
      have hex : (¬ (k : Int) < (M : Int)) ∨ ((k : Int) < (M : Int) ∧ ¬ (Q.length : Int) < 12) := by omega
      have HRd : Hid (Rd2 wr (.slice ua Q.length uc) (Vd.gL w h (Vd.gK f M))) := by have h := HQ.out.rd; rw [HEnd.out] at h; exact h
      have HG : Hid (Vd.GK w h (Vd.gK f M)) := by rw [← HM.out]; exact Vd.gK_ok w1' w4 h1 h3 f
      have HRw := hide (VRow.new wr [.slice ua Q.length uc] 27)
      have HR3 : Hid (Rd3 (wr.alloc (.cells #[.slice ua Q.length uc] 27)) (.slice (some ⟨wr.heap.size, 0, none⟩) 1 1) [Vd.gL w h (Vd.gK f M)]) := by
        refine ⟨_, _, rfl, fun i l hl => ?_⟩
        cases i with
        | zero => cases hl; exact ⟨wr.heap.size, _, rfl, HRw.out.cell (i := 0) rfl, HRd.out.up ((Up.refl _).alloc _)⟩
        | succ i => simp at hl
      have HMk := hide (make_ok _ _ _ HR3.out (gbd_of HG.out.wrong) HG.out.wrong)
      have HSz := hide (sz_of HG.out.wrong)
      have hQ0 := HQl.out
      clear hlt hkf hQ0
      rcases hex with i1 | ⟨i1, i2⟩
      all_goals
        go_wp2_with fail
        refine HMk.out.mono ?_
        rintro e w2 ⟨p, sb, d, rfl, hset, -, hu2⟩
        have hptr := hset.ptr
        subst hptr
        have HS := hide hset.r
        have HU2 : Hid (Up W w2) := (HU.out.alloc _).trans hu2
        have HH : Hid (∀ (a b d : Int) (X : Bool), (-1048576 ≤ a ∧ a ≤ 1048576 ∧ -1048576 ≤ b ∧ b ≤ 1048576 ∧ 1 ≤ d ∧ d ≤ 1048576) → Vd.inSet [Vd.gL w h (Vd.gK f M)] ((a, b), d) = X → ∀ g, Up w2 g → Calls Try.prog 7 #[.pointer (some ⟨sb, 0, none⟩), .int .i64 a, .int .i64 b, .int .i64 d] g fun e w' => e = .returned (.tuple #[.bool X, .int .i64 0]) ∧ Up g w') := fun a b d X hg hX g hu => by
          have h := has_ok _ _ a b d g sb _ (HS.out.up hu) HSz.out (goodH_of hg) HG.out.least
          rw [hX] at h
          exact h
        clear hset hu2 HMk
        go_wp2
        go_loopw [18, 19] (fun hv i wr => ∃ k : Nat, i = .int .i64 k ∧ hv = .int .i64 ((Vd.gK f k).length + 1 : Nat) ∧ k ≤ M ∧ Hid (Up w2 wr)) (fun _ i _ => M - (intOf i).toNat)
        case atStart => exact ⟨0, rfl, rfl, Nat.zero_le _, Up.refl _⟩
        case round =>
          obtain ⟨k, rfl, rfl, hk, HUr⟩ := hrel
          have hkf := HF.out k
          have i3 : (0 : Int) ≤ (k : Int) := by omega
          obtain ⟨nh, hnh⟩ : ∃ nh, (Vd.gK f k).length + 1 = nh := ⟨_, rfl⟩
          have hnl := Vd.gK_len f k
          rw [hnh]
          by_cases hlt : k < M
          · have i5 : (k : Int) < (M : Int) := by omega
            have x0 : (k : Int).tmod (w : Int) = ((k % w : Nat) : Int) := rfl
            have y0 : (k : Int).tdiv (w : Int) = ((k / w : Nat) : Int) := rfl
            have hPt := HG.out.pt (k := k) (by rw [HM.out]; exact hlt)
            unfold Vd.gC Vd.gE Vd.gN Vd.gX Vd.gY at hPt
            obtain ⟨kx, hkx⟩ : ∃ kx, k % w = kx := ⟨_, rfl⟩
            obtain ⟨ky, hky⟩ : ∃ ky, k / w = ky := ⟨_, rfl⟩
            have hx12 : kx ≤ 12 := by rw [← hkx]; exact Nat.le_trans (Nat.mod_le _ _) (by omega)
            have hy12 : ky ≤ 12 := by rw [← hky]; exact Nat.le_trans (Nat.div_le_self _ _) (by omega)
            rw [hkx] at x0
            rw [hky] at y0
            rw [hkx, hky, Vd.gK_has f hlt] at hPt
            have hcs : (f k = false ∧ (f k && decide ((Vd.gK f k).length < 11)) = false ∧ (Vd.gK f (k + 1)).length + 1 = nh) ∨ (f k = true ∧ nh < 12 ∧ (f k && decide ((Vd.gK f k).length < 11)) = true ∧ (Vd.gK f (k + 1)).length + 1 = nh + 1) ∨ (f k = true ∧ ¬ nh < 12 ∧ (f k && decide ((Vd.gK f k).length < 11)) = false ∧ (Vd.gK f (k + 1)).length + 1 = nh) := by
              cases hfk : f k
              · refine .inl ⟨rfl, rfl, ?_⟩
                rw [Vd.gK, hfk]; exact hnh
              · by_cases h12 : nh < 12
                · have hd : decide ((Vd.gK f k).length < 11) = true := decide_eq_true (by omega)
                  refine .inr (.inl ⟨rfl, h12, by rw [hd]; rfl, ?_⟩)
                  rw [Vd.gK, hfk, hd]
                  show (Vd.gK f k ++ [k]).length + 1 = _
                  rw [List.length_append, List.length_singleton]; omega
                · have hd : decide ((Vd.gK f k).length < 11) = false := decide_eq_false (by omega)
                  refine .inr (.inr ⟨rfl, h12, by rw [hd]; rfl, ?_⟩)
                  rw [Vd.gK, hfk, hd]; exact hnh
            have p1 : IntKind.i64.wrap (48 * (kx : Int)) = 48 * (kx : Int) := wrap_id (by omega) (by omega)
            have p2 : IntKind.i64.wrap (48 * (ky : Int)) = 48 * (ky : Int) := wrap_id (by omega) (by omega)
            have p3 : IntKind.i64.wrap (2 * (48 * (kx : Int))) = 2 * (48 * (kx : Int)) := wrap_id (by omega) (by omega)
            have p4 : IntKind.i64.wrap (2 * (48 * (ky : Int))) = 2 * (48 * (ky : Int)) := wrap_id (by omega) (by omega)
            have p5 : IntKind.i64.wrap (3 * (48 * (kx : Int))) = 3 * (48 * (kx : Int)) := wrap_id (by omega) (by omega)
            have p6 : IntKind.i64.wrap (3 * (48 * (ky : Int))) = 3 * (48 * (ky : Int)) := wrap_id (by omega) (by omega)
            have p7 : IntKind.i64.wrap (2 * (48 * (kx : Int)) + 48) = 2 * (48 * (kx : Int)) + 48 := wrap_id (by omega) (by omega)
            have p8 : IntKind.i64.wrap (2 * (48 * (ky : Int)) + 48) = 2 * (48 * (ky : Int)) + 48 := wrap_id (by omega) (by omega)
            have p9 : IntKind.i64.wrap (2 * (48 * (kx : Int)) + 32) = 2 * (48 * (kx : Int)) + 32 := wrap_id (by omega) (by omega)
            have q1 : IntKind.i64.wrap (3 * (48 * (kx : Int)) + 32) = 3 * (48 * (kx : Int)) + 32 := wrap_id (by omega) (by omega)
            have q2 : IntKind.i64.wrap (3 * (48 * (ky : Int)) + 32) = 3 * (48 * (ky : Int)) + 32 := wrap_id (by omega) (by omega)
            have hg1 : Hid (-1048576 ≤ 2 * (48 * (kx : Int)) + 48 ∧ 2 * (48 * (kx : Int)) + 48 ≤ 1048576 ∧ -1048576 ≤ 2 * (48 * (ky : Int)) + 48 ∧ 2 * (48 * (ky : Int)) + 48 ≤ 1048576 ∧ (1 : Int) ≤ 2 ∧ (2 : Int) ≤ 1048576) := by show _ ∧ _ ∧ _ ∧ _ ∧ _ ∧ _; omega
            have hg2 : Hid (-1048576 ≤ 2 * (48 * (kx : Int)) + 32 ∧ 2 * (48 * (kx : Int)) + 32 ≤ 1048576 ∧ -1048576 ≤ 2 * (48 * (ky : Int)) + 48 ∧ 2 * (48 * (ky : Int)) + 48 ≤ 1048576 ∧ (1 : Int) ≤ 2 ∧ (2 : Int) ≤ 1048576) := by show _ ∧ _ ∧ _ ∧ _ ∧ _ ∧ _; omega
            have hg3 : Hid (-1048576 ≤ 3 * (48 * (kx : Int)) + 32 ∧ 3 * (48 * (kx : Int)) + 32 ≤ 1048576 ∧ -1048576 ≤ 3 * (48 * (ky : Int)) + 32 ∧ 3 * (48 * (ky : Int)) + 32 ≤ 1048576 ∧ (1 : Int) ≤ 3 ∧ (3 : Int) ≤ 1048576) := by show _ ∧ _ ∧ _ ∧ _ ∧ _ ∧ _; omega
            have w0 : ¬ w = 0 := by omega
            have s12 : nh ≤ 12 := by omega
            have s13 : IntKind.i64.wrap ((nh : Int) + 1) = (nh : Int) + 1 := wrap_id (by omega) (by omega)
            clear hkx hky hnh hnl
            generalize (f k && decide ((Vd.gK f k).length < 11)) = B at *
            have hP1 := hide hPt.1
            have hP2 := hide hPt.2.1
            have hP3 := hide hPt.2.2
            clear hPt
            have fin : Hid (∀ n, (Vd.gK f (k + 1)).length + 1 = n → ∀ v : Value, v = .int .i64 (n : Int) → v = .int .i64 (((Vd.gK f (k + 1)).length + 1 : Nat) : Int)) := fun n h v e => by rw [h]; exact e
            rcases hcs with ⟨c1, cB, cN⟩ | ⟨c1, c2, cB, cN⟩ | ⟨c1, c2, cB, cN⟩
            all_goals
              rw [c1] at hkf
              subst cB
              have hN := hide cN
              have c3 := hide c1
              clear cN c1
              try (have c4 : (nh : Int) < 12 := by omega)
              try (have c4 : ¬ (nh : Int) < 12 := by omega)
              go_wp2_with fail
              refine (HH.out _ _ _ _ hg1.out hP1.out _ HUr.out).mono ?_
              rintro e wa ⟨rfl, hua⟩
              have HUa := hide (HUr.out.trans hua)
              clear hua
              go_wp2_with fail
              refine (HH.out _ _ _ _ hg2.out hP2.out _ HUa.out).mono ?_
              rintro e wb ⟨rfl, hub⟩
              have HUb := hide (HUa.out.trans hub)
              clear hub
              go_wp2_with fail
              refine (HH.out _ _ _ _ hg3.out hP3.out _ HUb.out).mono ?_
              rintro e wc ⟨rfl, huc⟩
              have HUc := hide (HUb.out.trans huc)
              clear huc
              go_wp2
              go_roundw
              case rel => exact ⟨k + 1, by go_num, fin.out _ hN.out _ (by go_num), by omega, HUc⟩
              case measure => simp [intOf]; omega
          · have i5 : ¬ (k : Int) < (M : Int) := by omega
            have hOut := hide HG.out.out
            have HBd : Hid (∀ (v : Value) g, Calls Try.prog 7 #[v, .int .i64 0, .int .i64 0, .int .i64 0] g fun e w' => e = .returned (.tuple #[.bool false, .int .i64 1]) ∧ Up g w') := fun v g => has_bad v 0 0 0 g (by unfold goodH; omega)
            have r1 : IntKind.i64.wrap (48 * (w : Int) * 2) = 48 * (w : Int) * 2 := wrap_id (by omega) (by omega)
            have r2 : IntKind.i64.wrap (48 * (w : Int) * 2 + 1) = 48 * (w : Int) * 2 + 1 := wrap_id (by omega) (by omega)
            have hg1 : Hid (-1048576 ≤ (-1 : Int) ∧ (-1 : Int) ≤ 1048576 ∧ -1048576 ≤ (1 : Int) ∧ (1 : Int) ≤ 1048576 ∧ (1 : Int) ≤ 7 ∧ (7 : Int) ≤ 1048576) := by show _ ∧ _ ∧ _ ∧ _ ∧ _ ∧ _; omega
            have hg2 : Hid (-1048576 ≤ (0 : Int) ∧ (0 : Int) ≤ 1048576 ∧ -1048576 ≤ (0 : Int) ∧ (0 : Int) ≤ 1048576 ∧ (1 : Int) ≤ 1 ∧ (1 : Int) ≤ 1048576) := by show _ ∧ _ ∧ _ ∧ _ ∧ _ ∧ _; omega
            have hg3 : Hid (-1048576 ≤ 48 * (w : Int) * 2 + 1 ∧ 48 * (w : Int) * 2 + 1 ≤ 1048576 ∧ -1048576 ≤ (5 : Int) ∧ (5 : Int) ≤ 1048576 ∧ (1 : Int) ≤ 2 ∧ (2 : Int) ≤ 1048576) := by show _ ∧ _ ∧ _ ∧ _ ∧ _ ∧ _; omega
            clear hnh hnl hkf
            go_wp2_with fail
            refine (HH.out _ _ _ _ hg1.out hOut.out.1 _ HUr.out).mono ?_
            rintro e wa ⟨rfl, hua⟩
            have HUa := hide (HUr.out.trans hua)
            clear hua
            go_wp2_with fail
            refine (HH.out _ _ _ _ hg2.out hOut.out.2.1 _ HUa.out).mono ?_
            rintro e wb ⟨rfl, hub⟩
            have HUb := hide (HUa.out.trans hub)
            clear hub
            go_wp2_with fail
            refine (HH.out _ _ _ _ hg3.out hOut.out.2.2 _ HUb.out).mono ?_
            rintro e wc ⟨rfl, huc⟩
            have HUc := hide (HUb.out.trans huc)
            clear huc
            go_wp2_with fail
            refine (HBd.out _ _).mono ?_
            rintro e wd ⟨rfl, hud⟩
            have HUd := hide (HU2.out.trans (HUc.out.trans hud))
            clear hud
            go_wp2
            go_ret
            exact ⟨rfl, HUd.out⟩
end Go.Proofs.Ytcclepohmhdpbab
