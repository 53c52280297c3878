/- THE WALKS: pick, (*World).step for the kinds that Makes plays. -/
import Derived.Test.YtcclepohmhdpbaaGreatDoorWalkQ
import Derived.Test.YtcclepohmhdpbaaGreatDoorWalkO
import Derived.Test.YtcclepohmhdpbaaGreatDoorToK
namespace Go.Proofs.YtcclepohmhdpbaaGreatDoor
set_option linter.all false
open Go.RowKit Go.Deep
attribute [local go_sem ↓] Go.wp_at_zero Go.wp_at_succ

theorem ret_int {k : IntKind} {a b : Int} (h : a = b) : Ending.returned (.int k a) = .returned (.int k b) := by rw [h]

set_option maxHeartbeats 400000 in
theorem pick_any (c : Int) (n : Nat) (w : World) (hn : 0 < n) (hb : n ≤ 1048576) (h0 : -9223372036854775808 ≤ c) (h1 : c ≤ 9223372036854775807) :
    Calls Tryz.prog 16 #[.int .i64 c, .int .i64 (n : Int)] w fun e w' => (∃ k : Nat, k < n ∧ e = .returned (.int .i64 (k : Int))) ∧ w' = w := by
  have hn0 : ((n : Int) == 0) = false := beq_eq_false_iff_ne.2 (by omega)
  by_cases hc : c < 0
  · have h2 : 0 ≤ -(c + 1) := by omega
    have h3 : -(c + 1) ≤ 9223372036854775807 := by omega
    have hm := Int.emod_nonneg (-(c + 1)) (show (n : Int) ≠ 0 by omega)
    have hl := Int.emod_lt_of_pos (-(c + 1)) (show (0 : Int) < n by omega)
    obtain ⟨k, hk⟩ := Int.eq_ofNat_of_zero_le hm
    have hk' := hide hk
    have hl' := hide hl
    clear hm hl hk
    go_enter Tryz.func16, Tryz.ntmps16
    go_wp2
    go_ret
    have e : -((c + 1).tmod (n : Int)) = (k : Int) := by rw [← Int.neg_tmod, Int.tmod_eq_emod_of_nonneg h2]; exact hk'.out
    have hl := hl'.out
    rw [hk'.out] at hl
    exact ⟨⟨k, by omega, ret_int e⟩, rfl⟩
  · have h2 : 0 ≤ c := by omega
    have hm := Int.emod_nonneg c (show (n : Int) ≠ 0 by omega)
    have hl := Int.emod_lt_of_pos c (show (0 : Int) < n by omega)
    obtain ⟨k, hk⟩ := Int.eq_ofNat_of_zero_le hm
    have hk' := hide hk
    have hl' := hide hl
    clear hm hl hk
    go_enter Tryz.func16, Tryz.ntmps16
    go_wp2
    go_ret
    have hl := hl'.out
    rw [hk'.out] at hl
    exact ⟨⟨k, by omega, ret_int (by first | exact hk'.out | (rw [Int.tmod_eq_emod_of_nonneg h2]; exact hk'.out))⟩, rfl⟩

/-- Behind told. -/
theorem Inv.told {w0 : World} {w w' : World} {Wb : Nat} {psv outv outv' : Value} {mk mk' : Int} {S : List SG} {O O' : List OG} {L : L3} {n : Nat} (h : Inv w0 w Wb psv outv mk S O L n) (t : TS w w' Wb psv L.v outv mk (fun b => ¬ Mut Wb psv outv L b) O.length 3 outv' O' mk') : Inv w0 w' Wb psv outv' mk' S O' L (n + 1) := by
  have kk : Fr (Mut Wb psv outv L) w w' := t.fr.mono fun b _ e => by
    rcases e with e | e
    · exact .inl e
    · exact .inr (.inr (.inl e))
  have hM : ∀ b, b < w.heap.size → Mut Wb psv outv' L b → Mut Wb psv outv L b := fun b hb e => by
    rcases e with e | e | e | e
    · exact .inl e
    · exact .inr (.inl e)
    · rcases t.at_ with e2 | ⟨g, e2, e3⟩
      · exact .inr (.inr (.inl (by rw [← e2]; exact e)))
      · rw [e2] at e; cases e; omega
    · exact .inr (.inr (.inr e))
  obtain ⟨q1, _⟩ := h.kept kk hM
  refine ⟨t.wrow, own_fr h.ops t.fr (fun g e e2 => ?_), t.own, h.lok.of fun b hb => t.fr.block b (h.lok.lt b hb) (fun e => ?_), h.nodup, q1, ?_, ?_, ?_, ?_, ?_, ?_, h.base' kk, h.low' hM⟩
  · rcases e2 with e2 | e2
    · exact own_row_ne h.ops h.wrow (by decide) (e2 ▸ e)
    · rcases own_apart h.ops h.oout (by decide) with e3 | e3
      · rw [e3] at e; cases e
      · exact e3 (by rw [e, e2])
  · rcases e with e | e
    · exact h.lok.not_row h.wrow (by decide) (by decide) (by decide) (e ▸ hb)
    · exact h.lok.not_own h.oout (by decide) (by decide) (by decide) e hb
  · intro o ho
    refine (t.hs o ho).keep (Fr.refl (fun _ => False) _) fun b _ hF => ⟨fun e => ?_, fun h => h⟩
    obtain ⟨f1, f2, f3⟩ := hF
    rcases e with e | e | e | e
    · exact f2 e
    · rcases f1 with f1 | f1
      · exact f1 (.inr (.inl e))
      · have := (own_lt h.ops e).2; omega
    · exact f3 e
    · rcases f1 with f1 | f1
      · exact f1 (.inr (.inr (.inr e)))
      · have := h.lok.lt b e; omega
  · have := h.bS; omega
  · have := h.bO; have := t.len; omega
  · have := h.mk0; have := t.mk1; omega
  · have := h.mk1; have := t.mk2; omega
  · have := h.tot_; omega

theorem wrong_many {m : Mult} (h : Pl.wrong m = 0) : Pl.many m = false := by
  cases hm : Pl.many m with
  | false => rfl
  | true => rw [Pl.wrong, hm] at h; simp at h

set_option maxRecDepth 100000 in
set_option maxHeartbeats 4000000 in
theorem step_owner (w : World) (Wb : Nat) (kd a b c : Int) (s : ByteArray) (Q : World → Prop)
    (h : ∀ w1, Up w w1 → Calls Tryz.prog 67 #[.pointer (some ⟨Wb, 0, none⟩), .agg #[.int .i64 kd, .int .i64 a, .int .i64 b, .int .i64 c, .string s]] w1 fun e w' => e = .returned (.bool true) ∧ Q w') :
    Calls Tryz.prog 43 #[.pointer (some ⟨Wb, 0, none⟩), .agg #[.int .i64 kd, .int .i64 a, .int .i64 b, .int .i64 c, .string s]] w fun e w' => e = .returned (.bool true) ∧ Q w' := by
  have h' := hide h
  clear h
  go_enter Tryz.func43, Tryz.ntmps43
  go_wp2_with (go_at_call 67; refine (h'.out _ ((Up.refl w).alloc _)).mono ?_; rintro e w1 ⟨rfl, hq⟩; replace hq := hide hq)
  go_ret
  exact ⟨rfl, hq.out⟩

set_option maxRecDepth 100000 in
set_option maxHeartbeats 4000000 in
theorem step_make {w0 : World} (w : World) (Wb : Nat) (psv outv : Value) (mk : Int) (S : List SG) (O : List OG) (L : L3) (n : Nat) (h : Inv w0 w Wb psv outv mk S O L n) (hn : n ≤ 1048576) (a b c : Int) (s : ByteArray) :
    Calls Tryz.prog 43 #[.pointer (some ⟨Wb, 0, none⟩), .agg #[.int .i64 6, .int .i64 a, .int .i64 b, .int .i64 c, .string s]] w fun e w' => e = .returned (.bool true) ∧ ∃ psv' mk' S', Inv w0 w' Wb psv' outv mk' S' O L (n + 1) := by
  have h' := hide h
  clear h
  go_enter Tryz.func43, Tryz.ntmps43
  go_wp2_with (go_at_call 67; refine (owner_other _ Wb 6 a b c s rfl rfl rfl rfl).mono ?_; rintro e w1 ⟨rfl, hu1⟩; have hkd := hu1.cell ((VRow.new w [.int .i64 6, .int .i64 a, .int .i64 b, .int .i64 c, .string s] 46).cell (i := 0) rfl); have hI := h'.out.up (((Up.refl w).alloc _).trans hu1); have c1 := hI.wrow.c1; replace hI := hide hI; clear hu1)
  refine (made_any w1 Wb psv outv mk S O L n hI.out hn).mono ?_
  rintro e w2 ⟨rfl, hq⟩
  replace hq := hide hq
  go_wp2
  go_ret
  exact ⟨rfl, hq.out⟩

end Go.Proofs.YtcclepohmhdpbaaGreatDoor
