/- Known: known. -/
import Derived.Test.YtcclepohmhdpbabGreatKnC
namespace Go.Proofs.YtcclepohmhdpbabGreat
set_option linter.all false
open Go.RowKit Go.Deep

namespace Kn
theorem fz_of {m : Mult} (hz : Sz m) (ht : turn m = true) : FZ m := by
  refine ⟨hz.len, hz.poly, fun l hl r hr => ⟨hz.ring l hl r hr, hz.cd l hl r hr, ?_⟩⟩
  unfold turn at ht
  have h1 := List.all_eq_true.1 ht l hl
  have h2 := List.all_eq_true.1 h1 r hr
  simp only [Bool.not_eq_true', beq_eq_false_iff_ne] at h2
  exact h2
/-- What Decode makes of a known set's text. -/
def Ans (s : S) (w : World) (e : Ending) (w' : World) : Prop :=
  ∃ b d M, e = .returned (.tuple #[.pointer (some ⟨b, 0, .none⟩), .int .i64 0]) ∧ Set3 w' (.pointer (some ⟨b, 0, .none⟩)) M b d ∧ Sz M ∧ Vd.least M = s.c ∧ (s.c = 0 → FZ M) ∧ Up w w'
theorem dec (s : S) (hs : s ∈ tab) (w : World) : Calls Tryz.prog 8 #[.int .i64 0, .string (bs (text s.rs))] w (Ans s w) := by
  have h := all s hs
  simp only [good, Bool.and_eq_true, Bool.or_eq_true, beq_iff_eq, decide_eq_true_eq, Bool.not_eq_true', beq_eq_false_iff_ne] at h
  obtain ⟨⟨⟨⟨⟨⟨h1, h2⟩, h3⟩, h4⟩, h5⟩, h6⟩, h7⟩ := h
  have hr : ∀ w, Calls Tryz.prog 12 #[.int .i64 0, .string (bs (text s.rs))] w (ReadPost 0 (Wt.got (text s.rs)) w) := fun w => by
    have := read0_any (text s.rs) w h3
    rw [h4] at this
    exact this
  refine (dec_ok 0 (text s.rs) w (.inl rfl) h3 _ (Wt.got_ok h3).bd h5 hr).mono ?_
  rintro e w' ⟨p, b, d, rfl, hset, -, u⟩
  have hp := hset.ptr
  subst hp
  have hz := sz_of h5
  exact ⟨b, d, _, rfl, hset, hz, h6, fun hc => fz_of hz (by rcases h7 with h | h; exact absurd hc h; exact h), u⟩
end Kn

set_option maxRecDepth 100000 in
set_option maxHeartbeats 4000000 in
theorem known_any (HL : Hid (∀ w, Calls Tryz.prog 5 #[] w (Kn.SetsP w))) (k : Int) (h1 : -9223372036854775808 ≤ k) (h2 : k ≤ 9223372036854775807) (w : World) :
    Calls Tryz.prog 4 #[.int .i64 k] w fun e w' => e = .returned (.bool true) ∧ Up w w' := by
  go_enter Tryz.func4, Tryz.ntmps4
  go_wp2_with fail
  refine (HL.out w).mono ?_
  rintro e w1 ⟨b, rfl, hl, u1⟩
  have HT := hide hl
  have HU1 := hide u1
  clear hl u1
  go_wp2_with fail
  refine (pick36_any k h1 h2 _).mono ?_
  rintro e w2 ⟨i, rfl, hi, rfl⟩
  obtain ⟨s, hs⟩ : ∃ s, Kn.tab[i]? = some s := ⟨_, List.getElem?_eq_getElem (by rw [Kn.len]; exact hi)⟩
  have Hs := hide (List.mem_of_getElem? hs)
  obtain ⟨v, c0, c1, hv⟩ := HT.out i s hs
  have HV := hide hv
  obtain ⟨va, vc, rfl, -⟩ := hv
  have hg : Hid (s.rs.length ≤ 100 ∧ ∀ r ∈ s.rs, 1 ≤ r.length ∧ r.length ≤ 1000) := by
    have h := Kn.all s Hs.out
    simp only [Kn.good, Bool.and_eq_true, decide_eq_true_eq] at h
    refine ⟨h.1.1.1.1.1.1, fun r hr => ?_⟩
    have := List.all_eq_true.1 h.1.1.1.1.1.2 r hr
    simpa using this
  have HD := hide (Kn.dec s Hs.out)
  have i1 : (i : Int) < 36 := by omega
  have i2 : (0 : Int) ≤ (i : Int) := by omega
  have HUa : Hid (Up w2 (w2.alloc (.cells #[.slice va s.rs.length vc, .int .i64 s.c] 27))) := (Up.refl _).alloc _
  have RN := hide (new_row (w := w2) (o := .cells #[.slice va s.rs.length vc, .int .i64 s.c] 27) (vs := [.slice va s.rs.length vc, .int .i64 s.c]) rfl)
  have HTx := hide (ktext_any _ s.rs _ (HV.out.up HUa.out) hg.out.1 hg.out.2)
  generalize Kn.text s.rs = T at *
  generalize hc : s.c = c at *
  clear hs
  go_wp2_with fail
  refine HTx.out.mono ?_
  rintro e w3 ⟨rfl, rfl⟩
  clear c0 c1 HTx
  go_wp2_with fail
  refine (HD.out _).mono ?_
  rintro e w4 ⟨B, d, M, rfl, hset, hz, hle, hfz, u4⟩
  have HU4 := hide (HU1.out.trans (HUa.out.trans u4))
  have HS := hide hset.r
  have HZ := hide hz
  have HLe := hide hle
  have HFz := hide hfz
  have R4 := hide (RN.out.up u4)
  rw [hc] at HLe HFz
  clear hset hz hle hfz u4 HD RN
  go_wp2_with fail
  refine (validate_any _ M _ B _ HS.out HZ.out).mono ?_
  rintro e w5 ⟨rfl, u5⟩
  rw [HLe.out]
  have HU5 := hide (HU4.out.trans u5)
  have HS5 := hide (HS.out.up u5)
  have R5 := hide (R4.out.up u5)
  clear u5 R4 HS
  by_cases h0 : c = 0
  · subst h0
    go_wp2_with fail
    refine (canonical_ok _ M _ B _ HS5.out HZ.out (HFz.out (by first | rfl | trivial)) HLe.out).mono ?_
    rintro e w6 ⟨b6, G, X, rfl, -, -, -, -, u6⟩
    have HU6 := hide (HU5.out.trans u6)
    have r1 := (R5.out.up u6).cell (i := 1) rfl
    clear u6
    go_wp2
    go_ret
    exact ⟨rfl, HU6.out⟩
  · have h0' := beq_eq_false_iff_ne.2 h0
    have h0n := bne_iff_ne.2 h0
    go_wp2_with fail
    refine (canonical_invalid _ M _ B _ HS5.out HZ.out (by rw [HLe.out]; exact h0)).mono ?_
    rintro e w6 ⟨rfl, u6⟩
    have HU6 := hide (HU5.out.trans u6)
    have r1 := (R5.out.up u6).cell (i := 1) rfl
    clear u6
    go_wp2
    go_ret
    exact ⟨rfl, HU6.out⟩
end Go.Proofs.YtcclepohmhdpbabGreat
