import Derived.Test.YtcclepohmhdpbaaGreatDoorBnSet
import Derived.Test.YtcclepohmhdpbaaGreatDoorDec
import Derived.Test.YtcclepohmhdpbaaGreatDoorWalkE
/- THE PROGRAM's BYTES, READ: Read. -/
namespace Go.Proofs.YtcclepohmhdpbaaGreatDoor
set_option linter.all false
open Go.RowKit Go.Deep

namespace Bn
/-- The set that bytes say, if they say one. -/
def got (l : List UInt8) : Mult := match set l with
  | none => []
  | some x => x.1
theorem err_none {l : List UInt8} (h : set l = none) : err l = 3 := by unfold err; rw [h]
theorem err_some {l t : List UInt8} {m : Mult} {o : Bool} (h : set l = some (m, t, o)) : err l = if t ≠ [] then 3 else if o = true then 4 else 0 := by unfold err; rw [h]
theorem got_some {l t : List UInt8} {m : Mult} {o : Bool} (h : set l = some (m, t, o)) : got l = m := by unfold got; rw [h]
theorem got_ok {l : List UInt8} (hl : l.length ≤ 6000) : okM (got l) := by
  unfold got
  cases h : set l with
  | none => exact ⟨by simp, by simp⟩
  | some x => exact set_ok h hl
end Bn

set_option maxHeartbeats 1000000 in
theorem bRead_any (l : List UInt8) (w : World) (hl : l.length ≤ 6000) :
    Calls Tryz.prog 101 #[.string (bs l)] w (ReadPost (Bn.err l) (Bn.got l) w) := by
  have hnew := VRow.new w [.string (bs l), .int .u64 (0 : Nat), .bool false, .bool false] 165
  have HS := hide (rset_any l 0 false w.heap.size _ hnew hl rfl)
  clear hnew
  unfold ReadPost
  go_enter Tryz.func101, Tryz.ntmps101
  go_wp2_with fail
  refine HS.out.mono ?_
  rintro e w1 ⟨⟨xv, ps⟩, t, o, bad, off, rfl, hx, h1, u1, hp, ht⟩
  obtain ⟨xa, xn, xc, rfl⟩ : ∃ a n c, xv = .slice a n c := own_shape hx.row
  have c0 := h1.c0
  have c2 := h1.c2
  have c3 := h1.c3
  have e0 := bs_size t
  have HX := hide hx
  have HU : Hid (Up w w1) := ((Fr.of_up ((Up.refl w).alloc _)).then u1 (T := (· = w.heap.size)) (S := fun x => w.heap.size ≤ x) (fun x _ e => by omega)).up (fun x hx => by omega)
  have HP := hide hp
  clear hx h1 u1 hp
  cases bad
  · have HQ : Hid (Bn.set l = some (L3.m ⟨.slice xa xn xc, ps⟩, t, off)) := HP.out
    have HE := hide (Bn.err_some HQ.out)
    have HG := hide (Bn.got_some HQ.out)
    cases t with
    | nil =>
      cases off
      · go_wp2
        go_ret2
        exact ⟨⟨.slice xa xn xc, ps⟩, by rw [HE.out]; rfl, HX.out, fun _ => HG.out.symm, HU.out⟩
      · go_wp2
        go_ret2
        exact ⟨nil3, by rw [HE.out]; rfl, nil3_ok _, (fun e => by rw [HE.out] at e; cases e), HU.out⟩
    | cons a s =>
      have e1 : (0 : Int) < ((a :: s).length : Int) := by simp only [List.length_cons]; omega
      go_wp2
      go_ret2
      exact ⟨nil3, by rw [HE.out]; rfl, nil3_ok _, (fun e => by rw [HE.out] at e; cases e), HU.out⟩
  · have HE := hide (Bn.err_none (l := l) HP.out)
    go_wp2
    go_ret2
    exact ⟨nil3, by rw [HE.out]; rfl, nil3_ok _, (fun e => by rw [HE.out] at e; cases e), HU.out⟩

set_option maxHeartbeats 1000000 in
theorem read1_any (l : List UInt8) (w : World) (hl : l.length ≤ 6000) :
    Calls Tryz.prog 63 #[.int .i64 1, .string (bs l)] w (ReadPost (Bn.err l) (Bn.got l) w) := by
  unfold ReadPost
  go_enter Tryz.func63, Tryz.ntmps63
  go_wp2_with (go_at_call 101; refine (bRead_any l _ hl).mono ?_; rintro e w1 ⟨X, rfl, h⟩; replace h := hide h)
  go_ret2
  exact ⟨X, rfl, h.out⟩
end Go.Proofs.YtcclepohmhdpbaaGreatDoor

/- READ AGAIN: bytes, as they are written. -/
namespace Go.Proofs.YtcclepohmhdpbaaGreatDoor
set_option linter.all false

namespace Rn
open Bn
theorem big_low : ∀ (n v : Nat), v < 256 ^ n → big (low n v).reverse = v
  | 0, v, h => by simp at h; subst h; rfl
  | n + 1, v, h => by
    simp only [low, List.reverse_cons]
    rw [big_snoc, big_low n (v / 256) (by rw [Nat.pow_succ] at h; omega)]
    rw [UInt8.toNat_ofNat']
    omega
theorem num_put (lit : Bool) {n v : Nat} (h : v < 256 ^ n) : num lit (put lit n v) = v := by
  unfold num ord put
  cases lit
  · exact big_low n v h
  · exact big_low n v h
theorem cut_put (lit : Bool) {n v : Nat} (h : v < 256 ^ n) (t : List UInt8) : cut n lit (put lit n v ++ t) = some (v, t) := by
  rw [cut_some (by simp [put_length])]
  have h1 : (put lit n v ++ t).take n = put lit n v := by
    have := List.take_left' (l₁ := put lit n v) (l₂ := t) (i := n) (put_length lit n v)
    exact this
  have h2 : (put lit n v ++ t).drop n = t := List.drop_left' (put_length lit n v)
  rw [h1, h2, num_put lit h]
theorem sh_spec : ∀ (f k : Nat), 0 < k → k < 9007199254740992 → 4503599627370496 ≤ k * 2 ^ f → 4503599627370496 ≤ k * 2 ^ sh f k ∧ k * 2 ^ sh f k < 9007199254740992
  | 0, k, h0, h1, h2 => by simp [sh] at h2 ⊢; omega
  | f + 1, k, h0, h1, h2 => by
    simp only [sh]
    split
    · rename_i hk
      have e : k * 2 ^ (f + 1) = 2 * k * 2 ^ f := by rw [Nat.pow_succ, Nat.mul_comm (2 ^ f) 2, ← Nat.mul_assoc, Nat.mul_comm k 2]
      have := sh_spec f (2 * k) (by omega) (by omega) (by rw [← e]; exact h2)
      have e2 : k * 2 ^ (sh f (2 * k) + 1) = 2 * k * 2 ^ sh f (2 * k) := by rw [Nat.pow_succ, Nat.mul_comm (2 ^ sh f (2 * k)) 2, ← Nat.mul_assoc, Nat.mul_comm k 2]
      rw [e2]
      exact this
    · rename_i hk
      simp
      omega
theorem units_dbl (u : Int) (h1 : -32768 ≤ u) (h2 : u ≤ 32768) : units (dbl u) = some u ∧ dbl u < 18446744073709551616 := by
  unfold dbl
  by_cases h0 : u = 0
  · subst h0
    exact ⟨rfl, by decide⟩
  · rw [if_neg h0]
    obtain ⟨k, hk⟩ : ∃ k, k = u.natAbs := ⟨_, rfl⟩
    rw [← hk]
    have hk0 : 0 < k := by omega
    have hk1 : k ≤ 32768 := by omega
    have hs := sh_spec 60 k hk0 (by omega) (by
      have : (4503599627370496 : Nat) ≤ 1 * 2 ^ 60 := by decide
      exact Nat.le_trans this (Nat.mul_le_mul_right _ hk0))
    generalize sh 60 k = j at *
    have hj1 : j ≤ 52 := by
      by_cases h : j ≤ 52
      · exact h
      · have h3 : 2 ^ 53 ≤ 2 ^ j := Nat.pow_le_pow_right (by decide) (by omega)
        have h4 : 1 * 2 ^ j ≤ k * 2 ^ j := Nat.mul_le_mul_right _ hk0
        have h5 : (2 : Nat) ^ 53 = 9007199254740992 := by decide
        omega
    have hj2 : 37 ≤ j := by
      by_cases h : 37 ≤ j
      · exact h
      · have h3 : 2 ^ j ≤ 2 ^ 36 := Nat.pow_le_pow_right (by decide) (by omega)
        have h4 : k * 2 ^ j ≤ 32768 * 2 ^ 36 := Nat.mul_le_mul hk1 h3
        have h5 : 32768 * (2 : Nat) ^ 36 = 2251799813685248 := by decide
        omega
    obtain ⟨M, hM⟩ : ∃ M, M = k * 2 ^ j := ⟨_, rfl⟩
    have hMd : M / 2 ^ j = k := by rw [hM]; exact Nat.mul_div_cancel _ (Nat.two_pow_pos j)
    have hMm : M % 2 ^ j = 0 := by rw [hM]; exact Nat.mul_mod_left _ _
    rw [← hM] at hs
    unfold dblOf
    rw [← hM]
    obtain ⟨S, hS⟩ : ∃ S : Nat, S = (if decide (u < 0) = true then 9223372036854775808 else 0) := ⟨_, rfl⟩
    have hS2 : S = 0 ∨ S = 9223372036854775808 := by rw [hS]; split <;> simp
    rw [← hS]
    obtain ⟨B, hB⟩ : ∃ B, B = S + (1071 - j) * 4503599627370496 + (M - 4503599627370496) := ⟨_, rfl⟩
    rw [← hB]
    have hq : B / 4503599627370496 = S / 4503599627370496 + (1071 - j) := by rcases hS2 with h | h <;> rw [hB, h] <;> omega
    have hq2 : B / 4503599627370496 % 2048 = 1071 - j := by rw [hq]; rcases hS2 with h | h <;> rw [h] <;> omega
    have hr : B % 4503599627370496 + 4503599627370496 = M := by rcases hS2 with h | h <;> rw [hB, h] <;> omega
    have hb0 : B ≠ 0 := by rw [hB]; omega
    have hbl : B < 18446744073709551616 := by rcases hS2 with h | h <;> rw [hB, h] <;> omega
    refine ⟨?_, hbl⟩
    unfold units
    rw [if_neg hb0, hq2, if_neg (by omega), hr, show 1071 - (1071 - j) = j by omega, hMd, hMm, if_neg (by omega)]
    congr 1
    by_cases hu : u < 0
    · have hS3 : S = 9223372036854775808 := by rw [hS, if_pos (by simpa using hu)]
      rw [if_pos (by rw [hB, hS3]; omega)]
      omega
    · have hS3 : S = 0 := by rw [hS, if_neg (by simpa using hu)]
      rw [if_neg (by rw [hB, hS3]; omega)]
      omega
theorem point_b (lit : Bool) {p : Pnt} (h1 : -32768 ≤ p.1 ∧ p.1 ≤ 32768) (h2 : -32768 ≤ p.2 ∧ p.2 ≤ 32768) (t : List UInt8) (o : Bool) : point lit (ptT lit p ++ t) o = some (p, t, o) := by
  obtain ⟨a1, a2⟩ := units_dbl p.1 h1.1 h1.2
  obtain ⟨b1, b2⟩ := units_dbl p.2 h2.1 h2.2
  unfold point
  have hl : (ptT lit p ++ t).length = 16 + t.length := by simp [ptT, put_length]; omega
  have e0 : ptT lit p ++ t = put lit 8 (dbl p.1) ++ (put lit 8 (dbl p.2) ++ t) := by simp [ptT]
  have e1 : (ptT lit p ++ t).take 8 = put lit 8 (dbl p.1) := by rw [e0]; exact List.take_left' (put_length _ _ _)
  have e2 : (ptT lit p ++ t).drop 8 = put lit 8 (dbl p.2) ++ t := by rw [e0]; exact List.drop_left' (put_length _ _ _)
  have e3 : (put lit 8 (dbl p.2) ++ t).take 8 = put lit 8 (dbl p.2) := List.take_left' (put_length _ _ _)
  have e4 : (ptT lit p ++ t).drop 16 = t := by
    rw [show 16 = 8 + 8 from rfl, ← List.drop_drop, e2]
    exact List.drop_left' (put_length _ _ _)
  rw [if_neg (by omega), e1, e2, e3, e4, num_put lit (by exact a2), num_put lit (by exact b2)]
  unfold coord
  rw [a1, b1]
  simp
theorem many_b {α : Type} {f : List UInt8 → Bool → Res α} {g : α → List UInt8} (t : List UInt8) (o : Bool) : ∀ (l : List α), (∀ x ∈ l, ∀ t o, f (g x ++ t) o = some (x, t, o)) → many f l.length (l.flatMap g ++ t) o = some (l, t, o)
  | [], _ => rfl
  | x :: l, hf => by
    simp only [List.length_cons, many, List.flatMap_cons]
    rw [List.append_assoc, hf x (by simp)]
    simp only [Option.bind_some]
    rw [many_b t o l (fun y hy => hf y (by simp [hy]))]
    rfl
theorem ring_b (lit : Bool) {r : Ring} (hl : r.length < 4294967296) (h : ∀ p ∈ r, (-32768 ≤ p.1 ∧ p.1 ≤ 32768) ∧ -32768 ≤ p.2 ∧ p.2 ≤ 32768) (t : List UInt8) (o : Bool) : ring lit (ringT lit r ++ t) o = some (r, t, o) := by
  unfold ring ringT
  rw [List.append_assoc, cut_put lit (by exact hl)]
  simp only [Option.bind_some]
  exact many_b t o r (fun p hp t o => point_b lit (h p hp).1 (h p hp).2 t o)
theorem head_b (lit : Bool) {kind n : Nat} (hk : kind < 4294967296) (hn : n < 4294967296) (t : List UInt8) : head kind (geom lit kind n ++ t) = some (lit, n, t) := by
  unfold head geom
  have h1 : cut 1 false (put lit 1 (if lit = true then 1 else 0) ++ put lit 4 kind ++ put lit 4 n ++ t) = some ((if lit = true then 1 else 0), put lit 4 kind ++ (put lit 4 n ++ t)) := by
    have e : ∀ v, v < 256 → put lit 1 v = put false 1 v := by
      intro v _
      cases lit <;> rfl
    rw [e _ (by split <;> decide), List.append_assoc, List.append_assoc]
    exact cut_put false (by split <;> decide) _
  rw [h1]
  simp only [Option.bind_some]
  have h2 : ((if lit = true then 1 else 0 : Nat) == 1) = lit := by cases lit <;> rfl
  rw [if_neg (by split <;> omega), h2, cut_put lit (by exact hk)]
  simp only [Option.bind_some]
  rw [if_neg (by simp), cut_put lit (by exact hn)]
  rfl
theorem poly_b (lit : Bool) {l : Poly} (hl : l.length < 4294967296) (h : ∀ r ∈ l, r.length < 4294967296 ∧ ∀ p ∈ r, (-32768 ≤ p.1 ∧ p.1 ≤ 32768) ∧ -32768 ≤ p.2 ∧ p.2 ≤ 32768) (t : List UInt8) (o : Bool) : poly (polyT lit l ++ t) o = some (l, t, o) := by
  unfold poly polyT
  rw [List.append_assoc, head_b lit (by decide) hl]
  simp only [Option.bind_some]
  exact many_b t o l (fun r hr t o => ring_b lit (h r hr).1 (h r hr).2 t o)
theorem set_b (lit : Bool) {m : Mult} (hm : m.length < 4294967296) (h : ∀ l ∈ m, l.length < 4294967296 ∧ ∀ r ∈ l, r.length < 4294967296 ∧ ∀ p ∈ r, (-32768 ≤ p.1 ∧ p.1 ≤ 32768) ∧ -32768 ≤ p.2 ∧ p.2 ≤ 32768) : Bn.set (setT lit m) = some (m, [], false) := by
  unfold Bn.set setT
  rw [head_b lit (by decide) hm]
  simp only [Option.bind_some]
  have := many_b (f := poly) (g := polyT lit) [] false m (fun l hl t o => poly_b lit (h l hl).1 (h l hl).2 t o)
  rw [List.append_nil] at this
  exact this
theorem err_b (lit : Bool) {m : Mult} (hm : m.length < 4294967296) (h : ∀ l ∈ m, l.length < 4294967296 ∧ ∀ r ∈ l, r.length < 4294967296 ∧ ∀ p ∈ r, (-32768 ≤ p.1 ∧ p.1 ≤ 32768) ∧ -32768 ≤ p.2 ∧ p.2 ≤ 32768) : err (setT lit m) = 0 ∧ got (setT lit m) = m := by
  unfold err got
  rw [set_b lit hm h]
  exact ⟨rfl, rfl⟩
end Rn
end Go.Proofs.YtcclepohmhdpbaaGreatDoor

/- READ AGAIN: what is the same. -/
namespace Go.Proofs.YtcclepohmhdpbaaGreatDoor
set_option linter.all false
open Go.RowKit Go.Deep

set_option maxRecDepth 100000 in
set_option maxHeartbeats 8000000 in
theorem ksame_any (v u : Value) (m : Mult) (w : World) (hv : Rd3 w v m) (hu : Rd3 w u m) (hb : Pl.Bd m) :
    Calls Tryz.prog 66 #[v, u] w fun e w' => e = .returned (.bool true) ∧ ∃ n, w' = w.drewN n := by
  obtain ⟨ao, cap, rfl, hm⟩ := hv
  obtain ⟨ao2, cap2, rfl, hm2⟩ := hu
  have hlen := hb.len
  have hb' := hide hb
  have HM := hide hm
  have HM2 := hide hm2
  clear hb hm hm2
  go_enter Tryz.func66, Tryz.ntmps66
  go_wp2
  go_loopw [5] (fun i wr => ∃ k : Nat, k ≤ m.length ∧ i = .int .i64 k ∧ Hid (Dr w wr)) (fun i _ => m.length - (intOf i).toNat)
  case atStart => exact ⟨0, Nat.zero_le _, rfl, Dr.refl _⟩
  case round =>
    obtain ⟨k, hk, rfl, hdr'⟩ := hrel
    by_cases hlt : k < m.length
    · obtain ⟨l, hl⟩ := Pl.some_of_lt hlt
      obtain ⟨b, x, rfl, hc, ao3, cap3, rfl, hr⟩ := HM.out k l hl
      obtain ⟨b2, y, rfl, hc2, ao4, cap4, rfl, hr2⟩ := HM2.out k l hl
      have hll := hb'.out.poly l (Pl.mem_of_some hl)
      have hrr := hide (hb'.out.ring l (Pl.mem_of_some hl))
      have hr' := hide hr
      have hr2' := hide hr2
      have gc := hdr'.out.up.cell hc
      have gc2 := hdr'.out.up.cell hc2
      have hcH := hide hc
      have hcH2 := hide hc2
      clear hl hr hr2 hc hc2
      go_wp2
      go_quiet (fail)
      go_wp2
      go_loopw [6] (fun j wr => ∃ q : Nat, q ≤ l.length ∧ j = .int .i64 q ∧ Hid (Dr w wr)) (fun j _ => l.length - (intOf j).toNat)
      case atStart => exact ⟨0, Nat.zero_le _, rfl, hdr'.out.n _⟩
      case round =>
        obtain ⟨q, hq, rfl, hdq'⟩ := hrel
        have ec := hdq'.out.up.cell hcH.out
        have ec2 := hdq'.out.up.cell hcH2.out
        clear gc gc2
        by_cases hlq : q < l.length
        · obtain ⟨r, hr1⟩ := Pl.some_of_lt hlq
          obtain ⟨b3, x3, rfl, hc3, ao5, cap5, rfl, hd3⟩ := hr'.out q r hr1
          obtain ⟨b4, x4, rfl, hc4, ao6, cap6, rfl, hd4⟩ := hr2'.out q r hr1
          have hrl := hrr.out r (Pl.mem_of_some hr1)
          have HD3 := hide hd3
          have HD4 := hide hd4
          have gc3 := hdq'.out.up.cell hc3
          have gc4 := hdq'.out.up.cell hc4
          have hcH3 := hide hc3
          have hcH4 := hide hc4
          clear hr1 hd3 hd4 hc3 hc4
          go_wp2
          go_quiet (fail)
          go_wp2
          go_loopw [7] (fun j wr => ∃ z : Nat, z ≤ r.length ∧ j = .int .i64 z ∧ Hid (Dr w wr)) (fun j _ => r.length - (intOf j).toNat)
          case atStart => exact ⟨0, Nat.zero_le _, rfl, hdq'.out.n _⟩
          case round =>
            obtain ⟨z, hz, rfl, hdz'⟩ := hrel
            clear ec ec2 gc3 gc4
            have ec := hdz'.out.up.cell hcH.out
            have ec2 := hdz'.out.up.cell hcH2.out
            have gc3 := hdz'.out.up.cell hcH3.out
            have gc4 := hdz'.out.up.cell hcH4.out
            by_cases hlz : z < r.length
            · obtain ⟨p, hp⟩ := Pl.some_of_lt hlz
              obtain ⟨b5, rfl, hx, hy⟩ := HD3.out z p hp
              obtain ⟨b6, rfl, hx2, hy2⟩ := HD4.out z p hp
              have k1 := hdz'.out.up.cell hx
              have k2 := hdz'.out.up.cell hy
              have k3 := hdz'.out.up.cell hx2
              have k4 := hdz'.out.up.cell hy2
              obtain ⟨px, py⟩ := p
              dsimp only at k1 k2 k3 k4
              clear hp hx hy hx2 hy2
              go_wp2
              refine wp_region_quiet_lit (by kernel_rfl) (by kernel_rfl) ?_
              repeat (first | go_big_quiet_step (fail) | quiet_step (fail))
              refine wpQuiet_nil ?_
              intro _ hw'
              obtain ⟨nq, hw''⟩ := hw'
              subst hw''
              go_wp2
              go_roundw
              case rel => exact ⟨z + 1, by omega, by go_num, hdz'.out.n _⟩
              case measure => simp [intOf]; omega
            · have : z = r.length := by omega
              subst this
              go_wp2
              go_roundw
              case rel => exact ⟨q + 1, by omega, by go_num, hdz'.out⟩
              case measure => simp [intOf]; omega
        · have : q = l.length := by omega
          subst this
          go_wp2
          go_roundw
          case rel => exact ⟨k + 1, by omega, by go_num, hdq'.out⟩
          case measure => simp [intOf]; omega
    · have : k = m.length := by omega
      subst this
      go_wp2
      go_ret
      exact ⟨rfl, hdr'.out⟩

set_option maxHeartbeats 2000000 in
theorem pick3_any (c : Int) (h1 : -9223372036854775808 ≤ c) (h2 : c ≤ 9223372036854775807) (w : World) :
    Calls Tryz.prog 37 #[.int .i64 c, .int .i64 3] w fun e w' => ∃ f : Int, e = .returned (.int .i64 f) ∧ (f = 0 ∨ f = 1 ∨ f = 2) ∧ w' = w := by
  by_cases h0 : c < 0
  · have e1 : wrap64 (c + 1) = c + 1 := by unfold wrap64; omega
    have e2 : wrap64 (-(c + 1)) = -(c + 1) := by unfold wrap64; omega
    obtain ⟨d, hd⟩ : ∃ d, d = -(c + 1) := ⟨_, rfl⟩
    have hd0 : 0 ≤ d := by omega
    go_enter Tryz.func37, Tryz.ntmps37
    go_wp2
    go_ret
    refine ⟨_, rfl, ?_, rfl⟩
    rw [← Int.neg_tmod, Int.tmod_eq_emod_of_nonneg (by omega)]
    omega
  · go_enter Tryz.func37, Tryz.ntmps37
    go_wp2
    go_ret
    refine ⟨_, rfl, ?_, rfl⟩
    omega
end Go.Proofs.YtcclepohmhdpbaaGreatDoor
