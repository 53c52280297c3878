import Derived.Test.YtcclepohmhdpbabGreatDoorTxM
import Derived.Test.YtcclepohmhdpbabGreatDoorNoted
import Derived.Test.YtcclepohmhdpbabGreatDoorTxF
import Derived.Deep.DeepCutAuto
import Derived.Test.YtcclepohmhdpbabGreatDoorVdI
namespace Go.Proofs.YtcclepohmhdpbabGreatDoor
set_option linter.all false
open Go.RowKit Go.Deep
theorem vrow_new1dd (w : World) (o : Obj) (v0 v1 v2 : Value) (t : TypeId) : VRow (((w.alloc (.cells #[v0, v1, v2] t)).alloc o).drew.drew) w.heap.size t [v0, v1, v2] := vrow_new1 w o v0 v1 v2 t
set_option maxRecDepth 100000 in
set_option maxHeartbeats 8000000 in
theorem split_point (l : List UInt8) (w : World) (n k j : Nat) (R P E : List UInt8) (hl : l.length ≤ 6000) (h0 : 0 < l.length) (hn : n = Tx.sgn true l 0) (hR : l.drop n = R) (hk : k = Tx.lead R) (hE : R.drop k = 46 :: P) (hj : j = Tx.lead P) (hP : P.drop j = E) (hd : Tx.allDig ((E.drop 1).drop (Tx.sgn true (E.drop 1) 0))) :
    Calls Tryz.prog 165 #[.string (bs l)] w fun e w' => e = .returned (.agg #[.bool (Tx.at_ l 0 == 45), .string (bs (R.take k ++ P.take j)), .int .i64 (-(j : Int) + Tx.tailV E)]) ∧ Up w w' := by
  obtain ⟨e0, e1, e2, e3, e4, e5⟩ := bs_tells l
  obtain ⟨r0, r1, r2, r3, r4, r5⟩ := bs_tells R
  obtain ⟨p0, p1, p2, p3, p4, p5⟩ := bs_tells P
  obtain ⟨x0, x1, x2, x3, x4, x5⟩ := bs_tells E
  obtain ⟨y0, y1, y2, y3, y4, y5⟩ := bs_tells (46 :: P)
  have hs : n ≤ l.length := by have := Tx.sgn_le true l 0 (Nat.zero_le _); rw [hn]; omega
  have hkR : k ≤ R.length := by rw [hk]; exact Tx.lead_le R
  have hjP : j ≤ P.length := by rw [hj]; exact Tx.lead_le P
  have hRl : R.length ≤ 6000 := by rw [← hR, List.length_drop]; omega
  have hPl : P.length + 1 ≤ 6000 := by have := congrArg List.length hE; simp at this; omega
  have hEl : E.length ≤ 6000 := by rw [← hP, List.length_drop]; omega
  have y6 := Tx.at_zero 46 P
  have y7 : (bs (46 :: P)).extract 1 (P.length + 1) = bs P := by simpa using y2 1
  have z1 := bs_size (R.take k)
  have z2 := bs_size (P.take j)
  have z3 := bs_append (R.take k) (P.take j)
  simp only [List.length_take] at z1 z2
  have HN := hide hn
  have HK := hide hk
  have HJ := hide hj
  have HD := hide hd
  clear e3 e4 e5 r4 r5 x3 x4 x5 p4 p5 y2 y3 y4 y5 hn hk hj hd
  go_enter Tryz.func165, Tryz.ntmps165
  go_wp2_with (first
    | (go_at_call 155; refine (signLength_any _ _ (by omega)).mono ?_; rintro e w' ⟨i, rfl, rfl, hi, hle⟩; obtain rfl : n = i := HN.out.trans hi.out.symm; clear hi hle)
    | (go_at_call 156; refine (digitsLength_let _ _ (by omega)).mono ?_; rintro e w' ⟨i, rfl, rfl, hi, hle⟩; have hi2 := hi.out; clear hi hle; first | (rw [← HK.out] at hi2; obtain rfl : k = i := hi2.symm) | (rw [← HJ.out] at hi2; obtain rfl : j = i := hi2.symm)))
  go_region_with (fail)
  cases E with
  | nil =>
    go_wp2
    refine ret_split rfl rfl (vrow_new1d _ _ _ _ _ _) ⟨by rw [Tx.tailV_nil]; simp, (((Up.refl _).alloc _).alloc _).drew⟩
  | cons c t =>
    have e7 : (bs (c :: t)).extract 1 (t.length + 1) = bs t := by simpa using x2 1
    have HD' : Hid (Tx.allDig (t.drop (Tx.sgn true t 0))) := HD.out
    have htl : t.length ≤ 6000 := by simp at hEl; omega
    have HX := hide (Tx.tailV_cons c t)
    obtain ⟨B1, B2⟩ := Tx.expo_bound HD'.out
    go_wp2_with fail
    go_region_with (go_at_call 168; refine (exponent_expo t _ (by omega) HD'.out).mono ?_; rintro e w' ⟨rfl, rfl⟩)
    all_goals
      have B3 : IntKind.i64.wrap (-(j : Int) + Tx.expo t) = -(j : Int) + Tx.expo t := by rw [IntKind.wrap_i64]; omega
      rw [B3]
      clear B3
      go_wp2
      refine ret_split rfl rfl (vrow_new1dd _ _ _ _ _ _) ⟨by rw [HX.out], (((Up.refl _).alloc _).alloc _).drew.drew⟩
def unitsV (neg : Bool) : Option Nat → Value
 | some k => .tuple #[.int .i64 (if neg then -(k : Int) else k), .bool true]
 | none => .tuple #[.int .i64 0, .bool false]
namespace Tx
theorem mem_trL {l : List UInt8} {c : UInt8} (h : c ∈ trL l) : c ∈ l := (List.dropWhile_sublist z).subset h
theorem mem_trR {l : List UInt8} {c : UInt8} (h : c ∈ trR l) : c ∈ l := by
 have h' : c ∈ l.reverse.dropWhile z := by simpa [trR] using h
 simpa using (List.dropWhile_sublist z).subset h'
theorem trL_le (l : List UInt8) : (trL l).length ≤ l.length := (List.dropWhile_sublist z).length_le
theorem trR_le (l : List UInt8) : (trR l).length ≤ l.length := by
 have := (List.dropWhile_sublist (l := l.reverse) z).length_le
 simpa [trR] using this
def unitsOf (ds : List UInt8) (p : Int) : Option Nat := amt (trR (trL ds)) (p + (((trL ds).length : Int) - ((trR (trL ds)).length : Int)))
end Tx
theorem amt_le {l : List UInt8} {p : Int} {k : Nat} (h : Tx.amt l p = some k) : k ≤ 32768 := by
 unfold Tx.amt at h
 split at h
 ·simp at h; omega
 ·split at h
  ·simp at h
  ·split at h
   ·simp at h
   ·rename_i h3
    have := Option.some.inj h
    omega
set_option maxRecDepth 100000 in
set_option maxHeartbeats 4000000 in
theorem Units_any (l ds : List UInt8) (neg : Bool) (p : Int) (w : World) (hs : ∀ w, Calls Tryz.prog 165 #[.string (bs l)] w fun e w' => e = .returned (.agg #[.bool neg, .string (bs ds), .int .i64 p]) ∧ Up w w')
    (hd : Tx.allDig ds) (hl : ds.length ≤ 6000) (hp : -900000 ≤ p) (hp2 : p ≤ 900000) :
    Calls Tryz.prog 164 #[.string (bs l)] w fun e w' => e = .returned (unitsV neg (Tx.unitsOf ds p)) ∧ Up w w' := by
  have HS := hide hs
  obtain ⟨T, hT⟩ : ∃ T, T = Tx.trR (Tx.trL ds) := ⟨_, rfl⟩
  obtain ⟨q, hq⟩ : ∃ q, q = p + (((Tx.trL ds).length : Int) - ((Tx.trR (Tx.trL ds)).length : Int)) := ⟨_, rfl⟩
  have b1 := Tx.trL_le ds
  have b2 := Tx.trR_le (Tx.trL ds)
  have bT : T.length ≤ 6000 := by rw [hT]; omega
  have bq1 : -1000000 ≤ q := by rw [hq]; omega
  have bq2 : q ≤ 1000000 := by rw [hq]; omega
  have HD : Hid (Tx.allDig T) := fun c hc => hd c (Tx.mem_trL (Tx.mem_trR (hT ▸ hc)))
  have HA := hide (show Tx.unitsOf ds p = Tx.amt T q by rw [hT, hq]; rfl)
  have HT := hide hT
  have HQ := hide hq
  clear hs hd hT hq b1 b2
  obtain ⟨o, ho⟩ : ∃ o, o = Tx.amt T q := ⟨_, rfl⟩
  have HO := hide ho
  have HB := hide (fun k (h : Tx.amt T q = some k) => amt_le h)
  clear ho
  cases o with
  | none =>
    go_enter Tryz.func164, Tryz.ntmps164
    go_wp2_with (first
      | (go_at_call 165; refine (HS.out _).mono ?_; rintro e w1 ⟨rfl, u1⟩; replace u1 := hide u1)
      | (go_at_call 166; refine (trim_any neg ds p _ hl hp hp2).mono ?_; rintro e w2 ⟨rfl, u2⟩; have rr := (VRow.new w1 [.bool neg, .string (bs ds), .int .i64 p] 179); have rr := rr.of_block (u2.block _ rr.lt); have d0 := rr.cell (i := 0) rfl; have d1 := rr.cell (i := 1) rfl; have d2 := rr.cell (i := 2) rfl; have f0 := rr.frozen 0; have f1 := rr.frozen 1; have f2 := rr.frozen 2; replace rr := hide rr; replace u2 := hide u2; rw [← HQ.out, ← HT.out])
      | (go_at_call 167; refine (amountOf_any neg T q _ bT bq1 bq2 HD.out).mono ?_; rintro e w3 ⟨rfl, u3⟩; have r3 := ((rr.out.set 0 (.bool neg)).set 1 (.string (bs T))).set 2 (.int .i64 q); have r4 := r3.of_block (u3.block _ r3.lt); have d3 := r4.cell (i := 0) rfl; clear r3 r4; replace u3 := hide u3; rw [← HO.out, optV]))
    all_goals
      go_ret2
      have hsz : w.heap.size ≤ w1.heap.size := u1.out.size
      refine ⟨?_, (((((u1.out.alloc _).trans u2.out).setCell (p := ⟨w1.heap.size, 0, none⟩) hsz _).setCell (p := ⟨w1.heap.size, 1, none⟩) hsz _).setCell (p := ⟨w1.heap.size, 2, none⟩) hsz _).trans u3.out⟩
      rw [HA.out, ← HO.out]
      rfl
  | some k =>
    have hk : k ≤ 32768 := HB.out k HO.out.symm
    go_enter Tryz.func164, Tryz.ntmps164
    go_wp2_with (first
      | (go_at_call 165; refine (HS.out _).mono ?_; rintro e w1 ⟨rfl, u1⟩; replace u1 := hide u1)
      | (go_at_call 166; refine (trim_any neg ds p _ hl hp hp2).mono ?_; rintro e w2 ⟨rfl, u2⟩; have rr := (VRow.new w1 [.bool neg, .string (bs ds), .int .i64 p] 179); have rr := rr.of_block (u2.block _ rr.lt); have d0 := rr.cell (i := 0) rfl; have d1 := rr.cell (i := 1) rfl; have d2 := rr.cell (i := 2) rfl; have f0 := rr.frozen 0; have f1 := rr.frozen 1; have f2 := rr.frozen 2; replace rr := hide rr; replace u2 := hide u2; rw [← HQ.out, ← HT.out])
      | (go_at_call 167; refine (amountOf_any neg T q _ bT bq1 bq2 HD.out).mono ?_; rintro e w3 ⟨rfl, u3⟩; have r3 := ((rr.out.set 0 (.bool neg)).set 1 (.string (bs T))).set 2 (.int .i64 q); have r4 := r3.of_block (u3.block _ r3.lt); have d3 := r4.cell (i := 0) rfl; clear r3 r4; replace u3 := hide u3; rw [← HO.out, optV]))
    all_goals
      go_ret2
      have hsz : w.heap.size ≤ w1.heap.size := u1.out.size
      refine ⟨?_, (((((u1.out.alloc _).trans u2.out).setCell (p := ⟨w1.heap.size, 0, none⟩) hsz _).setCell (p := ⟨w1.heap.size, 1, none⟩) hsz _).setCell (p := ⟨w1.heap.size, 2, none⟩) hsz _).trans u3.out⟩
      rw [HA.out, ← HO.out]
      simp_all [unitsV]
end Go.Proofs.YtcclepohmhdpbabGreatDoor
namespace Go.Proofs.YtcclepohmhdpbabGreatDoor
set_option linter.all false
namespace Du
def nat (l : List UInt8) : List Nat := l.map fun c => c.toNat - 48
theorem scan_digits {A : List UInt8} (hA : Tx.allDig A) (t : List UInt8) : ∀ (d : List Nat) (p : Int), scan (A ++ t) d p = scan t (d ++ nat A) p := by
  induction A with
  | nil => intro d p; simp [nat]
  | cons c A ih =>
    intro d p
    have hc : Tx.digit c.toNat = true := hA c (by simp)
    have hr : 48 ≤ (c.toNat : Int) ∧ (c.toNat : Int) ≤ 57 := by simpa [Tx.digit] using hc
    rw [List.cons_append, scan, if_neg (by omega), if_pos hc, if_neg (by omega), ih (fun x hx => hA x (by simp [hx]))]
    simp [nat]
theorem scan_sign {c : UInt8} (h : c.toNat = 43 ∨ c.toNat = 45) (t : List UInt8) (d : List Nat) (p : Int) : scan (c :: t) d p = scan t d p := by
 have hd : ¬ Tx.digit c.toNat = true := by simp [Tx.digit]; omega
 rw [scan, if_neg (by omega), if_neg hd, if_neg (by omega)]
theorem scan_point (t : List UInt8) (d : List Nat) (p : Int) : scan (46 :: t) d p = scan t d d.length := by
 have hd : ¬ Tx.digit ((46 : UInt8).toNat) = true := by decide
 rw [scan, if_neg (by decide), if_neg hd, if_pos (by decide)]
theorem scan_expo {c : UInt8} (h : c.toNat = 101 ∨ c.toNat = 69) (t : List UInt8) (d : List Nat) (p : Int) : scan (c :: t) d p = (d, p, c :: t) := by
 rw [scan, if_pos h]
theorem capD_other {c : UInt8} (h : ¬ Tx.digit c.toNat = true) (t : List UInt8) (e : Nat) : capD (c :: t) e = capD t e := by
 rw [capD, if_neg (fun x => h x.1)]
theorem caps {C : List UInt8} (hC : Tx.allDig C) : ∀ (a : Int) (e : Nat), 0 ≤ a → (a = e ∨ (60000 ≤ a ∧ 60000 ≤ e)) → (Tx.cap 60000 C a = (capD C e : Int) ∨ (60000 ≤ Tx.cap 60000 C a ∧ 60000 ≤ capD C e)) := by
  induction C with
  | nil => intro a e _ h; exact h
  | cons c C ih =>
    intro a e ha h
    have hc : Tx.digit c.toNat = true := hC c (by simp)
    have hr : 48 ≤ (c.toNat : Int) ∧ (c.toNat : Int) ≤ 57 := by simpa [Tx.digit] using hc
    rw [Tx.cap_cons, capD]
    have ih' := ih (fun x hx => hC x (by simp [hx]))
    by_cases h1 : a < 60000
    · have he : a = e := by omega
      rw [if_pos h1, if_pos ⟨hc, by omega⟩]
      exact ih' _ _ (by omega) (.inl (by omega))
    · rw [if_neg h1]
      split
      · exact ih' _ _ ha (.inr ⟨by omega, by omega⟩)
      · exact ih' _ _ ha (by omega)
theorem sumD_zeros (q : Int) (t : List Nat) : ∀ (a k v : Nat), sumD q (List.replicate a 0 ++ t) k v = sumD q t (k + a) v
  | 0, k, v => by simp
  | a + 1, k, v => by
    rw [List.replicate_succ, List.cons_append, sumD, if_pos rfl, sumD_zeros q t a (k + 1) v]
    congr 1
    omega
theorem sumD_ends (q : Int) : ∀ (b k v : Nat), sumD q (List.replicate b 0) k v = some v
 | 0, k, v => rfl
 | b + 1, k, v => by rw [List.replicate_succ, sumD, if_pos rfl]; exact sumD_ends q b (k + 1) v
theorem sumD_append (q : Int) (Y : List Nat) : ∀ (X : List Nat) (k v : Nat), sumD q (X ++ Y) k v = (sumD q X k v).bind fun v' => sumD q Y (k + X.length) v'
  | [], k, v => by simp [sumD]
  | d :: t, k, v => by
    simp only [List.cons_append, sumD]
    have e : k + (d :: t).length = k + 1 + t.length := by simp; omega
    rw [e]
    split
    · exact sumD_append q Y t (k + 1) v
    · split
      · rfl
      · exact sumD_append q Y t (k + 1) _
theorem sumD_none (q : Int) : ∀ (X : List Nat) (k v j d : Nat), X[j]? = some d → d ≠ 0 → (q - 1 - (k + j : Nat) < -4 ∨ 4 < q - 1 - (k + j : Nat)) → sumD q X k v = none
  | [], k, v, j, d, h, _, _ => by simp at h
  | x :: t, k, v, 0, d, h, hd, hr => by
    simp at h; subst h
    rw [sumD, if_neg hd, if_pos (by simpa using hr)]
  | x :: t, k, v, j + 1, d, h, hd, hr => by
    simp at h
    have e : ((k + (j + 1) : Nat) : Int) = ((k + 1 + j : Nat) : Int) := by omega
    rw [e] at hr
    rw [sumD]
    split
    · exact sumD_none q t (k + 1) v j d h hd hr
    · split
      · rfl
      · exact sumD_none q t (k + 1) _ j d h hd hr
def valN : List Nat → Nat
 | [] => 0
 | d :: t => d * 10 ^ t.length + valN t
theorem sumD_some (q : Int) : ∀ (X : List Nat) (k v : Nat), (-4 ≤ q - k - X.length) → (q - 1 - k ≤ 4) → sumD q X k v = some (v + valN X * 10 ^ (q - k - X.length + 4).toNat)
  | [], k, v, _, _ => by simp [sumD, valN]
  | d :: t, k, v, h1, h2 => by
    simp only [List.length_cons] at h1 ⊢
    have e : (q - (k : Int) - ((t.length + 1 : Nat) : Int) + 4).toNat = (q - ((k + 1 : Nat) : Int) - (t.length : Int) + 4).toNat := by omega
    have e2 : (q - 1 - (k : Int) + 4).toNat = t.length + (q - ((k + 1 : Nat) : Int) - (t.length : Int) + 4).toNat := by omega
    rw [sumD]
    split
    · rename_i h0
      rw [sumD_some q t (k + 1) v (by omega) (by omega), valN, h0, e]
      simp
    · rw [if_neg (by omega), sumD_some q t (k + 1) _ (by omega) (by omega), valN, e, e2]
      congr 1
      rw [Nat.add_mul, Nat.pow_add, ← Nat.mul_assoc]
      omega
theorem val_eq : ∀ (l : List UInt8) (v : Nat), Tx.val l v = v * 10 ^ l.length + valN (nat l)
  | [], v => by simp [Tx.val, nat, valN]
  | c :: t, v => by
    have h : Tx.val (c :: t) v = Tx.val t (v * 10 + (c.toNat - 48)) := rfl
    rw [h, val_eq t, List.length_cons, Nat.pow_succ]
    simp only [nat, List.map_cons, valN, List.length_map]
    rw [Nat.add_mul, Nat.mul_assoc, Nat.mul_comm 10]
    omega
theorem valN_pos {d : Nat} {t : List Nat} (h : d ≠ 0) : 10 ^ t.length ≤ valN (d :: t) := by
 rw [valN]
 have : 1 * 10 ^ t.length ≤ d * 10 ^ t.length := Nat.mul_le_mul_right _ (by omega)
 omega
theorem z_iff (c : UInt8) : Tx.z c = true ↔ c = 48 := by simp [Tx.z]
theorem all_z {l : List UInt8} (h : ∀ c ∈ l, Tx.z c = true) : nat l = List.replicate l.length 0 := by
  induction l with
  | nil => rfl
  | cons c t ih =>
    have e : c = 48 := (z_iff c).1 (h c (by simp))
    have := ih fun x hx => h x (by simp [hx])
    simp only [nat, List.map_cons, List.length_cons, List.replicate_succ]
    rw [e]
    congr 1
theorem takeWhile_all {α : Type} (f : α → Bool) : ∀ (l : List α), ∀ c ∈ l.takeWhile f, f c = true
  | [], c, h => by simp at h
  | x :: t, c, h => by
    rw [List.takeWhile_cons] at h
    split at h
    · rename_i hx
      rcases List.mem_cons.1 h with e | e
      · rw [e]; exact hx
      · exact takeWhile_all f t c e
    · simp at h
theorem drop_head {α : Type} (f : α → Bool) : ∀ (l : List α) (c : α) (t : List α), l.dropWhile f = c :: t → f c = false
  | [], c, t, h => by simp at h
  | x :: l, c, t, h => by
    rw [List.dropWhile_cons] at h
    split at h
    · exact drop_head f l c t h
    · rename_i hx
      cases h
      simpa using hx
theorem left_split (D : List UInt8) : nat D = List.replicate (D.length - (Tx.trL D).length) 0 ++ nat (Tx.trL D) := by
 have e : D = D.takeWhile Tx.z ++ D.dropWhile Tx.z := (List.takeWhile_append_dropWhile).symm
 have hl : D.length = (D.takeWhile Tx.z).length + (Tx.trL D).length := by
  have := congrArg List.length e
  rw [List.length_append] at this
  exact this
 have h1 : nat D = nat (D.takeWhile Tx.z) ++ nat (Tx.trL D) := by
  have := congrArg nat e
  rw [this]
  simp only [nat, Tx.trL, List.map_append]
 rw [h1, all_z (takeWhile_all Tx.z D), show D.length - (Tx.trL D).length = (D.takeWhile Tx.z).length by omega]
theorem right_split (L : List UInt8) : nat L = nat (Tx.trR L) ++ List.replicate (L.length - (Tx.trR L).length) 0 := by
 have h := left_split L.reverse
 have e : Tx.trL L.reverse = (Tx.trR L).reverse := by simp [Tx.trL, Tx.trR]
 rw [e] at h
 have h2 := congrArg List.reverse h
 simp only [nat, List.map_reverse, List.reverse_reverse, List.reverse_append, List.reverse_replicate, List.length_reverse] at h2 ⊢
 exact h2
theorem trR_last {L : List UInt8} (h : Tx.trR L ≠ []) : ∃ A c, Tx.trR L = A ++ [c] ∧ Tx.z c = false := by
 unfold Tx.trR at h ⊢
 cases e : L.reverse.dropWhile Tx.z with
 | nil => rw [e] at h; simp at h
 | cons c t => exact ⟨t.reverse, c, by simp, drop_head _ _ _ _ e⟩
theorem trR_first {L : List UInt8} {c : UInt8} {t : List UInt8} (h : L = c :: t) (hz : Tx.z c = false) : ∃ t', Tx.trR L = c :: t' := by
  have e : L.reverse = t.reverse ++ [c] := by rw [h]; simp
  unfold Tx.trR
  rw [e]
  have : ∀ X : List UInt8, ∃ Y, (X ++ [c]).dropWhile Tx.z = Y ++ [c] := by
    intro X
    induction X with
    | nil => exact ⟨[], by simp [List.dropWhile_cons, hz]⟩
    | cons x X ih =>
      rw [List.cons_append, List.dropWhile_cons]
      split
      · exact ih
      · exact ⟨x :: X, rfl⟩
  obtain ⟨Y, hY⟩ := this t.reverse
  rw [hY]
  exact ⟨Y.reverse, by simp⟩
theorem nz {c : UInt8} (hd : Tx.digit c.toNat = true) (h : Tx.z c = false) : c.toNat - 48 ≠ 0 := by
 have hr : 48 ≤ (c.toNat : Int) ∧ (c.toNat : Int) ≤ 57 := by simpa [Tx.digit] using hd
 intro e
 have : c.toNat = 48 := by omega
 have : c = 48 := UInt8.toNat_inj.1 this
 rw [(z_iff c).2 this] at h
 cases h
theorem sums (D : List UInt8) (hD : Tx.allDig D) (q : Int) : (sumD q (nat D) 0 0).bind fin = Tx.unitsOf D (q - D.length) := by
  have b1 := Tx.trL_le D
  have b2 := Tx.trR_le (Tx.trL D)
  unfold Tx.unitsOf
  rw [left_split D, sumD_zeros, right_split (Tx.trL D), sumD_append]
  have e0 : ∀ o : Option Nat, (o.bind fun v' => sumD q (List.replicate ((Tx.trL D).length - (Tx.trR (Tx.trL D)).length) 0) (0 + (D.length - (Tx.trL D).length) + (nat (Tx.trR (Tx.trL D))).length) v') = o := by
    intro o
    cases o with
    | none => rfl
    | some v => exact sumD_ends q _ _ _
  rw [e0]
  have hT : Tx.allDig (Tx.trR (Tx.trL D)) := fun c hc => hD c (Tx.mem_trL (Tx.mem_trR hc))
  generalize ha : D.length - (Tx.trL D).length = a
  have hp : q - (D.length : Int) + (((Tx.trL D).length : Int) - ((Tx.trR (Tx.trL D)).length : Int)) = q - (a : Int) - ((Tx.trR (Tx.trL D)).length : Int) := by omega
  rw [hp]
  cases hL : Tx.trL D with
  | nil =>
    have : Tx.trR ([] : List UInt8) = [] := rfl
    rw [this]
    simp [nat, sumD, Tx.amt, fin]
  | cons c t =>
    have hz : Tx.z c = false := drop_head _ _ _ _ hL
    rw [hL] at hT
    obtain ⟨t', ht'⟩ := trR_first rfl hz
    obtain ⟨A, g, hA, hg⟩ := trR_last (L := c :: t) (by rw [ht']; simp)
    generalize hTT : Tx.trR (c :: t) = T at *
    have hlen : (nat T).length = T.length := by simp [nat]
    have hcn := nz (hT c (by rw [ht']; simp)) hz
    have hgn := nz (hT g (by rw [hA]; simp)) hg
    have hTpos : 0 < T.length := by rw [ht']; simp
    simp only [Nat.zero_add]
    by_cases h1 : q - (a : Int) - (T.length : Int) < -4
    · rw [sumD_none q (nat T) a 0 (T.length - 1) (g.toNat - 48) (by rw [hA]; simp [nat]) hgn (.inl (by omega)), Tx.amt, if_neg (by rw [ht']; simp), if_pos (.inl h1)]
      rfl
    · by_cases h2 : 4 < q - 1 - (a : Int)
      · rw [sumD_none q (nat T) a 0 0 (c.toNat - 48) (by rw [ht']; simp [nat]) hcn (.inr (by simpa using h2)), Tx.amt, if_neg (by rw [ht']; simp), if_pos (.inr (by omega))]
        rfl
      · have hs := sumD_some q (nat T) a 0 (by rw [hlen]; omega) (by omega)
        rw [hlen] at hs
        have hv : Tx.val T 0 = valN (nat T) := by rw [val_eq]; omega
        rw [hs, Tx.amt, if_neg (by rw [ht']; simp), hv]
        simp only [Nat.zero_add, Option.bind_some]
        by_cases h3 : (T.length : Int) + (q - (a : Int) - (T.length : Int)) > 4
        · rw [if_pos (.inr h3)]
          refine fin_bad (.inr ?_)
          have hbig : 10 ^ 8 ≤ valN (nat T) * 10 ^ (q - (a : Int) - (T.length : Int) + 4).toNat := by
            have h5 : 10 ^ (T.length - 1) ≤ valN (nat T) := by
              have := valN_pos (t := nat t') hcn
              rw [ht']
              simpa [nat] using this
            have h6 := Nat.mul_le_mul_right (10 ^ (q - (a : Int) - (T.length : Int) + 4).toNat) h5
            rw [← Nat.pow_add, show T.length - 1 + (q - (a : Int) - (T.length : Int) + 4).toNat = 8 by omega] at h6
            exact h6
          have e8 : (10 : Nat) ^ 8 = 100000000 := rfl
          omega
        · rw [if_neg (by omega)]
          unfold fin
          rfl
def sgL (g : List UInt8) : Prop := g = [] ∨ g = [43] ∨ g = [45]
def ptL (t : List UInt8) : Prop := t = [] ∨ ∃ B, t = 46 :: B ∧ Tx.allDig B
def exL (E : List UInt8) : Prop := E = [] ∨ ∃ c g C, E = c :: (g ++ C) ∧ (c = 101 ∨ c = 69) ∧ sgL g ∧ C ≠ [] ∧ Tx.allDig C
def Shape (s : List UInt8) : Prop := ∃ g A t E, s = g ++ (A ++ (t ++ E)) ∧ sgL g ∧ A ≠ [] ∧ Tx.allDig A ∧ ptL t ∧ exL E
theorem lead_dig (l : List UInt8) : Tx.allDig (l.take (Tx.lead l)) := by
  induction l with
  | nil => intro c hc; simp at hc
  | cons c t ih =>
    rw [Tx.lead_cons]
    split
    · rename_i h
      intro x hx
      rw [List.take_succ_cons] at hx
      rcases List.mem_cons.1 hx with e | e
      · rw [e]; exact h
      · exact ih x e
    · intro x hx; simp at hx
theorem take_add (l : List UInt8) (a b : Nat) : l.take (a + b) = l.take a ++ (l.drop a).take b := List.take_add
theorem at_cons {l : List UInt8} {n : Nat} {c : Nat} (h : Tx.at_ l n = (c : Int)) (hc : c < 256) : (l.drop n).take 1 = [UInt8.ofNat c] := by
 have hn : n < l.length := Tx.lt_of_at (by omega)
 rw [Tx.at_lt hn] at h
 have e : l[n] = UInt8.ofNat c := UInt8.toNat_inj.1 (by rw [UInt8.toNat_ofNat']; omega)
 rw [Tx.drop_cons hn, List.take_succ_cons, e]; simp
theorem sgn_shape (p : Bool) (l : List UInt8) (n : Nat) : sgL ((l.drop n).take (Tx.sgn p l n)) := by
 unfold Tx.sgn
 split
 ·rename_i h
  rcases h with h | ⟨-, h⟩
  ·exact .inr (.inr (at_cons (c := 45) h (by omega)))
  ·exact .inr (.inl (at_cons (c := 43) h (by omega)))
 ·exact .inl (by simp)
theorem num3_shape {l : List UInt8} {n : Nat} (h : 0 < Tx.num3 l n) (hn : n ≤ l.length) : ∃ r, Tx.num3 l n = n + r ∧ exL ((l.drop n).take r) := by
 unfold Tx.num3 at h ⊢
 split
 ·rename_i h1
  rw [if_pos h1] at h
  split
  ·rename_i h2; rw [if_pos h2] at h; omega
  ·rename_i h2
   refine ⟨1 + (Tx.sgn true l (n + 1) + Tx.lead (l.drop (n + 1 + Tx.sgn true l (n + 1)))), by omega, .inr ?_⟩
   have hc : ∃ c : UInt8, (l.drop n).take 1 = [c] ∧ (c = 101 ∨ c = 69) := by
    rcases h1 with h1 | h1
    ·exact ⟨101, at_cons (c := 101) h1 (by omega), .inl rfl⟩
    ·exact ⟨69, at_cons (c := 69) h1 (by omega), .inr rfl⟩
   obtain ⟨c, hc1, hc2⟩ := hc
   refine ⟨c, (l.drop (n + 1)).take (Tx.sgn true l (n + 1)), (l.drop (n + 1 + Tx.sgn true l (n + 1))).take (Tx.lead (l.drop (n + 1 + Tx.sgn true l (n + 1)))), ?_, hc2, sgn_shape _ _ _, ?_, lead_dig _⟩
   ·rw [take_add, hc1, List.drop_drop, take_add, List.drop_drop]
    rfl
   ·intro e
    have := congrArg List.length e
    rw [List.length_take] at this
    have hle := Tx.lead_le (l.drop (n + 1 + Tx.sgn true l (n + 1)))
    simp at this
    rcases this with this | this
    ·exact h2 this
    ·rw [List.drop_of_length_le (by omega)] at h2
     exact h2 rfl
 ·exact ⟨0, by omega, .inl (by simp)⟩
theorem num2_shape {l : List UInt8} {n : Nat} (h : 0 < Tx.num2 l n) (hn : n ≤ l.length) : ∃ r t E, Tx.num2 l n = n + r ∧ (l.drop n).take r = t ++ E ∧ ptL t ∧ exL E := by
 unfold Tx.num2 at h ⊢
 split
 ·rename_i h1
  rw [if_pos h1] at h
  have hlt : n < l.length := Tx.lt_of_at (by omega)
  split
  ·rename_i h2; rw [if_pos h2] at h; omega
  ·rename_i h2
   rw [if_neg h2] at h
   have hle := Tx.lead_le (l.drop (n + 1))
   rw [List.length_drop] at hle
   obtain ⟨r, hr, hE⟩ := num3_shape h (by omega)
   refine ⟨1 + (Tx.lead (l.drop (n + 1)) + r), 46 :: (l.drop (n + 1)).take (Tx.lead (l.drop (n + 1))), (l.drop (n + 1 + Tx.lead (l.drop (n + 1)))).take r, by omega, ?_, .inr ⟨_, rfl, lead_dig _⟩, hE⟩
   rw [take_add, at_cons (c := 46) h1 (by omega), List.drop_drop, take_add, List.drop_drop]
   rfl
 ·rename_i h1
  rw [if_neg h1] at h
  obtain ⟨r, hr, hE⟩ := num3_shape h hn
  exact ⟨r, [], _, hr, rfl, .inl rfl, hE⟩
theorem num_shape {p : Bool} {l : List UInt8} (h : 0 < Tx.num p l) : Shape (l.take (Tx.num p l)) := by
 unfold Tx.num Tx.num1 at h ⊢
 have hs := Tx.sgn_le p l 0 (Nat.zero_le _)
 have hsh := sgn_shape p l 0
 rw [List.drop_zero] at hsh
 generalize Tx.sgn p l 0 = n0 at *
 split
 ·rename_i h1; rw [if_pos h1] at h; omega
 ·rename_i h1
  rw [if_neg h1] at h
  split
  ·rename_i h2; rw [if_pos h2] at h; omega
  ·rename_i h2
   rw [if_neg h2] at h
   have hle := Tx.lead_le (l.drop n0)
   rw [List.length_drop] at hle
   obtain ⟨r, t, E, hr, hE, ht, he⟩ := num2_shape h (by omega)
   refine ⟨l.take n0, (l.drop n0).take (Tx.lead (l.drop n0)), t, E, ?_, hsh, ?_, lead_dig _, ht, he⟩
   ·rw [hr, Nat.add_assoc, take_add, take_add, List.drop_drop, hE]
   ·intro e
    have := congrArg List.length e
    rw [List.length_take, List.length_drop] at this
    simp at this
    rcases this with this | this
    ·exact h1 this
    ·omega
end Du
open Go.RowKit Go.Deep
namespace Du
theorem lead_app {A t : List UInt8} (hA : Tx.allDig A) (ht : t = [] ∨ ∃ c u, t = c :: u ∧ Tx.digit c.toNat = false) : Tx.lead (A ++ t) = A.length := by
  induction A with
  | nil =>
    rcases ht with rfl | ⟨c, u, rfl, hc⟩
    · rfl
    · rw [List.nil_append, Tx.lead_cons, hc]; rfl
  | cons c A ih =>
    rw [List.cons_append, Tx.lead_cons, if_pos (hA c (by simp)), ih fun x hx => hA x (by simp [hx]), List.length_cons]
theorem sgn_len {g t : List UInt8} (hg : sgL g) (ht : t = [] ∨ ∃ c u, t = c :: u ∧ Tx.digit c.toNat = true) : Tx.sgn true (g ++ t) 0 = g.length := by
 rcases hg with rfl | rfl | rfl
 ·rcases ht with rfl | ⟨c, u, rfl, hc⟩
  ·rfl
  ·have hr : 48 ≤ (c.toNat : Int) ∧ (c.toNat : Int) ≤ 57 := by simpa [Tx.digit] using hc
   unfold Tx.sgn
   rw [if_neg]
   ·rfl
   ·rw [List.nil_append, Tx.at_zero]; omega
 ·rfl
 ·rfl
theorem dig_head {A : List UInt8} (h : A ≠ []) (hA : Tx.allDig A) (t : List UInt8) : ∃ c u, A ++ t = c :: u ∧ Tx.digit c.toNat = true := by
 cases A with
 | nil => exact absurd rfl h
 | cons c A => exact ⟨c, A ++ t, rfl, hA c (by simp)⟩
theorem ex_head {E : List UInt8} (h : exL E) : E = [] ∨ ∃ c u, E = c :: u ∧ Tx.digit c.toNat = false := by
 rcases h with rfl | ⟨c, g, C, rfl, hc, -⟩
 ·exact .inl rfl
 ·refine .inr ⟨c, _, rfl, ?_⟩
  rcases hc with rfl | rfl <;> rfl
theorem pt_head {t E : List UInt8} (ht : ptL t) (hE : exL E) : t ++ E = [] ∨ ∃ c u, t ++ E = c :: u ∧ Tx.digit c.toNat = false := by
 rcases ht with rfl | ⟨B, rfl, -⟩
 ·exact ex_head hE
 ·exact .inr ⟨46, _, rfl, rfl⟩
def expoD (E : List UInt8) : Int := if Tx.at_ E 1 = 45 then -(capD E 0 : Int) else (capD E 0 : Int)
theorem scan_sg {g : List UInt8} (hg : sgL g) (t : List UInt8) (d : List Nat) (p : Int) : scan (g ++ t) d p = scan t d p := by
 rcases hg with rfl | rfl | rfl
 ·rfl
 ·exact scan_sign (.inl rfl) t d p
 ·exact scan_sign (.inr rfl) t d p
theorem scan_ex {E : List UInt8} (h : exL E) (d : List Nat) (p : Int) : scan E d p = (d, p, E) := by
 rcases h with rfl | ⟨c, g, C, rfl, hc, -⟩
 ·rfl
 ·exact scan_expo (by rcases hc with rfl | rfl <;> simp) _ d p
def digs (A t : List UInt8) : List UInt8 := A ++ t.drop 1
theorem units_shape {g A t E : List UInt8} (hg : sgL g) (hA : Tx.allDig A) (ht : ptL t) (hE : exL E) :
  scan (g ++ (A ++ (t ++ E))) [] (-1) = (nat (digs A t), (if t = [] then -1 else (A.length : Int)), E) ∧ Du.units (g ++ (A ++ (t ++ E))) = Tx.unitsOf (digs A t) (expoD E - (t.drop 1).length) := by
 have hs : scan (g ++ (A ++ (t ++ E))) [] (-1) = (nat (digs A t), (if t = [] then -1 else (A.length : Int)), E) := by
  rw [scan_sg hg, scan_digits hA]
  rcases ht with rfl | ⟨B, rfl, hB⟩
  ·rw [List.nil_append, scan_ex hE]; simp [digs]
  ·rw [List.cons_append, scan_point, scan_digits hB, scan_ex hE]
   simp [digs, nat]
 refine ⟨hs, ?_⟩
 have hD : Tx.allDig (digs A t) := by
  rcases ht with rfl | ⟨B, rfl, hB⟩
  ·simpa [digs] using hA
  ·intro c hc
   simp [digs] at hc
   rcases hc with hc | hc
   ·exact hA c hc
   ·exact hB c hc
 unfold Du.units
 rw [hs]
 simp only
 rw [sums _ hD]
 congr 1
 unfold place expoD
 simp only
 have hl : ((digs A t).length : Int) = (A.length : Int) + ((t.drop 1).length : Int) := by simp [digs]
 have hn : ((nat (digs A t)).length : Int) = (A.length : Int) + ((t.drop 1).length : Int) := by rw [← hl]; simp [nat]
 rcases ht with rfl | ⟨B, rfl, hB⟩
 ·rw [if_pos rfl, if_pos (by omega), hn, hl]
  simp
  omega
 ·have e1 : (if (46 :: B : List UInt8) = [] then (-1 : Int) else (A.length : Int)) = A.length := if_neg (by simp)
  rw [e1, if_neg (by omega), hl]
  omega
theorem far {D : List UInt8} (hD : D.length ≤ 6000) {p q : Int} (h : p = q ∨ (54000 ≤ p ∧ 54000 ≤ q) ∨ (p ≤ -54000 ∧ q ≤ -54000)) : Tx.unitsOf D p = Tx.unitsOf D q := by
 rcases h with rfl | h
 ·rfl
 ·have b1 := Tx.trL_le D
  have b2 := Tx.trR_le (Tx.trL D)
  unfold Tx.unitsOf
  by_cases hT : Tx.trR (Tx.trL D) = []
  ·rw [hT]; simp [Tx.amt]
  ·have hpos : 0 < (Tx.trR (Tx.trL D)).length := List.length_pos_iff.2 hT
   rw [amt_none hT (by omega), amt_none hT (by omega)]
theorem expos {E : List UInt8} (hE : exL E) : Tx.tailV E = expoD E ∨ (60000 ≤ Tx.tailV E ∧ 60000 ≤ expoD E) ∨ (Tx.tailV E ≤ -60000 ∧ expoD E ≤ -60000) := by
 rcases hE with rfl | ⟨c, g, C, rfl, hc, hg, hC0, hC⟩
 ·exact .inl rfl
 ·have hcd : ¬ Tx.digit c.toNat = true := by rcases hc with rfl | rfl <;> decide
  have hcap : capD (c :: (g ++ C)) 0 = capD C 0 := by
   rw [capD_other hcd]
   rcases hg with rfl | rfl | rfl
   ·rfl
   ·exact capD_other (by decide) C 0
   ·exact capD_other (by decide) C 0
  have hdrop : (g ++ C).drop (Tx.sgn true (g ++ C) 0) = C := by
   rw [sgn_len hg (.inr (by simpa using dig_head hC0 hC []))]
   simp
  have h := caps hC 0 0 (by omega) (.inl rfl)
  rw [Tx.tailV_cons]
  unfold Tx.expo expoD
  rw [hdrop, hcap]
  have e : Tx.at_ (c :: (g ++ C)) 1 = Tx.at_ (g ++ C) 0 := rfl
  rw [e]
  split <;> omega
end Du
theorem sgn_allDig {E : List UInt8} (hE : Du.exL E) : Tx.allDig ((E.drop 1).drop (Tx.sgn true (E.drop 1) 0)) := by
 rcases hE with rfl | ⟨c, g, C, rfl, hc, hg, hC0, hC⟩
 ·intro c hc; simp at hc
 ·have e : (c :: (g ++ C)).drop 1 = g ++ C := rfl
  rw [e, Du.sgn_len hg (.inr (by simpa using Du.dig_head hC0 hC []))]
  simpa using hC
theorem pUnits_any (s : List UInt8) (hs : Du.Shape s) (hl : s.length ≤ 6000) (w : World) :
  Calls Tryz.prog 164 #[.string (bs s)] w fun e w' => e = .returned (unitsV (Tx.at_ s 0 == 45) (Du.units s)) ∧ Up w w' := by
 obtain ⟨g, A, t, E, rfl, hg, hA0, hA, ht, hE⟩ := hs
 obtain ⟨-, hu⟩ := Du.units_shape hg hA ht hE
 have hdl : (Du.digs A t).length ≤ 6000 := by
  have : (Du.digs A t).length ≤ (g ++ (A ++ (t ++ E))).length := by simp [Du.digs]; omega
  omega
 have htl : (t.drop 1).length ≤ 6000 := by
  have : (t.drop 1).length ≤ (g ++ (A ++ (t ++ E))).length := by simp; omega
  omega
 have hD : Tx.allDig (Du.digs A t) := by
  rcases ht with rfl | ⟨B, rfl, hB⟩
  ·simpa [Du.digs] using hA
  ·intro c hc
   simp [Du.digs] at hc
   rcases hc with hc | hc
   ·exact hA c hc
   ·exact hB c hc
 have h0 : 0 < (g ++ (A ++ (t ++ E))).length := by
  have : 0 < A.length := List.length_pos_iff.2 hA0
  simp; omega
 have hn : Tx.sgn true (g ++ (A ++ (t ++ E))) 0 = g.length := Du.sgn_len hg (.inr (Du.dig_head hA0 hA _))
 have hR : (g ++ (A ++ (t ++ E))).drop g.length = A ++ (t ++ E) := by simp
 have hk : A.length = Tx.lead (A ++ (t ++ E)) := (Du.lead_app hA (Du.pt_head ht hE)).symm
 have htv := Du.expos hE
 have hfar : Tx.unitsOf (Du.digs A t) (-((t.drop 1).length : Int) + Tx.tailV E) = Tx.unitsOf (Du.digs A t) (Du.expoD E - (t.drop 1).length) := Du.far hdl (by omega)
 have htb : -600009 ≤ Tx.tailV E ∧ Tx.tailV E ≤ 600009 := by
  rcases hE with rfl | ⟨c, g', C, rfl, hc, hg', hC0, hC⟩
  ·rw [Tx.tailV_nil]; omega
  ·rw [Tx.tailV_cons]
   exact Tx.expo_bound (by
    rw [Du.sgn_len hg' (.inr (by simpa using Du.dig_head hC0 hC []))]
    simpa using hC)
 rw [hu, ← hfar]
 refine Units_any _ (Du.digs A t) _ _ w (fun w => ?_) hD hdl (by omega) (by omega)
 rcases ht with rfl | ⟨B, rfl, hB⟩
 ·have h46 : Tx.at_ E 0 ≠ 46 := by
   rcases hE with rfl | ⟨c, g', C, rfl, hc, -⟩
   ·rw [Tx.at_nil]; omega
   ·rw [Tx.at_zero]; rcases hc with rfl | rfl <;> decide
  have := split_plain (g ++ (A ++ ([] ++ E))) w g.length A.length (A ++ ([] ++ E)) E hl h0 hn.symm hR hk (by simp) h46 (sgn_allDig hE)
  refine this.mono fun e w' h => ⟨?_, h.2⟩
  rw [h.1]
  simp [Du.digs]
 ·have := split_point (g ++ (A ++ (46 :: B ++ E))) w g.length A.length B.length (A ++ (46 :: B ++ E)) (B ++ E) E hl h0 hn.symm hR hk (by simp) (Du.lead_app hB (Du.ex_head hE)).symm (by simp) (sgn_allDig hE)
  refine this.mono fun e w' h => ⟨?_, h.2⟩
  rw [h.1]
  simp [Du.digs]
end Go.Proofs.YtcclepohmhdpbabGreatDoor
namespace Go.Proofs.YtcclepohmhdpbabGreatDoor
set_option linter.all false
open Go.RowKit Go.Deep
attribute [local go_sem ↓] Go.wp_at_zero Go.wp_at_succ
end Go.Proofs.YtcclepohmhdpbabGreatDoor
namespace Go.Proofs.YtcclepohmhdpbabGreatDoor
set_option linter.all false
open Go.RowKit Go.Deep
attribute [local go_sem ↓] Go.wp_at_zero Go.wp_at_succ
end Go.Proofs.YtcclepohmhdpbabGreatDoor
namespace Go.Proofs.YtcclepohmhdpbabGreatDoor
set_option linter.all false
open Go.RowKit Go.Deep
attribute [local go_sem ↓] Go.wp_at_zero Go.wp_at_succ
end Go.Proofs.YtcclepohmhdpbabGreatDoor
namespace Go.Proofs.YtcclepohmhdpbabGreatDoor
set_option linter.all false
open Go.RowKit Go.Deep
def RT (w : World) (b : Nat) (l : List UInt8) (bad off : Bool) : Prop := VRow w b 86 [.string (bs l), .bool bad, .bool off]
theorem RT.c0 {w : World} {b : Nat} {l : List UInt8} {bad off : Bool} (h : RT w b l bad off) : w.cell? ⟨b, 0, none⟩ = some (.string (bs l)) := VRow.cell h rfl
theorem RT.c1 {w : World} {b : Nat} {l : List UInt8} {bad off : Bool} (h : RT w b l bad off) : w.cell? ⟨b, 1, none⟩ = some (.bool bad) := VRow.cell h rfl
theorem RT.c2 {w : World} {b : Nat} {l : List UInt8} {bad off : Bool} (h : RT w b l bad off) : w.cell? ⟨b, 2, none⟩ = some (.bool off) := VRow.cell h rfl
theorem RT.f {w : World} {b : Nat} {l : List UInt8} {bad off : Bool} (h : RT w b l bad off) (i : Nat) : w.frozen? ⟨b, i, none⟩ = false := VRow.frozen h i
theorem RT.rest {w : World} {b : Nat} {l : List UInt8} {bad off : Bool} (h : RT w b l bad off) (t : List UInt8) : RT (w.setCell ⟨b, 0, none⟩ (.string (bs t))) b t bad off := VRow.set h 0 _
theorem RT.bad {w : World} {b : Nat} {l : List UInt8} {bad off : Bool} (h : RT w b l bad off) (o : Bool) : RT (w.setCell ⟨b, 1, none⟩ (.bool o)) b l o off := VRow.set h 1 _
theorem RT.off {w : World} {b : Nat} {l : List UInt8} {bad off : Bool} (h : RT w b l bad off) (o : Bool) : RT (w.setCell ⟨b, 2, none⟩ (.bool o)) b l bad o := VRow.set h 2 _
theorem RT.facts {w : World} {b : Nat} {l : List UInt8} {bad off : Bool} (h : RT w b l bad off) :
  w.cell? ⟨b, 0, none⟩ = some (.string (bs l)) ∧ w.cell? ⟨b, 1, none⟩ = some (.bool bad) ∧ w.cell? ⟨b, 2, none⟩ = some (.bool off) ∧ w.frozen? ⟨b, 0, none⟩ = false ∧ w.frozen? ⟨b, 1, none⟩ = false ∧ w.frozen? ⟨b, 2, none⟩ = false :=
 ⟨h.c0, h.c1, h.c2, h.f 0, h.f 1, h.f 2⟩
namespace Tx
theorem bare_step {l : List UInt8} {n : Nat} (hn : n < l.length) : bare (l.drop n) = if blank (at_ l n) then bare (l.drop (n + 1)) else l.drop n := by
 rw [at_lt hn, drop_cons hn, bare_cons]
theorem bare_end {l : List UInt8} {n : Nat} (hn : ¬ n < l.length) : bare (l.drop n) = l.drop n := by
 rw [List.drop_of_length_le (Nat.le_of_not_lt hn)]; rfl
end Tx
set_option maxHeartbeats 1000000 in
theorem blanks_any (l : List UInt8) (bad off : Bool) (rb : Nat) (w : World) (hr : RT w rb l bad off) (hl : l.length ≤ 6000) :
  Calls Tryz.prog 84 #[.pointer (some ⟨rb, 0, none⟩)] w fun e w' => ∃ n : Nat, e = .returned (.int .i64 n) ∧ n = l.length - (Tx.bare l).length ∧ RT w' rb (Tx.bare l) bad off ∧ Fr (· = rb) w w' := by
 obtain ⟨e0, e1, e2, e3, e4, e5⟩ := bs_tells l
 have c0 := hr.c0
 have f0 := hr.f 0
 have HR := hide hr
 clear e3 e4 e5 hr
 go_enter Tryz.func84, Tryz.ntmps84
 go_wp2
 go_loop [3] (fun i => ∃ n : Nat, n ≤ l.length ∧ i = .int .i64 n ∧ Hid (Tx.bare l = Tx.bare (l.drop n))) (fun i => l.length - (intOf i).toNat)
 case atStart => exact ⟨0, Nat.zero_le _, rfl, rfl⟩
 case round =>
  obtain ⟨n, hn, rfl, HN⟩ := hrel
  by_cases hlt : n < l.length
  ·have HS := hide (HN.out.trans (Tx.bare_step hlt))
   clear HN
   by_cases hb : Tx.blank (Tx.at_ l n) = true
   ·go_wp2_with (go_at_call 124; refine (wisBlank_any _ _).mono ?_; rintro e w' ⟨rfl, rfl⟩; rw [hb])
    go_round
    case rel => exact ⟨n + 1, by omega, by go_num, by have := HS.out; rw [if_pos hb] at this; exact this⟩
    case measure => simp [intOf]; omega
   ·have hb : Tx.blank (Tx.at_ l n) = false := by simpa using hb
    have HT : Hid (Tx.bare l = l.drop n) := by have := HS.out; rw [hb] at this; exact this
    clear HS
    go_wp2_with (go_at_call 124; refine (wisBlank_any _ _).mono ?_; rintro e w' ⟨rfl, rfl⟩; rw [hb])
    go_ret
    exact ⟨n, rfl, by rw [HT.out]; simp; omega, by rw [HT.out]; exact HR.out.rest _, (Fr.refl (· = rb) _).setCell (p := ⟨rb, 0, none⟩) rfl _⟩
  ·have HT : Hid (Tx.bare l = l.drop n) := HN.out.trans (Tx.bare_end hlt)
   clear HN
   go_wp2_with (go_at_call 124; fail)
   go_ret
   exact ⟨n, rfl, by rw [HT.out]; simp; omega, by rw [HT.out]; exact HR.out.rest _, (Fr.refl (· = rb) _).setCell (p := ⟨rb, 0, none⟩) rfl _⟩
namespace Tx
def pre (k l : List UInt8) : Bool := l.take k.length == k
def aft (k l : List UInt8) : List UInt8 := if pre k l then l.drop k.length else l
theorem aft_t {k l : List UInt8} (h : pre k l = true) : aft k l = l.drop k.length := by simp [aft, h]
theorem aft_f {k l : List UInt8} (h : pre k l = false) : aft k l = l := by simp [aft, h]
theorem aft_le (k l : List UInt8) : (aft k l).length ≤ l.length := by unfold aft; split <;> simp
end Tx
set_option maxHeartbeats 1000000 in
theorem word_any (k l : List UInt8) (bad off : Bool) (rb : Nat) (w : World) (hr : RT w rb l bad off) (hl : l.length ≤ 6000) (hk : k.length ≤ 6000) :
  Calls Tryz.prog 86 #[.pointer (some ⟨rb, 0, none⟩), .string (bs k)] w fun e w' => e = .returned (.bool (Tx.pre k l)) ∧ RT w' rb (Tx.aft k l) bad off ∧ Fr (· = rb) w w' := by
 obtain ⟨e0, e1, e2, e3, e4, e5⟩ := bs_tells l
 have k0 := bs_size k
 have k4 := bs_toList k
 have k3 : (bs (l.take k.length)).toList = l.take k.length := bs_toList _
 have c0 := hr.c0
 have f0 := hr.f 0
 have HR := hide hr
 clear e1 e4 e5 hr
 by_cases hlen : l.length < k.length
 ·have HP : Hid (Tx.pre k l = false) := by
   unfold Tx.pre
   refine beq_eq_false_iff_ne.2 fun e => ?_
   have := congrArg List.length e
   simp at this
   omega
  go_enter Tryz.func86, Tryz.ntmps86
  go_wp2
  go_ret
  rw [HP.out, Tx.aft_f HP.out]
  exact ⟨rfl, HR.out, Fr.refl _ _⟩
 ·by_cases hp : (l.take k.length == k) = true
  ·have HP : Hid (Tx.pre k l = true) := hp
   go_enter Tryz.func86, Tryz.ntmps86
   go_wp2
   go_ret
   rw [HP.out, Tx.aft_t HP.out]
   exact ⟨rfl, HR.out.rest _, (Fr.refl (· = rb) _).setCell (p := ⟨rb, 0, none⟩) rfl _⟩
  ·have hp : (l.take k.length == k) = false := by simpa using hp
   have HP : Hid (Tx.pre k l = false) := hp
   go_enter Tryz.func86, Tryz.ntmps86
   go_wp2
   go_ret
   rw [HP.out, Tx.aft_f HP.out]
   exact ⟨rfl, HR.out, Fr.refl _ _⟩
set_option maxHeartbeats 1000000 in
theorem mark_any (k l : List UInt8) (bad off : Bool) (rb : Nat) (w : World) (hr : RT w rb l bad off) (hl : l.length ≤ 6000) (hk : k.length ≤ 6000) :
  Calls Tryz.prog 116 #[.pointer (some ⟨rb, 0, none⟩), .string (bs k)] w fun e w' => e = .returned (.bool (Tx.pre k (Tx.bare l))) ∧ RT w' rb (Tx.aft k (Tx.bare l)) bad off ∧ Fr (· = rb) w w' := by
 have HR := hide hr
 have hbl : (Tx.bare l).length ≤ 6000 := Nat.le_trans (Tx.bare_le l) hl
 clear hr
 go_enter Tryz.func116, Tryz.ntmps116
 go_wp2_with (first
  | (go_at_call 84; refine (blanks_any l bad off rb _ HR.out hl).mono ?_; rintro e w1 ⟨n, rfl, hn, h1, h2⟩; replace h1 := hide h1; replace h2 := hide h2; clear hn)
  | (go_at_call 86; refine (word_any k (Tx.bare l) bad off rb _ h1.out hbl hk).mono ?_; rintro e w2 ⟨rfl, h3, h4⟩; replace h3 := hide h3; replace h4 := hide h4))
 go_ret
 exact ⟨rfl, h3.out, h2.out.trans h4.out⟩
namespace Tx
theorem pre_nil (c : UInt8) : pre [c] [] = false := rfl
theorem pre_cons (c a : UInt8) (r : List UInt8) : pre [c] (a :: r) = ((a.toNat : Int) == (c.toNat : Int)) := by
 rw [Bool.eq_iff_iff]
 simp [pre]
 constructor
 ·intro h; rw [h]
 ·intro h; exact UInt8.toNat_inj.1 (by omega)
def fin (t : List UInt8) (bad wide : Bool) : Int := if bad || !t.isEmpty then 3 else if wide then 4 else 0
end Tx
end Go.Proofs.YtcclepohmhdpbabGreatDoor
namespace Go.Proofs.YtcclepohmhdpbabGreatDoor
set_option linter.all false
open Go.RowKit Go.Deep
theorem Tx.num3_le {l : List UInt8} {n : Nat} (hn : n ≤ l.length) : Tx.num3 l n ≤ l.length := by
 unfold Tx.num3
 split
 ·rename_i h
  have h1 : n < l.length := Tx.lt_of_at (by omega)
  have h2 := Tx.sgn_le true l (n + 1) (by omega)
  have h3 := Tx.lead_le (l.drop (n + 1 + Tx.sgn true l (n + 1)))
  rw [List.length_drop] at h3
  split <;> omega
 ·exact hn
theorem Tx.num_le (p : Bool) (l : List UInt8) : Tx.num p l ≤ l.length := by
 unfold Tx.num Tx.num1
 have h1 := Tx.sgn_le p l 0 (Nat.zero_le _)
 generalize Tx.sgn p l 0 = n at *
 have h2 := Tx.lead_le (l.drop n)
 rw [List.length_drop] at h2
 split
 ·omega
 ·split
  ·omega
  ·unfold Tx.num2
   split
   ·rename_i h
    have h3 : n + Tx.lead (l.drop n) < l.length := Tx.lt_of_at (by omega)
    have h4 := Tx.lead_le (l.drop (n + Tx.lead (l.drop n) + 1))
    rw [List.length_drop] at h4
    split
    ·omega
    ·exact Tx.num3_le (by omega)
   ·exact Tx.num3_le (by omega)
namespace Wt
open Bn (Res)
def cv (s : List UInt8) : Int := match Du.units s with
 | some k => if (Tx.at_ s 0 == 45) = true then -(k : Int) else k
 | none => 0
theorem unitsV_eq (s : List UInt8) : unitsV (Tx.at_ s 0 == 45) (Du.units s) = .tuple #[.int .i64 (cv s), .bool (!(Du.units s).isNone)] := by
 unfold cv
 cases Du.units s <;> rfl
def coord (p : Bool) (l : List UInt8) (o : Bool) : Res Int :=
 if Tx.num p (Tx.bare l) = 0 then none else some (cv ((Tx.bare l).take (Tx.num p (Tx.bare l))), (Tx.bare l).drop (Tx.num p (Tx.bare l)), o || (Du.units ((Tx.bare l).take (Tx.num p (Tx.bare l)))).isNone)
theorem coord_none {p : Bool} {l : List UInt8} {o : Bool} (h : Tx.num p (Tx.bare l) = 0) : coord p l o = none := by unfold coord; rw [if_pos h]
theorem coord_some {p : Bool} {l : List UInt8} {o : Bool} (h : ¬ Tx.num p (Tx.bare l) = 0) : coord p l o = some (cv ((Tx.bare l).take (Tx.num p (Tx.bare l))), (Tx.bare l).drop (Tx.num p (Tx.bare l)), o || (Du.units ((Tx.bare l).take (Tx.num p (Tx.bare l)))).isNone) := by unfold coord; rw [if_neg h]
def gap (l : List UInt8) : Bool := Tx.blank (Tx.at_ l 0)
def point (l : List UInt8) (o : Bool) : Res Pnt :=
 (coord true l o).bind fun x => if gap x.2.1 = false then none else (coord true x.2.1 x.2.2).map fun y => ((x.1, y.1), y.2)
def items {α : Type} (f : List UInt8 → Bool → Res α) : Nat → List UInt8 → Bool → Res (List α)
  | 0, _, _ => none
  | k + 1, l, o => (f l o).bind fun x =>
    if Tx.pre [44] (Tx.bare x.2.1) = true then (items f k (Tx.aft [44] (Tx.bare x.2.1)) x.2.2).map fun y => (x.1 :: y.1, y.2)
    else if Tx.pre [41] (Tx.bare x.2.1) = true then some ([x.1], Tx.aft [41] (Tx.bare x.2.1), x.2.2) else none
def list {α : Type} (f : List UInt8 → Bool → Res α) (l : List UInt8) (o : Bool) : Res (List α) :=
 if Tx.pre [40] (Tx.bare l) = true then items f ((Tx.bare l).length + 1) (Tx.aft [40] (Tx.bare l)) o else none
def ring := list point
def poly := list ring
def polys := list poly
end Wt
end Go.Proofs.YtcclepohmhdpbabGreatDoor
namespace Go.Proofs.YtcclepohmhdpbabGreatDoor
set_option linter.all false
open Go.RowKit Go.Deep
def lenS : Value → Nat
 | .slice _ n _ => n
 | _ => 0
namespace Wt
open Bn (Res)
theorem coord_lt {p : Bool} {l t : List UInt8} {o o' : Bool} {x : Int} (h : coord p l o = some (x, t, o')) : t.length + 1 ≤ l.length := by
 unfold coord at h
 split at h
 ·cases h
 ·rename_i h0
  have := Option.some.inj h
  simp only [Prod.mk.injEq] at this
  have h1 := Tx.num_le p (Tx.bare l)
  have h2 := Tx.bare_le l
  rw [← this.2.1, List.length_drop]
  omega
theorem point_of {l l1 l3 : List UInt8} {o o1 o3 bad b1 b3 : Bool} {x y : Int} (h1 : (if bad = true then none else coord true l o) = (if b1 = true then none else some (x, l1, o1))) (h2 : (if (b1 || !gap l1) = true then none else coord true l1 o1) = (if b3 = true then none else some (y, l3, o3))) :
  (if bad = true then none else point l o) = (if b3 = true then none else some ((x, y), l3, o3)) ∧ (b3 = false → l3.length + 1 ≤ l.length) := by
 cases bad
 ·simp only [Bool.false_eq_true, if_false] at h1 ⊢
  unfold point
  rw [h1]
  cases b1
  ·simp only [Bool.false_eq_true, if_false, Option.bind_some, Bool.false_or] at h2 ⊢
   have hl1 := coord_lt h1
   cases hg : gap l1
   ·rw [hg] at h2
    simp at h2
    cases b3
    ·simp at h2
    ·simp
   ·rw [hg] at h2
    simp at h2
    rw [h2]
    cases b3
    ·refine ⟨by simp, fun _ => ?_⟩
     have := coord_lt (h2.trans (by rfl))
     omega
    ·simp
  ·simp at h2
   cases b3
   ·simp at h2
   ·simp
 ·simp only [if_true] at h1 ⊢
  cases b1
  ·simp at h1
  ·simp at h2
   cases b3
   ·simp at h2
   ·simp
theorem go_on {α : Type} {f : List UInt8 → Bool → Res α} {T : Res (List α)} {acc : List α} {k : Nat} {l t : List UInt8} {o o' bad b : Bool} {a : α} (hT : T = if bad = true then none else Bn.pre acc (items f (k + 1) l o)) (hf : (if bad = true then none else f l o) = if b = true then none else some (a, t, o')) :
  ((!b && Tx.pre [44] (Tx.bare t)) = true → T = Bn.pre (acc ++ [a]) (items f k (Tx.aft [44] (Tx.bare t)) o')) ∧ ((!b && Tx.pre [44] (Tx.bare t)) = false → T = if (b || !Tx.pre [41] (Tx.bare t)) = true then none else some (acc ++ [a], Tx.aft [41] (Tx.bare t), o')) := by
 cases bad
 ·simp only [Bool.false_eq_true, if_false] at hT hf
  cases b
  ·simp only [Bool.false_eq_true, if_false] at hf
   constructor
   ·intro h
    simp at h
    rw [hT]
    simp only [items, hf, Option.bind_some, h, if_true, Bn.pre, Option.map_map]
    congr 1
    funext y
    simp
   ·intro h
    simp at h
    rw [hT]
    simp only [items, hf, Option.bind_some, h, Bool.false_eq_true, if_false, Bool.false_or]
    cases h2 : Tx.pre [41] (Tx.bare t)
    ·simp [Bn.pre]
    ·simp [Bn.pre]
  ·simp at hf
   constructor
   ·intro h; simp at h
   ·intro _
    rw [hT]
    simp [items, hf, Bn.pre]
 ·simp only [if_true] at hT hf
  cases b
  ·simp at hf
  ·constructor
   ·intro h; simp at h
   ·intro _; rw [hT]; simp
theorem begin_ {α : Type} (f : List UInt8 → Bool → Res α) (l : List UInt8) (o bad : Bool) : (if bad = true then none else list f l o) = if (bad || !Tx.pre [40] (Tx.bare l)) = true then none else Bn.pre [] (items f ((Tx.bare l).length + 1) (Tx.aft [40] (Tx.bare l)) o) := by
 cases bad
 ·unfold list
  cases Tx.pre [40] (Tx.bare l)
  ·simp
  ·simp [Bn.pre_nil]
 ·simp
theorem aft_len {c : UInt8} {l : List UInt8} (h : Tx.pre [c] l = true) : (Tx.aft [c] l).length + 1 ≤ l.length := by
 rw [Tx.aft_t h, List.length_drop]
 cases l with
 | nil => simp [Tx.pre] at h
 | cons a t => simp
theorem items_lt {α : Type} {f : List UInt8 → Bool → Res α} {Q : α → Prop} (hf : ∀ l o a t o', f l o = some (a, t, o') → t.length + 1 ≤ l.length ∧ (l.length ≤ 6000 → Q a)) :
    ∀ (k : Nat) (l : List UInt8) (o : Bool) (r : List α) (t : List UInt8) (o' : Bool), items f k l o = some (r, t, o') → t.length + r.length ≤ l.length ∧ (l.length ≤ 6000 → ∀ a ∈ r, Q a) ∧ 0 < r.length
  | 0, l, o, r, t, o', h => by simp [items] at h
  | k + 1, l, o, r, t, o', h => by
    simp only [items] at h
    cases hx : f l o with
    | none => rw [hx] at h; simp at h
    | some x =>
      obtain ⟨a, t1, o1⟩ := x
      have h4 := hf _ _ _ _ _ hx
      have hb := Tx.bare_le t1
      rw [hx] at h
      simp only [Option.bind_some] at h
      split at h
      · rename_i hc
        simp only [Option.map_eq_some_iff] at h
        obtain ⟨⟨r2, t2, o2⟩, h2, h3⟩ := h
        simp only [Prod.mk.injEq] at h3
        obtain ⟨rfl, rfl, rfl⟩ := h3
        have h5 := items_lt hf k _ o1 r2 t2 o2 h2
        have h6 := aft_len hc
        refine ⟨by simp; omega, fun hl b hb' => ?_, by simp⟩
        rcases List.mem_cons.1 hb' with rfl | hb'
        · exact h4.2 hl
        · exact h5.2.1 (by omega) b hb'
      · split at h
        · rename_i hc
          simp only [Option.some.injEq, Prod.mk.injEq] at h
          obtain ⟨rfl, rfl, rfl⟩ := h
          have h6 := aft_len hc
          refine ⟨by simp; omega, fun hl b hb' => ?_, by simp⟩
          simp at hb'
          rw [hb']
          exact h4.2 hl
        · cases h
theorem list_lt {α : Type} {f : List UInt8 → Bool → Res α} {Q : α → Prop} (hf : ∀ l o a t o', f l o = some (a, t, o') → t.length + 1 ≤ l.length ∧ (l.length ≤ 6000 → Q a)) {l t : List UInt8} {o o' : Bool} {r : List α} (h : list f l o = some (r, t, o')) : t.length + 1 ≤ l.length ∧ (l.length ≤ 6000 → r.length ≤ 6000 ∧ ∀ a ∈ r, Q a) := by
 unfold list at h
 split at h
 ·rename_i hc
  have h1 := items_lt hf _ _ _ _ _ _ h
  have h2 := Tx.aft_le [40] (Tx.bare l)
  have h3 := Tx.bare_le l
  exact ⟨by omega, fun hl => ⟨by omega, h1.2.1 (by omega)⟩⟩
 ·cases h
theorem cv_le (s : List UInt8) : -32768 ≤ cv s ∧ cv s ≤ 32768 := by
  unfold cv
  cases h : Du.units s with
  | none => simp
  | some k =>
    have : k ≤ 32768 := by
      unfold Du.units at h
      cases h2 : Du.sumD (Du.place (Du.scan s [] (-1))) (Du.scan s [] (-1)).1 0 0 with
      | none => rw [h2] at h; simp at h
      | some v =>
        rw [h2] at h
        simp only [Option.bind_some, Du.fin] at h
        split at h
        · cases h
        · have := Option.some.inj h; omega
    simp only
    split <;> omega
theorem point_lt {l t : List UInt8} {o o' : Bool} {a : Pnt} (h : point l o = some (a, t, o')) : t.length + 1 ≤ l.length ∧ (l.length ≤ 6000 → (-32768 ≤ a.1 ∧ a.1 ≤ 32768) ∧ -32768 ≤ a.2 ∧ a.2 ≤ 32768) := by
  unfold point at h
  cases hx : coord true l o with
  | none => rw [hx] at h; simp at h
  | some x =>
    obtain ⟨x1, l1, o1⟩ := x
    rw [hx] at h
    simp only [Option.bind_some] at h
    split at h
    · cases h
    · simp only [Option.map_eq_some_iff] at h
      obtain ⟨⟨y, t2, o2⟩, h2, h3⟩ := h
      simp only [Prod.mk.injEq] at h3
      obtain ⟨rfl, rfl, rfl⟩ := h3
      have a1 := coord_lt hx
      have a2 := coord_lt h2
      have cx : x1 = cv ((Tx.bare l).take (Tx.num true (Tx.bare l))) := by
        unfold coord at hx
        split at hx
        · cases hx
        · have := Option.some.inj hx; simp only [Prod.mk.injEq] at this; exact this.1.symm
      have cy : y = cv ((Tx.bare l1).take (Tx.num true (Tx.bare l1))) := by
        unfold coord at h2
        split at h2
        · cases h2
        · have := Option.some.inj h2; simp only [Prod.mk.injEq] at this; exact this.1.symm
      refine ⟨by omega, fun _ => ⟨?_, ?_⟩⟩
      · rw [cx]; exact cv_le _
      · rw [cy]; exact cv_le _
theorem ring_lt {l t : List UInt8} {o o' : Bool} {r : Ring} (h : ring l o = some (r, t, o')) : t.length + 1 ≤ l.length ∧ (l.length ≤ 6000 → Bn.okR r) := list_lt (fun _ _ _ _ _ h => point_lt h) h
theorem poly_lt {l t : List UInt8} {o o' : Bool} {r : Poly} (h : poly l o = some (r, t, o')) : t.length + 1 ≤ l.length ∧ (l.length ≤ 6000 → Bn.okL r) := list_lt (fun _ _ _ _ _ h => ring_lt h) h
theorem polys_lt {l t : List UInt8} {o o' : Bool} {r : Mult} (h : polys l o = some (r, t, o')) : t.length + 1 ≤ l.length ∧ (l.length ≤ 6000 → Bn.okM r) := list_lt (fun _ _ _ _ _ h => poly_lt h) h
end Wt
end Go.Proofs.YtcclepohmhdpbabGreatDoor
namespace Go.Proofs.YtcclepohmhdpbabGreatDoor
set_option linter.all false
open Go.RowKit Go.Deep
namespace Tx
theorem bare_bare (l : List UInt8) : bare (bare l) = bare l := by
  induction l with
  | nil => rfl
  | cons c t ih =>
    rw [bare_cons]
    split
    · exact ih
    · rename_i h
      rw [bare_cons, if_neg h]
theorem bare_gap (l : List UInt8) : (l.length - (bare l).length = 0) ↔ Wt.gap l = false := by
  cases l with
  | nil => simp [bare, Wt.gap, at_, blank]
  | cons c t =>
    have e : Wt.gap (c :: t) = blank c.toNat := rfl
    rw [bare_cons, e]
    have := bare_le t
    cases blank c.toNat
    · simp
    · simp
      omega
end Tx
def NeedPost (k l : List UInt8) (bad off : Bool) (rb : Nat) (w : World) (e : Ending) (w' : World) : Prop :=
 e = .returned (.bool (!(bad || !Tx.pre k (Tx.bare l)))) ∧ RT w' rb (Tx.aft k (Tx.bare l)) (bad || !Tx.pre k (Tx.bare l)) off ∧ Fr (· = rb) w w'
set_option maxHeartbeats 1000000 in
theorem need_any (k l : List UInt8) (bad off : Bool) (rb : Nat) (w : World) (hr : RT w rb l bad off) (hl : l.length ≤ 6000) (hk : k.length ≤ 6000) :
  Calls Tryz.prog 85 #[.pointer (some ⟨rb, 0, none⟩), .string (bs k)] w (NeedPost k l bad off rb w) := by
 have HR := hide hr
 clear hr
 go_enter Tryz.func85, Tryz.ntmps85
 go_wp2_with fail
 refine (mark_any k l bad off rb _ HR.out hl hk).mono ?_
 rintro e w1 ⟨rfl, h1, u1⟩
 obtain ⟨P, hP⟩ : ∃ P, P = Tx.pre k (Tx.bare l) := ⟨_, rfl⟩
 have HPP := hide hP
 rw [← hP]
 obtain ⟨c0, c1, c2, f0, f1, f2⟩ := h1.facts
 replace h1 := hide h1
 replace u1 := hide u1
 clear hP c0 c2 f0 f2
 cases P
 ·go_wp2
  go_ret
  unfold NeedPost
  rw [← HPP.out]
  refine ⟨by simp, ?_, u1.out.setCell (p := ⟨rb, 1, none⟩) rfl _⟩
  have := h1.out.bad true
  simpa using this
 ·go_wp2
  go_ret
  unfold NeedPost
  rw [← HPP.out]
  exact ⟨by simp, by simpa using h1.out, u1.out⟩
def NextPost (l : List UInt8) (bad off : Bool) (rb : Nat) (w : World) (e : Ending) (w' : World) : Prop :=
 ∃ (l' : List UInt8) (bad' : Bool), e = .returned (.bool (!bad && Tx.pre [44] (Tx.bare l))) ∧ RT w' rb l' bad' off ∧ Fr (· = rb) w w' ∧ l'.length ≤ l.length ∧
  ((!bad && Tx.pre [44] (Tx.bare l)) = true → bad' = false ∧ l' = Tx.aft [44] (Tx.bare l)) ∧ ((!bad && Tx.pre [44] (Tx.bare l)) = false → bad' = (bad || !Tx.pre [41] (Tx.bare l)) ∧ (bad' = false → l' = Tx.aft [41] (Tx.bare l)))
set_option maxHeartbeats 1000000 in
theorem next_any (l : List UInt8) (bad off : Bool) (rb : Nat) (w : World) (hr : RT w rb l bad off) (hl : l.length ≤ 6000) :
  Calls Tryz.prog 78 #[.pointer (some ⟨rb, 0, none⟩), .string ⟨#[41]⟩] w (NextPost l bad off rb w) := by
 obtain ⟨c0, c1, c2, f0, f1, f2⟩ := hr.facts
 have HR := hide hr
 clear hr c0 c2 f0 f1 f2
 cases bad
 ·have hle := Tx.bare_le l
  obtain ⟨P, hP⟩ : ∃ P, P = Tx.pre [44] (Tx.bare l) := ⟨_, rfl⟩
  have HPP := hide hP
  have HM := hide (mark_any [44] l false off rb w HR.out hl (by simp))
  rw [← hP] at HM
  clear hP
  cases P
  ·have hbl : (Tx.bare l).length ≤ 6000 := by omega
   have HA : Hid (Tx.aft [44] (Tx.bare l) = Tx.bare l) := Tx.aft_f HPP.out.symm
   have HB := hide (Tx.bare_bare l)
   go_enter Tryz.func78, Tryz.ntmps78
   go_wp2_with fail
   refine HM.out.mono ?_
   rintro e w1 ⟨rfl, h1, u1⟩
   rw [HA.out] at h1
   replace h1 := hide h1
   replace u1 := hide u1
   go_wp2_with fail
   refine (need_any [41] (Tx.bare l) false off rb _ h1.out hbl (by simp)).mono ?_
   rintro e w2 ⟨rfl, h2, u2⟩
   rw [HB.out] at h2
   replace h2 := hide h2
   replace u2 := hide u2
   go_wp2
   go_ret
   unfold NextPost
   rw [← HPP.out]
   exact ⟨_, _, by simp, h2.out, u1.out.trans u2.out, Nat.le_trans (Tx.aft_le _ _) hle, by simp, fun _ => ⟨rfl, fun _ => rfl⟩⟩
  ·go_enter Tryz.func78, Tryz.ntmps78
   go_wp2_with fail
   refine HM.out.mono ?_
   rintro e w1 ⟨rfl, h1, u1⟩
   replace h1 := hide h1
   replace u1 := hide u1
   go_wp2
   go_ret
   unfold NextPost
   rw [← HPP.out]
   exact ⟨_, _, by simp, h1.out, u1.out, Nat.le_trans (Tx.aft_le _ _) hle, fun _ => ⟨rfl, rfl⟩, by simp⟩
 ·go_enter Tryz.func78, Tryz.ntmps78
  go_wp2
  go_ret
  unfold NextPost
  exact ⟨l, true, by simp, HR.out, Fr.refl _ _, Nat.le_refl _, by simp, by simp⟩
set_option maxHeartbeats 1000000 in
theorem number_bad (l : List UInt8) (bad off : Bool) (rb : Nat) (w : World) (hr : RT w rb l bad off) :
  Calls Tryz.prog 123 #[.pointer (some ⟨rb, 0, none⟩), .int .i64 0] w fun e w' => e = .returned (.string (bs [])) ∧ RT w' rb l true off ∧ Fr (· = rb) w w' := by
 obtain ⟨c0, c1, c2, f0, f1, f2⟩ := hr.facts
 have HR := hide hr
 clear hr c2 f0 f2
 go_enter Tryz.func123, Tryz.ntmps123
 go_wp2
 go_ret
 exact ⟨rfl, HR.out.bad true, (Fr.refl (· = rb) _).setCell (p := ⟨rb, 1, none⟩) rfl _⟩
set_option maxHeartbeats 1000000 in
theorem number_ok (l : List UInt8) (n : Nat) (bad off : Bool) (rb : Nat) (w : World) (hr : RT w rb l bad off) (hl : l.length ≤ 6000) (hn : 0 < n) (hnl : n ≤ l.length) :
  Calls Tryz.prog 123 #[.pointer (some ⟨rb, 0, none⟩), .int .i64 n] w fun e w' => e = .returned (.string (bs (l.take n))) ∧ RT w' rb (l.drop n) bad off ∧ Fr (· = rb) w w' := by
 obtain ⟨c0, c1, c2, f0, f1, f2⟩ := hr.facts
 obtain ⟨e0, e1, e2, e3, e4, e5⟩ := bs_tells l
 have HR := hide hr
 clear hr c2 f1 f2 e1 e4 e5
 go_enter Tryz.func123, Tryz.ntmps123
 go_wp2
 go_ret
 exact ⟨rfl, HR.out.rest _, (Fr.refl (· = rb) _).setCell (p := ⟨rb, 0, none⟩) rfl _⟩
end Go.Proofs.YtcclepohmhdpbabGreatDoor
namespace Go.Proofs.YtcclepohmhdpbabGreatDoor
set_option linter.all false
open Go.RowKit Go.Deep
namespace Js
open Bn (Res)
def hexd (x : Int) : Option Int := if 48 ≤ x ∧ x ≤ 57 then some (x - 48) else if 97 ≤ x ∧ x ≤ 102 then some (x - 87) else if 65 ≤ x ∧ x ≤ 70 then some (x - 55) else none
def mean (x : Int) : Option Int := if x = 34 ∨ x = 92 ∨ x = 47 then some x else if x = 98 then some 8 else if x = 102 then some 12 else if x = 110 then some 10 else if x = 114 then some 13 else if x = 116 then some 9 else none
def code : Nat → Int → List UInt8 → Option (Int × List UInt8)
 | 0, v, l => some (v, l)
 | k + 1, v, l => (hexd (Tx.at_ l 0)).bind fun d => code k (v * 16 + d) (l.drop 1)
def esc (l : List UInt8) : Option (Int × List UInt8) := if Tx.at_ l 0 = 117 then code 4 0 (l.drop 1) else (mean (Tx.at_ l 0)).map fun v => (v, l.drop 1)
def chr (l : List UInt8) : Option (Int × List UInt8) := if Tx.at_ l 0 = 92 then esc (l.drop 1) else if 32 ≤ Tx.at_ l 0 ∧ Tx.at_ l 0 ≤ 126 then some (Tx.at_ l 0, l.drop 1) else none
def body : Nat → List UInt8 → Option (List Int × List UInt8)
 | 0, _ => none
 | k + 1, l => if Tx.at_ l 0 = 34 then some ([], l.drop 1) else (chr l).bind fun x => (body k x.2).map fun y => (x.1 :: y.1, y.2)
def str (l : List UInt8) : Option (List Int × List UInt8) := if Tx.at_ l 0 = 34 then body (l.length + 1) (l.drop 1) else none
inductive V where
 | word
 | num (s : List UInt8)
 | txt (c : List Int)
 | nil
 | cons (n : List Int) (v r : V)
 | lst (m : V)
 | obj (m : V)
def V.deep : V → Nat
 | .word => 0
 | .num _ => 0
 | .txt _ => 0
 | .nil => 0
 | .cons _ v r => Nat.max v.deep r.deep
 | .lst m => m.deep + 1
 | .obj m => m.deep + 1
def ofM : List (List Int × V) → V
 | [] => .nil
 | x :: r => .cons x.1 x.2 (ofM r)
def items0 {α : Type} (e : UInt8) (f : List UInt8 → Option (α × List UInt8)) : Nat → List UInt8 → Option (List α × List UInt8)
  | 0, _ => none
  | k + 1, l => (f l).bind fun x =>
    if Tx.pre [44] (Tx.bare x.2) = true then (items0 e f k (Tx.aft [44] (Tx.bare x.2))).map fun y => (x.1 :: y.1, y.2)
    else if Tx.pre [e] (Tx.bare x.2) = true then some ([x.1], Tx.aft [e] (Tx.bare x.2)) else none
def list0 {α : Type} (b e : UInt8) (f : List UInt8 → Option (α × List UInt8)) (l : List UInt8) : Option (List α × List UInt8) :=
 if Tx.pre [b] (Tx.bare l) = true then
  if Tx.pre [e] (Tx.bare (Tx.aft [b] (Tx.bare l))) = true then some ([], Tx.aft [e] (Tx.bare (Tx.aft [b] (Tx.bare l))))
  else items0 e f ((Tx.bare l).length + 1) (Tx.bare (Tx.aft [b] (Tx.bare l)))
 else none
def items {α : Type} (e : UInt8) (f : List UInt8 → Bool → Res α) : Nat → List UInt8 → Bool → Res (List α)
  | 0, _, _ => none
  | k + 1, l, o => (f l o).bind fun x =>
    if Tx.pre [44] (Tx.bare x.2.1) = true then (items e f k (Tx.aft [44] (Tx.bare x.2.1)) x.2.2).map fun y => (x.1 :: y.1, y.2)
    else if Tx.pre [e] (Tx.bare x.2.1) = true then some ([x.1], Tx.aft [e] (Tx.bare x.2.1), x.2.2) else none
def list {α : Type} (b e : UInt8) (f : List UInt8 → Bool → Res α) (l : List UInt8) (o : Bool) : Res (List α) :=
 if Tx.pre [b] (Tx.bare l) = true then
  if Tx.pre [e] (Tx.bare (Tx.aft [b] (Tx.bare l))) = true then some ([], Tx.aft [e] (Tx.bare (Tx.aft [b] (Tx.bare l))), o)
  else items e f ((Tx.bare l).length + 1) (Tx.bare (Tx.aft [b] (Tx.bare l))) o
 else none
def mem (named : Bool) (f : List UInt8 → Option (V × List UInt8)) (l : List UInt8) : Option ((List Int × V) × List UInt8) :=
 if named = true then (str (Tx.bare l)).bind fun x => if Tx.pre [58] (Tx.bare x.2) = true then (f (Tx.aft [58] (Tx.bare x.2))).map fun y => ((x.1, y.1), y.2) else none
 else (f l).map fun y => (([], y.1), y.2)
def tru : List UInt8 := [116, 114, 117, 101]
def fal : List UInt8 := [102, 97, 108, 115, 101]
def nul : List UInt8 := [110, 117, 108, 108]
def leaf (s : List UInt8) : Option (V × List UInt8) :=
 if Tx.pre tru s = true then some (.word, s.drop 4) else if Tx.pre fal s = true then some (.word, s.drop 5) else if Tx.pre nul s = true then some (.word, s.drop 4)
 else if Tx.at_ s 0 = 34 then (str s).map fun x => (.txt x.1, x.2)
 else if Tx.num false s = 0 then none else some (.num (s.take (Tx.num false s)), s.drop (Tx.num false s))
def rd : Nat → List UInt8 → Option (V × List UInt8)
  | 0, l => if Tx.at_ (Tx.bare l) 0 = 91 ∨ Tx.at_ (Tx.bare l) 0 = 123 then none else leaf (Tx.bare l)
  | d + 1, l => if Tx.at_ (Tx.bare l) 0 = 91 then (list0 91 93 (mem false (rd d)) l).map fun x => (.lst (ofM x.1), x.2)
    else if Tx.at_ (Tx.bare l) 0 = 123 then (list0 123 125 (mem true (rd d)) l).map fun x => (.obj (ofM x.1), x.2)
    else leaf (Tx.bare l)
def pt (l : List UInt8) (o : Bool) : Res Pnt :=
 if Tx.pre [91] (Tx.bare l) = true then
  (Wt.coord false (Tx.aft [91] (Tx.bare l)) o).bind fun x => if Tx.pre [44] (Tx.bare x.2.1) = true then
   (Wt.coord false (Tx.aft [44] (Tx.bare x.2.1)) x.2.2).bind fun y => if Tx.pre [93] (Tx.bare y.2.1) = true then some ((x.1, y.1), Tx.aft [93] (Tx.bare y.2.1), y.2.2) else none
  else none
 else none
def ring := list 91 93 pt
def poly := list 91 93 ring
def polys := list 91 93 poly
inductive M where
 | type
 | coords (m : Mult)
 | other
def typeN : List Int := [116, 121, 112, 101]
def typeT : List Int := [77, 117, 108, 116, 105, 80, 111, 108, 121, 103, 111, 110]
def listN : List Int := [99, 111, 111, 114, 100, 105, 110, 97, 116, 101, 115]
def memV (n : List Int) (l : List UInt8) (o : Bool) : Res M :=
 if n = typeN then (str (Tx.bare l)).bind fun y => if y.1 = typeT then some (.type, y.2, o) else none
 else if n = listN then (polys l o).map fun y => (.coords y.1, y.2)
 else (rd 16 l).map fun y => (.other, y.2, o)
def memS (l : List UInt8) (o : Bool) : Res M :=
 (str (Tx.bare l)).bind fun x => if Tx.pre [58] (Tx.bare x.2) = true then memV x.1 (Tx.aft [58] (Tx.bare x.2)) o else none
def M.isT : M → Bool
 | .type => true
 | _ => false
def M.co : M → Option Mult
 | .coords m => some m
 | _ => none
def types (r : List M) : Nat := (r.filter M.isT).length
def places (r : List M) : List Mult := r.filterMap M.co
def fit (r : List M) : Bool := types r == 1 && (places r).length == 1
def last (r : List M) : Mult := (places r).getLast?.getD []
def set (l : List UInt8) : Res Mult := (list 123 125 memS l false).bind fun x => if fit x.1 = true then some (last x.1, x.2) else none
def err (l : List UInt8) : Int := match set l with
 | none => 3
 | some x => Tx.fin (Tx.bare x.2.1) false x.2.2
def got (l : List UInt8) : Mult := match set l with
 | none => []
 | some x => x.1
end Js
end Go.Proofs.YtcclepohmhdpbabGreatDoor
namespace Go.Proofs.YtcclepohmhdpbabGreatDoor
set_option linter.all false
open Go.RowKit Go.Deep
namespace Js
open Bn (Res)
def mapV {β : Type} (c : V → Bool → Option (β × Bool)) : V → Bool → Option (List β × Bool)
 | .nil, o => some ([], o)
 | .cons _ v r, o => (c v o).bind fun y => (mapV c r y.2).map fun z => (y.1 :: z.1, z.2)
 | _, _ => none
def cList {β : Type} (c : V → Bool → Option (β × Bool)) : V → Bool → Option (List β × Bool)
 | .lst m, o => mapV c m o
 | _, _ => none
def cNum : V → Bool → Option (Int × Bool)
 | .num s, o => some (Wt.cv s, o || (Du.units s).isNone)
 | _, _ => none
def cPt : V → Bool → Option (Pnt × Bool)
 | .lst (.cons _ a (.cons _ b .nil)), o => (cNum a o).bind fun x => (cNum b x.2).map fun y => ((x.1, y.1), y.2)
 | _, _ => none
def cRing := cList cPt
def cPoly := cList cRing
def cPolys := cList cPoly
theorem pre1 (c : UInt8) (l : List UInt8) : (Tx.pre [c] l = true) ↔ Tx.at_ l 0 = c.toNat := by
 cases l with
 | nil => simp [Tx.pre, Tx.at_]
 | cons a r => rw [Tx.pre_cons, Tx.at_zero]; simp
theorem num_first {l : List UInt8} (h : Tx.num false l ≠ 0) : Tx.at_ l 0 = 45 ∨ (48 ≤ Tx.at_ l 0 ∧ Tx.at_ l 0 ≤ 57) := by
  by_cases h0 : Tx.at_ l 0 = 45
  · exact .inl h0
  · refine .inr ?_
    have hs : Tx.sgn false l 0 = 0 := by simp [Tx.sgn, h0]
    unfold Tx.num Tx.num1 at h
    rw [hs, List.drop_zero] at h
    cases l with
    | nil => simp [Tx.lead] at h
    | cons a r =>
      rw [Tx.at_zero]
      cases hd : Tx.digit a.toNat
      · rw [Tx.lead_cons, hd] at h
        simp at h
      · simpa [Tx.digit] using hd
theorem word_first {c : UInt8} {k l : List UInt8} (h : Tx.pre (c :: k) l = true) : Tx.at_ l 0 = c.toNat := by
  unfold Tx.pre at h
  cases l with
  | nil => simp at h
  | cons a r =>
    simp at h
    rw [Tx.at_zero, h.1]
theorem coord_bare (p : Bool) (l : List UInt8) (o : Bool) : Wt.coord p (Tx.bare l) o = Wt.coord p l o := by unfold Wt.coord; rw [Tx.bare_bare]
end Js
end Go.Proofs.YtcclepohmhdpbabGreatDoor
