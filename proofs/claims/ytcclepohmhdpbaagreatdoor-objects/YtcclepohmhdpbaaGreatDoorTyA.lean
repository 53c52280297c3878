/- THE DOCUMENT's NUMBERS, WRITTEN. -/
import Derived.Test.YtcclepohmhdpbaaGreatDoorTyD
import Derived.Test.YtcclepohmhdpbaaGreatDoorBnWrite
import Derived.Test.YtcclepohmhdpbaaGreatDoorTxF
namespace Go.Proofs.YtcclepohmhdpbaaGreatDoor
set_option linter.all false
open Go.RowKit Go.Deep

def strN : Value → Nat
  | .string s => s.size
  | _ => 0
/-- What the first loop keeps. -/
structure DcI (w : World) (K : Nat) (nv sv iv : Value) (wr : World) where
  i : Nat
  n : Nat
  N : Int
  t : List UInt8
  hi : i ≤ 12
  iv : iv = .int .i64 i
  nv : nv = .int .i64 N
  N0 : 0 ≤ N
  N1 : N ≤ 20480000
  HN : Hid (N = n)
  sv : sv = .string (bs t)
  tl : t.length = i
  HB : Dc.Bd i n
  HS : Hid (Dc.digs K = Dc.dl (30 - i) i n t)
  HU : Hid (Up w wr)
def DcN (w : World) (K : Nat) (nv sv iv : Value) (wr : World) : Prop := Nonempty (DcI w K nv sv iv wr)

set_option maxRecDepth 100000 in
set_option maxHeartbeats 4000000 in
theorem ddec_any (x : Int) (w : World) (h1 : -32768 ≤ x) (h2 : x ≤ 32768) :
    Calls Tryz.prog 80 #[.int .i64 x] w fun e w' => e = .returned (.string (bs (Dc.txt x))) ∧ Up w w' := by
  by_cases hs : x < 0
  · obtain ⟨K, rfl⟩ : ∃ K : Nat, x = -(K : Int) := ⟨x.natAbs, by omega⟩
    have HX : Hid (Dc.txt (-(K : Int)) = [45] ++ (Dc.whole (Dc.digs K) ++ Dc.part (Dc.digs K))) := by show _ = _; unfold Dc.txt; rw [if_pos hs, Int.natAbs_neg, Int.natAbs_natCast]
    have hK2 : (K : Int) ≤ 32768 := by omega
    have hs0 : 0 < K := by omega
    clear h1 h2 hs
    go_enter Tryz.func80, Tryz.ntmps80
    go_wp2_with fail
    go_loopw [4, 5, 6] (fun nv sv iv wr => DcN w K nv sv iv wr) (fun nv _ iv _ => (intOf nv).toNat + (4 - (intOf iv).toNat))
    case atStart => exact ⟨⟨0, K * 625, (K : Int) * 625, [], by omega, rfl, by go_num, by omega, by omega, by show _ = _; omega, rfl, rfl, by show _ < _; simp; omega, rfl, Up.refl w⟩⟩
    case round =>
      obtain ⟨⟨i, n, N, t, hi, rfl, rfl, hN0, hN1, HN, rfl, htl, HB, HS, HU⟩⟩ := hrel
      by_cases hgo : i < 4 ∨ 0 < N
      · have hi12 : i < 12 := by
          rcases Nat.lt_or_ge i 12 with h | h
          · exact h
          · exfalso
            have e : i = 12 := by omega
            subst e
            have := HB.last
            have := HN.out
            omega
        have HST := hide (Dc.dl_step (f := 30 - (i + 1)) (s := t) (i := i) (n := n) (by have := HN.out; omega))
        rw [show 30 - (i + 1) + 1 = 30 - i by omega, ← HS.out] at HST
        have hyn : (48 + n % 10) % 256 = 48 + n % 10 := by omega
        have hy : 48 + N % 10 = ((UInt8.ofNat (48 + n % 10)).toNat : Int) := by
          rw [UInt8.toNat_ofNat', HN.out]
          omega
        generalize UInt8.ofNat (48 + n % 10) = y at *
        have hyb : (y.toNat : Int) ≤ 255 := by have := y.toNat_lt; omega
        have hyc : 48 ≤ (y.toNat : Int) := by rw [← hy]; omega
        have kc := bytes_string (VRow.new wr (Bn.cells [y]) 5) (n := 1) rfl
        simp only [Bn.cells, List.map_cons, List.map_nil] at kc
        have z0 := bs_size t
        have z1 := bs_size [y]
        have t2 : bs [y] ++ bs t = bs (y :: t) := bs_append [y] t
        have HB2 := HB.step hi12
        have hd10 : Hid (N / 10 = ((n / 10 : Nat) : Int)) := by show _ = _; have := HN.out; omega
        clear hyn HS
        try clear hs
        rcases (show i < 4 ∨ (¬ i < 4 ∧ 0 < N) by omega) with hc | ⟨hc, hc2⟩
        all_goals
          go_wp2
          go_roundw
          case rel =>
            have X : DcN w K (.int .i64 (N / 10)) (.string (bs (y :: t))) (.int .i64 ((i : Int) + 1)) (wr.alloc (.cells #[.int .u8 (y.toNat : Int)] 5)) := ⟨⟨i + 1, n / 10, N / 10, y :: t, by omega, by go_num, by go_num, by omega, by omega, hd10, rfl, by simp [htl], HB2, HST, HU.out.alloc _⟩⟩
            first
              | exact X
              | exact ⟨_, _, _, X, rfl, rfl, rfl⟩
              | exact ⟨_, _, _, _, _, _, _, _, _, _, _, _, _, _, _, _, _, _, _, _, _, X, rfl⟩
          case measure => simp [intOf]; omega
      · have h4 : ¬ i < 4 := fun e => hgo (.inl e)
        have hN2 : ¬ 0 < N := fun e => hgo (.inr e)
        have HSE : Hid (Dc.digs K = t) := by
          rw [HS.out, show 30 - i = 29 - i + 1 by omega]
          exact Dc.dl_end (by have := HN.out; omega)
        obtain ⟨e0, e1, e2, e3, e4, e5⟩ := bs_tells t
        obtain ⟨A, hA⟩ : ∃ A, A = t.take (t.length - 4) := ⟨_, rfl⟩
        obtain ⟨B, hB⟩ : ∃ B, B = t.drop (t.length - 4) := ⟨_, rfl⟩
        have qA : (bs t).extract 0 (i - 4) = bs A := by rw [← htl, e3, hA]
        have qB : (bs t).extract (i - 4) i = bs B := by rw [← htl, e2, hB]
        have HW : Hid (Dc.whole (Dc.digs K) = if A = [] then [48] else A) := by rw [HSE.out]; unfold Dc.whole; rw [← hA]; exact rfl
        have HP : Hid (Dc.part (Dc.digs K) = if Tx.trR B = [] then [] else 46 :: Tx.trR B) := by rw [HSE.out]; unfold Dc.part; rw [← hB]; exact rfl
        have hAl : A.length ≤ 12 := by rw [hA, List.length_take]; omega
        have hBl : B.length ≤ 4 := by rw [hB, List.length_drop]; omega
        have ht4 : 4 ≤ t.length := by omega
        clear e1 e2 e3 e4 e5 hA hB HS HSE hgo
        go_wp2_with fail
        go_loop [8] (fun bv => ∃ c : List UInt8, c.length ≤ 4 ∧ bv = .string (bs c) ∧ Hid (Tx.trR B = Tx.trR c)) (fun bv => strN bv)
        case atStart => exact ⟨B, hBl, rfl, rfl⟩
        case round =>
          obtain ⟨c, hcl, rfl, HC⟩ := hrel
          have hE : bs [] = ByteArray.mk #[] := rfl
          rcases List.eq_nil_or_concat c with rfl | ⟨d, y, hc⟩
          · have HP2 : Hid (Dc.part (Dc.digs K) = []) := by rw [HP.out, HC.out]; exact rfl
            clear HP HC
            by_cases hA0 : A = []
            · subst hA0
              have HW2 : Hid (Dc.whole (Dc.digs K) = [48]) := by rw [HW.out]; exact if_pos rfl
              have HT : Hid (Dc.txt (-(K : Int)) = 45 :: ([48])) := by rw [HX.out, HW2.out, HP2.out]; show _ = _; simp
              have s1 : ByteArray.mk #[45] ++ ByteArray.mk #[48] = bs (45 :: [48]) := bs_append [45] [48]
              have z1 : (bs (45 :: [48])).size = 1 + 1 := bs_size (45 :: [48])
              have s3 : bs (45 :: [48]) ++ ByteArray.mk #[] = bs (45 :: ([48])) := (bs_append (45 :: [48]) []).trans (by rw [List.append_nil])
              have s3e : bs (45 :: [48]) ++ ByteArray.empty = bs (45 :: ([48])) := (bs_append (45 :: [48]) []).trans (by rw [List.append_nil])
              have HE1 : Hid (ByteArray.mk #[45] ++ ByteArray.mk #[48] ++ ByteArray.mk #[] = bs (45 :: ([48]))) := by rw [s1]; exact s3
              have HE2 : Hid (bs (45 :: [48]) ++ ByteArray.mk #[] = bs (45 :: ([48]))) := s3
              clear HW HX HW2 HP2
              go_wp2
              go_ret
              rw [HT.out]
              refine ⟨?_, HU.out⟩
              first
                | rfl
                | exact congrArg (fun x => Ending.returned (Value.string x)) HE2.out
                | exact congrArg (fun x => Ending.returned (Value.string x)) HE1.out
            · have hA4 : (bs A).toList = A := bs_toList A
              have hA1 : A.isEmpty = false := by simp [hA0]
              have HW2 : Hid (Dc.whole (Dc.digs K) = A) := by rw [HW.out]; exact if_neg hA0
              have HT : Hid (Dc.txt (-(K : Int)) = 45 :: (A)) := by rw [HX.out, HW2.out, HP2.out]; show _ = _; simp
              have s1 : ByteArray.mk #[45] ++ bs A = bs (45 :: A) := bs_append [45] A
              have z1 : (bs (45 :: A)).size = A.length + 1 := bs_size (45 :: A)
              have z0 := bs_size A
              have s3 : bs (45 :: A) ++ ByteArray.mk #[] = bs (45 :: (A)) := (bs_append (45 :: A) []).trans (by rw [List.append_nil])
              have s3e : bs (45 :: A) ++ ByteArray.empty = bs (45 :: (A)) := (bs_append (45 :: A) []).trans (by rw [List.append_nil])
              have HE1 : Hid (ByteArray.mk #[45] ++ bs A ++ ByteArray.mk #[] = bs (45 :: (A))) := by rw [s1]; exact s3
              have HE2 : Hid (bs (45 :: A) ++ ByteArray.mk #[] = bs (45 :: (A))) := s3
              clear HW HX HW2 HP2
              go_wp2
              go_ret
              rw [HT.out]
              refine ⟨?_, HU.out⟩
              first
                | rfl
                | exact congrArg (fun x => Ending.returned (Value.string x)) HE2.out
                | exact congrArg (fun x => Ending.returned (Value.string x)) HE1.out
          · rw [List.concat_eq_append] at hc
            obtain ⟨e0, e1, e2, e3, e4, e5⟩ := bs_tells c
            have hl : c.length = d.length + 1 := by rw [hc]; simp
            have hc0 : ¬ c = [] := by intro e; rw [e] at hl; simp at hl
            have hc1 : c.isEmpty = false := by simp [hc0]
            have hat : Tx.at_ c d.length = y.toNat := by rw [Tx.at_lt (by omega)]; subst hc; simp
            have htk : c.take d.length = d := by rw [hc]; simp
            have hsn : Tx.trR c = if Tx.z y then Tx.trR d else c := by rw [hc, Tx.trR_snoc]
            clear hc e2 e5
            by_cases hy : (y.toNat : Int) = 48
            · have HC2 : Hid (Tx.trR B = Tx.trR d) := by
                rw [HC.out, hsn, if_pos]
                · exact rfl
                · have : y = 48 := UInt8.toNat_inj.1 (by have : (48 : UInt8).toNat = 48 := rfl; omega)
                  rw [this]; rfl
              clear hsn HC HP
              go_wp2
              go_round
              case rel => exact ⟨d, by omega, by go_num, HC2⟩
              case measure => simp [strN, bs_size, hl]
            · have HP2 : Hid (Dc.part (Dc.digs K) = 46 :: c) := by
                have h1 : Tx.trR c = c := by
                  rw [hsn, if_neg]
                  intro e
                  apply hy
                  have : y = 48 := by simpa [Tx.z] using e
                  rw [this]; rfl
                rw [HP.out, HC.out, h1, if_neg]
                · exact rfl
                · exact hc0
              clear hsn HC HP
              by_cases hA0 : A = []
              · subst hA0
                have HW2 : Hid (Dc.whole (Dc.digs K) = [48]) := by rw [HW.out]; exact if_pos rfl
                have HT : Hid (Dc.txt (-(K : Int)) = 45 :: ([48] ++ 46 :: c)) := by rw [HX.out, HW2.out, HP2.out]; show _ = _; simp
                have s1 : ByteArray.mk #[45] ++ ByteArray.mk #[48] = bs (45 :: [48]) := bs_append [45] [48]
                have z1 : (bs (45 :: [48])).size = 1 + 1 := bs_size (45 :: [48])
                have s2 : ByteArray.mk #[46] ++ bs c = bs (46 :: c) := bs_append [46] c
                have s3 : bs (45 :: [48]) ++ bs (46 :: c) = bs (45 :: ([48] ++ 46 :: c)) := bs_append (45 :: [48]) (46 :: c)
                have z2 : (bs (46 :: c)).size = c.length + 1 := bs_size (46 :: c)
                have HE1 : Hid (ByteArray.mk #[45] ++ ByteArray.mk #[48] ++ bs (46 :: c) = bs (45 :: ([48] ++ 46 :: c))) := by rw [s1]; exact s3
                have HE2 : Hid (bs (45 :: [48]) ++ bs (46 :: c) = bs (45 :: ([48] ++ 46 :: c))) := s3
                clear HW HX HW2 HP2
                go_wp2
                go_ret
                rw [HT.out]
                refine ⟨?_, HU.out⟩
                first
                  | rfl
                  | exact congrArg (fun x => Ending.returned (Value.string x)) HE2.out
                  | exact congrArg (fun x => Ending.returned (Value.string x)) HE1.out
              · have hA4 : (bs A).toList = A := bs_toList A
                have hA1 : A.isEmpty = false := by simp [hA0]
                have HW2 : Hid (Dc.whole (Dc.digs K) = A) := by rw [HW.out]; exact if_neg hA0
                have HT : Hid (Dc.txt (-(K : Int)) = 45 :: (A ++ 46 :: c)) := by rw [HX.out, HW2.out, HP2.out]; show _ = _; simp
                have s1 : ByteArray.mk #[45] ++ bs A = bs (45 :: A) := bs_append [45] A
                have z1 : (bs (45 :: A)).size = A.length + 1 := bs_size (45 :: A)
                have z0 := bs_size A
                have s2 : ByteArray.mk #[46] ++ bs c = bs (46 :: c) := bs_append [46] c
                have s3 : bs (45 :: A) ++ bs (46 :: c) = bs (45 :: (A ++ 46 :: c)) := bs_append (45 :: A) (46 :: c)
                have z2 : (bs (46 :: c)).size = c.length + 1 := bs_size (46 :: c)
                have HE1 : Hid (ByteArray.mk #[45] ++ bs A ++ bs (46 :: c) = bs (45 :: (A ++ 46 :: c))) := by rw [s1]; exact s3
                have HE2 : Hid (bs (45 :: A) ++ bs (46 :: c) = bs (45 :: (A ++ 46 :: c))) := s3
                clear HW HX HW2 HP2
                go_wp2
                go_ret
                rw [HT.out]
                refine ⟨?_, HU.out⟩
                first
                  | rfl
                  | exact congrArg (fun x => Ending.returned (Value.string x)) HE2.out
                  | exact congrArg (fun x => Ending.returned (Value.string x)) HE1.out
  · obtain ⟨K, rfl⟩ := Int.eq_ofNat_of_zero_le (Int.not_lt.1 hs)
    have HX : Hid (Dc.txt (K : Int) = [] ++ (Dc.whole (Dc.digs K) ++ Dc.part (Dc.digs K))) := by show _ = _; unfold Dc.txt; rw [if_neg hs, Int.natAbs_natCast]
    have hK2 : (K : Int) ≤ 32768 := by omega
    clear h1 h2
    go_enter Tryz.func80, Tryz.ntmps80
    go_wp2_with fail
    go_loopw [4, 5, 6] (fun nv sv iv wr => DcN w K nv sv iv wr) (fun nv _ iv _ => (intOf nv).toNat + (4 - (intOf iv).toNat))
    case atStart => exact ⟨⟨0, K * 625, (K : Int) * 625, [], by omega, rfl, by go_num, by omega, by omega, by show _ = _; omega, rfl, rfl, by show _ < _; simp; omega, rfl, Up.refl w⟩⟩
    case round =>
      obtain ⟨⟨i, n, N, t, hi, rfl, rfl, hN0, hN1, HN, rfl, htl, HB, HS, HU⟩⟩ := hrel
      by_cases hgo : i < 4 ∨ 0 < N
      · have hi12 : i < 12 := by
          rcases Nat.lt_or_ge i 12 with h | h
          · exact h
          · exfalso
            have e : i = 12 := by omega
            subst e
            have := HB.last
            have := HN.out
            omega
        have HST := hide (Dc.dl_step (f := 30 - (i + 1)) (s := t) (i := i) (n := n) (by have := HN.out; omega))
        rw [show 30 - (i + 1) + 1 = 30 - i by omega, ← HS.out] at HST
        have hyn : (48 + n % 10) % 256 = 48 + n % 10 := by omega
        have hy : 48 + N % 10 = ((UInt8.ofNat (48 + n % 10)).toNat : Int) := by
          rw [UInt8.toNat_ofNat', HN.out]
          omega
        generalize UInt8.ofNat (48 + n % 10) = y at *
        have hyb : (y.toNat : Int) ≤ 255 := by have := y.toNat_lt; omega
        have hyc : 48 ≤ (y.toNat : Int) := by rw [← hy]; omega
        have kc := bytes_string (VRow.new wr (Bn.cells [y]) 5) (n := 1) rfl
        simp only [Bn.cells, List.map_cons, List.map_nil] at kc
        have z0 := bs_size t
        have z1 := bs_size [y]
        have t2 : bs [y] ++ bs t = bs (y :: t) := bs_append [y] t
        have HB2 := HB.step hi12
        have hd10 : Hid (N / 10 = ((n / 10 : Nat) : Int)) := by show _ = _; have := HN.out; omega
        clear hyn HS
        try clear hs
        rcases (show i < 4 ∨ (¬ i < 4 ∧ 0 < N) by omega) with hc | ⟨hc, hc2⟩
        all_goals
          go_wp2
          go_roundw
          case rel =>
            have X : DcN w K (.int .i64 (N / 10)) (.string (bs (y :: t))) (.int .i64 ((i : Int) + 1)) (wr.alloc (.cells #[.int .u8 (y.toNat : Int)] 5)) := ⟨⟨i + 1, n / 10, N / 10, y :: t, by omega, by go_num, by go_num, by omega, by omega, hd10, rfl, by simp [htl], HB2, HST, HU.out.alloc _⟩⟩
            first
              | exact X
              | exact ⟨_, _, _, X, rfl, rfl, rfl⟩
              | exact ⟨_, _, _, _, _, _, _, _, _, _, _, _, _, _, _, _, _, _, _, _, _, X, rfl⟩
          case measure => simp [intOf]; omega
      · have h4 : ¬ i < 4 := fun e => hgo (.inl e)
        have hN2 : ¬ 0 < N := fun e => hgo (.inr e)
        have HSE : Hid (Dc.digs K = t) := by
          rw [HS.out, show 30 - i = 29 - i + 1 by omega]
          exact Dc.dl_end (by have := HN.out; omega)
        obtain ⟨e0, e1, e2, e3, e4, e5⟩ := bs_tells t
        obtain ⟨A, hA⟩ : ∃ A, A = t.take (t.length - 4) := ⟨_, rfl⟩
        obtain ⟨B, hB⟩ : ∃ B, B = t.drop (t.length - 4) := ⟨_, rfl⟩
        have qA : (bs t).extract 0 (i - 4) = bs A := by rw [← htl, e3, hA]
        have qB : (bs t).extract (i - 4) i = bs B := by rw [← htl, e2, hB]
        have HW : Hid (Dc.whole (Dc.digs K) = if A = [] then [48] else A) := by rw [HSE.out]; unfold Dc.whole; rw [← hA]; exact rfl
        have HP : Hid (Dc.part (Dc.digs K) = if Tx.trR B = [] then [] else 46 :: Tx.trR B) := by rw [HSE.out]; unfold Dc.part; rw [← hB]; exact rfl
        have hAl : A.length ≤ 12 := by rw [hA, List.length_take]; omega
        have hBl : B.length ≤ 4 := by rw [hB, List.length_drop]; omega
        have ht4 : 4 ≤ t.length := by omega
        clear e1 e2 e3 e4 e5 hA hB HS HSE hgo
        go_wp2_with fail
        go_loop [8] (fun bv => ∃ c : List UInt8, c.length ≤ 4 ∧ bv = .string (bs c) ∧ Hid (Tx.trR B = Tx.trR c)) (fun bv => strN bv)
        case atStart => exact ⟨B, hBl, rfl, rfl⟩
        case round =>
          obtain ⟨c, hcl, rfl, HC⟩ := hrel
          have hE : bs [] = ByteArray.mk #[] := rfl
          rcases List.eq_nil_or_concat c with rfl | ⟨d, y, hc⟩
          · have HP2 : Hid (Dc.part (Dc.digs K) = []) := by rw [HP.out, HC.out]; exact rfl
            clear HP HC
            by_cases hA0 : A = []
            · subst hA0
              have HW2 : Hid (Dc.whole (Dc.digs K) = [48]) := by rw [HW.out]; exact if_pos rfl
              have HT : Hid (Dc.txt (K : Int) = ([48])) := by rw [HX.out, HW2.out, HP2.out]; show _ = _; simp
              have s1 : ByteArray.mk #[] ++ ByteArray.mk #[48] = bs ([48]) := bs_append [] [48]
              have s1e : ByteArray.empty ++ ByteArray.mk #[48] = bs ([48]) := bs_append [] [48]
              have z1 : (bs ([48])).size = 1 := bs_size ([48])
              have s3 : bs ([48]) ++ ByteArray.mk #[] = bs (([48])) := (bs_append ([48]) []).trans (by rw [List.append_nil])
              have s3e : bs ([48]) ++ ByteArray.empty = bs (([48])) := (bs_append ([48]) []).trans (by rw [List.append_nil])
              have HE1 : Hid (ByteArray.mk #[] ++ ByteArray.mk #[48] ++ ByteArray.mk #[] = bs (([48]))) := by rw [s1]; exact s3
              have HE2 : Hid (bs ([48]) ++ ByteArray.mk #[] = bs (([48]))) := s3
              clear HW HX HW2 HP2
              go_wp2
              go_ret
              rw [HT.out]
              refine ⟨?_, HU.out⟩
              first
                | rfl
                | exact congrArg (fun x => Ending.returned (Value.string x)) HE2.out
                | exact congrArg (fun x => Ending.returned (Value.string x)) HE1.out
            · have hA4 : (bs A).toList = A := bs_toList A
              have hA1 : A.isEmpty = false := by simp [hA0]
              have HW2 : Hid (Dc.whole (Dc.digs K) = A) := by rw [HW.out]; exact if_neg hA0
              have HT : Hid (Dc.txt (K : Int) = (A)) := by rw [HX.out, HW2.out, HP2.out]; show _ = _; simp
              have s1 : ByteArray.mk #[] ++ bs A = bs (A) := bs_append [] A
              have s1e : ByteArray.empty ++ bs A = bs (A) := bs_append [] A
              have z1 : (bs (A)).size = A.length := bs_size (A)
              have z0 := bs_size A
              have s3 : bs (A) ++ ByteArray.mk #[] = bs ((A)) := (bs_append (A) []).trans (by rw [List.append_nil])
              have s3e : bs (A) ++ ByteArray.empty = bs ((A)) := (bs_append (A) []).trans (by rw [List.append_nil])
              have HE1 : Hid (ByteArray.mk #[] ++ bs A ++ ByteArray.mk #[] = bs ((A))) := by rw [s1]; exact s3
              have HE2 : Hid (bs (A) ++ ByteArray.mk #[] = bs ((A))) := s3
              clear HW HX HW2 HP2
              go_wp2
              go_ret
              rw [HT.out]
              refine ⟨?_, HU.out⟩
              first
                | rfl
                | exact congrArg (fun x => Ending.returned (Value.string x)) HE2.out
                | exact congrArg (fun x => Ending.returned (Value.string x)) HE1.out
          · rw [List.concat_eq_append] at hc
            obtain ⟨e0, e1, e2, e3, e4, e5⟩ := bs_tells c
            have hl : c.length = d.length + 1 := by rw [hc]; simp
            have hc0 : ¬ c = [] := by intro e; rw [e] at hl; simp at hl
            have hc1 : c.isEmpty = false := by simp [hc0]
            have hat : Tx.at_ c d.length = y.toNat := by rw [Tx.at_lt (by omega)]; subst hc; simp
            have htk : c.take d.length = d := by rw [hc]; simp
            have hsn : Tx.trR c = if Tx.z y then Tx.trR d else c := by rw [hc, Tx.trR_snoc]
            clear hc e2 e5
            by_cases hy : (y.toNat : Int) = 48
            · have HC2 : Hid (Tx.trR B = Tx.trR d) := by
                rw [HC.out, hsn, if_pos]
                · exact rfl
                · have : y = 48 := UInt8.toNat_inj.1 (by have : (48 : UInt8).toNat = 48 := rfl; omega)
                  rw [this]; rfl
              clear hsn HC HP
              go_wp2
              go_round
              case rel => exact ⟨d, by omega, by go_num, HC2⟩
              case measure => simp [strN, bs_size, hl]
            · have HP2 : Hid (Dc.part (Dc.digs K) = 46 :: c) := by
                have h1 : Tx.trR c = c := by
                  rw [hsn, if_neg]
                  intro e
                  apply hy
                  have : y = 48 := by simpa [Tx.z] using e
                  rw [this]; rfl
                rw [HP.out, HC.out, h1, if_neg]
                · exact rfl
                · exact hc0
              clear hsn HC HP
              by_cases hA0 : A = []
              · subst hA0
                have HW2 : Hid (Dc.whole (Dc.digs K) = [48]) := by rw [HW.out]; exact if_pos rfl
                have HT : Hid (Dc.txt (K : Int) = ([48] ++ 46 :: c)) := by rw [HX.out, HW2.out, HP2.out]; show _ = _; simp
                have s1 : ByteArray.mk #[] ++ ByteArray.mk #[48] = bs ([48]) := bs_append [] [48]
                have s1e : ByteArray.empty ++ ByteArray.mk #[48] = bs ([48]) := bs_append [] [48]
                have z1 : (bs ([48])).size = 1 := bs_size ([48])
                have s2 : ByteArray.mk #[46] ++ bs c = bs (46 :: c) := bs_append [46] c
                have s3 : bs ([48]) ++ bs (46 :: c) = bs (([48] ++ 46 :: c)) := bs_append ([48]) (46 :: c)
                have z2 : (bs (46 :: c)).size = c.length + 1 := bs_size (46 :: c)
                have HE1 : Hid (ByteArray.mk #[] ++ ByteArray.mk #[48] ++ bs (46 :: c) = bs (([48] ++ 46 :: c))) := by rw [s1]; exact s3
                have HE2 : Hid (bs ([48]) ++ bs (46 :: c) = bs (([48] ++ 46 :: c))) := s3
                clear HW HX HW2 HP2
                go_wp2
                go_ret
                rw [HT.out]
                refine ⟨?_, HU.out⟩
                first
                  | rfl
                  | exact congrArg (fun x => Ending.returned (Value.string x)) HE2.out
                  | exact congrArg (fun x => Ending.returned (Value.string x)) HE1.out
              · have hA4 : (bs A).toList = A := bs_toList A
                have hA1 : A.isEmpty = false := by simp [hA0]
                have HW2 : Hid (Dc.whole (Dc.digs K) = A) := by rw [HW.out]; exact if_neg hA0
                have HT : Hid (Dc.txt (K : Int) = (A ++ 46 :: c)) := by rw [HX.out, HW2.out, HP2.out]; show _ = _; simp
                have s1 : ByteArray.mk #[] ++ bs A = bs (A) := bs_append [] A
                have s1e : ByteArray.empty ++ bs A = bs (A) := bs_append [] A
                have z1 : (bs (A)).size = A.length := bs_size (A)
                have z0 := bs_size A
                have s2 : ByteArray.mk #[46] ++ bs c = bs (46 :: c) := bs_append [46] c
                have s3 : bs (A) ++ bs (46 :: c) = bs ((A ++ 46 :: c)) := bs_append (A) (46 :: c)
                have z2 : (bs (46 :: c)).size = c.length + 1 := bs_size (46 :: c)
                have HE1 : Hid (ByteArray.mk #[] ++ bs A ++ bs (46 :: c) = bs ((A ++ 46 :: c))) := by rw [s1]; exact s3
                have HE2 : Hid (bs (A) ++ bs (46 :: c) = bs ((A ++ 46 :: c))) := s3
                clear HW HX HW2 HP2
                go_wp2
                go_ret
                rw [HT.out]
                refine ⟨?_, HU.out⟩
                first
                  | rfl
                  | exact congrArg (fun x => Ending.returned (Value.string x)) HE2.out
                  | exact congrArg (fun x => Ending.returned (Value.string x)) HE1.out
end Go.Proofs.YtcclepohmhdpbaaGreatDoor
