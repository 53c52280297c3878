import Derived.Test.YtcclepohmhdpbabGreatDoorTvP
namespace Go.Proofs.YtcclepohmhdpbabGreatDoor
set_option linter.all false
open Go.RowKit Go.Deep
namespace Tx
theorem bare_bare (l : List UInt8) : bare (bare l) = bare l := by
  induction l with
  | nil => rfl
  | cons c t ih =>
    rw [bare_cons]
    split
    · exact ih
    · rename_i h
      rw [bare_cons, if_neg h]
theorem bare_gap (l : List UInt8) : (l.length - (bare l).length = 0) ↔ Wt.gap l = false := by
  cases l with
  | nil => simp [bare, Wt.gap, at_, blank]
  | cons c t =>
    have e : Wt.gap (c :: t) = blank c.toNat := rfl
    rw [bare_cons, e]
    have := bare_le t
    cases blank c.toNat
    · simp
    · simp
      omega
end Tx
def NeedPost (k l : List UInt8) (bad off : Bool) (rb : Nat) (w : World) (e : Ending) (w' : World) : Prop :=
  e = .returned (.bool (!(bad || !Tx.pre k (Tx.bare l)))) ∧ RT w' rb (Tx.aft k (Tx.bare l)) (bad || !Tx.pre k (Tx.bare l)) off ∧ Fr (· = rb) w w'
set_option maxHeartbeats 1000000 in
theorem need_any (k l : List UInt8) (bad off : Bool) (rb : Nat) (w : World) (hr : RT w rb l bad off) (hl : l.length ≤ 6000) (hk : k.length ≤ 6000) :
    Calls Tryz.prog 85 #[.pointer (some ⟨rb, 0, none⟩), .string (bs k)] w (NeedPost k l bad off rb w) := by
  have HR := hide hr
  clear hr
  go_enter Tryz.func85, Tryz.ntmps85
  go_wp2_with fail
  refine (mark_any k l bad off rb _ HR.out hl hk).mono ?_
  rintro e w1 ⟨rfl, h1, u1⟩
  obtain ⟨P, hP⟩ : ∃ P, P = Tx.pre k (Tx.bare l) := ⟨_, rfl⟩
  have HPP := hide hP
  rw [← hP]
  obtain ⟨c0, c1, c2, f0, f1, f2⟩ := h1.facts
  replace h1 := hide h1
  replace u1 := hide u1
  clear hP c0 c2 f0 f2
  cases P
  · go_wp2
    go_ret
    unfold NeedPost
    rw [← HPP.out]
    refine ⟨by simp, ?_, u1.out.setCell (p := ⟨rb, 1, none⟩) rfl _⟩
    have := h1.out.bad true
    simpa using this
  · go_wp2
    go_ret
    unfold NeedPost
    rw [← HPP.out]
    exact ⟨by simp, by simpa using h1.out, u1.out⟩
def NextPost (l : List UInt8) (bad off : Bool) (rb : Nat) (w : World) (e : Ending) (w' : World) : Prop :=
  ∃ (l' : List UInt8) (bad' : Bool), e = .returned (.bool (!bad && Tx.pre [44] (Tx.bare l))) ∧ RT w' rb l' bad' off ∧ Fr (· = rb) w w' ∧ l'.length ≤ l.length ∧
    ((!bad && Tx.pre [44] (Tx.bare l)) = true → bad' = false ∧ l' = Tx.aft [44] (Tx.bare l)) ∧ ((!bad && Tx.pre [44] (Tx.bare l)) = false → bad' = (bad || !Tx.pre [41] (Tx.bare l)) ∧ (bad' = false → l' = Tx.aft [41] (Tx.bare l)))
set_option maxHeartbeats 1000000 in
theorem next_any (l : List UInt8) (bad off : Bool) (rb : Nat) (w : World) (hr : RT w rb l bad off) (hl : l.length ≤ 6000) :
    Calls Tryz.prog 78 #[.pointer (some ⟨rb, 0, none⟩), .string ⟨#[41]⟩] w (NextPost l bad off rb w) := by
  obtain ⟨c0, c1, c2, f0, f1, f2⟩ := hr.facts
  have HR := hide hr
  clear hr c0 c2 f0 f1 f2
  cases bad
  · have hle := Tx.bare_le l
    obtain ⟨P, hP⟩ : ∃ P, P = Tx.pre [44] (Tx.bare l) := ⟨_, rfl⟩
    have HPP := hide hP
    have HM := hide (mark_any [44] l false off rb w HR.out hl (by simp))
    rw [← hP] at HM
    clear hP
    cases P
    · have hbl : (Tx.bare l).length ≤ 6000 := by omega
      have HA : Hid (Tx.aft [44] (Tx.bare l) = Tx.bare l) := Tx.aft_f HPP.out.symm
      have HB := hide (Tx.bare_bare l)
      go_enter Tryz.func78, Tryz.ntmps78
      go_wp2_with fail
      refine HM.out.mono ?_
      rintro e w1 ⟨rfl, h1, u1⟩
      rw [HA.out] at h1
      replace h1 := hide h1
      replace u1 := hide u1
      go_wp2_with fail
      refine (need_any [41] (Tx.bare l) false off rb _ h1.out hbl (by simp)).mono ?_
      rintro e w2 ⟨rfl, h2, u2⟩
      rw [HB.out] at h2
      replace h2 := hide h2
      replace u2 := hide u2
      go_wp2
      go_ret
      unfold NextPost
      rw [← HPP.out]
      exact ⟨_, _, by simp, h2.out, u1.out.trans u2.out, Nat.le_trans (Tx.aft_le _ _) hle, by simp, fun _ => ⟨rfl, fun _ => rfl⟩⟩
    · go_enter Tryz.func78, Tryz.ntmps78
      go_wp2_with fail
      refine HM.out.mono ?_
      rintro e w1 ⟨rfl, h1, u1⟩
      replace h1 := hide h1
      replace u1 := hide u1
      go_wp2
      go_ret
      unfold NextPost
      rw [← HPP.out]
      exact ⟨_, _, by simp, h1.out, u1.out, Nat.le_trans (Tx.aft_le _ _) hle, fun _ => ⟨rfl, rfl⟩, by simp⟩
  · go_enter Tryz.func78, Tryz.ntmps78
    go_wp2
    go_ret
    unfold NextPost
    exact ⟨l, true, by simp, HR.out, Fr.refl _ _, Nat.le_refl _, by simp, by simp⟩
set_option maxHeartbeats 1000000 in
theorem number_bad (l : List UInt8) (bad off : Bool) (rb : Nat) (w : World) (hr : RT w rb l bad off) :
    Calls Tryz.prog 123 #[.pointer (some ⟨rb, 0, none⟩), .int .i64 0] w fun e w' => e = .returned (.string (bs [])) ∧ RT w' rb l true off ∧ Fr (· = rb) w w' := by
  obtain ⟨c0, c1, c2, f0, f1, f2⟩ := hr.facts
  have HR := hide hr
  clear hr c2 f0 f2
  go_enter Tryz.func123, Tryz.ntmps123
  go_wp2
  go_ret
  exact ⟨rfl, HR.out.bad true, (Fr.refl (· = rb) _).setCell (p := ⟨rb, 1, none⟩) rfl _⟩
set_option maxHeartbeats 1000000 in
theorem number_ok (l : List UInt8) (n : Nat) (bad off : Bool) (rb : Nat) (w : World) (hr : RT w rb l bad off) (hl : l.length ≤ 6000) (hn : 0 < n) (hnl : n ≤ l.length) :
    Calls Tryz.prog 123 #[.pointer (some ⟨rb, 0, none⟩), .int .i64 n] w fun e w' => e = .returned (.string (bs (l.take n))) ∧ RT w' rb (l.drop n) bad off ∧ Fr (· = rb) w w' := by
  obtain ⟨c0, c1, c2, f0, f1, f2⟩ := hr.facts
  obtain ⟨e0, e1, e2, e3, e4, e5⟩ := bs_tells l
  have HR := hide hr
  clear hr c2 f1 f2 e1 e4 e5
  go_enter Tryz.func123, Tryz.ntmps123
  go_wp2
  go_ret
  exact ⟨rfl, HR.out.rest _, (Fr.refl (· = rb) _).setCell (p := ⟨rb, 0, none⟩) rfl _⟩
end Go.Proofs.YtcclepohmhdpbabGreatDoor

namespace Go.Proofs.YtcclepohmhdpbabGreatDoor
set_option linter.all false
open Go.RowKit Go.Deep
namespace Js
open Bn (Res)
def hexd (x : Int) : Option Int := if 48 ≤ x ∧ x ≤ 57 then some (x - 48) else if 97 ≤ x ∧ x ≤ 102 then some (x - 87) else if 65 ≤ x ∧ x ≤ 70 then some (x - 55) else none
def mean (x : Int) : Option Int := if x = 34 ∨ x = 92 ∨ x = 47 then some x else if x = 98 then some 8 else if x = 102 then some 12 else if x = 110 then some 10 else if x = 114 then some 13 else if x = 116 then some 9 else none
def code : Nat → Int → List UInt8 → Option (Int × List UInt8)
  | 0, v, l => some (v, l)
  | k + 1, v, l => (hexd (Tx.at_ l 0)).bind fun d => code k (v * 16 + d) (l.drop 1)
def esc (l : List UInt8) : Option (Int × List UInt8) := if Tx.at_ l 0 = 117 then code 4 0 (l.drop 1) else (mean (Tx.at_ l 0)).map fun v => (v, l.drop 1)
def chr (l : List UInt8) : Option (Int × List UInt8) := if Tx.at_ l 0 = 92 then esc (l.drop 1) else if 32 ≤ Tx.at_ l 0 ∧ Tx.at_ l 0 ≤ 126 then some (Tx.at_ l 0, l.drop 1) else none
def body : Nat → List UInt8 → Option (List Int × List UInt8)
  | 0, _ => none
  | k + 1, l => if Tx.at_ l 0 = 34 then some ([], l.drop 1) else (chr l).bind fun x => (body k x.2).map fun y => (x.1 :: y.1, y.2)
def str (l : List UInt8) : Option (List Int × List UInt8) := if Tx.at_ l 0 = 34 then body (l.length + 1) (l.drop 1) else none
inductive V where
  | word
  | num (s : List UInt8)
  | txt (c : List Int)
  | nil
  | cons (n : List Int) (v r : V)
  | lst (m : V)
  | obj (m : V)
def V.deep : V → Nat
  | .word => 0
  | .num _ => 0
  | .txt _ => 0
  | .nil => 0
  | .cons _ v r => Nat.max v.deep r.deep
  | .lst m => m.deep + 1
  | .obj m => m.deep + 1
def ofM : List (List Int × V) → V
  | [] => .nil
  | x :: r => .cons x.1 x.2 (ofM r)
def items0 {α : Type} (e : UInt8) (f : List UInt8 → Option (α × List UInt8)) : Nat → List UInt8 → Option (List α × List UInt8)
  | 0, _ => none
  | k + 1, l => (f l).bind fun x =>
    if Tx.pre [44] (Tx.bare x.2) = true then (items0 e f k (Tx.aft [44] (Tx.bare x.2))).map fun y => (x.1 :: y.1, y.2)
    else if Tx.pre [e] (Tx.bare x.2) = true then some ([x.1], Tx.aft [e] (Tx.bare x.2)) else none
def list0 {α : Type} (b e : UInt8) (f : List UInt8 → Option (α × List UInt8)) (l : List UInt8) : Option (List α × List UInt8) :=
  if Tx.pre [b] (Tx.bare l) = true then
    if Tx.pre [e] (Tx.bare (Tx.aft [b] (Tx.bare l))) = true then some ([], Tx.aft [e] (Tx.bare (Tx.aft [b] (Tx.bare l))))
    else items0 e f ((Tx.bare l).length + 1) (Tx.bare (Tx.aft [b] (Tx.bare l)))
  else none
def items {α : Type} (e : UInt8) (f : List UInt8 → Bool → Res α) : Nat → List UInt8 → Bool → Res (List α)
  | 0, _, _ => none
  | k + 1, l, o => (f l o).bind fun x =>
    if Tx.pre [44] (Tx.bare x.2.1) = true then (items e f k (Tx.aft [44] (Tx.bare x.2.1)) x.2.2).map fun y => (x.1 :: y.1, y.2)
    else if Tx.pre [e] (Tx.bare x.2.1) = true then some ([x.1], Tx.aft [e] (Tx.bare x.2.1), x.2.2) else none
def list {α : Type} (b e : UInt8) (f : List UInt8 → Bool → Res α) (l : List UInt8) (o : Bool) : Res (List α) :=
  if Tx.pre [b] (Tx.bare l) = true then
    if Tx.pre [e] (Tx.bare (Tx.aft [b] (Tx.bare l))) = true then some ([], Tx.aft [e] (Tx.bare (Tx.aft [b] (Tx.bare l))), o)
    else items e f ((Tx.bare l).length + 1) (Tx.bare (Tx.aft [b] (Tx.bare l))) o
  else none
def mem (named : Bool) (f : List UInt8 → Option (V × List UInt8)) (l : List UInt8) : Option ((List Int × V) × List UInt8) :=
  if named = true then (str (Tx.bare l)).bind fun x => if Tx.pre [58] (Tx.bare x.2) = true then (f (Tx.aft [58] (Tx.bare x.2))).map fun y => ((x.1, y.1), y.2) else none
  else (f l).map fun y => (([], y.1), y.2)
def tru : List UInt8 := [116, 114, 117, 101]
def fal : List UInt8 := [102, 97, 108, 115, 101]
def nul : List UInt8 := [110, 117, 108, 108]
def leaf (s : List UInt8) : Option (V × List UInt8) :=
  if Tx.pre tru s = true then some (.word, s.drop 4) else if Tx.pre fal s = true then some (.word, s.drop 5) else if Tx.pre nul s = true then some (.word, s.drop 4)
  else if Tx.at_ s 0 = 34 then (str s).map fun x => (.txt x.1, x.2)
  else if Tx.num false s = 0 then none else some (.num (s.take (Tx.num false s)), s.drop (Tx.num false s))
def rd : Nat → List UInt8 → Option (V × List UInt8)
  | 0, l => if Tx.at_ (Tx.bare l) 0 = 91 ∨ Tx.at_ (Tx.bare l) 0 = 123 then none else leaf (Tx.bare l)
  | d + 1, l => if Tx.at_ (Tx.bare l) 0 = 91 then (list0 91 93 (mem false (rd d)) l).map fun x => (.lst (ofM x.1), x.2)
    else if Tx.at_ (Tx.bare l) 0 = 123 then (list0 123 125 (mem true (rd d)) l).map fun x => (.obj (ofM x.1), x.2)
    else leaf (Tx.bare l)
def pt (l : List UInt8) (o : Bool) : Res Pnt :=
  if Tx.pre [91] (Tx.bare l) = true then
    (Wt.coord false (Tx.aft [91] (Tx.bare l)) o).bind fun x => if Tx.pre [44] (Tx.bare x.2.1) = true then
      (Wt.coord false (Tx.aft [44] (Tx.bare x.2.1)) x.2.2).bind fun y => if Tx.pre [93] (Tx.bare y.2.1) = true then some ((x.1, y.1), Tx.aft [93] (Tx.bare y.2.1), y.2.2) else none
    else none
  else none
def ring := list 91 93 pt
def poly := list 91 93 ring
def polys := list 91 93 poly
inductive M where
  | type
  | coords (m : Mult)
  | other
def typeN : List Int := [116, 121, 112, 101]
def typeT : List Int := [77, 117, 108, 116, 105, 80, 111, 108, 121, 103, 111, 110]
def listN : List Int := [99, 111, 111, 114, 100, 105, 110, 97, 116, 101, 115]
def memV (n : List Int) (l : List UInt8) (o : Bool) : Res M :=
  if n = typeN then (str (Tx.bare l)).bind fun y => if y.1 = typeT then some (.type, y.2, o) else none
  else if n = listN then (polys l o).map fun y => (.coords y.1, y.2)
  else (rd 16 l).map fun y => (.other, y.2, o)
def memS (l : List UInt8) (o : Bool) : Res M :=
  (str (Tx.bare l)).bind fun x => if Tx.pre [58] (Tx.bare x.2) = true then memV x.1 (Tx.aft [58] (Tx.bare x.2)) o else none
def M.isT : M → Bool
  | .type => true
  | _ => false
def M.co : M → Option Mult
  | .coords m => some m
  | _ => none
def types (r : List M) : Nat := (r.filter M.isT).length
def places (r : List M) : List Mult := r.filterMap M.co
def fit (r : List M) : Bool := types r == 1 && (places r).length == 1
def last (r : List M) : Mult := (places r).getLast?.getD []
def set (l : List UInt8) : Res Mult := (list 123 125 memS l false).bind fun x => if fit x.1 = true then some (last x.1, x.2) else none
def err (l : List UInt8) : Int := match set l with
  | none => 3
  | some x => Tx.fin (Tx.bare x.2.1) false x.2.2
def got (l : List UInt8) : Mult := match set l with
  | none => []
  | some x => x.1
end Js
end Go.Proofs.YtcclepohmhdpbabGreatDoor

namespace Go.Proofs.YtcclepohmhdpbabGreatDoor
set_option linter.all false
open Go.RowKit Go.Deep
namespace Js
open Bn (Res)
def mapV {β : Type} (c : V → Bool → Option (β × Bool)) : V → Bool → Option (List β × Bool)
  | .nil, o => some ([], o)
  | .cons _ v r, o => (c v o).bind fun y => (mapV c r y.2).map fun z => (y.1 :: z.1, z.2)
  | _, _ => none
def cList {β : Type} (c : V → Bool → Option (β × Bool)) : V → Bool → Option (List β × Bool)
  | .lst m, o => mapV c m o
  | _, _ => none
def cNum : V → Bool → Option (Int × Bool)
  | .num s, o => some (Wt.cv s, o || (Du.units s).isNone)
  | _, _ => none
def cPt : V → Bool → Option (Pnt × Bool)
  | .lst (.cons _ a (.cons _ b .nil)), o => (cNum a o).bind fun x => (cNum b x.2).map fun y => ((x.1, y.1), y.2)
  | _, _ => none
def cRing := cList cPt
def cPoly := cList cRing
def cPolys := cList cPoly
theorem pre1 (c : UInt8) (l : List UInt8) : (Tx.pre [c] l = true) ↔ Tx.at_ l 0 = c.toNat := by
  cases l with
  | nil => simp [Tx.pre, Tx.at_]
  | cons a r => rw [Tx.pre_cons, Tx.at_zero]; simp
theorem num_first {l : List UInt8} (h : Tx.num false l ≠ 0) : Tx.at_ l 0 = 45 ∨ (48 ≤ Tx.at_ l 0 ∧ Tx.at_ l 0 ≤ 57) := by
  by_cases h0 : Tx.at_ l 0 = 45
  · exact .inl h0
  · refine .inr ?_
    have hs : Tx.sgn false l 0 = 0 := by simp [Tx.sgn, h0]
    unfold Tx.num Tx.num1 at h
    rw [hs, List.drop_zero] at h
    cases l with
    | nil => simp [Tx.lead] at h
    | cons a r =>
      rw [Tx.at_zero]
      cases hd : Tx.digit a.toNat
      · rw [Tx.lead_cons, hd] at h
        simp at h
      · simpa [Tx.digit] using hd
theorem word_first {c : UInt8} {k l : List UInt8} (h : Tx.pre (c :: k) l = true) : Tx.at_ l 0 = c.toNat := by
  unfold Tx.pre at h
  cases l with
  | nil => simp at h
  | cons a r =>
    simp at h
    rw [Tx.at_zero, h.1]
theorem coord_bare (p : Bool) (l : List UInt8) (o : Bool) : Wt.coord p (Tx.bare l) o = Wt.coord p l o := by unfold Wt.coord; rw [Tx.bare_bare]
end Js
end Go.Proofs.YtcclepohmhdpbabGreatDoor

namespace Go.Proofs.YtcclepohmhdpbabGreatDoor
set_option linter.all false
open Go.RowKit Go.Deep
namespace Js
open Bn (Res)
def isTT : V → Bool
  | .txt c => decide (c = typeT)
  | _ => false
theorem leaf_txt {s : List UInt8} (h : Tx.at_ s 0 = 34) : leaf s = (str s).map fun x => (.txt x.1, x.2) := by
  have w : ∀ (c : UInt8) (k : List UInt8), (c.toNat : Int) ≠ 34 → Tx.pre (c :: k) s = false := by
    intro c k h2
    cases hp : Tx.pre (c :: k) s
    · rfl
    · have := word_first hp; omega
  have w1 : Tx.pre tru s = false := w 116 _ (by decide)
  have w2 : Tx.pre fal s = false := w 102 _ (by decide)
  have w3 : Tx.pre nul s = false := w 110 _ (by decide)
  unfold leaf
  rw [w1, w2, w3]
  simp only [Bool.false_eq_true, if_false]
  rw [if_pos h]
def named (n : List Int) (ms : List (List Int × V)) : List V := (ms.filter fun x => decide (x.1 = n)).map Prod.snd
def good (ms : List (List Int × V)) : Bool := ms.all fun x => if x.1 = typeN then isTT x.2 else if x.1 = listN then true else decide (x.2.deep ≤ 16)
theorem listN_ne : listN ≠ typeN := by decide
def answer (ms : List (List Int × V)) : Option (Mult × Bool) :=
  if (named typeN ms).length = 1 ∧ (named listN ms).length = 1 ∧ good ms = true then (match named listN ms with
    | v :: _ => cPolys v false
    | [] => none) else none
end Js
end Go.Proofs.YtcclepohmhdpbabGreatDoor

namespace Go.Proofs.YtcclepohmhdpbabGreatDoor
set_option linter.all false
open Go.RowKit Go.Deep
namespace Wt
open Bn (Res)
def name : List UInt8 := [77, 85, 76, 84, 73, 80, 79, 76, 89, 71, 79, 78]
def empty : List UInt8 := [69, 77, 80, 84, 89]
theorem polys_bare (l : List UInt8) (o : Bool) : polys (Tx.bare l) o = polys l o := by unfold polys list; rw [Tx.bare_bare]
def rest (r : List UInt8) : Res Mult := if (Tx.pre empty (Tx.bare r) && gap r) = true then some ([], Tx.aft empty (Tx.bare r), false) else polys r false
def set (l : List UInt8) : Res Mult := if Tx.pre name (Tx.bare l) = true then rest (Tx.aft name (Tx.bare l)) else none
def err (l : List UInt8) : Int := match set l with
  | none => 3
  | some x => Tx.fin (Tx.bare x.2.1) false x.2.2
def got (l : List UInt8) : Mult := match set l with
  | none => []
  | some x => x.1
theorem err_of {l t : List UInt8} {m : Mult} {bad o : Bool} (h : set l = if bad = true then none else some (m, t, o)) : err l = Tx.fin (Tx.bare t) bad o := by
  unfold err
  rw [h]
  cases bad
  · rfl
  · simp [Tx.fin]
theorem got_of {l t : List UInt8} {m : Mult} {bad o : Bool} (h : set l = if bad = true then none else some (m, t, o)) (hb : bad = false) : got l = m := by
  unfold got
  rw [h, hb]
  rfl
theorem fin_bad {t : List UInt8} {bad o : Bool} (h : Tx.fin t bad o = 0) : bad = false := by
  cases bad
  · rfl
  · simp [Tx.fin] at h
theorem got_ok {l : List UInt8} (hl : l.length ≤ 6000) : Bn.okM (got l) := by
  unfold got
  cases h : set l with
  | none => exact ⟨by simp, by simp⟩
  | some x =>
    unfold set at h
    split at h
    · unfold rest at h
      have hle : (Tx.aft name (Tx.bare l)).length ≤ 6000 := Nat.le_trans (Nat.le_trans (Tx.aft_le _ _) (Tx.bare_le l)) hl
      split at h
      · have := Option.some.inj h
        rw [← this]
        exact ⟨by simp, by simp⟩
      · exact (polys_lt h).2 hle
    · cases h
end Wt
end Go.Proofs.YtcclepohmhdpbabGreatDoor

namespace Go.Proofs.YtcclepohmhdpbabGreatDoor
set_option linter.all false
open Go.RowKit Go.Deep
namespace Js
open Bn (Res)
def pre0 {α : Type} (acc : List α) (x : Option (List α × List UInt8)) : Option (List α × List UInt8) := x.map fun y => (acc ++ y.1, y.2)
theorem pre0_nil {α : Type} (x : Option (List α × List UInt8)) : pre0 [] x = x := by cases x <;> simp [pre0]
theorem go_on {α : Type} {e : UInt8} {f : List UInt8 → Bool → Res α} {T : Res (List α)} {acc : List α} {k : Nat} {l t : List UInt8} {o o' bad b : Bool} {a : α} (hT : T = if bad = true then none else Bn.pre acc (items e f (k + 1) l o)) (hf : (if bad = true then none else f l o) = if b = true then none else some (a, t, o')) :
    ((!b && Tx.pre [44] (Tx.bare t)) = true → T = Bn.pre (acc ++ [a]) (items e f k (Tx.aft [44] (Tx.bare t)) o')) ∧ ((!b && Tx.pre [44] (Tx.bare t)) = false → T = if (b || !Tx.pre [e] (Tx.bare t)) = true then none else some (acc ++ [a], Tx.aft [e] (Tx.bare t), o')) := by
  cases bad
  · simp only [Bool.false_eq_true, if_false] at hT hf
    cases b
    · simp only [Bool.false_eq_true, if_false] at hf
      constructor
      · intro h
        simp at h
        rw [hT]
        simp only [items, hf, Option.bind_some, h, if_true, Bn.pre, Option.map_map]
        congr 1
        funext y
        simp
      · intro h
        simp at h
        rw [hT]
        simp only [items, hf, Option.bind_some, h, Bool.false_eq_true, if_false, Bool.false_or]
        cases h2 : Tx.pre [e] (Tx.bare t)
        · simp [Bn.pre]
        · simp [Bn.pre]
    · simp at hf
      constructor
      · intro h; simp at h
      · intro _
        rw [hT]
        simp [items, hf, Bn.pre]
  · simp only [if_true] at hT hf
    cases b
    · simp at hf
    · constructor
      · intro h; simp at h
      · intro _; rw [hT]; simp
theorem go_on0 {α : Type} {e : UInt8} {f : List UInt8 → Option (α × List UInt8)} {T : Option (List α × List UInt8)} {acc : List α} {k : Nat} {l t : List UInt8} {bad b : Bool} {a : α} (hT : T = if bad = true then none else pre0 acc (items0 e f (k + 1) l)) (hf : (if bad = true then none else f l) = if b = true then none else some (a, t)) :
    ((!b && Tx.pre [44] (Tx.bare t)) = true → T = pre0 (acc ++ [a]) (items0 e f k (Tx.aft [44] (Tx.bare t)))) ∧ ((!b && Tx.pre [44] (Tx.bare t)) = false → T = if (b || !Tx.pre [e] (Tx.bare t)) = true then none else some (acc ++ [a], Tx.aft [e] (Tx.bare t))) := by
  cases bad
  · simp only [Bool.false_eq_true, if_false] at hT hf
    cases b
    · simp only [Bool.false_eq_true, if_false] at hf
      constructor
      · intro h
        simp at h
        rw [hT]
        simp only [items0, hf, Option.bind_some, h, if_true, pre0, Option.map_map]
        congr 1
        funext y
        simp
      · intro h
        simp at h
        rw [hT]
        simp only [items0, hf, Option.bind_some, h, Bool.false_eq_true, if_false, Bool.false_or]
        cases h2 : Tx.pre [e] (Tx.bare t)
        · simp [pre0]
        · simp [pre0]
    · simp at hf
      constructor
      · intro h; simp at h
      · intro _
        rw [hT]
        simp [items0, hf, pre0]
  · simp only [if_true] at hT hf
    cases b
    · simp at hf
    · constructor
      · intro h; simp at h
      · intro _; rw [hT]; simp
theorem code_lt : ∀ (k : Nat) (v : Int) (l : List UInt8) (x : Int) (t : List UInt8), code k v l = some (x, t) → t.length ≤ l.length
  | 0, v, l, x, t, h => by cases h; exact Nat.le_refl _
  | k + 1, v, l, x, t, h => by
    simp only [code, Option.bind_eq_some_iff] at h
    obtain ⟨d, -, h⟩ := h
    have := code_lt k _ _ _ _ h
    rw [List.length_drop] at this
    omega
theorem esc_lt {l : List UInt8} {x : Int} {t : List UInt8} (h : esc l = some (x, t)) : t.length ≤ l.length := by
  unfold esc at h
  split at h
  · have := code_lt _ _ _ _ _ h
    rw [List.length_drop] at this
    omega
  · simp only [Option.map_eq_some_iff] at h
    obtain ⟨d, -, h⟩ := h
    cases h
    simp
theorem len_of_at {l : List UInt8} (h : Tx.at_ l 0 ≠ -1) : (l.drop 1).length + 1 = l.length := by
  have := Tx.lt_of_at h
  rw [List.length_drop]; omega
theorem chr_lt {l : List UInt8} {x : Int} {t : List UInt8} (h : chr l = some (x, t)) : t.length + 1 ≤ l.length := by
  unfold chr at h
  split at h
  · rename_i h0
    have h1 := len_of_at (l := l) (by omega)
    have := esc_lt h
    omega
  · split at h
    · rename_i h0
      cases h
      have h1 := len_of_at (l := l) (by omega)
      omega
    · cases h
theorem body_lt : ∀ (k : Nat) (l : List UInt8) (c : List Int) (t : List UInt8), body k l = some (c, t) → t.length + 1 + c.length ≤ l.length
  | 0, l, c, t, h => by cases h
  | k + 1, l, c, t, h => by
    simp only [body] at h
    split at h
    · rename_i h0
      cases h
      have h1 := len_of_at (l := l) (by omega)
      simp at h1 ⊢; omega
    · simp only [Option.bind_eq_some_iff, Option.map_eq_some_iff] at h
      obtain ⟨⟨v, s⟩, h1, ⟨c2, t2⟩, h2, h3⟩ := h
      cases h3
      try dsimp only at *
      have h4 := chr_lt h1
      have h5 := body_lt k s _ _ h2
      simp at h5 ⊢; omega
theorem str_lt {l : List UInt8} {c : List Int} {t : List UInt8} (h : str l = some (c, t)) : t.length + 2 + c.length ≤ l.length := by
  unfold str at h
  split at h
  · rename_i h0
    have h1 := len_of_at (l := l) (by omega)
    have := body_lt _ _ _ _ h
    omega
  · cases h
theorem items0_lt {α : Type} {e : UInt8} {f : List UInt8 → Option (α × List UInt8)} (hf : ∀ l a t, f l = some (a, t) → t.length + 1 ≤ l.length) :
    ∀ (k : Nat) (l : List UInt8) (r : List α) (t : List UInt8), items0 e f k l = some (r, t) → t.length + 1 + r.length ≤ l.length
  | 0, l, r, t, h => by cases h
  | k + 1, l, r, t, h => by
    simp only [items0, Option.bind_eq_some_iff] at h
    obtain ⟨⟨a, s⟩, h1, h⟩ := h
    have h2 := hf _ _ _ h1
    have hb := Tx.bare_le s
    simp only at h
    split at h
    · rename_i hc
      simp only [Option.map_eq_some_iff] at h
      obtain ⟨⟨r2, t2⟩, h3, h4⟩ := h
      cases h4
      try dsimp only at *
      have h5 := items0_lt hf k _ _ _ h3
      have h6 := Wt.aft_len hc
      simp; omega
    · split at h
      · rename_i hc
        cases h
        have h6 := Wt.aft_len hc
        simp; omega
      · cases h
theorem list0_lt {α : Type} {b e : UInt8} {f : List UInt8 → Option (α × List UInt8)} (hf : ∀ l a t, f l = some (a, t) → t.length + 1 ≤ l.length) {l : List UInt8} {r : List α} {t : List UInt8} (h : list0 b e f l = some (r, t)) : t.length + 2 + r.length ≤ l.length := by
  unfold list0 at h
  have hb := Tx.bare_le l
  split at h
  · rename_i hc
    have h1 := Wt.aft_len hc
    have h2 := Tx.bare_le (Tx.aft [b] (Tx.bare l))
    split at h
    · rename_i he
      cases h
      have h3 := Wt.aft_len he
      simp; omega
    · have := items0_lt hf _ _ _ _ h
      omega
  · cases h
theorem mem_lt {nm : Bool} {f : List UInt8 → Option (V × List UInt8)} (hf : ∀ l a t, f l = some (a, t) → t.length + 1 ≤ l.length) (l : List UInt8) (x : List Int × V) (t : List UInt8) (h : mem nm f l = some (x, t)) : t.length + 1 ≤ l.length := by
  unfold mem at h
  split at h
  · simp only [Option.bind_eq_some_iff] at h
    obtain ⟨⟨c, s⟩, h1, h⟩ := h
    have h2 := str_lt h1
    have h3 := Tx.bare_le l
    have h4 := Tx.bare_le s
    simp only at h
    split at h
    · rename_i hc
      have h5 := Wt.aft_len hc
      simp only [Option.map_eq_some_iff] at h
      obtain ⟨⟨v, s2⟩, h6, h7⟩ := h
      cases h7
      try dsimp only at *
      have := hf _ _ _ h6
      omega
    · cases h
  · simp only [Option.map_eq_some_iff] at h
    obtain ⟨⟨v, s2⟩, h6, h7⟩ := h
    cases h7
    try dsimp only at *
    exact hf _ _ _ h6
theorem pre_len {k l : List UInt8} (h : Tx.pre k l = true) : k.length ≤ l.length := by
  unfold Tx.pre at h
  have := congrArg List.length (beq_iff_eq.1 h)
  rw [List.length_take] at this
  omega
theorem leaf_lt {s : List UInt8} {v : V} {t : List UInt8} (h : leaf s = some (v, t)) : t.length + 1 ≤ s.length := by
  unfold leaf at h
  split at h
  · rename_i h0
    have := pre_len h0
    cases h; simp [tru] at this ⊢; omega
  · split at h
    · rename_i h0
      have := pre_len h0
      cases h; simp [fal] at this ⊢; omega
    · split at h
      · rename_i h0
        have := pre_len h0
        cases h; simp [nul] at this ⊢; omega
      · split at h
        · simp only [Option.map_eq_some_iff] at h
          obtain ⟨⟨c, s2⟩, h1, h2⟩ := h
          cases h2
          try dsimp only at *
          have := str_lt h1
          omega
        · split at h
          · cases h
          · rename_i h0
            cases h
            have := Tx.num_le false s
            rw [List.length_drop]; omega
theorem rd_lt : ∀ (d : Nat) (l : List UInt8) (v : V) (t : List UInt8), rd d l = some (v, t) → t.length + 1 ≤ l.length
  | 0, l, v, t, h => by
    simp only [rd] at h
    have hb := Tx.bare_le l
    split at h
    · cases h
    · have := leaf_lt h; omega
  | d + 1, l, v, t, h => by
    have ih := rd_lt d
    simp only [rd] at h
    have hb := Tx.bare_le l
    split at h
    · simp only [Option.map_eq_some_iff] at h
      obtain ⟨⟨r, s⟩, h1, h2⟩ := h
      cases h2
      try dsimp only at *
      have := list0_lt (mem_lt ih) h1
      omega
    · split at h
      · simp only [Option.map_eq_some_iff] at h
        obtain ⟨⟨r, s⟩, h1, h2⟩ := h
        cases h2
        try dsimp only at *
        have := list0_lt (mem_lt ih) h1
        omega
      · have := leaf_lt h; omega
theorem items_lt {α : Type} {e : UInt8} {f : List UInt8 → Bool → Res α} {Q : α → Prop} (hf : ∀ l o a t o', f l o = some (a, t, o') → t.length + 1 ≤ l.length ∧ (l.length ≤ 6000 → Q a)) :
    ∀ (k : Nat) (l : List UInt8) (o : Bool) (r : List α) (t : List UInt8) (o' : Bool), items e f k l o = some (r, t, o') → t.length + 1 + r.length ≤ l.length ∧ (l.length ≤ 6000 → ∀ a ∈ r, Q a)
  | 0, l, o, r, t, o', h => by cases h
  | k + 1, l, o, r, t, o', h => by
    simp only [items, Option.bind_eq_some_iff] at h
    obtain ⟨⟨a, s, o1⟩, h1, h⟩ := h
    have h2 := hf _ _ _ _ _ h1
    have hb := Tx.bare_le s
    simp only at h
    split at h
    · rename_i hc
      simp only [Option.map_eq_some_iff] at h
      obtain ⟨⟨r2, t2, o2⟩, h3, h4⟩ := h
      cases h4
      try dsimp only at *
      have h5 := items_lt hf k _ _ _ _ _ h3
      have h6 := Wt.aft_len hc
      refine ⟨by simp; omega, fun hl b hb' => ?_⟩
      rcases List.mem_cons.1 hb' with rfl | hb'
      · exact h2.2 hl
      · exact h5.2 (by omega) b hb'
    · split at h
      · rename_i hc
        cases h
        have h6 := Wt.aft_len hc
        refine ⟨by simp; omega, fun hl b hb' => ?_⟩
        simp at hb'
        rw [hb']
        exact h2.2 hl
      · cases h
theorem list_lt {α : Type} {b e : UInt8} {f : List UInt8 → Bool → Res α} {Q : α → Prop} (hf : ∀ l o a t o', f l o = some (a, t, o') → t.length + 1 ≤ l.length ∧ (l.length ≤ 6000 → Q a)) {l t : List UInt8} {o o' : Bool} {r : List α} (h : list b e f l o = some (r, t, o')) : t.length + 1 ≤ l.length ∧ (l.length ≤ 6000 → r.length ≤ 6000 ∧ ∀ a ∈ r, Q a) := by
  unfold list at h
  have hb := Tx.bare_le l
  split at h
  · rename_i hc
    have h1 := Wt.aft_len hc
    have h2 := Tx.bare_le (Tx.aft [b] (Tx.bare l))
    split at h
    · rename_i he
      cases h
      have h3 := Wt.aft_len he
      exact ⟨by omega, fun _ => ⟨by simp, by simp⟩⟩
    · have := items_lt hf _ _ _ _ _ _ h
      exact ⟨by omega, fun hl => ⟨by omega, this.2 (by omega)⟩⟩
  · cases h
theorem coord_cv {p : Bool} {l t : List UInt8} {o o' : Bool} {x : Int} (h : Wt.coord p l o = some (x, t, o')) : -32768 ≤ x ∧ x ≤ 32768 := by
  unfold Wt.coord at h
  split at h
  · cases h
  · have := Option.some.inj h; simp only [Prod.mk.injEq] at this; rw [← this.1]; exact Wt.cv_le _
theorem pt_lt {l t : List UInt8} {o o' : Bool} {a : Pnt} (h : pt l o = some (a, t, o')) : t.length + 1 ≤ l.length ∧ (l.length ≤ 6000 → (-32768 ≤ a.1 ∧ a.1 ≤ 32768) ∧ -32768 ≤ a.2 ∧ a.2 ≤ 32768) := by
  unfold pt at h
  have hb := Tx.bare_le l
  split at h
  · rename_i hc
    have h1 := Wt.aft_len hc
    simp only [Option.bind_eq_some_iff] at h
    obtain ⟨⟨x, l1, o1⟩, hx, h⟩ := h
    have h2 := Wt.coord_lt hx
    have hb1 := Tx.bare_le l1
    simp only at h
    split at h
    · rename_i hc2
      have h3 := Wt.aft_len hc2
      simp only [Option.bind_eq_some_iff] at h
      obtain ⟨⟨y, l2, o2⟩, hy, h⟩ := h
      have h4 := Wt.coord_lt hy
      have hb2 := Tx.bare_le l2
      simp only at h
      split at h
      · rename_i hc3
        have h5 := Wt.aft_len hc3
        cases h
        exact ⟨by omega, fun _ => ⟨coord_cv hx, coord_cv hy⟩⟩
      · cases h
    · cases h
  · cases h
theorem ring_lt {l t : List UInt8} {o o' : Bool} {r : Ring} (h : ring l o = some (r, t, o')) : t.length + 1 ≤ l.length ∧ (l.length ≤ 6000 → Bn.okR r) := list_lt (fun _ _ _ _ _ h => pt_lt h) h
theorem poly_lt {l t : List UInt8} {o o' : Bool} {r : Poly} (h : poly l o = some (r, t, o')) : t.length + 1 ≤ l.length ∧ (l.length ≤ 6000 → Bn.okL r) := list_lt (fun _ _ _ _ _ h => ring_lt h) h
theorem polys_lt {l t : List UInt8} {o o' : Bool} {r : Mult} (h : polys l o = some (r, t, o')) : t.length + 1 ≤ l.length ∧ (l.length ≤ 6000 → Bn.okM r) := list_lt (fun _ _ _ _ _ h => poly_lt h) h
def okE : M → Prop
  | .coords m => Bn.okM m
  | _ => True
theorem memV_lt {n : List Int} {l t : List UInt8} {o o' : Bool} {a : M} (h : memV n l o = some (a, t, o')) : t.length + 1 ≤ l.length ∧ (l.length ≤ 6000 → okE a) := by
  unfold memV at h
  have hb := Tx.bare_le l
  split at h
  · simp only [Option.bind_eq_some_iff] at h
    obtain ⟨⟨c, s⟩, h1, h⟩ := h
    have := str_lt h1
    simp only at h
    split at h
    · cases h; exact ⟨by omega, fun _ => trivial⟩
    · cases h
  · split at h
    · simp only [Option.map_eq_some_iff] at h
      obtain ⟨⟨m, s, o2⟩, h1, h2⟩ := h
      cases h2
      try dsimp only at *
      exact polys_lt h1
    · simp only [Option.map_eq_some_iff] at h
      obtain ⟨⟨m, s⟩, h1, h2⟩ := h
      cases h2
      try dsimp only at *
      exact ⟨rd_lt _ _ _ _ h1, fun _ => trivial⟩
theorem memS_lt (l : List UInt8) (o : Bool) (a : M) (t : List UInt8) (o' : Bool) (h : memS l o = some (a, t, o')) : t.length + 1 ≤ l.length ∧ (l.length ≤ 6000 → okE a) := by
  unfold memS at h
  have hb := Tx.bare_le l
  simp only [Option.bind_eq_some_iff] at h
  obtain ⟨⟨c, s⟩, h1, h⟩ := h
  have h2 := str_lt h1
  have h3 := Tx.bare_le s
  simp only at h
  split at h
  · rename_i hc
    have h5 := Wt.aft_len hc
    have := memV_lt h
    exact ⟨by omega, fun hl => this.2 (by omega)⟩
  · cases h
theorem last_ok {r : List M} (h : ∀ a ∈ r, okE a) : Bn.okM (last r) := by
  unfold last
  cases hp : (places r).getLast? with
  | none => exact ⟨by simp, by simp⟩
  | some m =>
    have := List.mem_of_getLast? hp
    unfold places at this
    rw [List.mem_filterMap] at this
    obtain ⟨a, ha, hm⟩ := this
    have h2 := h a ha
    cases a with
    | coords m' => cases hm; exact h2
    | type => cases hm
    | other => cases hm
theorem got_ok {l : List UInt8} (hl : l.length ≤ 6000) : Bn.okM (got l) := by
  unfold got
  cases h : set l with
  | none => exact ⟨by simp, by simp⟩
  | some x =>
    unfold set at h
    simp only [Option.bind_eq_some_iff] at h
    obtain ⟨⟨r, t, o⟩, h1, h2⟩ := h
    simp only at h2
    split at h2
    · cases h2
      exact last_ok ((list_lt memS_lt h1).2 hl).2
    · cases h2
theorem err_of {l t : List UInt8} {m : Mult} {bad o : Bool} (h : set l = if bad = true then none else some (m, t, o)) : err l = Tx.fin (Tx.bare t) bad o := by
  unfold err
  rw [h]
  cases bad
  · rfl
  · simp [Tx.fin]
theorem got_of {l t : List UInt8} {m : Mult} {bad o : Bool} (h : set l = if bad = true then none else some (m, t, o)) (hb : bad = false) : got l = m := by
  unfold got
  rw [h, hb]
  rfl
end Js
end Go.Proofs.YtcclepohmhdpbabGreatDoor

namespace Go.Proofs.YtcclepohmhdpbabGreatDoor
set_option linter.all false
open Go.RowKit Go.Deep
set_option maxHeartbeats 4000000 in
theorem split_nil (w : World) :
    Calls Tryz.prog 165 #[.string (bs [])] w fun e w' => e = .returned (.agg #[.bool false, .string (bs []), .int .i64 0]) ∧ Up w w' := by
  obtain ⟨e0, e1, e2, e3, e4, e5⟩ := bs_tells []
  clear e1 e4 e5
  go_enter Tryz.func165, Tryz.ntmps165
  go_wp2_with (first
    | (go_at_call 155; refine (signLength_any [] _ (by simp)).mono ?_; rintro e w' ⟨j, rfl, rfl, hj, hle⟩; obtain rfl : j = 0 := hj.out.trans rfl; clear hj hle)
    | (go_at_call 156; refine (digitsLength_let [] _ (by simp)).mono ?_; rintro e w' ⟨j, rfl, rfl, hj, hle⟩; obtain rfl : j = 0 := hj.out.trans rfl; clear hj hle))
  refine ret_split rfl rfl (vrow_new1 _ _ _ _ _ _) ⟨rfl, ((Up.refl _).alloc _).alloc _⟩
theorem unitsNil (w : World) :
    Calls Tryz.prog 164 #[.string (bs [])] w fun e w' => e = .returned (.tuple #[.int .i64 0, .bool true]) ∧ Up w w' :=
  Units_any [] [] false 0 w (fun w => split_nil w) (fun c hc => by cases hc) (by simp) (by omega) (by omega)
def PCooPost (l : List UInt8) (bad off : Bool) (rb : Nat) (w : World) (e : Ending) (w' : World) : Prop :=
  ∃ (x : Int) (l' : List UInt8) (bad' off' : Bool), e = .returned (.int .i64 x) ∧ RT w' rb l' bad' off' ∧ Fr (· = rb) w w' ∧ (if bad = true then none else Wt.coord true l off) = (if bad' = true then none else some (x, l', off')) ∧ l'.length ≤ l.length
set_option maxRecDepth 100000 in
set_option maxHeartbeats 2000000 in
theorem pnumber_any (l : List UInt8) (hb : Tx.bare l = l) (bad off : Bool) (rb : Nat) (w : World) (hr : RT w rb l bad off) (hl : l.length ≤ 6000) :
    Calls Tryz.prog 161 #[.pointer (some ⟨rb, 0, none⟩)] w (PCooPost l bad off rb w) := by
  obtain ⟨n, hn⟩ : ∃ n, n = Tx.num true l := ⟨_, rfl⟩
  have hnl : n ≤ l.length := by rw [hn]; exact Tx.num_le true l
  have HN := hide hn
  have HBB := hide hb
  have c0 := hr.c0
  have HR := hide hr
  clear hn hr hb
  have hcoo : ∀ (w : World), RT w rb l bad off → Calls Tryz.prog 163 #[.pointer (some ⟨rb, 0, none⟩), .int .i64 n] w (PCooPost l bad off rb w) := by
    intro w hr
    have HR := hide hr
    clear hr
    by_cases h0 : n = 0
    · subst h0
      have HE := hide (Wt.coord_none (p := true) (l := l) (o := off) (by rw [HBB.out, ← HN.out]))
      go_enter Tryz.func163, Tryz.ntmps163
      go_wp2_with fail
      refine (number_bad l bad off rb _ HR.out).mono ?_
      rintro e w1 ⟨rfl, h1, u1⟩
      replace h1 := hide h1
      replace u1 := hide u1
      go_wp2_with fail
      refine (unitsNil _).mono ?_
      rintro e w2 ⟨rfl, u2⟩
      replace u2 := hide u2
      go_wp2
      go_ret
      exact ⟨0, l, true, off, rfl, VRow.of_block h1.out (u2.out.block _ (VRow.lt h1.out)), u1.out.trans (Fr.of_up u2.out), by cases bad <;> simp [HE.out], Nat.le_refl _⟩
    · have HE := hide (Wt.coord_some (p := true) (l := l) (o := off) (by rw [HBB.out, ← HN.out]; exact h0))
      rw [HBB.out, ← HN.out] at HE
      have HSh : Hid (Du.Shape (l.take n)) := by
        rw [HN.out]
        exact Du.num_shape (by rw [← HN.out]; omega)
      have hsl : (l.take n).length ≤ 6000 := by rw [List.length_take]; omega
      have HUV := hide (Wt.unitsV_eq (l.take n))
      obtain ⟨x, hx⟩ : ∃ x, x = Wt.cv (l.take n) := ⟨_, rfl⟩
      obtain ⟨ok, hok⟩ : ∃ ok, ok = (Du.units (l.take n)).isNone := ⟨_, rfl⟩
      rw [← hx, ← hok] at HUV HE
      have hpos : 0 < n := by omega
      clear hx hok h0
      cases ok
      · go_enter Tryz.func163, Tryz.ntmps163
        go_wp2_with fail
        refine (number_ok l n bad off rb _ HR.out hl hpos hnl).mono ?_
        rintro e w1 ⟨rfl, h1, u1⟩
        replace h1 := hide h1
        replace u1 := hide u1
        go_wp2_with fail
        refine (pUnits_any _ HSh.out hsl _).mono ?_
        rintro e w2 ⟨rfl, u2⟩
        rw [HUV.out]
        replace u2 := hide u2
        go_wp2
        go_ret
        exact ⟨x, l.drop n, bad, off, rfl, VRow.of_block h1.out (u2.out.block _ (VRow.lt h1.out)), u1.out.trans (Fr.of_up u2.out), by cases bad <;> simp [HE.out], by simp⟩
      · go_enter Tryz.func163, Tryz.ntmps163
        go_wp2_with fail
        refine (number_ok l n bad off rb _ HR.out hl hpos hnl).mono ?_
        rintro e w1 ⟨rfl, h1, u1⟩
        replace h1 := hide h1
        replace u1 := hide u1
        go_wp2_with fail
        refine (pUnits_any _ HSh.out hsl _).mono ?_
        rintro e w2 ⟨rfl, u2⟩
        rw [HUV.out]
        have h2 : RT w2 rb (l.drop n) bad off := VRow.of_block h1.out (u2.block _ (VRow.lt h1.out))
        obtain ⟨-, -, d2, -, -, g2⟩ := h2.facts
        replace h2 := hide h2
        replace u2 := hide u2
        go_wp2
        go_ret
        exact ⟨x, l.drop n, bad, true, rfl, h2.out.off true, (u1.out.trans (Fr.of_up u2.out)).setCell (p := ⟨rb, 2, none⟩) rfl _, by cases bad <;> simp [HE.out], by simp⟩
  have HCoo := hide hcoo
  clear hcoo
  go_enter Tryz.func161, Tryz.ntmps161
  go_wp2_with fail
  refine (Length_any l _ (by omega)).mono ?_
  rintro e w1 ⟨rfl, hw⟩
  replace hw := hw.symm
  subst hw
  rw [← HN.out]
  go_wp2_with fail
  refine (HCoo.out _ HR.out).mono ?_
  rintro e w2 ⟨x, l', b', o', rfl, h⟩
  replace h := hide h
  go_wp2
  go_ret
  exact ⟨x, l', b', o', rfl, h.out⟩
end Go.Proofs.YtcclepohmhdpbabGreatDoor
