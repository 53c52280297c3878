import Derived.Test.YtcclepohmhdpbabGreatDoorApG
import Derived.Test.YtcclepohmhdpbabGreatDoorCnH
import Derived.Test.YtcclepohmhdpbabGreatDoorNoted
import Derived.Test.YtcclepohmhdpbabGreatDoorShelf
namespace Go.Proofs.YtcclepohmhdpbabGreatDoor
set_option linter.all false
open Go.RowKit Go.Deep
theorem ns_rd3 {base : Nat} {w : World} {G : Nat} {X : List PG} (h : NS base w G X) : Rd3 w (.slice (some ⟨G, 0, none⟩) X.length X.length) (PG.m X) := by
 refine ⟨_, _, by rw [PG.m_len], fun i l hl => ?_⟩
 unfold PG.m at hl
 rw [List.getElem?_map, Option.map_eq_some_iff] at hl
 obtain ⟨x, hx, rfl⟩ := hl
 exact ⟨G, x.v, rfl, h.row.cell (by rw [List.getElem?_map, hx]; rfl), (h.ok x (Pl.mem_of_some hx)).rc.rd⟩
def TabD (w : World) : Prop := Lib.TabIs Tryz.prog w "internal/strconv.uint64pow10" .u64 Lib.pow10Tab
theorem TabD.up {w w' : World} (h : TabD w) (k : Up w w') : TabD w' := by
  unfold TabD Lib.TabIs World.var? at *
  generalize Tryz.prog.globalNamed "internal/strconv.uint64pow10" = o at *
  cases o with
  | none => simp at h
  | some g =>
    simp only [Option.bind_some] at h ⊢
    have hg : g < w.heap.size := by
      rcases Nat.lt_or_ge g w.heap.size with e | e
      · exact e
      · rw [Array.getElem?_eq_none e] at h; simp at h
    rw [k.block g hg]
    exact h
theorem up_growD (w : World) (os : Array Obj) : Up w (Go.Sort.grow w os) :=
 ⟨rfl, rfl, rfl, by simp [Go.Sort.grow], fun b hb => by simp [Go.Sort.grow, Array.getElem?_append_left hb]⟩
theorem formatInt_any (n : Int) (h0 : -9223372036854775808 ≤ n) (h1 : n ≤ 9223372036854775807) (w : World) (ht : TabD w) :
  Calls Tryz.prog 49 #[.int .i64 n, .int .i64 10] w fun e w' => e = .returned (.string (bs (Lib.itoa n))) ∧ Up w w' :=
 (Tryz.strconv_FormatInt_10 n h0 h1 w ht).mono fun e w' ⟨h1, k, os, h2⟩ => ⟨by rw [h1]; rfl, by rw [h2]; exact ((Up.refl w).drewN k).trans (up_growD _ os)⟩
set_option maxHeartbeats 1000000 in
theorem digits_any (n : Int) (h0 : -9223372036854775808 ≤ n) (h1 : n ≤ 9223372036854775807) (w : World) (ht : TabD w) :
  Calls Tryz.prog 35 #[.int .i64 n] w fun e w' => e = .returned (.string (bs (Lib.itoa n))) ∧ Up w w' := by
 have HK := hide (formatInt_any n h0 h1 w ht)
 clear h0 h1 ht
 generalize bs (Lib.itoa n) = s at *
 go_enter Tryz.func35, Tryz.ntmps35
 go_wp2_with fail
 refine HK.out.mono ?_
 rintro e w2 ⟨rfl, hu⟩
 replace hu := hide hu
 go_wp2
 go_ret
 exact ⟨rfl, hu.out⟩
def Fit (p : Vd.Spot) : Prop := ((-9223372036854775808 ≤ p.1.1 ∧ p.1.1 ≤ 9223372036854775807) ∧ (-9223372036854775808 ≤ p.1.2 ∧ p.1.2 ≤ 9223372036854775807)) ∧ -9223372036854775808 ≤ p.2 ∧ p.2 ≤ 9223372036854775807
theorem fold_bd {p : Vd.Spot} {u : Pnt} (hp : Mp p) (hu : Bdd 65536 u) : ∀ (l : List Vd.Seg) (n : Int), (∀ s ∈ l, Vd.CdS s) → 1 ≤ n → n ≤ 17179869185 → 1 ≤ l.foldl (Vd.partF p u) n ∧ l.foldl (Vd.partF p u) n ≤ 17179869185 := by
  intro l
  induction l with
  | nil => intro n _ h1 h2; exact ⟨h1, h2⟩
  | cons s t ih =>
    intro n hl h1 h2
    have hb := partsTo_bd hp hu (hl s (by simp))
    rw [List.foldl_cons]
    refine ih _ (fun s hs => hl s (List.mem_cons_of_mem _ hs)) ?_ ?_
    · unfold Vd.partF; split <;> omega
    · unfold Vd.partF; split <;> omega
theorem near_fit {both : List Vd.Seg} {p : Vd.Spot} {u : Pnt} (hp : Mp p) (hu : Bdd 65536 u) (hc : ∀ s ∈ both, Vd.CdS s) : Fit (Vd.near both p u) := by
 obtain ⟨n1, n2⟩ := fold_bd hp hu both 1 hc (by omega) (by omega)
 unfold Vd.near Vd.nearS
 generalize both.foldl (Vd.partF p u) 1 = n at *
 obtain ⟨⟨x1, x2⟩, ⟨y1, y2⟩, t1, t2⟩ := hp
 obtain ⟨⟨u1, u2⟩, u3, u4⟩ := hu
 have m1 := mul_bd (a := p.1.1) (b := n) (A := 65536) (B := 17179869185) (by omega) (by omega) (by omega) (by omega)
 have m2 := mul_bd (a := p.1.2) (b := n) (A := 65536) (B := 17179869185) (by omega) (by omega) (by omega) (by omega)
 have m3 := mul_bd (a := p.2) (b := n) (A := 2) (B := 17179869185) (by omega) (by omega) (by omega) (by omega)
 have m4 := mul_bd (a := p.2) (b := u.1) (A := 2) (B := 65536) (by omega) (by omega) (by omega) (by omega)
 have m5 := mul_bd (a := p.2) (b := u.2) (A := 2) (B := 65536) (by omega) (by omega) (by omega) (by omega)
 unfold Fit
 simp only
 omega
theorem look_fit {o : Mult} {both : List Vd.Seg} {s : Vd.Seg} {m : Vd.Spot} (hm : Mp m) (hs : Vd.CdS s) (hc : ∀ s ∈ both, Vd.CdS s) : ∀ (l : List Vd.Seg), (∀ t ∈ l, Vd.CdS t) → ∀ p, Vd.lookL o both s m l = some p → Fit p := by
  have hmf : Fit m := by obtain ⟨⟨x1, x2⟩, ⟨y1, y2⟩, t1, t2⟩ := hm; unfold Fit; omega
  intro l
  induction l with
  | nil =>
    intro _ p h
    rw [lookL_nil] at h
    split at h
    · cases h; exact near_fit hm (right_bdd (along_bdd hs)) hc
    · cases h; exact hmf
  | cons t k ih =>
    intro hl p h
    rw [lookL_cons] at h
    split at h
    · unfold Vd.atBoth at h
      split at h
      · cases h; exact near_fit hm (along_bdd (hl t (by simp))) hc
      · split at h
        · cases h; exact near_fit hm (neg_bdd (along_bdd (hl t (by simp)))) hc
        · cases h
    · exact ih (fun t ht => hl t (List.mem_cons_of_mem _ ht)) p h
theorem bounds_fit {a b : Mult} (za : SzA a) (zb : SzA b) {p : Vd.Spot} (h : Vd.atBounds a b = some p) : Fit p := by
 unfold Vd.atBounds at h
 obtain ⟨s, hs, h⟩ := List.exists_of_findSome?_eq_some h
 obtain ⟨m, hm, h⟩ := List.exists_of_findSome?_eq_some h
 have hS := edges_cd za.cd s hs
 have hC := (za.r2 zb).cd
 exact look_fit (mids_mp hS hC m hm) hS (edges_cd hC) _ (edges_cd zb.cd) p h
theorem spot_fit {a b : Mult} (za : SzA a) (zb : SzA b) {p : Vd.Spot} (h : Vd.spot a b = some p) : Fit p := by
 unfold Vd.spot at h
 split at h
 ·rename_i q hq; cases h; exact bounds_fit za zb hq
 ·exact bounds_fit zb za h
def sepV : Option Vd.Spot → Value
 | none => .tuple #[.string ⟨#[]⟩, .string ⟨#[]⟩, .string ⟨#[]⟩, .int .i64 8]
 | some p => .tuple #[.string (bs (Lib.itoa p.1.1)), .string (bs (Lib.itoa p.1.2)), .string (bs (Lib.itoa p.2)), .int .i64 0]
end Go.Proofs.YtcclepohmhdpbabGreatDoor
