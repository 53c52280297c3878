/- THE DOCUMENT's WALKS: all. -/
import Derived.Test.YtcclepohmhdpbabRfF
namespace Go.Proofs.Ytcclepohmhdpbab
set_option linter.all false
open Go.RowKit Go.Deep

theorem midsD_two {a b : Pnt} {rings : Poly} : ∀ (n : Nat) (x : Pnt), ∀ m ∈ Vd.midsD a b rings n x, m.2 = 2 := by
  intro n
  induction n with
  | zero => intro x m h; cases h
  | succ n ih =>
    intro x m h
    unfold Vd.midsD at h
    split at h
    · cases h
    · rcases List.mem_cons.1 h with rfl | h
      · rfl
      · exact ih _ m h
theorem midsD_sp {a b : Pnt} {rings : Poly} (hb : Vd.Cd b) (hc : Vd.CdL rings) : ∀ (n : Nat) (x : Pnt), Vd.Cd x → ∀ m ∈ Vd.midsD a b rings n x, Vd.Sp m := by
  intro n
  induction n with
  | zero => intro x _ m h; cases h
  | succ n ih =>
    intro x hx m h
    unfold Vd.midsD at h
    have hn := Vd.nextD_cd (a := a) (b := b) (x := x) hb hc
    split at h
    · cases h
    · rcases List.mem_cons.1 h with rfl | h
      · unfold Vd.Cd at hx hn
        unfold Vd.Sp Vd.midOf
        simp only
        omega
      · exact ih _ hn m h
theorem midD_len (a b : Pnt) (rings : Poly) : (Vd.midD a b rings).length ≤ rings.flatten.length + 1 := by
  unfold Vd.midD
  generalize rings.flatten.length + 1 = n
  have key : ∀ (n : Nat) (x : Pnt), (Vd.midsD a b rings n x).length ≤ n := by
    intro n
    induction n with
    | zero => intro x; exact Nat.le_refl _
    | succ n ih => intro x; unfold Vd.midsD; split; exact Nat.zero_le _; simp only [List.length_cons]; have := ih (Vd.nextD a b x rings); omega
  exact key n a

end Go.Proofs.Ytcclepohmhdpbab
