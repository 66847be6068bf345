/- Mathematics of layer 12 (block): what is read step by step. No program. -/
import Derived.Test.YtbiifeahdinjjaaBkM
import Derived.Test.YtbiifeahdinjjaaOpenE
namespace Go.Proofs.Ytbiifeahdinjjaa
open Go.RowKit Go.Proofs Go.Proofs.Pk
set_option maxRecDepth 10000

theorem rdTxt_fst (b : Txt) : (rdTxt b).1.length ≤ 1048576 := by
  unfold rdTxt
  split
  · simp
  · split
    · simp
    · split
      · simp
      · rename_i h _; unfold MaxT at h; simp; omega
theorem rdOne_len (b last : Txt) : (rdOne b last).2.1.length ≤ b.length := by
  have h1 := rdNum_len b
  have h2 := rdTxt_len (rdNum b).2.1
  have h3 := rdNum_len (rdTxt (rdNum b).2.1).2.1
  have h4 := rdNum_len (rdNum (rdTxt (rdNum b).2.1).2.1).2.1
  have h5 := rdTxt_len (rdNum (rdNum (rdTxt (rdNum b).2.1).2.1).2.1).2.1
  unfold rdOne
  repeat' split
  all_goals (simp only [List.length_nil]; omega)
theorem rdOne_key (b last : Txt) : (rdOne b last).1.1.length ≤ last.length + 1048576 := by
  have h2 := rdTxt_fst (rdNum b).2.1
  unfold rdOne zeroM
  repeat' split
  all_goals (first | (simp only [List.length_nil]; omega) | (simp only [List.length_append, List.length_take]; omega))
theorem rdOne_fit (b last : Txt) : FitN (rdOne b last).1.2.1 := by
  have h := rdNum_le (rdTxt (rdNum b).2.1).2.1
  unfold MaxN at h
  unfold rdOne zeroM FitN
  repeat' split
  all_goals (constructor <;> simp only <;> omega)
def joinO (T : List MEnt) (o : Option (List MEnt × Txt)) : Option (List MEnt × Txt) := o.map fun p => (T ++ p.1, p.2)
theorem many_step (n : Nat) (b last : Txt) (h : (rdOne b last).2.2 = true) : rdMany (n + 1) b last = joinO [(rdOne b last).1] (rdMany n (rdOne b last).2.1 (rdOne b last).1.1) := by
  rw [rdMany, if_pos h]
  unfold joinO
  cases rdMany n (rdOne b last).2.1 (rdOne b last).1.1 <;> rfl
theorem many_no (n : Nat) (b last : Txt) (h : (rdOne b last).2.2 = false) : rdMany (n + 1) b last = none := by
  rw [rdMany, if_neg (by rw [h]; simp)]
theorem joinO_join (T U : List MEnt) (o : Option (List MEnt × Txt)) : joinO T (joinO U o) = joinO (T ++ U) o := by
  cases o <;> simp [joinO]

end Go.Proofs.Ytbiifeahdinjjaa
