/- How many writes a tape's calls leave, and how many sectors. -/
import Derived.Test.YtkhdidhpcdlmcaaTwinMany
namespace Go.Proofs.Ytkhdidhpcdlmcaa
open Go.RowKit Go.Lib MM MF DM DK TM DW DF DU TD TN TS TO TT TU
namespace TF2
theorem flushS_un (S : St) : (flushS S).un.length ≤ S.un.length := by
  unfold flushS
  split
  · split
    · exact Nat.zero_le _
    · rw [opS_un]; exact Nat.le_refl _
  · exact Nat.le_refl _
theorem mendS_un (S : St) (a : Int) : (mendS S a).un.length ≤ S.un.length + 2 := by
  have h := mendTo_un S a 2
  have h2 := flushS_un (mendTo S a 2).S
  unfold mendS
  simp only
  split
  · exact h
  · split
    · omega
    · exact h
theorem openS_un (S : St) (a : Int) : (openS S a).un.length ≤ S.un.length + 2 := by
  unfold openS
  split
  · omega
  · exact mendS_un S a
theorem fmtS_un (S : St) (a : Int) : (fmtS S a).un.length ≤ S.un.length + 2 := by
  have h1 := writeS_un S a (two zeros64)
  have h2 := writeS_un (fmt1 S a) (a + 1) (two (half 1 []))
  have h3 := flushS_un (fmt2 S a)
  have e1 : (fmt1 S a).un.length = (writeS S a (two zeros64)).un.length := rfl
  have e2 : (fmt2 S a).un.length = (writeS (fmt1 S a) (a + 1) (two (half 1 []))).un.length := rfl
  unfold fmtS
  split
  · omega
  · split
    · omega
    · split <;> omega
theorem setS_un (S : St) (a : Int) (H : List UInt8) (lost : Bool) (t : List UInt8) : (setS S a H lost t).un.length ≤ S.un.length + 1 := by
  have h1 := writeS_un S (place a (num (nextH H t))) (two (nextH H t))
  have h2 := flushS_un (writeS S (place a (num (nextH H t))) (two (nextH H t)))
  unfold setS
  split
  · omega
  · unfold stS
    split <;> omega
theorem wakeS_un (S : St) (cs : List UInt8) : (wakeS S cs).un.length ≤ S.un.length := by
  unfold wakeS
  split
  · omega
  · exact Nat.zero_le _
theorem writeS_fl (S : St) (i : Int) (l : List UInt8) : (writeS S i l).fl.length = S.fl.length := by
  unfold writeS
  split
  · rfl
  · split
    · rfl
    · split
      · show (opS S).fl.length = _
        rw [opS_fl]
      · rw [opS_fl]
theorem flushS_fl (S : St) : (flushS S).fl.length = S.fl.length := by
  unfold flushS
  split
  · split
    · exact St.now_length S
    · rw [opS_fl]
  · rfl
theorem mendTo_fl (S : St) (a : Int) : ∀ k, (mendTo S a k).S.fl.length = S.fl.length
  | 0 => rfl
  | k + 1 => by
    have ih := mendTo_fl S a k
    have hw := writeS_fl (mendTo S a k).S (a + k) (two zeros64)
    rw [mendTo]
    split
    · exact ih
    · split
      · exact ih
      · split
        · exact ih
        · split
          · exact hw.trans ih
          · exact hw.trans ih
theorem mendS_fl (S : St) (a : Int) : (mendS S a).fl.length = S.fl.length := by
  have h := mendTo_fl S a 2
  unfold mendS
  simp only
  split
  · exact h
  · split
    · exact (flushS_fl _).trans h
    · exact h
theorem openS_fl (S : St) (a : Int) : (openS S a).fl.length = S.fl.length := by
  unfold openS
  split
  · rfl
  · exact mendS_fl S a
theorem fmtS_fl (S : St) (a : Int) : (fmtS S a).fl.length = S.fl.length := by
  have h1 := writeS_fl S a (two zeros64)
  have h2 := writeS_fl (fmt1 S a) (a + 1) (two (half 1 []))
  have h3 := flushS_fl (fmt2 S a)
  have e1 : (fmt1 S a).fl.length = (writeS S a (two zeros64)).fl.length := rfl
  have e2 : (fmt2 S a).fl.length = (writeS (fmt1 S a) (a + 1) (two (half 1 []))).fl.length := rfl
  unfold fmtS
  split
  · rfl
  · split
    · omega
    · split <;> omega
theorem setS_fl (S : St) (a : Int) (H : List UInt8) (lost : Bool) (t : List UInt8) : (setS S a H lost t).fl.length = S.fl.length := by
  have h1 := writeS_fl S (place a (num (nextH H t))) (two (nextH H t))
  have h2 := flushS_fl (writeS S (place a (num (nextH H t))) (two (nextH H t)))
  unfold setS
  split
  · rfl
  · unfold stS
    split <;> omega
end TF2
end Go.Proofs.Ytkhdidhpcdlmcaa
