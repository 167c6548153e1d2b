/-
  The chapter's examples, one behind the other, in plain words.
-/
import Derived.Test.YtclokpkhkokfhaaVTexts
namespace Go.Proofs.Ytclokpkhkokfhaa.vfsNames
open Go.RowKit Go.Maps Go.Sort

def t0 : Vf.St := Vf.new 100
theorem h0 : t0.steps ≤ 1000 := by decide +kernel
def t1 : Vf.St := Vf.create t0 [97]
theorem e1 : Vf.createE t0 [97] = 0 := by decide +kernel
theorem h1 : t1.steps ≤ 1000 := by decide +kernel
def t2 : Vf.St := Vf.append t1 [97] [120, 121]
theorem e2 : Vf.appendE t1 [97] [120, 121] = 0 := by decide +kernel
theorem h2 : t2.steps ≤ 1000 := by decide +kernel
def t3 : Vf.St := Vf.syncNames t2
theorem e3 : Vf.syncNamesE t2 = 0 := by decide +kernel
theorem h3 : t3.steps ≤ 1000 := by decide +kernel
def t4 : Vf.St := Vf.crash t3 0 1
theorem h4 : t4.steps ≤ 1000 := by decide +kernel
theorem r5 : Vf.findE t4 [97] = 0 ∧ Vf.read t4 [97] = [120] := by decide +kernel
def t5 : Vf.St := Vf.create t4 [98]
theorem e5 : Vf.createE t4 [98] = 0 := by decide +kernel
theorem h5 : t5.steps ≤ 1000 := by decide +kernel
def t6 : Vf.St := Vf.append t5 [98] [122]
theorem e6 : Vf.appendE t5 [98] [122] = 0 := by decide +kernel
theorem h6 : t6.steps ≤ 1000 := by decide +kernel
def t7 : Vf.St := Vf.sync t6 [98]
theorem e7 : Vf.syncE t6 [98] = 0 := by decide +kernel
theorem h7 : t7.steps ≤ 1000 := by decide +kernel
def t8 : Vf.St := Vf.syncNames t7
theorem e8 : Vf.syncNamesE t7 = 0 := by decide +kernel
theorem h8 : t8.steps ≤ 1000 := by decide +kernel
def t9 : Vf.St := Vf.rename t8 [98] [97]
theorem e9 : Vf.renameE t8 [98] [97] = 0 := by decide +kernel
theorem h9 : t9.steps ≤ 1000 := by decide +kernel
def t10 : Vf.St := Vf.crash t9 0 0
theorem h10 : t10.steps ≤ 1000 := by decide +kernel
theorem r12 : namesOf t10 = [[97], [98]] := by
  first
  | exact names_two (by decide +kernel) (by decide +kernel) (by decide)
  | exact names_back (by decide +kernel) (by decide +kernel) (by decide)
def t11 : Vf.St := Vf.rename t10 [98] [97]
theorem e11 : Vf.renameE t10 [98] [97] = 0 := by decide +kernel
theorem h11 : t11.steps ≤ 1000 := by decide +kernel
def t12 : Vf.St := Vf.syncNames t11
theorem e12 : Vf.syncNamesE t11 = 0 := by decide +kernel
theorem h12 : t12.steps ≤ 1000 := by decide +kernel
def t13 : Vf.St := Vf.crash t12 0 0
theorem h13 : t13.steps ≤ 1000 := by decide +kernel
theorem r16 : namesOf t13 = [[97]] := by decide +kernel
theorem r17 : Vf.findE t13 [97] = 0 ∧ Vf.read t13 [97] = [122] := by decide +kernel
def t14 : Vf.St := Vf.alter t13 [97] 0 1
theorem e14 : Vf.alterE t13 [97] 0 = 0 := by decide +kernel
theorem h14 : t14.steps ≤ 1000 := by decide +kernel
theorem r19 : Vf.findE t14 [97] = 0 ∧ Vf.read t14 [97] = [123] := by decide +kernel
def t15 : Vf.St := Vf.alter t14 [97] 1 1
theorem e15 : Vf.alterE t14 [97] 1 = 2 := by decide +kernel
theorem h15 : t15.steps ≤ 1000 := by decide +kernel
def t16 : Vf.St := Vf.alter t15 [99] 0 1
theorem e16 : Vf.alterE t15 [99] 0 = 4 := by decide +kernel
theorem h16 : t16.steps ≤ 1000 := by decide +kernel
def t17 : Vf.St := Vf.setFuse t16 1
theorem e17 : Vf.fuseE t16 1 = 0 := by decide +kernel
theorem h17 : t17.steps ≤ 1000 := by decide +kernel
def t18 : Vf.St := Vf.create t17 [99]
theorem e18 : Vf.createE t17 [99] = 0 := by decide +kernel
theorem h18 : t18.steps ≤ 1000 := by decide +kernel
def t19 : Vf.St := Vf.syncNames t18
theorem e19 : Vf.syncNamesE t18 = 7 := by decide +kernel
theorem h19 : t19.steps ≤ 1000 := by decide +kernel
theorem r25 : t19.on = false := by decide +kernel
def t20 : Vf.St := Vf.crash t19 9 9
theorem h20 : t20.steps ≤ 1000 := by decide +kernel
theorem r27 : namesOf t20 = [[97], [99]] := by
  first
  | exact names_two (by decide +kernel) (by decide +kernel) (by decide)
  | exact names_back (by decide +kernel) (by decide +kernel) (by decide)
end Go.Proofs.Ytclokpkhkokfhaa.vfsNames
