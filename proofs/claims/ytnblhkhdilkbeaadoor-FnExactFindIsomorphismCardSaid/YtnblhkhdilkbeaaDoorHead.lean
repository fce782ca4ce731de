/- The head of this program's load, word by word: only its first three words are read. -/
import Derived.Test.YtnblhkhdilkbeaaDoorRows
import Derived.JoinedOf
import Derived.KernelRfl
set_option linter.unusedVariables false
set_option maxRecDepth 100000
namespace Go.Proofs.YtnblhkhdilkbeaaDoor

def hdSum : List Char := [Char.ofNat 52, Char.ofNat 53, Char.ofNat 48, Char.ofNat 48, Char.ofNat 56, Char.ofNat 53, Char.ofNat 56, Char.ofNat 57, Char.ofNat 48, Char.ofNat 51, 
  Char.ofNat 51, Char.ofNat 52, Char.ofNat 101, Char.ofNat 49, Char.ofNat 53, Char.ofNat 52, Char.ofNat 48, Char.ofNat 57, Char.ofNat 48, Char.ofNat 54, 
  Char.ofNat 101, Char.ofNat 51, Char.ofNat 52, Char.ofNat 100, Char.ofNat 51, Char.ofNat 49, Char.ofNat 97, Char.ofNat 55, Char.ofNat 50, Char.ofNat 51, 
  Char.ofNat 49, Char.ofNat 97, Char.ofNat 50, Char.ofNat 54, Char.ofNat 48, Char.ofNat 98, Char.ofNat 50, Char.ofNat 48, Char.ofNat 102, Char.ofNat 49, 
  Char.ofNat 97, Char.ofNat 101, Char.ofNat 55, Char.ofNat 49, Char.ofNat 102, Char.ofNat 50, Char.ofNat 49, Char.ofNat 100, Char.ofNat 97, 
  Char.ofNat 49, Char.ofNat 53, Char.ofNat 102, Char.ofNat 55, Char.ofNat 102, Char.ofNat 49, Char.ofNat 100, Char.ofNat 98, Char.ofNat 52, 
  Char.ofNat 50, Char.ofNat 99, Char.ofNat 48, Char.ofNat 48, Char.ofNat 50, Char.ofNat 57]
def hdRest : List Char := [Char.ofNat 97, Char.ofNat 116, Char.ofNat 32, Char.ofNat 108, Char.ofNat 111, Char.ofNat 111, Char.ofNat 112, Char.ofNat 46, Char.ofNat 101, 
  Char.ofNat 120, Char.ofNat 97, Char.ofNat 109, Char.ofNat 112, Char.ofNat 108, Char.ofNat 101, Char.ofNat 47, Char.ofNat 103, Char.ofNat 48, 
  Char.ofNat 49, Char.ofNat 50, Char.ofNat 57, Char.ofNat 56, Char.ofNat 47, Char.ofNat 108, Char.ofNat 97, Char.ofNat 119, Char.ofNat 115, 
  Char.ofNat 46, Char.ofNat 70, Char.ofNat 110, Char.ofNat 69, Char.ofNat 120, Char.ofNat 97, Char.ofNat 99, Char.ofNat 116, Char.ofNat 78, 
  Char.ofNat 101, Char.ofNat 119, Char.ofNat 68, Char.ofNat 101, Char.ofNat 115, Char.ofNat 107, Char.ofNat 32, Char.ofNat 108, Char.ofNat 111, 
  Char.ofNat 111, Char.ofNat 112, Char.ofNat 46, Char.ofNat 101, Char.ofNat 120, Char.ofNat 97, Char.ofNat 109, Char.ofNat 112, Char.ofNat 108, 
  Char.ofNat 101, Char.ofNat 47, Char.ofNat 103, Char.ofNat 48, Char.ofNat 49, Char.ofNat 50, Char.ofNat 57, Char.ofNat 56, Char.ofNat 47, 
  Char.ofNat 108, Char.ofNat 97, Char.ofNat 119, Char.ofNat 115, Char.ofNat 46, Char.ofNat 70, Char.ofNat 110, Char.ofNat 69, Char.ofNat 120, 
  Char.ofNat 97, Char.ofNat 99, Char.ofNat 116, Char.ofNat 70, Char.ofNat 105, Char.ofNat 110, Char.ofNat 100, Char.ofNat 73, Char.ofNat 115, 
  Char.ofNat 111, Char.ofNat 109, Char.ofNat 111, Char.ofNat 114, Char.ofNat 112, Char.ofNat 104, Char.ofNat 105, Char.ofNat 115, Char.ofNat 109, 
  Char.ofNat 32, Char.ofNat 108, Char.ofNat 111, Char.ofNat 111, Char.ofNat 112, Char.ofNat 46, Char.ofNat 101, Char.ofNat 120, Char.ofNat 97, 
  Char.ofNat 109, Char.ofNat 112, Char.ofNat 108, Char.ofNat 101, Char.ofNat 47, Char.ofNat 103, Char.ofNat 48, Char.ofNat 49, Char.ofNat 50, 
  Char.ofNat 57, Char.ofNat 56, Char.ofNat 47, Char.ofNat 108, Char.ofNat 97, Char.ofNat 119, Char.ofNat 115, Char.ofNat 46, Char.ofNat 70, 
  Char.ofNat 110, Char.ofNat 69, Char.ofNat 120, Char.ofNat 97, Char.ofNat 99, Char.ofNat 116, Char.ofNat 65, Char.ofNat 114, Char.ofNat 101, 
  Char.ofNat 73, Char.ofNat 115, Char.ofNat 111, Char.ofNat 109, Char.ofNat 111, Char.ofNat 114, Char.ofNat 112, Char.ofNat 104, Char.ofNat 105, 
  Char.ofNat 99, Char.ofNat 32, Char.ofNat 108, Char.ofNat 111, Char.ofNat 111, Char.ofNat 112, Char.ofNat 46, Char.ofNat 101, Char.ofNat 120, 
  Char.ofNat 97, Char.ofNat 109, Char.ofNat 112, Char.ofNat 108, Char.ofNat 101, Char.ofNat 47, Char.ofNat 103, Char.ofNat 48, Char.ofNat 49, 
  Char.ofNat 50, Char.ofNat 57, Char.ofNat 56, Char.ofNat 47, Char.ofNat 108, Char.ofNat 97, Char.ofNat 119, Char.ofNat 115, Char.ofNat 46, 
  Char.ofNat 70, Char.ofNat 110, Char.ofNat 69, Char.ofNat 120, Char.ofNat 97, Char.ofNat 99, Char.ofNat 116, Char.ofNat 82, Char.ofNat 101, 
  Char.ofNat 103, Char.ofNat 117, Char.ofNat 108, Char.ofNat 97, Char.ofNat 114, Char.ofNat 68, Char.ofNat 101, Char.ofNat 103, Char.ofNat 114, 
  Char.ofNat 101, Char.ofNat 101]
def hdSp : Char := Char.ofNat 32

theorem head_list : Tryd.prog.initOrder = String.ofList ("harness".toList ++ hdSp :: (hdSum ++ hdSp :: ("cut".toList ++ hdSp :: hdRest))) := by kernel_rfl

theorem words_app : ∀ (w r : List Char), hdSp ∉ w → wordsSigns (w ++ hdSp :: r) = w :: wordsSigns r
  | [], r, _ => by simp [wordsSigns, hdSp]
  | c :: w, r, h => by
    have h1 : c ≠ hdSp := fun e => h (by simp [e])
    have h2 : hdSp ∉ w := fun e => h (by simp [e])
    rw [List.cons_append, wordsSigns, words_app w r h2]
    exact h1

theorem head_sum : isSumSigns hdSum = true := by kernel_rfl
theorem head_sp : hdSp ∉ hdSum := by
  intro h
  have := List.all_eq_true.1 (Bool.and_eq_true_iff.1 head_sum).2 _ h
  exact absurd this (by decide)

theorem head_words : behindMainWord (wordsSigns Tryd.prog.initOrder.toList) = "cut".toList :: wordsSigns hdRest := by
  rw [head_list, String.toList_ofList, words_app _ _ (by decide), words_app _ _ head_sp, words_app _ _ (by decide)]
  have h := head_sum
  generalize hdSum = s at *
  simp only [behindMainWord]
  rw [h]
  rfl
theorem strip_cut (ws : List (List Char)) : stripLifts liftWords ("cut".toList :: ws) = ([], "cut".toList :: ws) := by kernel_rfl
theorem make_of {P : Program} {ws : List (List Char)} (h : behindMainWord (wordsSigns P.initOrder.toList) = "cut".toList :: ws) : P.make = some .cut := by
  unfold Program.make
  rw [h]
  rfl
theorem lifts_of {P : Program} {ws : List (List Char)} (h : behindMainWord (wordsSigns P.initOrder.toList) = "cut".toList :: ws) : P.liftsFinal = false := by
  unfold Program.liftsFinal Program.headLifts
  rw [h, strip_cut]
  rfl
theorem enter_of {P : Program} {ws : List (List Char)} (h : behindMainWord (wordsSigns P.initOrder.toList) = "cut".toList :: ws) (h1 : P.laysLater = false) (h2 : P.bearsReflect = false) (h3 : P.doorFits [] = true) : P.mayEnter = true := by
  unfold Program.mayEnter
  rw [h]
  simp only [strip_cut, h1, h2, h3]
  rfl
theorem head_lays : (Tryd.prog.laysLater || Tryd.prog.bearsReflect) = false := by kernel_rfl
theorem head_door : Tryd.prog.doorFits [] = true := by kernel_rfl
theorem head_make : Tryd.prog.make = some .cut := make_of head_words
theorem head_lifts : Tryd.prog.liftsFinal = false := lifts_of head_words
theorem head_enter : Tryd.prog.mayEnter = true := enter_of head_words (Bool.or_eq_false_iff.1 head_lays).1 (Bool.or_eq_false_iff.1 head_lays).2 head_door
theorem head_rowed : (mapsRowed Tryd.prog && Tryd.prog.stopsHeard) = true := by kernel_rfl

end Go.Proofs.YtnblhkhdilkbeaaDoor
