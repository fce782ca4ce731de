/- Cyclic covers: one turn, by the program and by the model. -/
import Derived.Test.YtpepmgobcdlnoaaCov
import Derived.Test.YtpepmgobcdlnoaaPartRows
import Derived.Test.YtpepmgobcdlnoaaCoreB
set_option linter.unusedSimpArgs false
set_option linter.unusedVariables false
namespace Go.Proofs.Ytpepmgobcdlnoaa
open Go.RowKit

def tw1 (sh y i : Int) : Int := Int.tmod (Int.tmod (i + y) sh + sh) sh
def twB (sh y : Int) : List Int := (List.range sh.toNat).map (fun i : Nat => tw1 sh y i)
theorem twB_len (sh y : Int) : (twB sh y).length = sh.toNat := by simp [twB]
theorem twB_get {sh y : Int} {k : Nat} (h : k < sh.toNat) : (twB sh y).getD k 0 = tw1 sh y k := by simp [twB, List.getD, h]
theorem tmod_bd {x sh : Int} (h : 1 ≤ sh) : -sh < Int.tmod x sh ∧ Int.tmod x sh < sh := by
  have h1 := Int.tmod_lt_of_pos x (show 0 < sh by omega)
  have h2 := Int.lt_tmod_of_pos x (show 0 < sh by omega)
  omega
theorem tw1_bd {sh y i : Int} (h : 1 ≤ sh) : -sh < tw1 sh y i ∧ tw1 sh y i < sh := tmod_bd h
theorem twB_I64 {sh y : Int} (h : 1 ≤ sh) (h4 : sh ≤ 4) : ∀ x ∈ twB sh y, I64 x := by
  intro x hx
  simp only [twB, List.mem_map] at hx
  obtain ⟨k, _, rfl⟩ := hx
  have := tw1_bd (sh := sh) (y := y) (i := k) h
  unfold I64; omega

theorem cyclicTurn (S : Nat) (y : Int) (w : World) (h1 : 1 ≤ S) (h4 : S ≤ 4) (hy1 : -1000 ≤ y) (hy2 : y ≤ 1000) :
    Calls Try.prog 77 #[.int .i64 S, .int .i64 y] w fun e w' => ∃ a c, e = .returned (.slice a (twB S y).length c) ∧ OwI w.heap.size w'.heap.size w' (.slice a (twB S y).length c) (twB S y) ∧ Below w.heap.size w w' := by
  obtain ⟨i0, hi, hz0, hz1, hz2⟩ := info_parts Try.info2
  have hlen : (twB S y).length = S := by simp [twB]
  have hS0 : ((S : Int) == 0) = false := by simp; omega
  obtain ⟨T, hT⟩ : ∃ T, T = twB (S : Int) y := ⟨_, rfl⟩
  have HT := Lib.hid hT
  rw [← hT] at hlen ⊢
  have HL := Lib.hid hlen
  clear hT hlen
  go_enter Try.func77, Try.ntmps77
  go_wp2_with (at_make; refine wpList_make_full _ rfl _ _ 45 rfl w.heap.size 2 i0 (.int .i64 0) 1 Try.underlying45 hi hz0 hz1 _ _ _ _ S rfl rfl rfl rfl ?c1 ?c2 ?c3 ?_)
  case c1 => rw [hz2]; omega
  case c2 => unfold maxLen; omega
  case c3 => exact Nat.le_refl _
  intro w1 hown hgr
  rw [setTo_zero T S] at hown
  have hbl : Below w.heap.size w w1 := (Below.refl _ _).grown hgr (Nat.le_refl _) (by simp)
  clear hgr
  go_wp2
  go_loopw [6, 10] (fun _ i wr => ∃ k : Nat, k ≤ S ∧ i = .int .i64 k ∧ wr.ownsRow w.heap.size 2 1 (.slice (some ⟨w.heap.size, 0, none⟩) S S) S (setTo T k S) ∧ Below w.heap.size w wr) (fun _ i _ => S - (intOf i).toNat)
  case atStart => exact ⟨0, Nat.zero_le _, rfl, hown, hbl⟩
  case round =>
    clear hown hbl
    obtain ⟨k, hk, rfl, hown, hbl⟩ := hrel
    by_cases hlt : k < S
    · obtain ⟨x, hx⟩ : ∃ x, x = tw1 S y k := ⟨_, rfl⟩
      have hget : T.getD k 0 = x := by rw [HT.out, twB_get (by simp; exact hlt), hx]
      have h2 := (hown.cellAt k (by omega)).trans (setTo_get T k S HL.out hlt)
      have h3 := hown.frozenAt k
      have hst := hown.stored k (.int .i64 x)
      have hbd := tmod_bd (x := (k : Int) + y) (show (1 : Int) ≤ S by omega)
      have hx2 : Int.tmod (Int.tmod ((k : Int) + y) S + S) S = x := hx.symm
      generalize hz : Int.tmod ((k : Int) + y) S = z at *
      have HG := Lib.hid hget
      clear hget hx
      go_wp2
      go_roundw
      case rel => exact ⟨k+1, by omega, by go_num, by rw [← setTo_step T k S HL.out hlt, HG.out]; exact hst.1, hbl.setCell (Nat.le_refl _) _⟩
      case measure => simp [intOf]; omega
    · go_wp2
      go_ret
      obtain rfl : k = S := by omega
      rw [setTo_all T k HL.out] at hown
      refine ⟨some ⟨w.heap.size, 0, none⟩, k, by rw [HL.out]; rfl, ?_, hbl⟩
      rw [HL.out]
      exact .mk hown (by omega) (by rw [HT.out]; exact twB_I64 (by omega) (by omega))

end Go.Proofs.Ytpepmgobcdlnoaa
