/- The program's list of edges as pairs. -/
import Derived.Test.YtgcidkcedfliiaaDegree
import Derived.Test.YtgcidkcedfliiaaBase2
set_option linter.unusedSimpArgs false
set_option linter.unusedVariables false
namespace Go.Proofs.Ytgcidkcedfliiaa
open Go.RowKit

theorem Try.info64 : (Try.prog.info? 64).map (fun i => (i.zero, i.size, i.bytes)) = some (some (.agg #[.int .i64 0, .int .i64 0]), 2, 16) := by kernel_rfl

/-- the cells of a list of pairs -/
def flat (es : List (Int × Int)) : List Value := es.flatMap (fun e => [.int .i64 e.1, .int .i64 e.2])
def pairs (xss : List (List Int)) : List (Int × Int) := xss.map (fun e => (e.getD 0 0, e.getD 1 0))

theorem arrAt (a : Addr) (c : Nat) (w : World) : Sem.run Try.prog (Instr.arrayAt 64 (.slice (some a) 2 c)) w = .ok (.pointer (some a)) w := by kernel_rfl
theorem made2 (n : Nat) : (madeCells #[Value.int .i64 0, Value.int .i64 0] n).toList = List.replicate n (.int .i64 0) := by
  apply List.ext_getElem?
  intro j
  by_cases hj : j < n
  · have : j % 2 = 0 ∨ j % 2 = 1 := by omega
    rcases this with h | h <;> simp [madeCells, hj, h]
  · simp [madeCells, hj]
theorem flat_len (es : List (Int × Int)) : (flat es).length = 2 * es.length := by
  induction es with
  | nil => rfl
  | cons e r ih => simp only [flat, List.flatMap_cons, List.length_append, List.length_cons, List.length_nil] at ih ⊢; omega
theorem flat_snoc (es : List (Int × Int)) (e : Int × Int) : flat (es ++ [e]) = flat es ++ [.int .i64 e.1, .int .i64 e.2] := by simp [flat]
def setE (es : List (Int × Int)) (n : Nat) : List Value := flat es ++ List.replicate (2 * n - 2 * es.length) (.int .i64 0)
theorem setE_zero (n : Nat) : (madeCells #[Value.int .i64 0, Value.int .i64 0] (n * 2)).toList = setE [] n := by
  rw [made2]; simp [setE, flat, Nat.mul_comm]
theorem setE_get (es : List (Int × Int)) (n k i : Nat) (h : es.length = k) (hk : k < n) (hi : i < 2) : (setE es n)[k * 2 + i]? = some (.int .i64 0) := by
  unfold setE
  have := flat_len es
  rw [List.getElem?_append_right (by omega), List.getElem?_replicate, if_pos (by omega)]
theorem setE_step (es : List (Int × Int)) (e : Int × Int) (n k : Nat) (h : es.length = k) (hk : k < n) : ((setE es n).set (k * 2) (.int .i64 e.1)).set (k * 2 + 1) (.int .i64 e.2) = setE (es ++ [e]) n := by
  subst h
  have hl := flat_len es
  have e1 : 2 * n - 2 * es.length = (2 * n - 2 * (es.length + 1)) + 1 + 1 := by omega
  unfold setE
  rw [List.length_append, List.length_singleton, e1, List.replicate_succ, List.replicate_succ, flat_snoc, List.set_append, if_neg (by omega), List.set_append, if_neg (by omega)]
  have e2 : es.length * 2 - (flat es).length = 0 := by omega
  have e3 : es.length * 2 + 1 - (flat es).length = 1 := by omega
  rw [e2, e3]
  simp

theorem edgesOf_ne (n b off cap : Nat) (s : Int) (xss : List (List Int)) {lo hi : Nat} (w : World) (hn : n ≤ 10) (hx : xss.length = n) (h2 : ∀ j, j < n → (xss.getD j []).length = 2)
    (hc : ∀ j, j < n → ∃ rv, w.cell? ⟨b, off + j, none⟩ = some rv ∧ RdI lo hi w rv (xss.getD j [])) :
    Calls Try.prog 76 #[.agg #[.int .i64 s, .slice (some ⟨b, off, none⟩) n cap]] w fun e w' => ∃ v, e = .returned v ∧ w'.ownsRow w.heap.size 64 2 v n (flat (pairs xss)) ∧ Below w.heap.size w w' := by
  obtain ⟨i0, hi', z0, z1, z2⟩ := info_parts Try.info64
  have hb0 : ∀ o, Below w.heap.size w (w.alloc o) := fun o => (Below.refl _ _).alloc (Nat.le_refl _) o
  have HX := Lib.hid hx
  have HC := Lib.hid hc
  have H2 := Lib.hid h2
  clear hx hc h2
  go_enter Try.func76, Try.ntmps76
  go_wp2_with (at_make; refine wpList_make_full _ rfl _ _ 61 rfl (w.heap.size + 1) 64 i0 (.agg #[.int .i64 0, .int .i64 0]) 2 Try.underlying61 hi' z0 z1 _ _ _ _ n rfl rfl rfl rfl ?c1 ?c2 ?c3 ?_)
  case c1 => rw [z2]; omega
  case c2 => unfold maxLen; omega
  case c3 => simp
  intro w1 hown hgr
  rw [setE_zero n] at hown
  have hbl : Below w.heap.size w w1 := (hb0 _).grown hgr (by simp) (by simp)
  have k2 : w1.cell? ⟨w.heap.size, 1, none⟩ = some (.slice (some ⟨b, off, none⟩) n cap) := hgr.cell (by go_simp) (by simp)
  have hz : w.heap.size + 1 < w1.heap.size := (hown.lt _ rfl).2
  clear hgr
  go_wp2
  go_loopw [13, 4, 5] (fun i _ _ wr => ∃ k : Nat, k ≤ n ∧ i = .int .i64 k ∧ wr.ownsRow (w.heap.size + 1) 64 2 (.slice (some ⟨w.heap.size + 1, 0, none⟩) n n) n (setE ((pairs xss).take k) n) ∧ Below w.heap.size w wr ∧ w.heap.size + 1 < wr.heap.size) (fun i _ _ _ => n - (intOf i).toNat)
  case atStart => exact ⟨0, Nat.zero_le _, rfl, hown, hbl, hz⟩
  case round =>
    clear hown hbl k2 hz
    obtain ⟨k, hk, rfl, hown, hbl, hz⟩ := hrel
    by_cases hlt : k < n
    · obtain ⟨rv, h1, r1⟩ := HC.out k hlt
      replace h1 := hbl.keep h1
      replace r1 := r1.below hbl
      have hlt' : k < xss.length := by rw [HX.out]; exact hlt
      obtain ⟨b', off', cap', rfl, g1, g2⟩ := r1.two (H2.out k hlt)
      have hlen : ((pairs xss).take k).length = k := by rw [List.length_take, pairs, List.length_map]; omega
      have c0 := (hown.cellAt (k * 2) (by omega)).trans (setE_get _ n k 0 hlen hlt (by omega))
      have c1 := (hown.cellAt (k * 2 + 1) (by omega)).trans (setE_get _ n k 1 hlen hlt (by omega))
      have f0 := hown.frozenAt (k * 2)
      have f1 := hown.frozenAt (k * 2 + 1)
      generalize hx0 : (xss.getD k []).getD 0 0 = x0 at *
      generalize hx1 : (xss.getD k []).getD 1 0 = x1 at *
      have H0 := Lib.hid hx0
      have H1 := Lib.hid hx1
      have HL := Lib.hid hlen
      have hat := arrAt ⟨b', off', none⟩ cap'
      clear hx0 hx1 hlen r1
      go_wp2
      have hst := (hown.stored (k * 2) (.int .i64 x0)).1.stored (k * 2 + 1) (.int .i64 x1)
      have e1 : (pairs xss).take (k+1) = (pairs xss).take k ++ [(x0, x1)] := by
        rw [List.take_add_one, List.getElem?_eq_getElem (by rw [pairs, List.length_map]; exact hlt')]
        simp only [pairs, List.getElem_map, ← H0.out, ← H1.out]
        simp [List.getD, List.getElem?_eq_getElem hlt']
      go_roundw
      case rel =>
        refine ⟨k+1, by omega, by go_num, ?_, (hbl.setCell (by simp) _).setCell (by simp) _, by simp [World.setCell]; exact hz⟩
        rw [e1, ← setE_step _ (x0, x1) n k HL.out hlt]
        exact hst.1
      case measure => simp [intOf]; omega
    · go_wp2
      go_ret
      obtain rfl : k = n := by omega
      have e1 : setE ((pairs xss).take k) k = flat (pairs xss) := by
        have : (pairs xss).length = k := by rw [pairs, List.length_map]; exact HX.out
        rw [List.take_of_length_le (by omega)]
        simp [setE, this]
      rw [e1] at hown
      exact ⟨_, rfl, ownsRow_mono hown (Nat.le_succ _), hbl⟩

end Go.Proofs.Ytgcidkcedfliiaa
