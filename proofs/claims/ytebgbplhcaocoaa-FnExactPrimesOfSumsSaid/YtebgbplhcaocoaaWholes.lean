/- The program's lists of bounded numbers: out of a list of numbers. -/
import Derived.Test.YtebgbplhcaocoaaWholeTimes
import Derived.Test.YtebgbplhcaocoaaCoreA
import Derived.Test.YtebgbplhcaocoaaSpecValue
set_option linter.unusedSimpArgs false
set_option linter.unusedVariables false
namespace Go.Proofs.Ytebgbplhcaocoaa
open Go.RowKit

theorem Try.info73 : (Try.prog.info? 73).map (fun i => (i.zero, i.size, i.bytes)) = some (some (.agg #[.int .i64 0, .bool false]), 2, 16) := by kernel_rfl

/-- the cells of a list of bounded numbers -/
def flatO (os : List (Option Int)) : List Value := os.flatMap (fun o => [.int .i64 (numO o), .bool o.isNone])
theorem flatO_len (es : List (Option Int)) : (flatO es).length = 2 * es.length := by
  induction es with
  | nil => rfl
  | cons e r ih => simp only [flatO, List.flatMap_cons, List.length_append, List.length_cons, List.length_nil] at ih ⊢; omega
theorem flatO_snoc (es : List (Option Int)) (e : Option Int) : flatO (es ++ [e]) = flatO es ++ [.int .i64 (numO e), .bool e.isNone] := by simp [flatO]
theorem flatO_get (es : List (Option Int)) (k : Nat) (h : k < es.length) : (flatO es)[k * 2]? = some (.int .i64 (numO (es.getD k none))) ∧ (flatO es)[k * 2 + 1]? = some (.bool (es.getD k none).isNone) := by
  induction es generalizing k with
  | nil => simp at h
  | cons e r ih =>
    cases k with
    | zero => simp [flatO]
    | succ k =>
      have := ih k (by simpa using h)
      have e1 : (k + 1) * 2 = k * 2 + 2 := by omega
      rw [e1]
      simpa [flatO] using this
/-- the first numbers, the others 0 -/
def setO (es : List (Option Int)) (n : Nat) : List (Option Int) := es ++ List.replicate (n - es.length) (some 0)
theorem setO_len (es : List (Option Int)) (n : Nat) (h : es.length ≤ n) : (setO es n).length = n := by simp [setO]; omega
theorem flatO_set (es : List (Option Int)) (k : Nat) (o : Option Int) (h : k < es.length) : ((flatO es).set (k * 2) (.int .i64 (numO o))).set (k * 2 + 1) (.bool o.isNone) = flatO (es.set k o) := by
  induction es generalizing k with
  | nil => simp at h
  | cons e r ih =>
    cases k with
    | zero => simp [flatO]
    | succ k =>
      have := ih k (by simpa using h)
      have e1 : (k + 1) * 2 = k * 2 + 2 := by omega
      rw [e1]
      simpa [flatO] using this
theorem setO_step (es : List (Option Int)) (o : Option Int) (n k : Nat) (h : es.length = k) (hk : k < n) : (setO es n).set k o = setO (es ++ [o]) n := by
  subst h
  have e1 : n - es.length = (n - (es.length + 1)) + 1 := by omega
  unfold setO
  rw [List.length_append, List.length_singleton, e1, List.replicate_succ]
  simp
theorem made2b (n : Nat) : (madeCells #[Value.int .i64 0, Value.bool false] (n * 2)).toList = flatO (List.replicate n (some 0)) := by
  induction n with
  | zero => simp [madeCells, flatO]
  | succ n ih =>
    apply List.ext_getElem?
    intro j
    by_cases hj : j < (n + 1) * 2
    · have hl : j / 2 < (List.replicate (n + 1) (some (0 : Int))).length := by simp; omega
      obtain ⟨g1, g2⟩ := flatO_get (List.replicate (n + 1) (some (0 : Int))) (j / 2) hl
      have hm : j % 2 = 0 ∨ j % 2 = 1 := by omega
      have hg : (List.replicate (n + 1) (some (0 : Int))).getD (j / 2) none = some 0 := by
        have hl2 : j / 2 < n + 1 := by omega
        simp [List.getD, List.getElem?_replicate, hl2]
      rw [hg] at g1 g2
      rcases hm with h | h
      · have e : j = j / 2 * 2 := by omega
        rw [← e] at g1
        rw [g1]
        simp [madeCells, hj, h, numO]
      · have e : j = j / 2 * 2 + 1 := by omega
        rw [← e] at g2
        rw [g2]
        simp [madeCells, hj, h]
    · have : (flatO (List.replicate (n + 1) (some (0 : Int)))).length ≤ j := by rw [flatO_len]; simp; omega
      rw [List.getElem?_eq_none this]
      simp [madeCells, hj]

theorem wholesOf_ne (n b off cap : Nat) (xs : List Int) (w : World) (hn : n ≤ 17592186044416) (hx : xs.length = n) (hb : b < w.heap.size)
    (hc : ∀ j, j < n → w.cell? ⟨b, off + j, none⟩ = some (.int .i64 (xs.getD j 0))) :
    Calls Try.prog 127 #[.slice (some ⟨b, off, none⟩) n cap] w fun e w' => ∃ v, e = .returned v ∧ w'.ownsRow w.heap.size 73 2 v n (flatO (xs.map some)) ∧ Below w.heap.size w w' := by
  obtain ⟨i0, hi', z0, z1, z2⟩ := info_parts Try.info73
  have HX := Lib.hid hx
  have HC := Lib.hid hc
  clear hx hc
  go_enter Try.func127, Try.ntmps127
  go_wp2_with (at_make; refine wpList_make_full _ rfl _ _ 68 rfl w.heap.size 73 i0 (.agg #[.int .i64 0, .bool false]) 2 Try.underlying68 hi' z0 z1 _ _ _ _ n rfl rfl rfl rfl ?c1 ?c2 ?c3 ?_)
  case c1 => rw [z2]; omega
  case c2 => unfold maxLen; omega
  case c3 => exact Nat.le_refl _
  intro w1 hown hgr
  rw [made2b n] at hown
  have e0 : List.replicate n (some (0 : Int)) = setO [] n := by simp [setO]
  rw [e0] at hown
  have hbl : Below w.heap.size w w1 := (Below.refl _ _).grown hgr (Nat.le_refl _) (by simp)
  clear hgr e0
  go_wp2
  go_loopw [11, 4, 5] (fun i _ _ wr => ∃ k : Nat, k ≤ n ∧ i = .int .i64 k ∧ wr.ownsRow w.heap.size 73 2 (.slice (some ⟨w.heap.size, 0, none⟩) n n) n (flatO (setO ((xs.take k).map some) n)) ∧ Below w.heap.size w wr) (fun i _ _ _ => n - (intOf i).toNat)
  case atStart => exact ⟨0, Nat.zero_le _, rfl, hown, hbl⟩
  case round =>
    clear hown hbl
    obtain ⟨k, hk, rfl, hown, hbl⟩ := hrel
    by_cases hlt : k < n
    · have h1 := (hbl.cell (p := ⟨b, off + k, none⟩) hb).trans (HC.out k hlt)
      have hlen : ((xs.take k).map (some : Int → Option Int)).length = k := by rw [List.length_map, List.length_take]; have := HX.out; omega
      have hlo : k < (setO ((xs.take k).map some) n).length := by rw [setO_len _ _ (by omega)]; exact hlt
      obtain ⟨g1, g2⟩ := flatO_get _ k hlo
      have c0 := (hown.cellAt (k * 2) (by omega)).trans g1
      have c1 := (hown.cellAt (k * 2 + 1) (by omega)).trans g2
      have f0 := hown.frozenAt (k * 2)
      have f1 := hown.frozenAt (k * 2 + 1)
      have hst := (hown.stored (k * 2) (.int .i64 (numO (some (xs.getD k 0))))).1.stored (k * 2 + 1) (.bool (some (xs.getD k 0)).isNone)
      rw [flatO_set _ _ _ hlo, setO_step _ _ n k hlen hlt] at hst
      have e1 : (xs.take (k+1)).map some = (xs.take k).map some ++ [some (xs.getD k 0)] := by
        have hkx : k < xs.length := by rw [HX.out]; exact hlt
        rw [List.take_add_one, List.getElem?_eq_getElem hkx, List.map_append]
        simp [List.getD, List.getElem?_eq_getElem hkx]
      rw [← e1] at hst
      generalize hx0 : xs.getD k 0 = x0 at *
      have H0 := Lib.hid hx0
      have hst' := Lib.hid hst.1
      clear hx0 e1 hst g1 g2 hlo hlen
      go_wp2
      go_roundw
      case rel => exact ⟨k+1, by omega, by go_num, hst'.out, (hbl.setCell (Nat.le_refl _) _).setCell (Nat.le_refl _) _⟩
      case measure => simp [intOf]; omega
    · go_wp2
      go_ret
      obtain rfl : k = n := by omega
      have e1 : setO ((xs.take k).map some) k = xs.map some := by
        rw [List.take_of_length_le (by rw [HX.out]; exact Nat.le_refl _)]
        simp [setO, HX.out]
      rw [e1] at hown
      exact ⟨_, rfl, hown, hbl⟩

end Go.Proofs.Ytebgbplhcaocoaa
