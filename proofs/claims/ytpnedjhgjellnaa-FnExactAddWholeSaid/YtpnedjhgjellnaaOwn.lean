/- The model's copies of lists of numbers, with and without zeros at the end. -/
import Derived.Test.YtpnedjhgjellnaaBase2
import Derived.Laws.AppendOwnNone
set_option linter.unusedSimpArgs false
set_option linter.unusedVariables false
namespace Go.Proofs.Ytpnedjhgjellnaa
open Go.RowKit

theorem own_some (n cap : Nat) (ad : Addr) (xs : List Int) (w : World) (hn : n ≤ 17592186044416) (hx : xs.length = n)
    (hc : ∀ j u, (xs.map (Value.int .i64))[j]? = some u → w.cell? (ad.add j) = some u) :
    Calls Try.prog 68 #[.slice (some ad) n cap] w fun e w' => ∃ v, e = .returned v ∧ w'.ownsRow w.heap.size 2 1 v n (xs.map (Value.int .i64)) ∧ Below w.heap.size w w' := by
  obtain ⟨i0, hi', z0, z1, z2⟩ := info_parts Try.info2
  have HC := Lib.hid hc
  have HX := Lib.hid hx
  clear hc hx
  have hown : (w.alloc (.cells #[] 2)).ownsRow w.heap.size 2 1 (.slice (some ⟨w.heap.size, 0, none⟩) 0 0) 0 [] := World.ownsRow_lit w #[] 0 (Nat.le_refl _) (by unfold maxLen; omega) rfl
  go_enter Try.func68, Try.ntmps68
  go_wp2_with (at_builtin; refine wpList_append_own _ rfl _ _ 24 rfl w.heap.size 2 i0 (.int .i64 0) 1 8 Try.underlying24 hi' z0 z1 z2 rfl (by decide) _ _ _ rfl hown ad n cap (xs.map (Value.int .i64)) rfl ?c0 ?c1 ?c2 ?c3 ?c4 ?c5 ?_)
  case c0 => rw [List.length_map, HX.out]; omega
  case c1 =>
    intro j u hj
    have h1 := HC.out j u hj
    have hb := World.block_lt_of_cell? w _ h1
    exact (World.cell?_of_block (w := w) (Below.heap_alloc w _ _ hb)).trans h1
  case c2 => intro u hu; simp at hu; obtain ⟨x, _, rfl⟩ := hu; rfl
  case c3 => unfold maxLen; omega
  case c4 => omega
  case c5 => simp
  intro v3 w3 hown3 hgr _
  have hb : Below w.heap.size w w3 := ((Below.refl w.heap.size w).alloc (Nat.le_refl _) (.cells #[] 2)).grown hgr (by simp) (fun k hk => by have := (hown.lt k hk).1; omega)
  clear hgr hown
  go_wp2
  go_ret
  exact ⟨_, rfl, hown3, hb⟩

theorem own_none (cap : Nat) (w : World) :
    Calls Try.prog 68 #[.slice none 0 cap] w fun e w' => ∃ v, e = .returned v ∧ w'.ownsRow w.heap.size 2 1 v 0 [] ∧ Below w.heap.size w w' := by
  obtain ⟨i0, hi', z0, z1, z2⟩ := info_parts Try.info2
  have hown : (w.alloc (.cells #[] 2)).ownsRow w.heap.size 2 1 (.slice (some ⟨w.heap.size, 0, none⟩) 0 0) 0 [] := World.ownsRow_lit w #[] 0 (Nat.le_refl _) (by unfold maxLen; omega) rfl
  have hb : Below w.heap.size w (w.alloc (.cells #[] 2)) := (Below.refl w.heap.size w).alloc (Nat.le_refl _) _
  go_enter Try.func68, Try.ntmps68
  go_wp2
  go_ret
  exact ⟨_, rfl, hown, hb⟩

theorem l01Own {lo hi : Nat} (v : Value) (xs : List Int) (w : World) (h : RdI lo hi w v xs) :
    Calls Try.prog 68 #[v] w fun e w' => ∃ a c, e = .returned (.slice a xs.length c) ∧ OwI w.heap.size w'.heap.size w' (.slice a xs.length c) xs ∧ Below w.heap.size w w' := by
  obtain ⟨h1, h2, h⟩ := h
  have fin : ∀ (e : Ending) (w' : World) v', e = .returned v' → w'.ownsRow w.heap.size 2 1 v' xs.length (xs.map (Value.int .i64)) → Below w.heap.size w w' → ∃ a c, e = .returned (.slice a xs.length c) ∧ OwI w.heap.size w'.heap.size w' (.slice a xs.length c) xs ∧ Below w.heap.size w w' := by
    intro e w' v' he ho hb
    have ho : OwI w.heap.size w'.heap.size w' v' xs := .mk ho h1 h2
    obtain ⟨a, c, hv⟩ := ho.rd.shape
    subst hv
    exact ⟨a, c, he, ho, hb⟩
  rcases h with ⟨a, cap, rfl, rfl⟩ | ⟨b, off, cap, rfl, h0, hlo, hhi, hc⟩
  · cases a with
    | none => exact (own_none cap w).mono fun e w' ⟨v', he, ho, hb⟩ => fin e w' v' he ho hb
    | some ad => exact (own_some 0 cap ad [] w (by omega) rfl (fun j u hj => by simp at hj)).mono fun e w' ⟨v', he, ho, hb⟩ => fin e w' v' he ho hb
  · refine (own_some xs.length cap ⟨b, off, none⟩ xs w h1 rfl (fun j u hj => ?_)).mono fun e w' ⟨v', he, ho, hb⟩ => fin e w' v' he ho hb
    have hj' : j < xs.length := by
      have := (List.getElem?_eq_some_iff.1 hj).1
      simpa using this
    have ea : (({ block := b, off := off } : Addr).add j) = ⟨b, off + j, none⟩ := by simp [Addr.add]
    rw [ea, hc j hj']
    simp only [List.getElem?_map, List.getElem?_eq_getElem hj', Option.map_some] at hj
    simpa [List.getD, List.getElem?_eq_getElem hj'] using hj

/-- how many are left without the zeros at the end -/
def tl (xs : List Int) : Nat → Nat
  | 0 => 0
  | k + 1 => if xs.getD k 0 = 0 then tl xs k else k + 1
theorem tl_le (xs : List Int) (k : Nat) : tl xs k ≤ k := by
  induction k with
  | zero => exact Nat.le_refl _
  | succ k ih => unfold tl; split <;> omega
def trim (xs : List Int) : List Int := xs.take (tl xs xs.length)

theorem RdI.take {lo hi : Nat} {w : World} {b off cap : Nat} {xs : List Int} {n k : Nat} (h : RdI lo hi w (.slice (some ⟨b, off, none⟩) n cap) xs) (hn : xs.length = n) (hk : k ≤ n) : RdI lo hi w (.slice (some ⟨b, off, none⟩) k cap) (xs.take k) := by
  obtain ⟨h1, h2, h⟩ := h
  have hl : (xs.take k).length = k := by rw [List.length_take]; omega
  refine ⟨by omega, fun x hx => h2 x (List.mem_of_mem_take hx), ?_⟩
  by_cases h0 : k = 0
  · subst h0
    exact .inl ⟨_, _, by simp, rfl⟩
  · rcases h with ⟨a, c, rfl, _⟩ | ⟨b', off', cap', hv, h0', hlo, hhi, hc⟩
    · simp at hn; omega
    · simp only [Value.slice.injEq, Option.some.injEq, Addr.mk.injEq] at hv
      obtain ⟨⟨rfl, rfl, _⟩, _, rfl⟩ := hv
      refine .inr ⟨b, off, cap, by rw [hl], by omega, hlo, hhi, fun j hj => ?_⟩
      rw [hc j (by omega)]
      simp [List.getD, List.getElem?_take, show j < k by omega]

set_option maxHeartbeats 800000 in
theorem trim_ne {lo hi : Nat} (n b off cap : Nat) (xs : List Int) (w : World) (hx : xs.length = n) (hcap : n ≤ cap) (h : RdI lo hi w (.slice (some ⟨b, off, none⟩) n cap) xs)
    (hc : ∀ j, j < n → w.cell? ⟨b, off + j, none⟩ = some (.int .i64 (xs.getD j 0))) :
    Calls Try.prog 59 #[.slice (some ⟨b, off, none⟩) n cap] w fun e w' => ∃ a c, e = .returned (.slice a (trim xs).length c) ∧ OwI w.heap.size w'.heap.size w' (.slice a (trim xs).length c) (trim xs) ∧ Below w.heap.size w w' := by
  have hn17 := h.1
  rw [hx] at hn17
  have HX := Lib.hid hx
  have HC := Lib.hid hc
  have HR := Lib.hid h
  clear hx hc h
  go_enter Try.func59, Try.ntmps59
  go_wp2
  go_loopw [3] (fun i wr => ∃ k : Nat, k ≤ n ∧ i = .int .i64 k ∧ tl xs n = tl xs k ∧ Qt w wr) (fun i _ => (intOf i).toNat)
  case atStart => exact ⟨n, Nat.le_refl _, rfl, rfl, Qt.refl _⟩
  case round =>
    obtain ⟨k, hk, rfl, ht, hq⟩ := hrel
    have HT := Lib.hid ht
    clear ht
    have fin : ∀ k, k ≤ n → tl xs n = k → trim xs = xs.take k := fun k _ e => by unfold trim; rw [HX.out, e]
    have FIN := Lib.hid fin
    clear fin
    by_cases h0 : k = 0
    · subst h0
      have e0 : tl xs 0 = 0 := rfl
      have e1 := FIN.out 0 hk (by rw [HT.out, e0])
      have E1 := Lib.hid e1
      clear e0 e1
      go_wp2_with fail
      refine (l01Own _ (xs.take 0) _ ((HR.out.take HX.out hk).qt hq)).mono ?_
      rintro e w1 ⟨a1, c1, rfl, o1, b1⟩
      have hB := hq.below.next b1
      have ho : OwI w.heap.size w1.heap.size w1 (.slice a1 (xs.take 0).length c1) (xs.take 0) := by have := hq.below.size; obtain ⟨p1, p2, p3, p4⟩ := o1; exact ⟨p1, p2, ownsRow_mono p3 this, p4⟩
      go_wp2
      go_ret
      rw [E1.out]
      exact ⟨a1, c1, rfl, ho, hB⟩
    · obtain ⟨j, rfl⟩ : ∃ j, k = j + 1 := ⟨k - 1, by omega⟩
      have h1 := hq.cell (HC.out j (by omega))
      generalize hx0 : xs.getD j 0 = x0 at *
      have H0 := Lib.hid hx0
      clear hx0
      cases hz : (x0 == 0) with
      | true =>
        go_wp2
        go_roundw
        case rel => exact ⟨j, by omega, by congr 1 <;> omega, by rw [HT.out]; conv => lhs; unfold tl
                                                                 rw [if_pos (by rw [H0.out]; simpa using hz)], hq⟩
        case measure => simp [intOf] <;> omega
      | false =>
        have e0 : tl xs (j+1) = j + 1 := by
          conv => lhs; unfold tl
          rw [if_neg (by rw [H0.out]; simpa using hz)]
        have e1 := FIN.out (j+1) hk (by rw [HT.out, e0])
        have E1 := Lib.hid e1
        clear e0 e1
        have hl : (xs.take (j+1)).length = j + 1 := by rw [List.length_take]; have := HX.out; omega
        have HL := Lib.hid hl
        clear hl
        go_wp2_with fail
        refine (l01Own _ (xs.take (j+1)) _ ((HR.out.take HX.out hk).qt hq)).mono ?_
        rintro e w1 ⟨a1, c1, rfl, o1, b1⟩
        have hB := hq.below.next b1
        have ho : OwI w.heap.size w1.heap.size w1 (.slice a1 (xs.take (j+1)).length c1) (xs.take (j+1)) := by have := hq.below.size; obtain ⟨p1, p2, p3, p4⟩ := o1; exact ⟨p1, p2, ownsRow_mono p3 this, p4⟩
        go_wp2
        go_ret
        rw [E1.out]
        exact ⟨a1, c1, by rw [List.length_take]; rfl, ho, hB⟩

theorem trim_nil {lo hi : Nat} (a : Option Addr) (cap : Nat) (w : World) (h : RdI lo hi w (.slice a 0 cap) []) :
    Calls Try.prog 59 #[.slice a 0 cap] w fun e w' => ∃ a c, e = .returned (.slice a 0 c) ∧ OwI w.heap.size w'.heap.size w' (.slice a 0 c) [] ∧ Below w.heap.size w w' := by
  go_enter Try.func59, Try.ntmps59
  go_wp2
  refine wp_loop_rounds 1 ?_
  rw [rounds_succ]
  go_wp2_with fail
  refine (l01Own _ [] _ h).mono ?_
  rintro e w1 ⟨a1, c1, rfl, o1, b1⟩
  go_wp2
  go_ret
  exact ⟨a1, c1, rfl, o1, b1⟩

theorem l01Trim {lo hi : Nat} (v : Value) (xs : List Int) (w : World) (hcap : ∀ a n c, v = .slice a n c → n ≤ c) (h : RdI lo hi w v xs) :
    Calls Try.prog 59 #[v] w fun e w' => ∃ a c, e = .returned (.slice a (trim xs).length c) ∧ OwI w.heap.size w'.heap.size w' (.slice a (trim xs).length c) (trim xs) ∧ Below w.heap.size w w' := by
  have h' := h
  obtain ⟨h1, h2, ⟨a, cap, rfl, rfl⟩ | ⟨b, off, cap, rfl, h0, hlo, hhi, hc⟩⟩ := h
  · exact trim_nil a cap w h'
  · exact trim_ne xs.length b off cap xs w rfl (hcap _ _ _ rfl) h' hc

end Go.Proofs.Ytpnedjhgjellnaa
