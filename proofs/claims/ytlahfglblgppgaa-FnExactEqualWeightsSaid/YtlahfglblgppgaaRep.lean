/- slices.Repeat of a list of one number. -/
import Derived.Test.YtlahfglblgppgaaTriv
import Derived.Test.YtlahfglblgppgaaArr
import Derived.Test.YtlahfglblgppgaaSortO
set_option linter.unusedSimpArgs false
set_option linter.unusedVariables false
set_option maxRecDepth 100000
namespace Go.Proofs.Ytlahfglblgppgaa
open Go.RowKit

/-- copy into the middle of a slice of this call's own -/
theorem wpList_copy_at {P : Program} {w : World} {ops : Array Oper} {rest : List Oper} {o : Oper} {a : Act} {Q : Exit → Act → World → Prop} (hgd : o.guard = none) (d s : Operand) (dT sT : TypeId)
    (ho : o.op = .call { callee := .builtin .copy, args := #[d, s], argTypes := #[dT, sT] }) (elem : TypeId) (hu : P.underlying dT = some (.slice elem)) (hsz : (P.info? elem).map (·.size) = some 1)
    (b off dLen dCap : Nat) (sp : Option Addr) (sLen sCap : Nat) (hd : a.eval d = .slice (some ⟨b, off, none⟩) dLen dCap) (hs : a.eval s = .slice sp sLen sCap)
    (cs : List Value) (hn : cs.length = Nat.min sLen dLen) (hsrc : 0 < cs.length → ∃ ad, sp = some ad ∧ ∀ j v, cs[j]? = some v → w.cell? (ad.add j) = some v)
    (hc : ∀ j, j < cs.length → (w.cell? ⟨b, off + j, none⟩).isSome = true) (hf : ∀ j, j < cs.length → w.frozen? ⟨b, off + j, none⟩ = false) (h1 : ∀ v ∈ cs, v.oneCell' = true)
    (h : ∀ w2, w2 = w.setCells b off cs → wpList P ops Q rest (a.put o.dst (goInt cs.length)) w2) : wpList P ops Q (o :: rest) a w := by
  refine wpList_plain hgd fun K hK => ?_
  by_cases h0 : cs.length = 0
  · obtain rfl : cs = [] := List.eq_nil_of_length_eq_zero h0
    have hrun := run_copy_none (P := P) w dT sT o.type elem (some ⟨b, off, none⟩) sp dLen dCap sLen sCap hu hsz (by simpa using hn.symm)
    unfold Oper.wp
    simp [execOp, ho, resolve, invoke, builtin, hd, hs, hrun, Result.andThen]
    exact hK _ _ (h _ rfl)
  · obtain ⟨ad, rfl, hsrc'⟩ := hsrc (by omega)
    have hrun := run_copy_cells (P := P) w dT sT o.type elem b off dLen dCap ad sLen sCap cs hu hsz hn hsrc' hc hf h1
    unfold Oper.wp
    simp [execOp, ho, resolve, invoke, builtin, hd, hs, hrun, Result.andThen]
    exact hK _ _ (h _ rfl)

/-- the first n of C numbers are v -/
def fillTo (v : Int) (C n : Nat) : List Int := List.replicate n v ++ List.replicate (C - n) 0
theorem fillTo_len {v : Int} {C n : Nat} (h : n ≤ C) : (fillTo v C n).length = C := by simp [fillTo]; omega
theorem fillTo_zero (v : Int) (C : Nat) : fillTo v C 0 = zl C := by simp [fillTo, zl]
theorem fillTo_full (v : Int) (C : Nat) : fillTo v C C = List.replicate C v := by simp [fillTo]
theorem fillTo_set {v : Int} {C n : Nat} (h : n < C) : (fillTo v C n).set n v = fillTo v C (n + 1) := by
  refine List.ext_getElem? fun i => ?_
  unfold fillTo
  rw [List.getElem?_set]
  simp only [List.getElem?_append, List.getElem?_replicate, List.length_append, List.length_replicate]
  by_cases e : n = i
  · subst e
    simp [show n < n + (C - n) by omega]
  · rw [if_neg e]
    by_cases e1 : i < n
    · simp [e1, show i < n + 1 by omega]
    · simp only [if_neg e1, if_neg (show ¬ i < n + 1 by omega)]
      by_cases e2 : i < C
      · simp [show i - n < C - n by omega, show i - (n + 1) < C - (n + 1) by omega]
      · simp [show ¬ i - n < C - n by omega, show ¬ i - (n + 1) < C - (n + 1) by omega]
theorem OwX.fill {lo cap b C : Nat} {v : Int} : ∀ (k n : Nat) (w : World), OwX lo cap w b C (fillTo v C n) → n + k ≤ C → OwX lo cap (w.setCells b n (List.replicate k (Value.int .i64 v))) b C (fillTo v C (n + k))
  | 0, n, w, h, _ => h
  | k + 1, n, w, h, hn => by
    rw [List.replicate_succ, World.setCells]
    have h2 := h.set (j := n) (by omega) v
    rw [fillTo_set (by omega)] at h2
    have := OwX.fill k (n + 1) _ h2 (by omega)
    rw [show n + (k + 1) = n + 1 + k by omega]
    exact this

set_option maxHeartbeats 1600000 in
theorem bitsMul1 (n : Nat) (w : World) (h : n ≤ 20) : Calls Try.prog 123 #[.int .u64 1, .int .u64 n] w fun e w' => e = .returned (.tuple #[.int .u64 0, .int .u64 n]) ∧ Qt w w' := by
  have hn : n = 0 ∨ n = 1 ∨ n = 2 ∨ n = 3 ∨ n = 4 ∨ n = 5 ∨ n = 6 ∨ n = 7 ∨ n = 8 ∨ n = 9 ∨ n = 10 ∨ n = 11 ∨ n = 12 ∨ n = 13 ∨ n = 14 ∨ n = 15 ∨ n = 16 ∨ n = 17 ∨ n = 18 ∨ n = 19 ∨ n = 20 := by omega
  rcases hn with rfl | rfl | rfl | rfl | rfl | rfl | rfl | rfl | rfl | rfl | rfl | rfl | rfl | rfl | rfl | rfl | rfl | rfl | rfl | rfl | rfl
  all_goals
    go_enter Try.func123, Try.ntmps123
    go_wp2_with (go_in)
    go_ret2
    exact ⟨rfl, Qt.refl _⟩

theorem step_copy_at {P : Program} {w : World} {ops : Array Oper} {o : Oper} {a : Act} {K : Act → World → Prop} {Q : Exit → Act → World → Prop} {E : Prop} (hgd : o.guard = none) (d s : Operand) (dT sT : TypeId)
    (ho : o.op = .call { callee := .builtin .copy, args := #[d, s], argTypes := #[dT, sT] }) (elem : TypeId) (hu : P.underlying dT = some (.slice elem)) (hsz : (P.info? elem).map (·.size) = some 1)
    (b off dLen dCap : Nat) (ad : Addr) (sLen sCap : Nat) (hd : a.eval d = .slice (some ⟨b, off, none⟩) dLen dCap) (hs : a.eval s = .slice (some ad) sLen sCap)
    (cs : List Value) (hn : cs.length = Nat.min sLen dLen) (hsrc : ∀ j v, cs[j]? = some v → w.cell? (ad.add j) = some v)
    (hc : ∀ j, j < cs.length → (w.cell? ⟨b, off + j, none⟩).isSome = true) (hf : ∀ j, j < cs.length → w.frozen? ⟨b, off + j, none⟩ = false) (h1 : ∀ v ∈ cs, v.oneCell' = true)
    (hK : K (a.put o.dst (goInt cs.length)) (w.setCells b off cs)) : if Region.wanted o (yielded ops a.tmps) = true then Oper.wp P o a w K Q else E := by
  have hw : Region.wanted o (yielded ops a.tmps) = true := by simp [Region.wanted, hgd]
  rw [if_pos hw]
  have hrun := run_copy_cells (P := P) w dT sT o.type elem b off dLen dCap ad sLen sCap cs hu hsz hn hsrc hc hf h1
  unfold Oper.wp
  simp [execOp, ho, resolve, invoke, builtin, hd, hs, hrun, Result.andThen]
  exact hK

theorem rep_mem {v : Int} {k : Nat} : ∀ u ∈ List.replicate k (Value.int .i64 v), u.oneCell' = true := fun u hu => by
  rw [List.eq_of_mem_replicate hu]; rfl
theorem rep_get {v : Int} {k j : Nat} {u : Value} (h : (List.replicate k (Value.int .i64 v))[j]? = some u) : j < k ∧ u = .int .i64 v := by
  rw [List.getElem?_replicate] at h
  split at h
  · rename_i e; cases h; exact ⟨e, rfl⟩
  · cases h
theorem fillTo_get {v : Int} {C n j : Nat} (h : j < n) : (fillTo v C n).getD j 0 = v := by
  simp [fillTo, List.getD, List.getElem?_append, h]

theorem add_mk (b j : Nat) : (Addr.mk b 0 none).add j = Addr.mk b j none := by
  unfold Addr.add
  simp
  try (intro h; exact h.symm)

set_option maxHeartbeats 500000 in
theorem slRepeat (sb so sc C : Nat) (v : Int) (w : World) (hC : C ≤ 20) (h0 : w.cell? ⟨sb, so, none⟩ = some (.int .i64 v)) (hv : I64 v) :
    Calls Try.prog 65 #[.slice (some ⟨sb, so, none⟩) 1 sc, .int .i64 C] w fun e w' => ∃ a c, e = .returned (.slice a C c) ∧ OwI w.heap.size w'.heap.size w' (.slice a C c) (List.replicate C v) ∧ Below w.heap.size w w' := by
  obtain ⟨Ob, hOb⟩ := makeI C (by omega)
  have hmk := fun W => (hOb W).1
  have HO := Lib.hid (fun W => (hOb W).2)
  have HSZ := Lib.hid (show (Try.prog.info? 2).map (·.size) = some 1 by
    obtain ⟨i0, hi', z0, z1, z2⟩ := info_parts Try.info2
    rw [hi']; simp [z1])
  clear hOb
  have hd1 : decide ((C : Int) < 0) = false := by simp
  have hd2 : decide ((9223372036854775807 : Int) < (C : Int)) = false := by simp; omega
  have hu1 : IntKind.u64.wrap (C : Int) = (C : Int) := IntWalk.u64_in _ (by omega)
  have hu2 : IntKind.i64.wrap (C : Int) = (C : Int) := IntWalk.i64_in _ (by omega)
  go_enter Try.func65, Try.ntmps65
  go_wp2_with fail
  refine (bitsMul1 C w hC).mono ?_
  rintro e w1 ⟨rfl, q1⟩
  replace h0 := q1.cell h0
  have hO := HO.out w1
  have hgb : Below w.heap.size w (w1.alloc Ob) := ((Below.refl _ _).qt q1).alloc (by have := q1.below.size; exact this) _
  have hgs : w1.heap.size = w.heap.size := by obtain ⟨m, rfl⟩ := q1; simp
  have h0' : (w1.alloc Ob).cell? ⟨sb, so, none⟩ = some (.int .i64 v) := ((Below.refl _ _).alloc (Nat.le_refl _) Ob).keep h0
  have hX : OwX w1.heap.size C (w1.alloc Ob) w1.heap.size C (fillTo v C 0) := by
    rw [fillTo_zero]
    have := hO.2.2.1
    rw [zl_len] at this
    exact this
  have HX := Lib.hid hX
  have HGB := Lib.hid hgb
  clear hgb hX hO
  obtain ⟨V, hV⟩ : ∃ V, V = w1.alloc Ob := ⟨_, rfl⟩
  rw [← hV] at HX HGB h0'
  have hmk1 := hmk w1
  rw [← hV] at hmk1
  obtain ⟨g, hg⟩ : ∃ g, g = w1.heap.size := ⟨_, rfl⟩
  rw [← hg] at HX hmk1
  have HGW := Lib.hid (show w.heap.size = g by omega)
  clear hmk hV hg hgs
  obtain ⟨K, hK⟩ : ∃ K, K = Nat.min 1 C := ⟨_, rfl⟩
  have hK1 : K ≤ 1 := by rw [hK]; exact Nat.min_le_left _ _
  have hK2 : K ≤ C := by rw [hK]; exact Nat.min_le_right _ _
  have hK0 : K = 0 → C = 0 := fun e => by
    by_cases h : C = 0
    · exact h
    · rw [hK] at e; have : Nat.min 1 C = 1 := Nat.min_eq_left (by omega); omega
  have HK := Lib.hid hK
  clear hK
  have hlr : (List.replicate K (Value.int .i64 v)).length = K := List.length_replicate
  go_wp2_with (go_loud (refine wpList_copy_at rfl (.tmp 31) (.tmp 32) 26 26 rfl 2 Try.underlying26 HSZ.out g 0 C C (some ⟨sb, so, none⟩) 1 sc rfl rfl (List.replicate K (Value.int .i64 v)) (by rw [hlr]; exact HK.out) (fun _ => ⟨⟨sb, so, none⟩, rfl, fun j u hj => by obtain ⟨e1, rfl⟩ := rep_get hj; obtain rfl : j = 0 := Nat.lt_one_iff.1 (Nat.lt_of_lt_of_le e1 hK1); exact h0'⟩) (fun j hj => by rw [HX.out.cell (0 + j) (by rw [hlr] at hj; rw [Nat.zero_add]; exact Nat.lt_of_lt_of_le hj hK2)]; rfl) (fun j hj => HX.out.free (0 + j) (by rw [hlr] at hj; rw [Nat.zero_add]; exact Nat.lt_of_lt_of_le hj hK2)) rep_mem ?_); intro w2 hw2)
  have hfl := OwX.fill (lo := g) (cap := C) (b := g) (C := C) (v := v) K 0 V HX.out (by omega)
  rw [Nat.zero_add] at hfl
  subst hw2
  have hB2 : Below w.heap.size w (V.setCells g 0 (List.replicate K (Value.int .i64 v))) := below_setCells (Nat.le_of_eq HGW.out) _ _ _ HGB.out
  have H2 := Lib.hid (⟨hfl, hB2⟩ : _ ∧ _)
  generalize V.setCells g 0 (List.replicate K (Value.int .i64 v)) = w2 at H2 ⊢
  clear hfl hB2 HX HGB h0' hmk1 hlr HK
  go_loopw [8] (fun i wr => ∃ n : Nat, i = .int .i64 n ∧ n ≤ C ∧ (n = 0 → C = 0) ∧ OwX g C wr g C (fillTo v C n) ∧ Below w.heap.size w wr) (fun i _ => C - (intOf i).toNat)
  case atStart => exact ⟨K, rfl, hK2, hK0, H2.out⟩
  case round =>
    obtain ⟨n, rfl, hn, hn0, hX, hB⟩ := hrel
    have HX := Lib.hid hX
    have HB := Lib.hid hB
    clear hX hB
    by_cases hlt : n < C
    · obtain ⟨L, hL⟩ : ∃ L, L = Nat.min n (C - n) := ⟨_, rfl⟩
      have hL1 : L ≤ n := by rw [hL]; exact Nat.min_le_left _ _
      have hL2 : L ≤ C - n := by rw [hL]; exact Nat.min_le_right _ _
      have hL0 : 1 ≤ L := by rw [hL]; exact Nat.le_min.2 ⟨by omega, by omega⟩
      have HL := Lib.hid hL
      clear hL
      have hlr : (List.replicate L (Value.int .i64 v)).length = L := List.length_replicate
      have s1 : IntKind.i64.wrap ((n : Int) + (L : Int)) = ((n + L : Nat) : Int) := by rw [← Int.natCast_add]; exact IntWalk.i64_in _ (by omega)
      have s2 : wrap64 ((n : Int) + (L : Int)) = ((n + L : Nat) : Int) := by rw [← Int.natCast_add]; exact IntWalk.wrap64_in _ (by omega)
      have i1 : (0 : Int) ≤ (n : Int) := by omega
      have i2 : (n : Int) ≤ (C : Int) := by omega
      have hne : ¬ C = n := by omega
      go_wp2
      go_region_law (refine step_copy_at rfl (.tmp 41) (.tmp 44) 26 26 rfl 2 Try.underlying26 HSZ.out g n (C - n) (C - n) ⟨g, 0, none⟩ n C (by simp [Act.eval, Act.put]) (by simp [Act.eval, Act.put]) (List.replicate L (Value.int .i64 v)) (by rw [hlr]; exact HL.out) (fun j u hj => by obtain ⟨e1, rfl⟩ := rep_get hj; have := (HX.out.qt (Qt.refl _).drew).cell j (by omega); rw [fillTo_get (by omega)] at this; rw [add_mk]; exact this) (fun j hj => by rw [hlr] at hj; have := (HX.out.qt (Qt.refl _).drew).cell (n + j) (by omega); simp [this]) (fun j hj => by rw [hlr] at hj; exact (HX.out.qt (Qt.refl _).drew).free (n + j) (by omega)) rep_mem ?_)
      have hX2 := OwX.fill L n wr.drew (HX.out.qt (Qt.refl _).drew) (by omega)
      have hB2 : Below w.heap.size w (wr.drew.setCells g n (List.replicate L (Value.int .i64 v))) := below_setCells (Nat.le_of_eq HGW.out) _ _ _ (HB.out.qt (Qt.refl _).drew)
      have H3 := Lib.hid (⟨hX2, hB2⟩ : _ ∧ _)
      clear hX2 hB2 HL hlr
      generalize wr.drew.setCells g n (List.replicate L (Value.int .i64 v)) = w3 at H3 ⊢
      go_simp
      go_wp2
      go_roundw
      case rel => exact ⟨n + L, rfl, by omega, by omega, H3.out⟩
      case measure => simp [intOf]; omega
    · obtain rfl : n = C := by omega
      have hX := HX.out
      rw [fillTo_full] at hX
      have HO2 := Lib.hid (OwI.mk hX (by omega) (fun x hx => by rw [List.eq_of_mem_replicate hx]; exact hv))
      clear hX
      go_wp2
      go_ret
      exact ⟨some ⟨g, 0, none⟩, n, rfl, OwI.mono HO2.out (Nat.le_of_eq HGW.out) (Nat.le_refl _), HB.out⟩

end Go.Proofs.Ytlahfglblgppgaa
