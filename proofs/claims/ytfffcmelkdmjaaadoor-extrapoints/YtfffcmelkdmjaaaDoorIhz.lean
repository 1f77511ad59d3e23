/-
  Greater constants widen less; both and more of the statements of extra.
-/
import Derived.Test.YtfffcmelkdmjaaaDoorIgz
import Derived.Test.YtfffcmelkdmjaaaDoorZf
namespace Go.Proofs.YtfffcmelkdmjaaaDoor
open Go.RowKit
set_option linter.unusedVariables false
set_option maxRecDepth 100000
def memB (l : List Int) : Nat → Nat → Bool
  | 0, _ => false
  | K + 1, i => memB l K i || decide ((l.getD K 0).toNat = i)
theorem memB_iff {l : List Int} {i : Nat} : ∀ K, memB l K i = true ↔ ∃ k, k < K ∧ (l.getD k 0).toNat = i
  | 0 => ⟨fun h => (by cases h), fun ⟨k, h, _⟩ => (by omega)⟩
  | K + 1 => by
    simp only [memB, Bool.or_eq_true, memB_iff K, decide_eq_true_eq]
    constructor
    · rintro (⟨k, h1, h2⟩ | h)
      · exact ⟨k, by omega, h2⟩
      · exact ⟨K, by omega, h⟩
    · rintro ⟨k, h1, h2⟩
      by_cases e : k = K
      · subst e; exact .inr h2
      · exact .inl ⟨k, by omega, h2⟩
theorem memB_pos {n : Nat} {l : List Int} {K i : Nat} (ha : hasA n l K = true) (h : memB l K i = true) : 1 ≤ i := by
  obtain ⟨k, h1, h2⟩ := (memB_iff K).1 h
  have := hasA_at ha k h1
  omega
theorem frS_at {n : Nat} {l : List Int} (p : Mat) : ∀ K, hasA n l K = true → ∀ i j, frS l K p i j = if memB l K i = true then (if i = j then 1 else opn) else if memB l K j = true then p i 0 else p i j
  | 0, _, i, j => by simp [frS, memB]
  | K + 1, ha, i, j => by
    have ha' : hasA n l K = true := by simp only [hasA, Bool.and_eq_true] at ha; exact ha.1
    have hx := hasA_at ha K (by omega)
    have ih := frS_at p K ha'
    have m0 : memB l K 0 = false := by
      cases e : memB l K 0 with
      | false => rfl
      | true => have := memB_pos ha' e; omega
    show frP (l.getD K 0).toNat (frS l K p) i j = _
    have me : ∀ a, memB l (K + 1) a = (memB l K a || decide ((l.getD K 0).toNat = a)) := fun a => rfl
    rw [me i, me j]
    generalize hX : (l.getD K 0).toNat = x at *
    by_cases ci : i = x
    · subst ci
      rw [frP_x, decide_eq_true rfl, Bool.or_true, if_pos rfl]
      by_cases cj : j = i
      · rw [if_pos cj, if_pos cj.symm]
      · rw [if_neg cj, if_neg (fun e => cj e.symm)]
    · rw [decide_eq_false (fun e => ci e.symm), Bool.or_false]
      by_cases cj : j = x
      · subst cj
        rw [frP_c _ ci, ih, decide_eq_true rfl, Bool.or_true, if_pos rfl, m0]
        cases e : memB l K i with
        | true =>
          have := memB_pos ha' e
          rw [if_pos rfl, if_pos rfl, if_neg (by omega), if_neg ci]
        | false => rw [if_neg (by decide), if_neg (by decide), if_neg (by decide)]
      · rw [frP_o _ ci cj, ih, decide_eq_false (fun e => cj e.symm), Bool.or_false]
theorem frS_mono {n m : Nat} {l l' : List Int} {p : Mat} {c : Row} (hm : m = (n + 1) * (n + 1)) (h : FullC n m p c) (ha : hasA n l l.length = true) (ha' : hasA n l' l'.length = true) (hs : ∀ i, memB l' l'.length i = true → memB l l.length i = true) : Le n (frS l' l'.length p) (frS l l.length p) := fun i j hi hj => by
  have F' := (frS_full (l := l') hm h l'.length ha').1
  have top := F_opn (F'.cl.F hi hj)
  have one := F'.cl.one i hi
  rw [frS_at p l.length ha i j]
  cases e1 : memB l l.length i with
  | true =>
    rw [if_pos rfl]
    by_cases ij : i = j
    · subst ij; rw [if_pos rfl, one]; exact Int.le_refl _
    · rw [if_neg ij]; exact top
  | false =>
    have e1' : memB l' l'.length i = false := by
      cases e : memB l' l'.length i with
      | false => rfl
      | true => rw [hs i e] at e1; cases e1
    rw [if_neg (by decide), frS_at p l'.length ha' i j, e1', if_neg (by decide)]
    have le0 : p i j ≤ p i 0 := by
      have t := h.cl.t hi hj (show 0 ≤ n by omega)
      have m1 := pl_mono (h.cl.F hi (show 0 ≤ n by omega)) (h.cl.F (show 0 ≤ n by omega) hj) (h.cl.F hi (show 0 ≤ n by omega)) F1 (Int.le_refl _) (h.low j hj)
      rw [pl_one (h.cl.F hi (by omega))] at m1
      omega
    cases e2 : memB l l.length j with
    | true =>
      rw [if_pos rfl]
      split
      · exact Int.le_refl _
      · exact le0
    | false =>
      have e2' : memB l' l'.length j = false := by
        cases e : memB l' l'.length j with
        | false => rfl
        | true => rw [hs j e] at e2; cases e2
      rw [e2']
      exact Int.le_refl _
theorem mem_sil {lo up : List Int} {n i : Nat} : memB (silL lo up n) (silL lo up n).length i = true ↔ ∃ k, k < n ∧ i = k + 1 ∧ lo.getD k 0 = -1 ∧ up.getD k 0 = -1 := by
  rw [memB_iff]
  constructor
  · rintro ⟨k, h1, h2⟩
    have mem : (silL lo up n).getD k 0 ∈ silL lo up n := by
      have e : (silL lo up n).getD k 0 = (silL lo up n)[k] := by simp [List.getD, h1]
      rw [e]; exact List.getElem_mem _
    obtain ⟨k', a1, a2, a3⟩ := (silL_mem n).1 mem
    exact ⟨k', a1, by rw [a2] at h2; omega, a3⟩
  · rintro ⟨k, h1, h2, h3⟩
    have mem : ((k : Int) + 1) ∈ silL lo up n := (silL_mem n).2 ⟨k, h1, rfl, h3⟩
    obtain ⟨k', b1, b2⟩ := List.getElem_of_mem mem
    refine ⟨k', b1, ?_⟩
    have e : (silL lo up n).getD k' 0 = (silL lo up n)[k'] := by simp [List.getD, b1]
    rw [e, b2, h2]
    omega
/-- Constants that are nowhere less. -/
def LeC (n : Nat) (l l' : List Int) : Prop := ∀ k, k < n → l.getD k 0 ≤ l'.getD k 0
theorem cstN_mono {n : Nat} {l l' : List Int} (h : LeC n l l') {i : Nat} (hi : i ≤ n) : cstN l i ≤ cstN l' i := by
  unfold cstN
  split
  · exact Int.le_refl _
  · have := h (i - 1) (by omega)
    omega
theorem wdP_mono {n : Nat} {lo up lo' up' : List Int} {F F' : Mat} (hF : Le n F' F) (hC : ∀ i j, i ≤ n → j ≤ n → Go.Proofs.YtfffcmelkdmjaaaDoor.F (F' i j)) (h1 : LeC n lo lo') (h2 : LeC n up up') : Le n (wdP lo' up' F') (wdP lo up F) := fun i j hi hj => by
  have le := hF i j hi hj
  have a := cstN_mono h1 hi
  have b := cstN_mono h2 hj
  have top := F_opn (hC i j hi hj)
  have bb : 0 ≤ cstN up' j := by unfold cstN; split <;> omega
  have ho := opn_val
  unfold wdP
  by_cases ij : i = j
  · rw [if_pos ij, if_pos ij]; exact le
  · rw [if_neg ij, if_neg ij]
    by_cases c : ¬ i = 0 ∧ 2 * cstN lo i + 1 < F i j
    · rw [if_pos c]
      split
      · exact Int.le_refl _
      · split
        · omega
        · exact top
    · rw [if_neg c, if_neg (by omega)]
      split <;> split <;> omega
/-- What LU makes of a zone, as cells. -/
theorem lu_row {n m : Nat} {lo up : List Int} {c : Row} (hn : n ≤ 8) (hm : m = (n + 1) * (n + 1)) (zc : ZC n m c) (h0 : mayE n lo = 0) (h1 : mayE n up = 0) :
    ∃ ca, ZC n m ca ∧ incB m ca c = true ∧ (c = (fun _ => 0) → ca = fun _ => 0) ∧ (∀ p, FullC n m p c → ∃ q, FullC n m q ca ∧ Le n q (wdP lo up (frS (silL lo up n) (silL lo up n).length p)) ∧ ∀ s, Cl n s → Le n s (wdP lo up (frS (silL lo up n) (silL lo up n).length p)) → Le n s q) ∧
      ∀ (w : World) (b q cap q' cap' : Nat) (ad ad' : Option Addr), ZoneAt w b n c → lo.length = q → IntsAt w (.slice ad q cap) lo → up.length = q' → IntsAt w (.slice ad' q' cap') up → Tells w n 59 #[.pointer (some ⟨b, 0, none⟩), .slice ad q cap, .slice ad' q' cap'] (some ca) := by
  obtain ⟨l1, k1⟩ := mayE_zero h0
  obtain ⟨l2, k2⟩ := mayE_zero h1
  obtain ⟨c1, z1, i1, R1, f1, p1, q1⟩ := free_rowL (l := silL lo up n) hn hm zc sil_has
  have key : ∃ ca, luO n m lo up c1 = some ca ∧ ZC n m ca ∧ incB m ca c = true ∧ (c = (fun _ => 0) → ca = fun _ => 0) ∧ (∀ p, FullC n m p c → ∃ q, FullC n m q ca ∧ Le n q (wdP lo up (frS (silL lo up n) (silL lo up n).length p)) ∧ ∀ s, Cl n s → Le n s (wdP lo up (frS (silL lo up n) (silL lo up n).length p)) → Le n s q) := by
    rcases zc with rfl | ⟨p, hp⟩
    · have := q1 rfl
      subst this
      refine ⟨fun _ => 0, by unfold luO; rw [if_pos (by decide)], .inl rfl, incB_iff.2 (.inl (by decide)), fun _ => rfl, fun p hp => ?_⟩
      have := hp.zero hm
      cases this
    · obtain ⟨e1, F1, L1⟩ := p1 p hp
      obtain ⟨q, Fq, eq, Lq, Uq, Gq⟩ := lu_math hn hm F1 k1 k2
      refine ⟨_, eq, .inr ⟨_, Fq⟩, full_inc Fq hp hm (fun i j hi hj => Int.le_trans (L1 i j hi hj) (Lq i j hi hj)), fun e => ?_, fun p' hp' => ?_⟩
      · have := hp.zero hm
        rw [e] at this
        cases this
      · have pe : ∀ i j, i ≤ n → j ≤ n → p' i j = p i j := fun i j hi hj => by rw [← hp'.pm hm hi hj, hp.pm hm hi hj]
        have fe : ∀ i j, i ≤ n → j ≤ n → frS (silL lo up n) (silL lo up n).length p' i j = frS (silL lo up n) (silL lo up n).length p i j := fun i j hi hj => by
          rw [frS_at p' _ sil_has, frS_at p _ sil_has, pe i j hi hj, pe i 0 hi (by omega)]
        have we : ∀ i j, i ≤ n → j ≤ n → wdP lo up (frS (silL lo up n) (silL lo up n).length p') i j = wdP lo up (frS (silL lo up n) (silL lo up n).length p) i j := fun i j hi hj => by
          unfold wdP
          rw [fe i j hi hj]
        exact ⟨q, Fq, fun i j hi hj => by rw [we i j hi hj]; exact Uq i j hi hj, fun s hs hl => Gq s hs fun i j hi hj => by rw [← we i j hi hj]; exact hl i j hi hj⟩
  obtain ⟨ca, e, k3, k4, k5, k6⟩ := key
  refine ⟨ca, k3, k4, k5, k6, fun w b q cap q' cap' ad ad' hz hl hv hl' hv' => ?_⟩
  rw [← e]
  exact lu_tells hn hm hz zc hl hv hl' hv' h0 h1 z1 R1 f1
theorem lu_less {n m : Nat} {lo up lo' up' : List Int} {c ca cb : Row} (hn : n ≤ 8) (hm : m = (n + 1) * (n + 1)) (zc : ZC n m c) (h1 : LeC n lo lo') (h2 : LeC n up up')
    (a1 : c = (fun _ => 0) → ca = fun _ => 0) (b1 : c = (fun _ => 0) → cb = fun _ => 0)
    (a2 : ∀ p, FullC n m p c → ∃ q, FullC n m q ca ∧ Le n q (wdP lo up (frS (silL lo up n) (silL lo up n).length p)) ∧ ∀ s, Cl n s → Le n s (wdP lo up (frS (silL lo up n) (silL lo up n).length p)) → Le n s q)
    (b2 : ∀ p, FullC n m p c → ∃ q, FullC n m q cb ∧ Le n q (wdP lo' up' (frS (silL lo' up' n) (silL lo' up' n).length p)) ∧ ∀ s, Cl n s → Le n s (wdP lo' up' (frS (silL lo' up' n) (silL lo' up' n).length p)) → Le n s q)
    (hb : ∀ k, k < n → -1 ≤ lo.getD k 0 ∧ -1 ≤ up.getD k 0) : incB m ca cb = true := by
  rcases zc with rfl | ⟨p, hp⟩
  · rw [b1 rfl]; exact incB_iff.2 (.inl (by decide))
  · obtain ⟨q, Fq, Uq, Gq⟩ := a2 p hp
    obtain ⟨q', Fq', Uq', -⟩ := b2 p hp
    have F' := (frS_full (l := silL lo' up' n) hm hp _ sil_has).1
    refine full_inc Fq Fq' hm (Gq q' Fq'.cl fun i j hi hj => Int.le_trans (Uq' i j hi hj) (wdP_mono (frS_mono hm hp sil_has sil_has fun i h => ?_) (fun i j hi hj => F'.cl.F hi hj) h1 h2 i j hi hj))
    obtain ⟨k, k1, k2, k3, k4⟩ := mem_sil.1 h
    have := h1 k k1
    have := h2 k k1
    have := hb k k1
    exact mem_sil.2 ⟨k, k1, k2, by omega, by omega⟩
theorem both5_any (n : Int) (v : Value) (l : List Int) (w : World) (hS : SliceAt w v l) (hi : ∀ j, j < l.length → -2147483648 ≤ l.getD j 0 ∧ l.getD j 0 ≤ 2147483647) (hby : l.length ≤ 9223372036854775807) :
    ∃ o, ZCo o ∧ (∀ N c, o = some (N, c) → n = (N : Int)) ∧ ∀ w', Below w.heap.size w w' → Calls Tryd.prog 57 #[.int .i64 n, v] w' fun e w'' => (∃ p q, e = .returned (.tuple #[.pointer p, .pointer q]) ∧ Hid (PZ w'' p o) ∧ Hid (RZ w'' q o)) ∧ Hid (Below w'.heap.size w' w'') := by
  obtain ⟨k, o, h1, h2, h3, h4⟩ := two_of n v l w hS hi hby
  refine ⟨o, h3, h4, fun w' hb' => ?_⟩
  have H1 := hideD (h1 w' hb')
  have H2 : Hid (∀ w'', Below w'.heap.size w' w'' → _) := fun w'' hb'' => h2 w'' (beyondD hb' hb'')
  clear h1 h2 hS hi hb'
  go_enter Tryd.func57, Tryd.ntmps57
  go_wp2_with fail
  refine H1.out.mono ?_
  rintro e w1 ⟨⟨p, rfl, hp⟩, hb⟩
  have H3 := hideD (H2.out _ hb.out)
  clear H1 H2
  go_wp2_with fail
  refine H3.out.mono ?_
  rintro e w2 ⟨⟨q, rfl, hq⟩, hb2⟩
  have P2 := hideD (hp.out.past hb2.out)
  have B2 := hideD (beyondD hb.out hb2.out)
  clear H3 hp hb hb2
  go_wp2_with fail
  exact bodyPost_ret (v := .tuple #[.pointer p, .pointer q]) (by simp [results, Tryd.results57, go_sem]) rfl ⟨⟨p, q, rfl, P2, hq⟩, B2⟩
def mrV (a b : List Int) (k : Nat) : Int := if k < b.length ∧ a.getD k 0 < b.getD k 0 then b.getD k 0 else a.getD k 0
def mrL (a b : List Int) (K : Nat) : List Int := (List.range K).map (mrV a b)
theorem mrL_next (a b : List Int) (K : Nat) : mrL a b (K + 1) = mrL a b K ++ [mrV a b K] := by simp [mrL, List.range_succ]
theorem mrL_len (a b : List Int) (K : Nat) : (mrL a b K).length = K := by simp [mrL]
theorem mrL_get (a b : List Int) (K k : Nat) (h : k < K) : (mrL a b K).getD k 0 = mrV a b k := by simp [mrL, List.getD, h]
theorem mrL_le (a b : List Int) (K : Nat) : LeC K a (mrL a b K) := fun k hk => by
  rw [mrL_get a b K k hk]
  unfold mrV
  split <;> omega
set_option maxHeartbeats 4000000 in
theorem more_any (q cap q' cap' : Nat) (ad ad' : Option Addr) (a b : List Int) (w : World) (hl : a.length = q) (hu : b.length = q') (hv : IntsAt w (.slice ad q cap) a) (hv' : IntsAt w (.slice ad' q' cap') b) (hq : q ≤ 1000) (hq' : q' ≤ 9223372036854775807) :
    Calls Tryd.prog 73 #[.slice ad q cap, .slice ad' q' cap'] w fun e w' => (∃ x k c, e = .returned (.slice x k c) ∧ Hid ((mrL a b q).length = k ∧ IntsAt w' (.slice x k c) (mrL a b q))) ∧ Below w.heap.size w w' := by
  have HC : Hid (∀ wr, Below w.heap.size w wr → ∀ k, k < q → ∃ cb off, ad = some ⟨cb, off, none⟩ ∧ wr.cell? ⟨cb, off + k, none⟩ = some (.int .i64 (a.getD k 0))) := fun wr hb k hk => (hv.past hb).at hl k hk
  have HC' : Hid (∀ wr, Below w.heap.size w wr → ∀ k, k < q' → ∃ cb off, ad' = some ⟨cb, off, none⟩ ∧ wr.cell? ⟨cb, off + k, none⟩ = some (.int .i64 (b.getD k 0))) := fun wr hb k hk => (hv'.past hb).at hu k hk
  have NX : Hid (∀ K, mrL a b (K + 1) = mrL a b K ++ [if K < q' ∧ a.getD K 0 < b.getD K 0 then b.getD K 0 else a.getD K 0]) := fun K => by rw [mrL_next, mrV, hu]
  have LN := hideD (mrL_len a b)
  obtain ⟨i0, hi0, hz0, hz1, hz2⟩ := info_parts info_int
  have q1 : (q : Int) ≤ 9223372036854775807 := by omega
  have q2 : (q' : Int) ≤ 9223372036854775807 := by omega
  clear hv hl hv' hu
  go_enter Tryd.func73, Tryd.ntmps73
  go_wp2_with fail
  go_loopw [5, 6] (fun u s wr => ∃ (K : Nat), K ≤ q ∧ s = .int .i64 (K : Int) ∧ Hid (wr.ownsRow w.heap.size 3 1 u K ((mrL a b K).map (Value.int .i64))) ∧ Hid (Below w.heap.size w wr)) (fun _ s _ => q - (intOf s).toNat)
  case atStart => exact ⟨0, by omega, rfl, World.ownsRow_nil _ _ _ _, Below.refl _ _⟩
  case round =>
    obtain ⟨K, hK, rfl, hown, hB⟩ := hrel
    by_cases ck : K < q
    · have k0 : (0 : Int) ≤ (K : Int) := by omega
      have k1 : (K : Int) < (q : Int) := by omega
      obtain ⟨cb, off, rfl, c1⟩ := HC.out wr hB.out K ck
      have nx := hideD (NX.out K)
      have hsz := hB.out.size
      have key : ∀ y : Int, Hid (∀ j u, [Value.int .i64 y][j]? = some u → (wr.alloc (.cells #[.int .i64 y] 3)).cell? ((⟨wr.heap.size, 0, none⟩ : Addr).add j) = some u) := by
        intro y j u hj
        match j, hj with
        | 0, hj => simp at hj; subst hj; simp [Addr.add]
      generalize a.getD K 0 = x at *
      by_cases cq : K < q'
      · have cq1 : (K : Int) < (q' : Int) := by omega
        obtain ⟨cb', off', rfl, c2⟩ := HC'.out wr hB.out K cq
        generalize b.getD K 0 = y at *
        by_cases cx : x < y
        · rw [if_pos ⟨cq, cx⟩] at nx
          have HN := key y
          clear key
          go_wp2_with (at_builtin; first | (refine wpList_append_own _ rfl _ _ 74 rfl w.heap.size 3 i0 (.int .i64 0) 1 8 Tryd.underlying74 hi0 hz0 hz1 hz2 rfl (by decide) _ K ((mrL a b K).map (Value.int .i64)) rfl (hown.out.alloc _) ⟨wr.heap.size, 0, none⟩ 1 1 [.int .i64 y] rfl rfl HN.out (fun u hu => by simp at hu; subst hu; rfl) (by unfold maxLen; omega) (by omega) (by simp; omega) ?_; intro v' w1 hown' hgrow hnil))
          have hb1 : Below w.heap.size w w1 := (hB.out.alloc hsz _).grown hgrow (by simp; omega) (by intro q hq; exact (hown.out.lt q hq).1)
          have B5 := hideD hb1
          have own5 : Hid (w1.ownsRow w.heap.size 3 1 v' (K + 1) ((mrL a b (K + 1)).map (Value.int .i64))) := by
            show w1.ownsRow _ _ _ _ _ _
            rw [nx.out, List.map_append]
            exact hown'
          clear hown' hgrow hnil hb1 HN hown hB
          exact ⟨⟨K + 1, by omega, by go_num, own5, B5⟩, by simp [intOf]; omega⟩
        · rw [if_neg (fun h => cx h.2)] at nx
          have HN := key x
          clear key
          go_wp2_with (at_builtin; first | (refine wpList_append_own _ rfl _ _ 74 rfl w.heap.size 3 i0 (.int .i64 0) 1 8 Tryd.underlying74 hi0 hz0 hz1 hz2 rfl (by decide) _ K ((mrL a b K).map (Value.int .i64)) rfl (hown.out.alloc _) ⟨wr.heap.size, 0, none⟩ 1 1 [.int .i64 x] rfl rfl HN.out (fun u hu => by simp at hu; subst hu; rfl) (by unfold maxLen; omega) (by omega) (by simp; omega) ?_; intro v' w1 hown' hgrow hnil))
          have hb1 : Below w.heap.size w w1 := (hB.out.alloc hsz _).grown hgrow (by simp; omega) (by intro q hq; exact (hown.out.lt q hq).1)
          have B5 := hideD hb1
          have own5 : Hid (w1.ownsRow w.heap.size 3 1 v' (K + 1) ((mrL a b (K + 1)).map (Value.int .i64))) := by
            show w1.ownsRow _ _ _ _ _ _
            rw [nx.out, List.map_append]
            exact hown'
          clear hown' hgrow hnil hb1 HN hown hB
          exact ⟨⟨K + 1, by omega, by go_num, own5, B5⟩, by simp [intOf]; omega⟩
      · have cq1 : ¬ (K : Int) < (q' : Int) := by omega
        rw [if_neg (fun h => cq h.1)] at nx
        have HN := key x
        clear key
        go_wp2_with (at_builtin; first | (refine wpList_append_own _ rfl _ _ 74 rfl w.heap.size 3 i0 (.int .i64 0) 1 8 Tryd.underlying74 hi0 hz0 hz1 hz2 rfl (by decide) _ K ((mrL a b K).map (Value.int .i64)) rfl (hown.out.alloc _) ⟨wr.heap.size, 0, none⟩ 1 1 [.int .i64 x] rfl rfl HN.out (fun u hu => by simp at hu; subst hu; rfl) (by unfold maxLen; omega) (by omega) (by simp; omega) ?_; intro v' w1 hown' hgrow hnil))
        have hb1 : Below w.heap.size w w1 := (hB.out.alloc hsz _).grown hgrow (by simp; omega) (by intro q hq; exact (hown.out.lt q hq).1)
        have B5 := hideD hb1
        have own5 : Hid (w1.ownsRow w.heap.size 3 1 v' (K + 1) ((mrL a b (K + 1)).map (Value.int .i64))) := by
          show w1.ownsRow _ _ _ _ _ _
          rw [nx.out, List.map_append]
          exact hown'
        clear hown' hgrow hnil hb1 HN hown hB
        exact ⟨⟨K + 1, by omega, by go_num, own5, B5⟩, by simp [intOf]; omega⟩
    · have eK : K = q := by omega
      subst eK
      have ow := hown.out
      rw [show K = (mrL a b K).length from (LN.out K).symm] at ow
      rw [LN.out K] at ow
      obtain ⟨x, kk, c, e, hI, -⟩ := own_ints (l := mrL a b K) (base := w.heap.size) (by rw [LN.out K]; exact hown.out)
      have hk : Hid ((mrL a b K).length = kk) := by
        have := hown.out.2
        rcases this with ⟨h1, h2⟩ | ⟨g, cp, cur, h1, _⟩
        · rw [e] at h1; injection h1 with _ h1 _; show _ = _; rw [LN.out K]; omega
        · rw [e] at h1; injection h1 with _ h1 _; show _ = _; rw [LN.out K]; omega
      subst e
      have HI := hideD hI
      clear hI ow
      go_wp2_with fail
      go_ret
      exact ⟨⟨_, _, _, rfl, hk.out, HI.out⟩, hB.out⟩
end Go.Proofs.YtfffcmelkdmjaaaDoor
