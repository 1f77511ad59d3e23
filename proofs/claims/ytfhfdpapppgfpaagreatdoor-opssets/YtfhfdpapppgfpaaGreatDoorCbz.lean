/-
  The hull of zones, by the document, in numbers; and a row that is appended, nil or not.
-/
import Derived.Test.YtfhfdpapppgfpaaGreatDoorCaz
import Derived.Laws.AppendOwnNone
namespace Go.Proofs.YtfhfdpapppgfpaaGreatDoor
open Go.RowKit
set_option linter.unusedVariables false
set_option maxRecDepth 100000
def moreM (r : Mat) (a b : Nat) (v : Int) : Mat := if r a b < v then upd r a b v else r
/-- The first K cells as wide as another zone's. -/
def outK (n : Nat) (s : Mat) : Nat → Mat → Mat
  | 0, r => r
  | K + 1, r => moreM (outK n s K r) (K / (n + 1)) (K % (n + 1)) (s (K / (n + 1)) (K % (n + 1)))
def hxN (n m : Nat) (c : Row) (o : Option Mat) : Option Mat := if c 0 = 0 then o else match o with
  | none => some (rowMat n (listOf c m))
  | some r => some (outK n (rowMat n (listOf c m)) m r)
/-- The hull so far: none, while all are empty. -/
def hxK (n m : Nat) (zc : Nat → Row) : Nat → Option Mat
  | 0 => none
  | K + 1 => hxN n m (zc K) (hxK n m zc K)
theorem moreM_le {r : Mat} {a b i j : Nat} {v x : Int} : moreM r a b v i j ≤ x ↔ (r i j ≤ x ∧ (a = i → b = j → v ≤ x)) := by
  unfold moreM
  by_cases l : r a b < v
  · rw [if_pos l]
    unfold upd
    by_cases e : i = a ∧ j = b
    · obtain ⟨rfl, rfl⟩ := e
      rw [if_pos ⟨rfl, rfl⟩]
      constructor
      · intro h; exact ⟨by omega, fun _ _ => h⟩
      · rintro ⟨-, h⟩; exact h rfl rfl
    · rw [if_neg e]
      constructor
      · intro h; exact ⟨h, fun e1 e2 => absurd ⟨e1.symm, e2.symm⟩ e⟩
      · exact fun h => h.1
  · rw [if_neg l]
    constructor
    · intro h
      refine ⟨h, fun e1 e2 => ?_⟩
      subst e1
      subst e2
      omega
    · exact fun h => h.1
theorem outK_le {n : Nat} {s r : Mat} {i j : Nat} {x : Int} : ∀ K, outK n s K r i j ≤ x ↔ (r i j ≤ x ∧ ∀ k, k < K → k / (n + 1) = i → k % (n + 1) = j → s i j ≤ x)
  | 0 => ⟨fun h => ⟨h, fun k hk => by omega⟩, fun h => h.1⟩
  | K + 1 => by
    show moreM (outK n s K r) (K / (n + 1)) (K % (n + 1)) (s (K / (n + 1)) (K % (n + 1))) i j ≤ x ↔ _
    rw [moreM_le, outK_le K]
    constructor
    · rintro ⟨⟨h1, h2⟩, h3⟩
      refine ⟨h1, fun k hk e1 e2 => ?_⟩
      by_cases q : k = K
      · subst q
        have := h3 e1 e2
        rw [e1, e2] at this
        exact this
      · exact h2 k (by omega) e1 e2
    · rintro ⟨h1, h2⟩
      refine ⟨⟨h1, fun k hk => h2 k (by omega)⟩, fun e1 e2 => ?_⟩
      have := h2 K (by omega) e1 e2
      rw [e1, e2]
      exact this
theorem outK_at {n m : Nat} {s r : Mat} (hm : m = (n + 1) * (n + 1)) {i j : Nat} (hi : i ≤ n) (hj : j ≤ n) : outK n s m r i j = max (r i j) (s i j) := by
  refine eq_of_ge fun x => ?_
  rw [outK_le]
  constructor
  · rintro ⟨h1, h2⟩
    have := h2 (i * (n + 1) + j) (by rw [hm]; exact pos_lt hi hj) (place_div hj) (place_mod hj)
    omega
  · intro h
    exact ⟨by omega, fun k hk e1 e2 => by omega⟩
/-- What is gathered of the zones so far. -/
def Gath (n m : Nat) (o : Option Mat) (c : Row) : Prop := match o with
  | none => c = fun _ => 0
  | some r => ∃ p, FullC n m p c ∧ ∀ i j, i ≤ n → j ≤ n → r i j = p i j
theorem zc_zero {n m : Nat} {c : Row} (hm : m = (n + 1) * (n + 1)) (h : ZC n m c) (h0 : c 0 = 0) : c = fun _ => 0 := by
  rcases h with rfl | ⟨p, hp⟩
  · rfl
  · have := hp.zero hm
    omega
theorem gath_first {n m : Nat} {c : Row} (hm : m = (n + 1) * (n + 1)) (h : ZC n m c) : Gath n m (hxN n m c none) c := by
  unfold hxN
  by_cases h0 : c 0 = 0
  · rw [if_pos h0]; exact zc_zero hm h h0
  · rw [if_neg h0]
    obtain ⟨p, hp⟩ := zc_full h ((zc01 hm h).resolve_left h0)
    exact ⟨p, hp, fun i j hi hj => hp.rowMat hm hi hj⟩
theorem gath_next {n m : Nat} {c d : Row} {o : Option Mat} (hm : m = (n + 1) * (n + 1)) (h : ZC n m d) (hg : Gath n m o c) : Gath n m (hxN n m d o) (if decide (d 0 < 1) = true then c else if decide (c 0 < 1) = true then d else maxR c d) := by
  unfold hxN
  by_cases h0 : d 0 = 0
  · rw [if_pos h0, if_pos (by rw [h0]; rfl)]; exact hg
  · have d1 := (zc01 hm h).resolve_left h0
    obtain ⟨q, hq⟩ := zc_full h d1
    rw [if_neg h0, if_neg (by rw [d1]; decide)]
    cases o with
    | none =>
      have e : c = fun _ => 0 := hg
      rw [if_pos (by rw [e]; rfl)]
      exact ⟨q, hq, fun i j hi hj => hq.rowMat hm hi hj⟩
    | some r =>
      obtain ⟨p, hp, hr⟩ := hg
      rw [if_neg (by rw [hp.zero hm]; decide)]
      exact ⟨_, full_max hm hp hq, fun i j hi hj => by rw [outK_at hm hi hj, hr i j hi hj, hq.rowMat hm hi hj]⟩
theorem gath {n m : Nat} {zc : Nat → Row} (hm : m = (n + 1) * (n + 1)) (h : ∀ k, ZC n m (zc k)) : ∀ K, Gath n m (hxK n m zc (K + 1)) (hr (zc 0) (fun k => zc (k + 1)) K)
  | 0 => gath_first hm (h 0)
  | K + 1 => gath_next hm (h (K + 1)) (gath hm h K)
theorem rightL_zc {n m : Nat} {c : Row} (hm : m = (n + 1) * (n + 1)) (h : ZC n m c) : RightL m (listOf c m) := fun k hk => by
  rw [listOf_get _ _ _ hk]
  have := zc_right hm h k
  simpa only [rightB, decide_eq_true_eq] using this
/-- The hull by both ways: one zone. -/
theorem hull_both {n m q : Nat} {zc : Nat → Row} (hn : n ≤ 8) (hm : m = (n + 1) * (n + 1)) (h : ∀ k, ZC n m (zc k)) :
    (hxK n m zc (q + 1) = none → some (hr (zc 0) (fun k => zc (k + 1)) q) = some fun _ => 0) ∧
    (∀ r, hxK n m zc (q + 1) = some r → Ok n r ∧ (∀ j, j ≤ n → r 0 j ≤ 1) ∧ zoneR n r = some (hr (zc 0) (fun k => zc (k + 1)) q)) := by
  have G := gath hm h q
  constructor
  · intro e
    rw [e] at G
    rw [show hr (zc 0) (fun k => zc (k + 1)) q = fun _ => 0 from G]
  · intro r e
    rw [e] at G
    obtain ⟨p, hp, hv⟩ := G
    generalize hr (zc 0) (fun k => zc (k + 1)) q = c at *
    have Z : ZC n m c := .inr ⟨p, hp⟩
    have O := drf_ok n m _ hm (rightL_zc hm Z)
    have ev : ∀ i j, i ≤ n → j ≤ n → drf n m (listOf c m) i j = p i j := fun i j hi hj => by
      rw [drf_at n m _ hm i j hi hj, listOf_get _ _ _ (by rw [hm]; exact pos_lt hi hj), ← oR_at (c := c) hm hi hj]
      exact hp.pm hm hi hj
    have O2 : Ok n r := ⟨fun i j hi hj => by rw [hv i j hi hj, ← ev i j hi hj]; exact O.fin i j hi hj, fun i hi => by rw [hv i i hi hi, ← ev i i hi hi]; exact O.diag i hi⟩
    refine ⟨O2, fun j hj => by rw [hv 0 j (by omega) hj]; exact hp.low j hj, ?_⟩
    rw [← zc_zone hn hm Z]
    refine zone_same hn O2 O fun s hs => ⟨fun hl i j hi hj => ?_, fun hl i j hi hj => ?_⟩
    · have := hl i j hi hj
      rw [hv i j hi hj] at this
      rw [ev i j hi hj]
      exact this
    · have := hl i j hi hj
      rw [ev i j hi hj] at this
      rw [hv i j hi hj]
      exact this
/-- A row is appended that is nil or not. -/
theorem wp_app_any {P : Program} (w : World) {ops : Array Oper} {rest : List Oper} {o : Oper} {a : Act} {Q : Exit → Act → World → Prop} (hgd : o.guard = none) (s x : Operand) (t : TypeId)
    (ho : o.op = .call { callee := .builtin .append, args := #[s, x], argTypes := #[t, t] })
    (base : Nat) (e : TypeId) (i : TypeInfo) (z : Value) (size bytes : Nat) (ht : P.underlying t = some (.slice e)) (hi : P.info? e = some i) (hz : i.zero = some z)
    (hsize : i.size = size) (hby : i.bytes = bytes) (hzs : z.cells.size = size) (hsz : 0 < size)
    (v : Value) (n : Nat) (xs : List Value) (hs : a.eval s = v) (hown : w.ownsRow base e size v n xs)
    (ad : Option Addr) (m c : Nat) (news : List Value) (hx : a.eval x = .slice ad m c) (hnil : ad = none → m = 0 ∧ c = 0) (hl : news.length = m * size) (hnews : ∀ d, ad = some d → ∀ j u, news[j]? = some u → w.cell? (d.add j) = some u) (h1 : ∀ u ∈ news, u.oneCell' = true)
    (h63 : n + m ≤ maxLen) (hbytes : (n + m) * bytes ≤ 140737488355328) (hbase : base ≤ w.heap.size)
    (h : ∀ v' w', w'.ownsRow base e size v' (n + m) (xs ++ news) → w' = w ∨ w.grownBy w' v.ownBlock → wpList P ops Q rest (a.put o.dst v') w') : wpList P ops Q (o :: rest) a w := by
  cases ad with
  | none =>
    obtain ⟨rfl, rfl⟩ := hnil rfl
    have e0 : news = [] := List.eq_nil_of_length_eq_zero (by simpa using hl)
    subst e0
    exact wpList_append_own_none hgd s x t ho base e i size ht hi v n xs hs hown hx (h v w (by simpa using hown) (.inl rfl))
  | some d => exact wpList_append_own w hgd s x t ho base e i z size bytes ht hi hz hsize hby hzs hsz v n xs hs hown d m c news hx hl (hnews d rfl) h1 h63 hbytes hbase fun v' w' h2 h3 _ => h v' w' h2 (.inr h3)
end Go.Proofs.YtfhfdpapppgfpaaGreatDoor
