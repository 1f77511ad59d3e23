/-
  fed: same of the law.
-/
import Derived.OrdersHeld
import Derived.Deep.RegionHeld
import Derived.Test.YtnfkmpickmonoaaQ39
import Derived.Test.YtnfkmpickmonoaaQ22
import Derived.Test.YtnfkmpickmonoaaQ38
namespace Go.Proofs.Ytnfkmpickmonoaa
open Go.RowKit Go.Shelf
set_option linter.unusedVariables false
set_option maxRecDepth 100000
attribute [local go_sem] Oper.semAt_some
/-- The cells of an own row. -/
theorem own_at {w : World} {base q : Nat} {T : TypeId} {v : Value} {xs : List Value} (h : w.ownsRow base T 1 v q xs) : (v = .slice none 0 0 ∧ q = 0) ∨ ∃ g cap, v = .slice (some ⟨g, 0, none⟩) q cap ∧ base ≤ g ∧ (∃ cur, w.heap[g]? = some (.cells cur T)) ∧ ∀ k u, k < q → xs[k]? = some u → w.cell? ⟨g, k, none⟩ = some u := by
  rcases h.2 with ⟨h1, h2⟩ | ⟨g, cap, cur, h1, h2, h3, h4, h5, h6, h7⟩
  · exact .inl ⟨h1, h2⟩
  · refine .inr ⟨g, cap, h1, h2, ⟨cur, h3⟩, fun k u hk hu => ?_⟩
    have e : cur.toList[k]? = some u := by
      have := congrArg (fun l => l[k]?) h7
      simp only [Nat.mul_one] at this
      rw [List.getElem?_take_of_lt hk] at this
      rw [this, hu]
    have e' : cur[k]? = some u := by simpa using e
    simp [World.cell?, h3, e']
theorem RZone.weak7 {w : World} {B r n : Nat} {l : List Int} (h : RZone w B r n l) : RZone w 0 r n l := by
  obtain ⟨g, cap, h1, h2, -, -, h5⟩ := h
  exact ⟨g, cap, h1, h2, Nat.zero_le _, Nat.zero_le _, h5⟩
theorem RFedAt.past {A B : World} (hb : Below A.heap.size A B) {fb n m : Nat} {zs : List RZR} (h : RFedAt A fb n m zs) : RFedAt B fb n m zs := by
  obtain ⟨v, h1, h2⟩ := h.c1
  refine ⟨kc _ _ hb h.c0, ⟨v, kc _ _ hb h1, h2.1, ?_⟩, fun e he => ⟨(h.zones e he).1.past hb, (h.zones e he).2⟩, h.len⟩
  rcases h2.2 with q | ⟨g, cap, cur, a1, a2, a3, a4⟩
  · exact .inl q
  · exact .inr ⟨g, cap, cur, a1, a2, (hb.block g (lt_of a3)).trans a3, a4⟩
end Go.Proofs.Ytnfkmpickmonoaa

/-
  fed: both of the law.
-/
namespace Go.Proofs.Ytnfkmpickmonoaa
open Go.RowKit Go.Shelf
set_option linter.unusedVariables false
set_option maxRecDepth 100000
attribute [local go_sem] Oper.semAt_some
theorem SameC.grown7 {A B : World} {row : Option Nat} (hg : A.grownBy B row) : SameC row A B := ⟨hg.size, fun b o hb _ ne => (hg.block b (lt_of hb) ne).trans hb⟩
/-- The block is a row of pointers. -/
def PtrX (X : Option Nat) (A : World) : Prop := ∀ x, X = some x → ∃ p, A.cell? ⟨x, 0, none⟩ = some (.pointer p)
theorem RZone.sameX {A B : World} {X : Option Nat} {B0 r n : Nat} {l : List Int} (hs : SameC X A B) (hx : PtrX X A) (hl : 0 < l.length) (h : RZone A B0 r n l) : RZone B B0 r n l := by
  obtain ⟨g, cap, h1, h2, h3, h4, h5⟩ := h
  have n1 : some r ≠ X := fun e => by
    obtain ⟨p, q⟩ := hx r e.symm
    rw [h1] at q
    cases q
  have n2 : some g ≠ X := fun e => by
    obtain ⟨p, q⟩ := hx g e.symm
    have := h5 0 hl
    rw [Nat.zero_add] at this
    rw [this] at q
    cases q
  exact ⟨g, cap, hs.cell h1 n1, hs.cell h2 n1, h3, h4, fun j hj => hs.cell (h5 j hj) n2⟩
theorem own_blk {w : World} {base q k : Nat} {T : TypeId} {v : Value} {xs : List Value} (h : w.ownsRow base T 1 v q xs) (e : v.ownBlock = some k) : base ≤ k ∧ ∃ cur, w.heap[k]? = some (.cells cur T) := by
  rcases own_at h with ⟨rfl, rfl⟩ | ⟨g, cap, rfl, h1, h2, h3⟩
  · cases e
  · injection e with e
    subst e
    exact ⟨h1, h2⟩
theorem own_ptr {w : World} {base q : Nat} {T : TypeId} {v : Value} {xs : List Value} (h : w.ownsRow base T 1 v q xs) (hx : ∀ u ∈ xs, ∃ p, u = .pointer p) (h0 : q = 0 → v = .slice none 0 0) : PtrX v.ownBlock w := fun x e => by
  by_cases q0 : q = 0
  · rw [h0 q0] at e
    cases e
  · rcases own_at h with ⟨-, h1⟩ | ⟨g, cap, rfl, h1, h2, h3⟩
    · exact absurd h1 q0
    · injection e with e
      simp only at e
      subst e
      have hl : xs.length = q := by have := h.1; omega
      obtain ⟨u, hu⟩ : ∃ u, xs[0]? = some u := ⟨xs[0], List.getElem?_eq_getElem (by omega)⟩
      obtain ⟨p, rfl⟩ := hx u (List.mem_of_getElem? hu)
      exact ⟨p, h3 0 _ (by omega) hu⟩
end Go.Proofs.Ytnfkmpickmonoaa

/-
  fed: the document's Cell, Meets, Common for zones.
-/
namespace Go.Proofs.Ytnfkmpickmonoaa
open Go.RowKit Go.Shelf
set_option linter.unusedVariables false
set_option maxRecDepth 100000
theorem zc_zone7 {n m : Nat} {c : Row} (hn : n ≤ 8) (hm : m = (n + 1) * (n + 1)) (h : ZC n m c) : zoneR n (drf n m (listOf c m)) = some c := by
  rcases h with rfl | ⟨p, hp⟩
  · refine zone_hollow ?_
    rw [drf_at n m _ hm 0 0 (by omega) (by omega), listOf_get _ _ _ (show 0 * (n + 1) + 0 < m by rw [hm, Nat.zero_mul, Nat.zero_add]; exact Nat.mul_pos (Nat.succ_pos n) (Nat.succ_pos n))]
    decide
  · have e : ∀ i j, i ≤ n → j ≤ n → drf n m (listOf c m) i j = p i j := fun i j hi hj => by
      rw [drf_at n m _ hm i j hi hj, listOf_get _ _ _ (by rw [hm]; exact pos_lt hi hj), ← oR_at (c := c) hm hi hj]
      exact hp.pm hm hi hj
    have rR : RightL m (listOf c m) := fun k hk => by
      rw [listOf_get _ _ _ hk]
      have := zc_right hm (.inr ⟨p, hp⟩ : ZC n m c) k
      simpa only [rightB, decide_eq_true_eq] using this
    have O := drf_ok n m _ hm rR
    obtain ⟨p', h1, h2⟩ := close_above hn hp.cl O (fun i j hi hj => by rw [e i j hi hj]; exact Int.le_refl _)
    have R := close_rounds hn O.fin O.diag h1
    have eq : ∀ i j, i ≤ n → j ≤ n → p' i j = p i j := fun i j hi hj => Int.le_antisymm (by have := R.le i j hi hj; rw [e i j hi hj] at this; exact this) (h2 i j hi hj)
    have n1 : narAll n p' ((n + 1) * (n + 1)) = true := by rw [narAll_congr eq _ (Nat.le_refl _), ← hm]; exact hp.nar
    have n2 : cellsUpto n p' ((n + 1) * (n + 1)) = c := by rw [cellsUpto_congr eq _ (Nat.le_refl _), ← hm]; exact hp.cells.symm
    simp [zoneR, h1, n1, n2]
theorem zc_made {n m : Nat} {c : Row} (hn : n ≤ 8) (hm : m = (n + 1) * (n + 1)) (h : ZC n m c) : Made n c :=
  ⟨drf n m (listOf c m), fun i hi => drf_diag n m _ hm (fun k hk => by
    rw [listOf_get _ _ _ hk]
    have := zc_right hm h k
    simpa only [rightB, decide_eq_true_eq] using this) i hi, zc_zone7 hn hm h⟩
theorem RZone_head {w : World} {B b n m : Nat} {e : Row} (h : RZone w B b n (listOf e m)) (hm : 0 < m) :
    Calls Try.prog 44 #[.pointer (some ⟨b, 0, none⟩)] w fun x w' => x = .returned (.bool (e 0 != 1)) ∧ w' = w := by
  have := rempty_any h (by rw [listOf_len]; exact hm)
  rw [listOf_get _ _ _ hm] at this
  exact this
set_option maxHeartbeats 2000000 in
theorem rmeets_any {w : World} {B b o n m : Nat} {c d : Row} (h1 : RZone w B b n (listOf c m)) (h2 : RZone w B o n (listOf d m)) (hn : n ≤ 8) (hm : m = (n + 1) * (n + 1)) (hc : Made n c) (hd : Made n d) :
    Calls Try.prog 82 #[.pointer (some ⟨b, 0, none⟩), .pointer (some ⟨o, 0, none⟩)] w fun e w' => e = .returned (.bool (meetsOf (zoneR n (tgAll n (listOf (minR c d) m) m (startR n (n + 1) 0))))) ∧ Below w.heap.size w w' := by
  have hp : 0 < m := by rw [hm]; exact Nat.mul_pos (by omega) (by omega)
  have HA := hideD (ralike_same h1 h2)
  have HC : Hid (∀ k, Calls Try.prog 57 #[.pointer (some ⟨b, 0, none⟩), .pointer (some ⟨o, 0, none⟩)] (w.drewN k) fun e w' => (∃ B', RZoneOut w' B' n e ((zoneR n (tgAll n (listOf (minR c d) m) m (startR n (n + 1) 0))).map (fun c => listOf c m))) ∧ Below (w.drewN k).heap.size (w.drewN k) w') := fun k => rcommon_any (h1.past (below_draw w k)) (h2.past (below_draw w k)) hn hm hc hd
  clear h1 h2 hm hc hd
  generalize zoneR n (tgAll n (listOf (minR c d) m) m (startR n (n + 1) 0)) = Z at *
  go_enter Try.func82, Try.ntmps82
  go_wp2_with fail
  refine HA.out.mono ?_
  rintro e w1 ⟨rfl, k, rfl⟩
  have H := hideD (HC.out k)
  have B1 := hideD (below_draw w k)
  generalize w.drewN k = w1 at *
  clear HC HA
  go_wp2_with fail
  refine H.out.mono ?_
  rintro e w2 ⟨⟨B', hz⟩, hb⟩
  have B2 := hideD (beyondD B1.out hb)
  clear H hb B1
  cases Z with
  | none =>
    obtain rfl := hz
    go_wp2_with fail
    go_ret
    exact ⟨rfl, B2.out⟩
  | some f =>
    obtain ⟨b', rfl, hz⟩ := hz
    have HE := hideD (RZone_head hz hp)
    have HM : Hid (meetsOf (some f) = !(f 0 != 1)) := rfl
    generalize (f 0 != 1) = y at *
    clear hz
    cases y with
    | true =>
      go_wp2_with fail
      refine HE.out.mono ?_
      rintro e w3 ⟨rfl, rfl⟩
      go_wp2_with fail
      go_ret
      exact ⟨by rw [HM.out]; rfl, B2.out⟩
    | false =>
      go_wp2_with fail
      refine HE.out.mono ?_
      rintro e w3 ⟨rfl, rfl⟩
      go_wp2_with fail
      go_ret
      exact ⟨by rw [HM.out]; rfl, B2.out⟩
theorem metB_meets {n m : Nat} {c d : Row} (hn : n ≤ 8) (hm : m = (n + 1) * (n + 1)) (hc : ZC n m c) (hd : ZC n m d) : metB n m c d = meetsOf (zoneR n (tgAll n (listOf (minR c d) m) m (startR n (n + 1) 0))) := by
  unfold metB
  rw [tgAll_two n m c d _ hm (fun j => ((zc_made hn hm hc).range j).2) (fun j => ((zc_made hn hm hd).range j).2)]
  refine meets_same n _ (fun i hi => start_diag n _ m hm (fun j hj => ?_) i hi)
  rw [listOf_get _ _ _ hj]
  have := (zc_made hn hm hc).range j
  unfold minR
  omega
theorem rmeets_zc {w : World} {B b o n m : Nat} {c d : Row} (h1 : RZone w B b n (listOf c m)) (h2 : RZone w B o n (listOf d m)) (hn : n ≤ 8) (hm : m = (n + 1) * (n + 1)) (hc : ZC n m c) (hd : ZC n m d) :
    Calls Try.prog 82 #[.pointer (some ⟨b, 0, none⟩), .pointer (some ⟨o, 0, none⟩)] w fun e w' => e = .returned (.bool (metB n m c d)) ∧ Below w.heap.size w w' := by
  have h := rmeets_any h1 h2 hn hm (zc_made hn hm hc) (zc_made hn hm hd)
  rw [metB_meets hn hm hc hd]
  exact h
theorem rcellz {w : World} {B b n m i j : Nat} {c : Row} (h : RZone w B b n (listOf c m)) (hn : n ≤ 8) (hm : m = (n + 1) * (n + 1)) (hi : i ≤ n) (hj : j ≤ n) :
    Calls Try.prog 83 #[.pointer (some ⟨b, 0, none⟩), .int .i64 (i : Int), .int .i64 (j : Int)] w fun e w' => e = .returned (.tuple #[.int .i32 (c (i * (n + 1) + j)), .int .i64 0]) ∧ Below w.heap.size w w' := by
  obtain ⟨g, cap, h0, h1, -, -, R⟩ := h
  rw [listOf_len] at h1
  have lt : i * (n + 1) + j < m := by rw [hm]; exact pos_lt hi hj
  have h2 := R (i * (n + 1) + j) (by rw [listOf_len]; exact lt)
  rw [listOf_get _ _ _ lt, Nat.zero_add] at h2
  exact rcell_in b g n i j m cap _ w hn hi hj hm h0 h1 h2
theorem rempty_zc {w : World} {B b n m : Nat} {c : Row} (h : RZone w B b n (listOf c m)) (hm : m = (n + 1) * (n + 1)) (hc : ZC n m c) :
    Calls Try.prog 44 #[.pointer (some ⟨b, 0, none⟩)] w fun e w' => e = .returned (.bool (decide (c 0 < 1))) ∧ w' = w := by
  have hp : 0 < m := by rw [hm]; exact Nat.mul_pos (by omega) (by omega)
  have e : (c 0 != 1) = decide (c 0 < 1) := by
    rcases zc01' hm hc with q | q <;> rw [q] <;> decide
  rw [← e]
  exact RZone_head h hp
end Go.Proofs.Ytnfkmpickmonoaa
