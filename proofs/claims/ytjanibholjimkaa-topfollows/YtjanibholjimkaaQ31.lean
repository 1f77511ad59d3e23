/-
  A zone and a valuation of it, in twelfths, behind so many steps: what Up, Reset and Constrain make of both.
-/
import Derived.Test.YtjanibholjimkaaQ30
namespace Go.Proofs.Ytjanibholjimkaa
open Go.RowKit
set_option linter.unusedVariables false
set_option maxRecDepth 100000
theorem ops_zone {w' : World} {B n m : Nat} {e : Ending} {M : Mat} {o : Option Row} (hm : m = (n + 1) * (n + 1)) (hR : RightM n M) (ho : zoneR n (drf n m (rowsL n M (n + 1))) = o) (h : OpsOut w' B n e M) : ZoneOut w' B n e o := by
  rcases h with ⟨h3, -⟩ | ⟨-, h3⟩
  · rw [← hm, allRight_rows hm hR] at h3
    cases h3
  · rw [← hm] at h3
    rw [← ho]
    exact h3
/-- A zone, and a valuation of it in twelfths, behind so many steps. -/
structure St (n m : Nat) (c : Row) (X : Nat → Int) (T : Nat) : Prop where
  zone : ∃ p, FullC n m p c ∧ Hs n p T ∧ keepsM n X 12 p ∧ FinM n 50000 p
  c32 : C32 c
  x0 : X 0 = 0
  nn : ∀ i, i ≤ n → 0 ≤ X i ∧ X i ≤ 1200 * T + 108
theorem Hs.more {n T : Nat} {p : Mat} (H : Hs n p T) : Hs n p (T + 1) := fun D hD V z hk => by
  obtain ⟨K, K1, L, l1, l2⟩ := H D hD V z hk
  exact ⟨K, K1, L, by omega, l2⟩
theorem St.more {n m T : Nat} {c : Row} {X : Nat → Int} (h : St n m c X T) : St n m c X (T + 1) := by
  obtain ⟨⟨p, h1, h2, h3, h4⟩, h5, h6, h7⟩ := h
  exact ⟨⟨p, h1, h2.more, h3, h4⟩, h5, h6, fun i hi => by have := h7 i hi; push_cast; omega⟩
theorem St.mk' {n m T : Nat} {p : Mat} {X : Nat → Int} (hn : n ≤ 3) (hm : m = (n + 1) * (n + 1)) (cl : Cl n p) (low : ∀ j, j ≤ n → p 0 j ≤ 1) (hf : FinM n 1000000 p) (H : Hs n p T) (hT : T ≤ 200) (hk : keepsM n X 12 p) (x0 : X 0 = 0) (nn : ∀ i, i ≤ n → 0 ≤ X i ∧ X i ≤ 1200 * T + 108) (c32 : C32 (cellsUpto n p m)) : narAll n p m = true ∧ St n m (cellsUpto n p m) X T := by
  have ho := opn_val
  have fin : FinM n 50000 p := fun i j hi hj => by
    by_cases f : p i j = opn
    · exact .inl f
    · right
      have a := H.bd (by omega) cl low hf hi hj f
      have b := hk i j hi hj
      have c := (nn i hi).1
      have d := (nn j hj).2
      unfold holdsW at b
      omega
  have F := full_mk hm cl low fun i j hi hj => by
    rcases fin i j hi hj with h | h
    · rw [h]; rfl
    · exact narOk_of (by omega) (by omega)
  exact ⟨F.nar, ⟨p, F, H, hk, fin⟩, c32, x0, nn⟩
theorem cells_32 {n m : Nat} {p : Mat} : C32 (cellsUpto n p m) := fun k => by
  unfold cellsUpto
  split
  · unfold narB
    split
    · omega
    · split <;> omega
  · omega
/-- A valuation so much later. -/
def VDx (X : Nat → Int) (d : Int) (i : Nat) : Int := if i = 0 then 0 else X i + d
/-- What a call tells: a zone, no error. -/
def Zsay (w : World) (n f : Nat) (args : Array Value) (c : Row) : Prop := Calls Try.prog f args w fun e w' => (∃ b, w.heap.size ≤ b ∧ e = .returned (.tuple #[.pointer (some ⟨b, 0, none⟩), .int .i64 0]) ∧ ZoneAt w' b n c) ∧ Below w.heap.size w w'
theorem zsay_of {w : World} {n m f : Nat} {args : Array Value} {M : Mat} {c : Row} (hm : m = (n + 1) * (n + 1)) (hR : RightM n M) (ho : zoneR n (drf n m (rowsL n M (n + 1))) = some c) (h : Calls Try.prog f args w fun e w' => OpsOut w' w.heap.size n e M ∧ Below w.heap.size w w') : Zsay w n f args c :=
  h.mono fun e w' ⟨h1, h2⟩ => ⟨by
    obtain ⟨b, h0, h3, h4⟩ := ops_zone hm hR ho h1
    exact ⟨b, h0, h3, h4⟩, h2⟩
theorem St.up {n m T : Nat} {c : Row} {X : Nat → Int} {d : Int} (hn : n ≤ 3) (hm : m = (n + 1) * (n + 1)) (hT : T < 200) (h : St n m c X T) (d0 : 0 ≤ d) (d1 : d ≤ 1200) : ∃ c', St n m c' (VDx X d) (T + 1) ∧ ∀ w b, ZoneAt w b n c → Zsay w n 9 #[.pointer (some ⟨b, 0, none⟩)] c' := by
  obtain ⟨⟨p, h1, h2, h3, h4⟩, h5, h6, h7⟩ := h
  have F := upP_full hm h1
  have ho := opn_val
  refine ⟨_, (St.mk' (p := upP p) (X := VDx X d) (T := T + 1) hn hm F.cl F.low (fun i j hi hj => ?_) (h2.up h1.cl h1.low).more (by omega) ?_ rfl (fun i hi => ?_) cells_32).2, fun w b hz => zsay_of hm (upP_rd hm h1).right (up_is (by omega) hm h1) ?_⟩
  · unfold upP
    split
    · exact .inl rfl
    · exact (h4 i j hi hj).mono (by decide)
  · exact up_keeps h3 d0 h6 rfl fun i i1 hi => by unfold VDx; rw [if_neg (by omega)]
  · have := h7 i hi
    unfold VDx
    push_cast
    split <;> omega
  · have := oup_any b n c w (by omega) hz h5
    rw [← hm] at this
    exact this
theorem setE_ok {n x : Nat} {k : Int} (x1 : 1 ≤ x) (hx : x ≤ n) (k0 : 0 ≤ k) (k1 : k ≤ 1048576) : setE n x k = 0 := by
  unfold setE
  rw [if_pos (show clockB n x = true from decide_eq_true (by omega)), if_pos ⟨k0, k1⟩]
theorem RightM.lim {n i j : Nat} {M : Mat} {v : Int} (h : RightM n M) (hi : i ≤ n) (hj : j ≤ n) (v0 : -536870912 ≤ v) (v1 : v ≤ 536870913) : RightM n (limM M i j v) := fun a b ha hb => by
  have r := h i j hi hj
  unfold limM upd
  split
  · exact .inr (by omega)
  · exact h a b ha hb
theorem small_pl {a b K L : Int} (ha : Fin' K a) (hb : Fin' L b) (k0 : 0 ≤ K) (l0 : 0 ≤ L) (h : K + L + 1 ≤ 1000000) : Fin' 1000000 (pl a b) := (pl_fin' ha hb k0 l0).mono h
theorem St.set {n m T x : Nat} {c : Row} {X : Nat → Int} {k : Int} (hn : n ≤ 3) (hm : m = (n + 1) * (n + 1)) (hT : T < 200) (h : St n m c X T) (x1 : 1 ≤ x) (hx : x ≤ n) (k0 : 0 ≤ k) (k9 : k ≤ 9) : ∃ c', St n m c' (SVk X x (k * 12)) (T + 1) ∧ ∀ w b, ZoneAt w b n c → Zsay w n 10 #[.pointer (some ⟨b, 0, none⟩), .int .i64 x, .int .i64 k] c' := by
  obtain ⟨⟨p, h1, h2, h3, h4⟩, h5, h6, h7⟩ := h
  have hk : Nm k (2 * k + 1) (-(2 * k) + 1) := ⟨k0, by omega, rfl, rfl⟩
  have rc := rsP_cl (x := x) h1.cl (h1.finM hm) hk
  have lo := fun j hj => rsP_low h1 hm hk x1 j hj
  have S := St.mk' (p := rsP x (2 * k + 1) (-(2 * k) + 1) p) (X := SVk X x (k * 12)) (T := T + 1) hn hm rc lo (fun i j hi hj => by
    have a := fun i j hi hj => h4 i j hi hj
    have f1 : Fin' 50000 (2 * k + 1) := .inr ⟨by omega, by omega⟩
    have f2 : Fin' 50000 (-(2 * k) + 1) := .inr ⟨by omega, by omega⟩
    unfold rsP
    split
    · split
      · exact .inr ⟨by decide, by decide⟩
      · exact small_pl f1 (h4 0 j (by omega) hj) (by decide) (by decide) (by decide)
    · split
      · exact small_pl (h4 i 0 hi (by omega)) f2 (by decide) (by decide) (by decide)
      · exact (h4 i j hi hj).mono (by decide)) (h2.set h1.cl h1.low x1 hx k0 k9) (by omega) (set_keeps hx h6 h3) (by unfold SVk; rw [if_neg (by omega)]; exact h6) (fun i hi => by
    have := h7 i hi
    unfold SVk
    push_cast
    split <;> omega) cells_32
  refine ⟨_, S.2, fun w b hz => zsay_of (M := limM (limM (freeK x (n + 1) (oR n c m)) x 0 (2 * k + 1)) 0 x (-(2 * k) + 1)) hm ?_ (by rw [reset_is (by omega) hm h1 hx x1 hk, if_pos S.1]) ?_⟩
  · exact ((((h1.rd hm).free x1).right).lim hx (by omega) (by omega) (by omega)).lim (by omega) hx (by omega) (by omega)
  · have := reset_any b n x k c w (by omega) hz h5 hx (setE_ok x1 hx k0 (by omega)) k0 (by omega)
    rw [← hm] at this
    exact this
/-- With one bound more. -/
theorem withB_keeps {n i0 j0 : Nat} {p : Mat} {v : Int} (hp : Cl n p) (hi0 : i0 ≤ n) (hj0 : j0 ≤ n) (fv : F v) {D : Int} (hD : 1 ≤ D) (V : Nat → Int) : keepsM n V D (withB p j0 i0 v) ↔ keepsM n V D p ∧ holdsW v (V i0 - V j0) D := by
  constructor
  · intro h
    refine ⟨fun i j hi hj => ?_, ?_⟩
    · refine holdsW_mono hD (hp.F hi hj) ?_ (h i j hi hj)
      unfold withB
      omega
    · refine holdsW_mono hD fv ?_ (h i0 j0 hi0 hj0)
      unfold withB
      rw [hp.one i0 hi0, hp.one j0 hj0, one_pl fv, pl_one fv]
      omega
  · rintro ⟨h, hv⟩ i j hi hj
    have k := holdsW_pl (holdsW_pl (h i i0 hi hi0) hv) (h j0 j hj0 hj)
    rw [show V i - V i0 + (V i0 - V j0) + (V j0 - V j) = V i - V j by omega] at k
    unfold withB
    by_cases q : p i j ≤ pl (pl (p i i0) v) (p j0 j)
    · rw [show min (p i j) (pl (pl (p i i0) v) (p j0 j)) = p i j by omega]; exact h i j hi hj
    · rw [show min (p i j) (pl (pl (p i i0) v) (p j0 j)) = pl (pl (p i i0) v) (p j0 j) by omega]; exact k
set_option maxHeartbeats 1000000 in
theorem con_is {n m i0 j0 : Nat} {p : Mat} {c : Row} {v : Int} (hn : n ≤ 3) (hm : m = (n + 1) * (n + 1)) (h : FullC n m p c) (hi0 : i0 ≤ n) (hj0 : j0 ≤ n) (v0 : -100 ≤ v) (v1 : v ≤ 100) (h4 : FinM n 50000 p) (cw : Cl n (withB p j0 i0 v)) :
    zoneR n (drf n m (rowsL n (limM (oR n c m) i0 j0 v) (n + 1))) = if narAll n (withB p j0 i0 v) m = true then some (cellsUpto n (withB p j0 i0 v) m) else none := by
  have fv : F v := .inr ⟨by omega, by omega⟩
  have R := (h.rd hm).lim (v := v) hi0 hj0 (by omega) (by omega)
  refine R.is (by omega) hm cw (fun i j hi hj => ?_) (fun s hs hl i j hi hj => ?_)
  · by_cases c1 : i = i0 ∧ j = j0
    · obtain ⟨rfl, rfl⟩ := c1
      rw [limP_at]
      unfold withB
      rw [h.cl.one i hi0, h.cl.one j hj0, one_pl fv, pl_one fv]
      omega
    · rw [limP_o c1]
      unfold withB
      omega
  · have lp : ∀ a b, a ≤ n → b ≤ n → s a b ≤ p a b := fun a b ha hb => by
      have := hl a b ha hb
      by_cases c1 : a = i0 ∧ b = j0
      · obtain ⟨rfl, rfl⟩ := c1
        rw [limP_at] at this
        omega
      · rw [limP_o c1] at this
        exact this
    have lv : s i0 j0 ≤ v := by
      have := hl i0 j0 hi0 hj0
      rw [limP_at] at this
      omega
    have t1 := hs.t hi hj hi0
    have t2 := hs.t hi0 hj hj0
    have sF := fun a b (ha : a ≤ n) (hb : b ≤ n) => hs.F ha hb
    have pF := fun a b (ha : a ≤ n) (hb : b ≤ n) => h.cl.F ha hb
    have b1 : Fin' 50000 v := .inr ⟨by omega, by omega⟩
    have p1 : F (pl (p i i0) v) := (pl_fin' (h4 i i0 hi hi0) b1 (by decide) (by decide)).mono (by decide)
    have q1 : F (pl v (p j0 j)) := (pl_fin' b1 (h4 j0 j hj0 hj) (by decide) (by decide)).mono (by decide)
    have s2 : F (pl (s i0 j0) (s j0 j)) := (pl_fin' (hs.fin i0 j0 hi0 hj0) (hs.fin j0 j hj0 hj) (by decide) (by decide)).mono (by decide)
    have m1 := pl_mono (sF i0 j0 hi0 hj0) (sF j0 j hj0 hj) fv (pF j0 j hj0 hj) lv (lp j0 j hj0 hj)
    have m2 := pl_mono (sF i i0 hi hi0) s2 (pF i i0 hi hi0) q1 (lp i i0 hi hi0) m1
    have m3 := pl_mono2 (sF i0 j hi0 hj) s2 (sF i i0 hi hi0) t2
    have l1 := lp i j hi hj
    have e := pl_assoc (pF i i0 hi hi0) fv (pF j0 j hj0 hj)
    unfold withB
    omega
/-- One limit. -/
def L1 (i j : Nat) (v : Int) : Lims := ⟨1, fun _ => i, fun _ => j, fun _ => v⟩
theorem St.con {n m T i0 j0 : Nat} {c : Row} {X : Nat → Int} {v : Int} (hn : n ≤ 3) (hm : m = (n + 1) * (n + 1)) (hT : T < 200) (h : St n m c X T) (hi0 : i0 ≤ n) (hj0 : j0 ≤ n) (v0 : -100 ≤ v) (v1 : v ≤ 100) (hv : holdsW v (X i0 - X j0) 12) : ∃ c', St n m c' X (T + 1) ∧ ∀ w b g, ZoneAt w b n c → w.cell? ⟨g, 0, none⟩ = some (.int .i64 i0) → w.cell? ⟨g, 1, none⟩ = some (.int .i64 j0) → w.cell? ⟨g, 2, none⟩ = some (.int .i32 v) → Zsay w n 13 #[.pointer (some ⟨b, 0, none⟩), .slice (some ⟨g, 0, none⟩) 1 1] c' := by
  obtain ⟨⟨p, h1, h2, h3, h4⟩, h5, h6, h7⟩ := h
  have fv : F v := .inr ⟨by omega, by omega⟩
  have fo : Fin' 1073741824 v := .inr ⟨by omega, by omega⟩
  have hf : FinM n 1073741824 p := fin_mono h4 (by decide)
  have ok : 1 ≤ pl (p j0 i0) v := by
    have := holdsW_pl (h3 j0 i0 hj0 hi0) hv
    rw [show X j0 - X i0 + (X i0 - X j0) = 0 by omega] at this
    exact holdsW_zero (by decide) this
  have cw : Cl n (withB p j0 i0 v) := ⟨withB_fin hf hj0 hi0 fo, withB_one hf h1.cl.one h1.cl.tri hj0 hi0 fo ok, withB_tri hf h1.cl.one h1.cl.tri hj0 hi0 fo ok⟩
  have S := St.mk' (p := withB p j0 i0 v) (X := X) (T := T + 1) hn hm cw (fun j hj => by
    have := h1.low j hj
    unfold withB
    omega) (fun i j hi hj => by
    have b1 : Fin' 50000 v := .inr ⟨by omega, by omega⟩
    have a1 := (h4 i j hi hj).mono (show (50000 : Int) ≤ 1000000 by decide)
    have a2 := small_pl (pl_fin' (h4 i i0 hi hi0) b1 (by decide) (by decide)) (h4 j0 j hj0 hj) (by decide) (by decide) (by decide)
    unfold withB
    by_cases q : p i j ≤ pl (pl (p i i0) v) (p j0 j)
    · rw [show min (p i j) (pl (pl (p i i0) v) (p j0 j)) = p i j by omega]; exact a1
    · rw [show min (p i j) (pl (pl (p i i0) v) (p j0 j)) = pl (pl (p i i0) v) (p j0 j) by omega]; exact a2) (Hs.more (h2.con hi0 hj0 v0 v1 fun D hD V => withB_keeps h1.cl hi0 hj0 fv hD V)) (by omega) ((withB_keeps h1.cl hi0 hj0 fv (by decide) X).2 ⟨h3, hv⟩) h6 (fun i hi => by have := h7 i hi; push_cast; omega) cells_32
  have hR : RightM n (limM (oR n c m) i0 j0 v) := (h1.rd hm).right.lim hi0 hj0 (by omega) (by omega)
  refine ⟨_, S.2, fun w b g hz c0 c1 c2 => zsay_of hm hR (by rw [con_is hn hm h1 hi0 hj0 v0 v1 h4 cw, if_pos S.1]) ?_⟩
  have lr : LimRow w g 0 (L1 i0 j0 v) := fun k hk => by
    obtain rfl : k = 0 := by have : k < 1 := hk; omega
    exact ⟨c0, c1, c2⟩
  refine (con_main b n g 0 1 c (L1 i0 j0 v) w (by omega) hz h5 lr (World.block_lt_of_cell? _ _ c0) (fun k hk => by show -2147483648 ≤ v ∧ v ≤ 2147483647; omega) (by show 1 ≤ 9223372036854775807; decide)).mono fun e w' ⟨h, hb⟩ => ⟨?_, hb⟩
  have hb1 : bndA n (L1 i0 j0 v) 1 = true := by
    show (true && decide (0 ≤ (i0 : Int) ∧ (i0 : Int) ≤ n ∧ 0 ≤ (j0 : Int) ∧ (j0 : Int) ≤ n)) = true
    rw [decide_eq_true (by omega)]; rfl
  have hr1 : rgtA (L1 i0 j0 v) 1 = true := by
    show (true && rightB v) = true
    unfold rightB
    rw [decide_eq_true (by omega)]; rfl
  rcases h with ⟨h, -⟩ | ⟨-, h, -⟩ | ⟨-, -, h⟩
  · rw [show (L1 i0 j0 v).q = 1 from rfl, hb1] at h; cases h
  · rw [show (L1 i0 j0 v).q = 1 from rfl, hr1] at h; cases h
  · rw [← hm] at h
    exact h
theorem zeroR_at {r : Mat} {i j : Nat} : ∀ K, zeroR K r i j = if j = 0 ∧ 1 ≤ i ∧ i ≤ K then min (r i j) 1 else r i j
  | 0 => by
    show r i j = _
    rw [if_neg (by omega)]
  | K + 1 => by
    show tg (zeroR K r) (K + 1) 0 1 i j = _
    unfold tg
    rw [if_neg (by decide)]
    unfold upd
    by_cases c : i = K + 1 ∧ j = 0
    · obtain ⟨rfl, rfl⟩ := c
      rw [if_pos ⟨rfl, rfl⟩, zeroR_at K, if_neg (by omega), if_pos (by omega)]
    · rw [if_neg c, zeroR_at K]
      by_cases d : j = 0 ∧ 1 ≤ i ∧ i ≤ K
      · rw [if_pos d, if_pos (by omega)]
      · rw [if_neg d, if_neg (by omega)]
def onesM : Mat := fun _ _ => 1
theorem ones_cl (n : Nat) : Cl n onesM := ⟨fun i j hi hj => .inr ⟨by show -144115188075855872 ≤ (1 : Int); decide, by show (1 : Int) ≤ 144115188075855872; decide⟩, fun i hi => rfl, fun k hk i j hi hj => by show (1 : Int) ≤ pl 1 1; decide⟩
theorem start_at' {n i j : Nat} (hi : i ≤ n) (hj : j ≤ n) : startR n (n + 1) 0 i j = startV i j := by
  unfold startR
  rw [if_pos (.inl ⟨by omega, hj⟩)]
/-- At the beginning. -/
theorem St.start {n m : Nat} (hn : n ≤ 3) (hm : m = (n + 1) * (n + 1)) : ∃ c, St n m c (fun _ => 0) 0 ∧ ∀ w, Zsay w n 5 #[.int .i64 n] c := by
  have ho := opn_val
  have at0 : ∀ i j, i ≤ n → j ≤ n → zeroR n (startR n (n + 1) 0) i j = if j = 0 ∧ 1 ≤ i then 1 else startV i j := fun i j hi hj => by
    rw [zeroR_at, start_at' hi hj]
    by_cases c : j = 0 ∧ 1 ≤ i
    · rw [if_pos ⟨c.1, c.2, hi⟩, if_pos c]
      unfold startV
      rw [if_pos (by omega)]
      decide
    · rw [if_neg (by omega), if_neg c]
  have O : Ok n (zeroR n (startR n (n + 1) 0)) := ⟨fun i j hi hj => by
    rw [at0 i j hi hj]
    split
    · exact .inr ⟨by decide, by decide⟩
    · exact startV_fin i j, fun i hi => by
    rw [at0 i i hi hi]
    split
    · decide
    · unfold startV; rw [if_neg (by omega)]; decide⟩
  have z := zone_is (m := m) (by omega) hm O (ones_cl n) (fun i j hi hj => by
    show 1 ≤ zeroR n (startR n (n + 1) 0) i j
    rw [at0 i j hi hj]
    split
    · decide
    · unfold startV; split <;> decide) (fun s hs hl i j hi hj => by
    show s i j ≤ 1
    have t := hs.t hi hj (show 0 ≤ n by omega)
    have l1 : s i 0 ≤ 1 := by
      have := hl i 0 hi (by omega)
      rw [at0 i 0 hi (by omega)] at this
      by_cases c : 1 ≤ i
      · rw [if_pos ⟨rfl, c⟩] at this; exact this
      · rw [if_neg (by omega)] at this
        unfold startV at this
        rw [if_neg (by omega)] at this
        exact this
    have l2 : s 0 j ≤ 1 := by
      have := hl 0 j (by omega) hj
      rw [at0 0 j (by omega) hj, if_neg (by omega)] at this
      unfold startV at this
      rw [if_neg (by omega)] at this
      exact this
    have := pl_mono (hs.F hi (by omega)) (hs.F (show 0 ≤ n by omega) hj) F1 F1 l1 l2
    have e : pl 1 1 = 1 := by decide
    omega)
  have S := St.mk' (p := onesM) (X := fun _ => 0) (T := 0) hn hm (ones_cl n) (fun j hj => Int.le_refl _) (fun i j hi hj => .inr ⟨by show -1000000 ≤ (1 : Int); decide, by show (1 : Int) ≤ 1000000; decide⟩) (Hs.zero fun D hD V v0 hk i hi => by
    have h1 : holdsW 1 (V i - V 0) D := hk i 0 hi (by omega)
    have h2 : holdsW 1 (V 0 - V i) D := hk 0 i (by omega) hi
    unfold holdsW at h1 h2
    omega) (by decide) (fun i j hi hj => .inr (.inl ⟨by show (1 : Int) % 2 = 1; decide, by show 2 * ((0 : Int) - 0) ≤ (1 - 1) * 12; decide⟩)) rfl (fun i hi => ⟨by decide, by decide⟩) cells_32
  refine ⟨_, S.2, fun w => (zero_dbm n w (by omega)).mono fun e w' ⟨hb, hz⟩ => ⟨?_, hb⟩⟩
  rw [z, if_pos S.1] at hz
  obtain ⟨b, h0, h1, h2⟩ := hz
  exact ⟨b, h0, h1, h2⟩
end Go.Proofs.Ytjanibholjimkaa
