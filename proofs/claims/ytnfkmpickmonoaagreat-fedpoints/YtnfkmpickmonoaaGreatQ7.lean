/-
  The document's answer for layer 3: the empty zone.
-/
import Derived.Test.YtnfkmpickmonoaaGreatQ6
import Derived.Deep.OwnRows
import Derived.Deep.RegionLaw
namespace Go.Proofs.YtnfkmpickmonoaaGreat
open Go.RowKit
set_option linter.unusedVariables false
set_option maxRecDepth 100000
/-- A zone of the document in memory: its clocks, and its cells in a row of their own. -/
def RZone (w : World) (B b n : Nat) (l : List Int) : Prop := ∃ g cap, w.cell? ⟨b, 0, none⟩ = some (.int .i64 n) ∧ w.cell? ⟨b, 1, none⟩ = some (.slice (some ⟨g, 0, none⟩) l.length cap) ∧ B ≤ b ∧ B ≤ g ∧ RowAt w g 0 l
theorem empty1_raw (n m : Nat) (w : World) (h : n ≤ 8) (hm : m = (n + 1) * (n + 1)) :
    Calls Tryz.prog 67 #[.int .i64 n] w fun e w' => (∃ b, e = .returned (.pointer (some ⟨b, 0, none⟩)) ∧ RZone w' w.heap.size b n (List.replicate m 0)) ∧ Below w.heap.size w w' := by
  have q81 : (n + 1) * (n + 1) ≤ 81 := Nat.mul_le_mul (show n + 1 ≤ 9 by omega) (show n + 1 ≤ 9 by omega)
  have e1 : IntKind.i64.wrap (((n : Int) + 1) * ((n : Int) + 1)) = (m : Int) := by
    have : ((n : Int) + 1) * ((n : Int) + 1) = (((n + 1) * (n + 1) : Nat) : Int) := by simp
    rw [this, ← hm, IntKind.wrap_i64]
    omega
  rw [← hm] at q81
  have hmk := run_make_row' (P := Tryz.prog) 26 79 (.int .i32 0) 4 Tryz.underlying26 info_bd rfl .i64 .i64 m (by omega) (by omega)
  clear hm
  go_enter Tryz.func67, Tryz.ntmps67
  go_wp2_with fail
  go_ret
  refine ⟨⟨w.heap.size + 1, rfl, w.heap.size, m, ?_, ?_, by omega, by omega, ?_⟩, ((Below.refl _ _).alloc (Nat.le_refl _) _).alloc (by simp) _⟩
  · simp [go_sem]
  · simp [go_sem]
  · intro j hj
    have hj' : j < m := by simpa using hj
    rw [World.cell?_alloc_past _ _ _ (by simp), World.cell?_alloc_at _ _ _ _ rfl]
    simp [madeCells, List.getD, hj', Nat.mod_one]

/-! ### made -/
theorem step_own {P : Program} {ops : Array Oper} {o : Oper} {a : Act} {w : World} {K : Act → World → Prop} {Q : Exit → Act → World → Prop} {E : Prop} (hgd : o.guard = none) (s x : Operand) (t : TypeId)
    (ho : o.op = .call { callee := .builtin .append, args := #[s, x], argTypes := #[t, t] })
    (base : Nat) (e : TypeId) (i : TypeInfo) (z : Value) (size bytes : Nat) (ht : P.underlying t = some (.slice e)) (hi : P.info? e = some i) (hz : i.zero = some z)
    (hsize : i.size = size) (hby : i.bytes = bytes) (hzs : z.cells.size = size) (hsz : 0 < size)
    (v : Value) (n : Nat) (xs : List Value) (hs : a.eval s = v) (hown : w.ownsRow base e size v n xs)
    (ad : Addr) (m c : Nat) (news : List Value) (hx : a.eval x = .slice (some ad) m c) (hl : news.length = m * size) (hnews : ∀ j u, news[j]? = some u → w.cell? (ad.add j) = some u) (h1 : ∀ u ∈ news, u.oneCell' = true)
    (h63 : n + m ≤ maxLen) (hbytes : (n + m) * bytes ≤ 140737488355328) (hbase : base ≤ w.heap.size)
    (hK : ∀ v' w', w'.ownsRow base e size v' (n + m) (xs ++ news) → w.grownBy w' v.ownBlock → K (a.put o.dst v') w') :
    if Region.wanted o (yielded ops a.tmps) = true then Oper.wp P o a w K Q else E := by
  have hw : Region.wanted o (yielded ops a.tmps) = true := by simp [Region.wanted, hgd]
  rw [if_pos hw]
  exact wp_append_own w s x t ho base e i z size bytes ht hi hz hsize hby hzs hsz v n xs hs hown ad m c news hx hl hnews h1 h63 hbytes hbase fun v' w' h2 h3 _ => hK v' w' h2 h3
theorem MatAt.cell0 {w : World} {g n : Nat} {r : Mat} (h : MatAt w g n r) {j : Nat} (hj : j ≤ n) : w.cell? ⟨g, j, none⟩ = some (.int .i64 (r 0 j)) ∧ w.frozen? ⟨g, j, none⟩ = false := by
  have a := h.cell 0 j (by omega) hj
  have b := h.free 0 j (by omega) hj
  simp only [Nat.zero_mul, Nat.zero_add] at a b
  exact ⟨a, b⟩
theorem MatAt.set0 {w : World} {g n : Nat} {r : Mat} (h : MatAt w g n r) {j : Nat} (hj : j ≤ n) (v : Int) : MatAt (w.setCell ⟨g, j, none⟩ (.int .i64 v)) g n (upd r 0 j v) := by
  have a := h.set (show 0 ≤ n by omega) hj v
  simp only [Nat.zero_mul, Nat.zero_add] at a
  exact a
def clipD (i : Nat) (r : Mat) : Mat := if 1 < r i i then upd r i i 1 else r
def clip0 (i : Nat) (r : Mat) : Mat := if 1 < r 0 i then upd r 0 i 1 else r
def clipAll : Nat → Mat → Mat
  | 0, r => r
  | c + 1, r => clip0 c (clipD c (clipAll c r))
/-- The cells of a closed matrix, as a list. -/
def nl (n : Nat) (p : Mat) (k : Nat) : List Int := (List.range k).map fun i => narB (flat n p i)
theorem nl_next (n : Nat) (p : Mat) (k : Nat) : nl n p (k + 1) = nl n p k ++ [narB (flat n p k)] := by simp [nl, List.range_succ]
theorem nl_len (n : Nat) (p : Mat) (k : Nat) : (nl n p k).length = k := by simp [nl]
theorem MatAt.flat {w : World} {g n : Nat} {r : Mat} (h : MatAt w g n r) {k : Nat} (hk : k < (n + 1) * (n + 1)) : w.cell? ⟨g, k, none⟩ = some (.int .i64 (flat n r k)) := by
  have a := h.cell (k / (n + 1)) (k % (n + 1)) (by have := Nat.div_lt_of_lt_mul hk; omega) (by have := Nat.mod_lt k (show 0 < n + 1 by omega); omega)
  rw [show k / (n + 1) * (n + 1) + k % (n + 1) = k by rw [Nat.mul_comm]; exact Nat.div_add_mod k (n + 1)] at a
  exact a
theorem MatAt.later {w w' : World} {g n : Nat} {r : Mat} (h : MatAt w g n r) {B : Nat} (hb : Below B w w') (hB : g < B) : MatAt w' g n r :=
  ⟨fun i j hi hj => (hb.cell (p := ⟨g, i * (n + 1) + j, none⟩) hB).trans (h.cell i j hi hj), fun i j hi hj => (hb.frozen (p := ⟨g, i * (n + 1) + j, none⟩) hB).trans (h.free i j hi hj)⟩
theorem MatAt.lt {w : World} {g n : Nat} {r : Mat} (h : MatAt w g n r) : g < w.heap.size := World.block_lt_of_cell? _ _ (h.cell 0 0 (by omega) (by omega))
/-- What is told of wide cells. -/
def RZoneOut (w' : World) (B n : Nat) (e : Ending) : Option (List Int) → Prop
  | none => e = .returned (.tuple #[.pointer none, .int .i64 10])
  | some l => ∃ b, e = .returned (.tuple #[.pointer (some ⟨b, 0, none⟩), .int .i64 0]) ∧ RZone w' B b n l
def madeR (n m : Nat) (r : Mat) : Option (List Int) :=
  match rcl n (n + 1) (clipAll (n + 1) r) with
  | none => some (List.replicate m 0)
  | some p => if narAll n p m then some (nl n p m) else none
theorem own_form {w : World} {base K : Nat} {E : TypeId} {v : Value} {xs : List Value} (h : w.ownsRow base E 1 v (K + 1) xs) : ∃ g cap, v = .slice (some ⟨g, 0, none⟩) (K + 1) cap := by
  rcases h.2 with ⟨_, h0⟩ | ⟨g, cap, cur, hv, _⟩
  · omega
  · exact ⟨g, cap, hv⟩
theorem own_slice {w : World} {base K : Nat} {E : TypeId} {v : Value} {xs : List Value} (h : w.ownsRow base E 1 v K xs) : ∃ ao cap, v = .slice ao K cap := by
  rcases h.2 with ⟨hv, h0⟩ | ⟨g, cap, cur, hv, _⟩
  · subst h0; exact ⟨none, 0, hv⟩
  · exact ⟨_, cap, hv⟩
theorem after_app {W w1 w : World} {bz g n K : Nat} {p : Mat} {v v' : Value} {o : Obj} {E : TypeId} {xs ys : List Value} (hgz : g < bz) (c0 : W.cell? ⟨bz, 0, none⟩ = some (.int .i64 n)) (c1 : W.cell? ⟨bz, 1, none⟩ = some v) (c2 : W.frozen? ⟨bz, 1, none⟩ = false) (c3 : bz + 1 ≤ W.heap.size)
    (hown : W.ownsRow (bz + 1) E 1 v K xs) (hM : MatAt W g n p) (hB : Below g w W) (hgrow : (W.alloc o).grownBy w1 v.ownBlock) (hown' : w1.ownsRow (bz + 1) E 1 v' (K + 1) ys) :
    w1.cell? ⟨bz, 1, none⟩ = some v ∧ w1.frozen? ⟨bz, 1, none⟩ = false ∧ (w1.setCell ⟨bz, 1, none⟩ v').cell? ⟨bz, 0, none⟩ = some (.int .i64 n) ∧ (w1.setCell ⟨bz, 1, none⟩ v').cell? ⟨bz, 1, none⟩ = some v' ∧ (w1.setCell ⟨bz, 1, none⟩ v').frozen? ⟨bz, 1, none⟩ = false ∧ bz + 1 ≤ (w1.setCell ⟨bz, 1, none⟩ v').heap.size ∧
    (w1.setCell ⟨bz, 1, none⟩ v').ownsRow (bz + 1) E 1 v' (K + 1) ys ∧ MatAt (w1.setCell ⟨bz, 1, none⟩ v') g n p ∧ Below g w (w1.setCell ⟨bz, 1, none⟩ v') := by
  have hb : Below (bz + 1) W w1 := ((Below.refl (bz + 1) W).alloc c3 o).grown hgrow (by simp; omega) (by intro q hq; exact (hown.lt q hq).1)
  have d0 : w1.cell? ⟨bz, 0, none⟩ = some (.int .i64 n) := (hb.cell (p := ⟨bz, 0, none⟩) (Nat.lt_succ_self _)).trans c0
  have d1 : w1.cell? ⟨bz, 1, none⟩ = some v := (hb.cell (p := ⟨bz, 1, none⟩) (Nat.lt_succ_self _)).trans c1
  have d2 : w1.frozen? ⟨bz, 1, none⟩ = false := (hb.frozen (p := ⟨bz, 1, none⟩) (Nat.lt_succ_self _)).trans c2
  have hb2 : Below bz W (w1.setCell ⟨bz, 1, none⟩ v') := (hb.mono (Nat.le_succ _)).setCell (Nat.le_refl _) _
  refine ⟨d1, d2, ?_, World.cell?_setCell_same _ _ _ d1, by rw [World.frozen?_setCell]; exact d2, ?_, ownsRow_setCell_below hown' (Nat.lt_succ_self _) _, hM.later hb2 hgz, hB.trans (hb2.mono (Nat.le_of_lt hgz))⟩
  · rw [World.cell?_setCell_other _ _ _ _ (by intro e; injection e; omega)]
    exact d0
  · have := hb2.size
    omega
theorem after_app2 {W w1 w : World} {bz g n K : Nat} {p : Mat} {v v' : Value} {o : Obj} {E : TypeId} {xs ys : List Value} (hgz : g < bz) (c0 : W.cell? ⟨bz, 0, none⟩ = some (.int .i64 n)) (c1 : W.cell? ⟨bz, 1, none⟩ = some v) (c2 : W.frozen? ⟨bz, 1, none⟩ = false) (c3 : bz + 1 ≤ W.heap.size)
    (hown : W.ownsRow (bz + 1) E 1 v K xs) (hM : MatAt W g n p) (hB : Below g w W) (hgrow : (W.alloc o).drew.grownBy w1 v.ownBlock) (hown' : w1.ownsRow (bz + 1) E 1 v' (K + 1) ys) :
    w1.cell? ⟨bz, 1, none⟩ = some v ∧ w1.frozen? ⟨bz, 1, none⟩ = false ∧ (w1.setCell ⟨bz, 1, none⟩ v').cell? ⟨bz, 0, none⟩ = some (.int .i64 n) ∧ (w1.setCell ⟨bz, 1, none⟩ v').cell? ⟨bz, 1, none⟩ = some v' ∧ (w1.setCell ⟨bz, 1, none⟩ v').frozen? ⟨bz, 1, none⟩ = false ∧ bz + 1 ≤ (w1.setCell ⟨bz, 1, none⟩ v').heap.size ∧
    (w1.setCell ⟨bz, 1, none⟩ v').ownsRow (bz + 1) E 1 v' (K + 1) ys ∧ MatAt (w1.setCell ⟨bz, 1, none⟩ v') g n p ∧ Below g w (w1.setCell ⟨bz, 1, none⟩ v') := by
  have hb : Below (bz + 1) W w1 := (((Below.refl (bz + 1) W).alloc c3 o).drew).grown hgrow (by simp; omega) (by intro q hq; exact (hown.lt q hq).1)
  have d0 : w1.cell? ⟨bz, 0, none⟩ = some (.int .i64 n) := (hb.cell (p := ⟨bz, 0, none⟩) (Nat.lt_succ_self _)).trans c0
  have d1 : w1.cell? ⟨bz, 1, none⟩ = some v := (hb.cell (p := ⟨bz, 1, none⟩) (Nat.lt_succ_self _)).trans c1
  have d2 : w1.frozen? ⟨bz, 1, none⟩ = false := (hb.frozen (p := ⟨bz, 1, none⟩) (Nat.lt_succ_self _)).trans c2
  have hb2 : Below bz W (w1.setCell ⟨bz, 1, none⟩ v') := (hb.mono (Nat.le_succ _)).setCell (Nat.le_refl _) _
  refine ⟨d1, d2, ?_, World.cell?_setCell_same _ _ _ d1, by rw [World.frozen?_setCell]; exact d2, ?_, ownsRow_setCell_below hown' (Nat.lt_succ_self _) _, hM.later hb2 hgz, hB.trans (hb2.mono (Nat.le_of_lt hgz))⟩
  · rw [World.cell?_setCell_other _ _ _ _ (by intro e; injection e; omega)]
    exact d0
  · have := hb2.size
    omega
set_option maxHeartbeats 2000000 in
theorem made_raw (g n m cap : Nat) (r : Mat) (w : World) (h : n ≤ 8) (hm : Hid (m = (n + 1) * (n + 1))) (hM : MatAt w g n r) :
    Calls Tryz.prog 42 #[.int .i64 n, .slice (some ⟨g, 0, none⟩) m cap] w fun e w' => RZoneOut w' w.heap.size n e (madeR n m r) ∧ Below g w w' := by
  have HM := hideD hM
  clear hM
  go_enter Tryz.func42, Tryz.ntmps42
  go_wp2_with fail
  go_loopw [6] (fun s wr => ∃ (I : Nat), I ≤ n + 1 ∧ s = .int .i64 I ∧ Hid (MatAt wr g n (clipAll I r)) ∧ Hid (Below g w wr)) (fun s _ => n + 1 - (intOf s).toNat)
  case atStart => exact ⟨0, by omega, rfl, HM, Below.refl _ _⟩
  case round =>
    obtain ⟨I, hI, rfl, hM, hB⟩ := hrel
    by_cases ci : I ≤ n
    · obtain ⟨p, hp⟩ : ∃ p, p = clipAll I r := ⟨_, rfl⟩
      have ST : Hid (clipAll (I + 1) r = clip0 I (clipD I p)) := by show clipAll (I + 1) r = _; rw [hp]; rfl
      rw [← hp] at hM
      clear hp
      have h1 := hM.out.cell I I ci ci
      have h2 := hM.out.free I I ci ci
      have l1 := pos_lt ci ci
      have q81 : (n + 1) * (n + 1) ≤ 81 := Nat.mul_le_mul (show n + 1 ≤ 9 by omega) (show n + 1 ≤ 9 by omega)
      rw [← hm.out] at l1 q81
      have e1 : IntKind.i64.wrap ((I : Int) * ((n : Int) + 1)) = ((I * (n + 1) : Nat) : Int) := by
        have : (I : Int) * ((n : Int) + 1) = ((I * (n + 1) : Nat) : Int) := by simp
        rw [this, IntKind.wrap_i64]
        generalize I * (n + 1) = z at *
        omega
      have SE := hideD (hM.out.set ci ci 1)
      generalize I * (n + 1) = a at *
      have e3 : (0 : Int) ≤ (a : Int) := by omega
      have e5 : (a : Int) + (I : Int) < (m : Int) := by omega
      have e6 : (I : Int) < (m : Int) := by omega
      have e8 : (m : Int) ≤ 81 := by omega
      by_cases cx : 1 < p I I
      · have ed : Hid (clipD I p = upd p I I 1) := by show clipD I p = _; simp [clipD, cx]
        rw [ed.out] at ST
        obtain ⟨k1, k2⟩ := SE.out.cell0 ci
        by_cases cy : 1 < upd p I I 1 0 I
        · have ee : Hid (clip0 I (upd p I I 1) = upd (upd p I I 1) 0 I 1) := by show clip0 I _ = _; simp only [clip0, if_pos cy]
          have S2 := hideD (SE.out.set0 ci 1)
          rw [ee.out] at ST
          clear ed ee
          generalize upd p I I 1 0 I = y at *
          generalize p I I = x at *
          go_wp2_with fail
          go_roundw
          case rel => exact ⟨I + 1, by omega, by go_num, by rw [ST.out]; exact S2, (hB.out.setCell (Nat.le_refl _) _).setCell (Nat.le_refl _) _⟩
          case measure => simp [intOf]; omega
        · have ee : Hid (clip0 I (upd p I I 1) = upd p I I 1) := by show clip0 I _ = _; simp only [clip0, if_neg cy]
          rw [ee.out] at ST
          clear ed ee
          generalize upd p I I 1 0 I = y at *
          generalize p I I = x at *
          go_wp2_with fail
          go_roundw
          case rel => exact ⟨I + 1, by omega, by go_num, by rw [ST.out]; exact SE, hB.out.setCell (Nat.le_refl _) _⟩
          case measure => simp [intOf]; omega
      · have ed : Hid (clipD I p = p) := by show clipD I p = _; simp [clipD, cx]
        rw [ed.out] at ST
        obtain ⟨k1, k2⟩ := hM.out.cell0 ci
        by_cases cy : 1 < p 0 I
        · have ee : Hid (clip0 I p = upd p 0 I 1) := by show clip0 I _ = _; simp only [clip0, if_pos cy]
          have S2 := hideD (hM.out.set0 ci 1)
          rw [ee.out] at ST
          clear ed ee SE
          generalize p 0 I = y at *
          generalize p I I = x at *
          go_wp2_with fail
          go_roundw
          case rel => exact ⟨I + 1, by omega, by go_num, by rw [ST.out]; exact S2, hB.out.setCell (Nat.le_refl _) _⟩
          case measure => simp [intOf]; omega
        · have ee : Hid (clip0 I p = p) := by show clip0 I _ = _; simp only [clip0, if_neg cy]
          rw [ee.out] at ST
          clear ed ee SE
          generalize p 0 I = y at *
          generalize p I I = x at *
          go_wp2_with fail
          go_roundw
          case rel => exact ⟨I + 1, by omega, by go_num, by rw [ST.out]; exact hM, hB⟩
          case measure => simp [intOf]; omega
    · have hM' : Hid (MatAt wr g n (clipAll (n + 1) r)) := by
        obtain rfl : I = n + 1 := by omega
        exact hM
      have HC := hideD (rclose_raw g n m cap _ wr h hm hM'.out)
      clear hM
      have hsz0 := hB.out.size
      cases ec : rcl n (n + 1) (clipAll (n + 1) r) with
      | none =>
        rw [ec] at HC
        have MR : Hid (madeR n m r = some (List.replicate m 0)) := by show madeR n m r = _; simp [madeR, ec]
        go_wp2_with fail
        refine HC.out.mono ?_
        rintro e w1 ⟨rfl, hb, s, hs, -⟩
        go_wp2_with fail
        refine (empty1_raw n m _ h hm.out).mono ?_
        rintro e w2 ⟨⟨b, rfl, hz⟩, hb2⟩
        go_wp2_with fail
        refine bodyPost_ret (v := .tuple #[.pointer (some ⟨b, 0, none⟩), .int .i64 0]) (by simp [results, Tryz.results42, go_sem]) rfl ⟨?_, (hB.out.trans hb).trans (hb2.mono (Nat.le_of_lt hs.lt))⟩
        rw [MR.out]
        obtain ⟨g', c', z1, z2, z3, z4, z5⟩ := hz
        have := hb.size
        exact ⟨b, rfl, g', c', z1, z2, by omega, by omega, z5⟩
      | some p =>
        rw [ec] at HC
        have MR : Hid (madeR n m r = if narAll n p m then some (nl n p m) else none) := by show madeR n m r = _; simp [madeR, ec]
        go_wp2_with fail
        refine HC.out.mono ?_
        rintro e w1 ⟨rfl, hb, s, hs, hp⟩
        obtain rfl := hp p rfl
        have hM1 := hideD (hs.later ((Below.refl w1.heap.size w1).alloc (Nat.le_refl _) (.cells #[.int .i64 n, .slice none 0 0] 110)) hs.lt)
        have hB1 := hideD ((hB.out.trans hb).alloc (Nat.le_of_lt hs.lt) (.cells #[.int .i64 n, .slice none 0 0] 110))
        have hsz1 : w.heap.size ≤ w1.heap.size := by have := hb.size; omega
        have hgz := hs.lt
        have n0 : (w1.alloc (.cells #[.int .i64 n, .slice none 0 0] 110)).cell? ⟨w1.heap.size, 0, none⟩ = some (.int .i64 n) := by simp [go_sem]
        have n1 : (w1.alloc (.cells #[.int .i64 n, .slice none 0 0] 110)).cell? ⟨w1.heap.size, 1, none⟩ = some (.slice none 0 0) := by simp [go_sem]
        have n2 : (w1.alloc (.cells #[.int .i64 n, .slice none 0 0] 110)).frozen? ⟨w1.heap.size, 1, none⟩ = false := by simp [go_sem]
        have n3 : w1.heap.size + 1 ≤ (w1.alloc (.cells #[.int .i64 n, .slice none 0 0] 110)).heap.size := by simp
        have N0 := hideD n0
        have N1 := hideD n1
        have N2 := hideD n2
        have N3 := hideD n3
        clear hb hs hp HC hM' hB n0 n1 n2 n3
        go_wp2_with fail
        generalize w1.alloc (.cells #[.int .i64 n, .slice none 0 0] 110) = W1 at *
        generalize w1.heap.size = bz at *
        go_loopw [8] (fun s wr => ∃ (K : Nat) (v : Value), K ≤ m ∧ s = .int .i64 K ∧ Hid (narAll n p K = true) ∧ Hid (wr.cell? ⟨bz, 0, none⟩ = some (.int .i64 n)) ∧ Hid (wr.cell? ⟨bz, 1, none⟩ = some v) ∧ Hid (wr.frozen? ⟨bz, 1, none⟩ = false) ∧ Hid (bz + 1 ≤ wr.heap.size) ∧ Hid (wr.ownsRow (bz + 1) 79 1 v K ((nl n p K).map (Value.int .i32))) ∧ Hid (MatAt wr g n p) ∧ Hid (Below g w wr)) (fun s _ => m - (intOf s).toNat)
        case atStart => exact ⟨0, .slice none 0 0, by omega, rfl, rfl, N0, N1, N2, N3, World.ownsRow_nil _ _ _ _, hM1, hB1⟩
        case round =>
          obtain ⟨K, v, hK, rfl, hq, c0, c1, c2, c3, hown, hM, hB⟩ := hrel
          clear N0 N1 N2 N3 hM1 hB1
          obtain ⟨ao, cv, rfl⟩ := own_slice hown.out
          by_cases ck : K < m
          · have h1 := hM.out.flat (show K < (n + 1) * (n + 1) by have := hm.out; omega)
            obtain ⟨x, hx⟩ : ∃ x, x = flat n p K := ⟨_, rfl⟩
            have NX : Hid (nl n p (K + 1) = nl n p K ++ [narB x]) := by show nl n p (K + 1) = _; rw [nl_next, ← hx]
            have st : Hid (narAll n p (K + 1) = narOk x) := by show narAll n p (K + 1) = _; simp [narAll, hq.out, ← hx]
            rw [← hx] at h1
            clear hx
            have a0 := c0.out
            have a1 := c1.out
            have a2 := c2.out
            have a3 := c3.out
            have m81 : m ≤ 81 := by
              have := Nat.mul_le_mul (show n + 1 ≤ 9 by omega) (show n + 1 ≤ 9 by omega)
              have := hm.out
              omega
            have k1 : (K : Int) < (m : Int) := by omega
            have k2 : (m : Int) ≤ 81 := by omega
            obtain ⟨i0, hi0, hz0, hz1, hz2⟩ := info_parts info_bd
            by_cases cx : x = opn
            · have en : narB x = 2147483647 := by simp [narB, cx]
              have eo : narOk x = true := by simp [narOk, cx]
              rw [en] at NX
              rw [eo] at st
              unfold opn at cx
              subst cx
              have HN : Hid (∀ j u, [Value.int .i32 2147483647][j]? = some u → (wr.alloc (.cells #[.int .i32 2147483647] 79)).cell? ((⟨wr.heap.size, 0, none⟩ : Addr).add j) = some u) := by
                intro j u hj
                match j, hj with
                | 0, hj => simp at hj; subst hj; simp [Addr.add]
              go_wp2_with (at_builtin; refine wpList_append_own _ rfl _ _ 26 rfl (bz + 1) 79 i0 (.int .i32 0) 1 4 Tryz.underlying26 hi0 hz0 hz1 hz2 rfl (by decide) _ K ((nl n p K).map (Value.int .i32)) rfl (hown.out.alloc _) ⟨wr.heap.size, 0, none⟩ 1 1 [.int .i32 2147483647] rfl rfl HN.out (fun u hu => by simp at hu; subst hu; rfl) (by unfold maxLen; omega) (by omega) (by simp; omega) ?_; intro v' w2 hown' hgrow hnil; obtain ⟨gv, cw, rfl⟩ := own_form hown'; have R := hideD (after_app hgz a0 a1 a2 a3 hown.out hM.out hB.out hgrow hown'); have r1 := R.out.1; have r2 := R.out.2.1; clear hown' hgrow hnil)
              go_roundw
              case rel =>
                obtain ⟨-, -, s0, s1, s2, s3, s4, s5, s6⟩ := R.out
                refine ⟨K + 1, _, by omega, by go_num, st, s0, s1, s2, s3, ?_, s5, s6⟩
                show World.ownsRow _ _ _ _ _ _ _
                rw [NX.out, List.map_append]
                exact s4
              case measure => simp [intOf]; omega
            · have cx' : (x == 4611686018427387904) = false := by unfold opn at cx; simpa using cx
              by_cases cr : x < -536870912 ∨ 536870913 < x
              · have eo : narOk x = false := by simp [narOk, cx, cr]
                rw [eo] at st
                have MR2 : Hid (madeR n m r = none) := by
                  show madeR n m r = none
                  rw [MR.out, narAll_false (k := K + 1) m (by omega) st.out]
                  rfl
                clear MR st NX
                by_cases cl : x < -536870912
                · go_wp2_with fail
                  refine bodyPost_ret (v := .tuple #[.pointer none, .int .i64 10]) (by simp [results, Tryz.results42, go_sem]) rfl ⟨?_, hB.out⟩
                  rw [MR2.out]
                  exact rfl
                · have cg : 536870913 < x := by omega
                  go_wp2_with fail
                  refine bodyPost_ret (v := .tuple #[.pointer none, .int .i64 10]) (by simp [results, Tryz.results42, go_sem]) rfl ⟨?_, hB.out⟩
                  rw [MR2.out]
                  exact rfl
              · have en : narB x = x := by simp [narB, cx, cr]
                have eo : narOk x = true := by simp [narOk, cx, cr]
                rw [en] at NX
                rw [eo] at st
                have x0 : ¬ x < -536870912 := by omega
                have x1 : ¬ 536870913 < x := by omega
                have ex : IntKind.i32.wrap x = x := by rw [IntKind.wrap_i32]; omega
                have HN : Hid (∀ (W : World) j u, [Value.int .i32 x][j]? = some u → (W.alloc (.cells #[.int .i32 x] 79)).cell? ((⟨W.heap.size, 0, none⟩ : Addr).add j) = some u) := by
                  intro W j u hj
                  match j, hj with
                  | 0, hj => simp at hj; subst hj; simp [Addr.add]
                have b1 : ∀ O, (wr.alloc O).cell? ⟨bz, 1, none⟩ = some (.slice ao K cv) := fun O => kc _ _ (below_one _ _) a1
                have b2 : ∀ O, (wr.alloc O).cell? ⟨g, K, none⟩ = some (.int .i64 x) := fun O => kc _ _ (below_one _ _) h1
                go_wp2_with fail
                go_region_law (refine step_own rfl (.tmp 85) (.tmp 91) 26 rfl (bz + 1) 79 i0 (.int .i32 0) 1 4 Tryz.underlying26 hi0 hz0 hz1 hz2 rfl (by decide) (.slice ao K cv) K ((nl n p K).map (Value.int .i32)) (by simp [Act.eval]) (by first | exact hown.out.alloc _ | exact (hown.out.drew).alloc _ | exact (hown.out.alloc _).drew) ⟨wr.heap.size, 0, none⟩ 1 1 [.int .i32 x] (by simp [Act.eval]) rfl (by first | exact HN.out wr | exact HN.out wr.drew) (fun u hu => by simp at hu; subst hu; rfl) (by unfold maxLen; omega) (by omega) (by simp; omega) ?_; intro v' w2 hown' hgrow; obtain ⟨gv, cw, rfl⟩ := own_form hown'; have R := hideD (after_app2 hgz a0 a1 a2 a3 hown.out hM.out hB.out (by first | exact hgrow) hown'); have r1 := R.out.1; have r2 := R.out.2.1)
                all_goals
                  go_wp2_with fail
                  go_roundw
                  case rel =>
                    obtain ⟨-, -, s0, s1, s2, s3, s4, s5, s6⟩ := R.out
                    refine ⟨K + 1, _, by omega, by go_num, st, s0, s1, s2, s3, ?_, s5, s6⟩
                    show World.ownsRow _ _ _ _ _ _ _
                    rw [NX.out, List.map_append]
                    exact s4
                  case measure => simp [intOf]; omega
          · have ek : Hid (K = m) := by show K = m; omega
            have MR2 : Hid (madeR n m r = some (nl n p m)) := by
              show madeR n m r = _
              have e := ek.out
              subst e
              rw [MR.out, hq.out]
              rfl
            have ZZ : Hid (RZone wr w.heap.size bz n (nl n p m)) := by
              have e := ek.out
              subst e
              have hp : 0 < K := by have := hm.out; rw [this]; exact Nat.mul_pos (by omega) (by omega)
              obtain ⟨K', rfl⟩ : ∃ K', K = K' + 1 := ⟨K - 1, by omega⟩
              obtain ⟨gv, cw, hv⟩ := own_form hown.out
              cases hv
              first | refine ⟨gv, cv, c0.out, ?_, hsz1, ?_, ?_⟩ | refine ⟨gv, cw, c0.out, ?_, hsz1, ?_, ?_⟩
              · rw [nl_len]; exact c1.out
              · have := (hown.out.lt gv rfl).1
                omega
              · intro j hj
                have hc := World.ownsRow.cells hown.out (g := gv) rfl j (.int .i32 ((nl n p (K' + 1)).getD j 0)) (by simp [List.getD, hj])
                rw [Addr.add_lit] at hc
                exact hc
            clear MR
            go_wp2_with fail
            refine bodyPost_ret (v := .tuple #[.pointer (some ⟨bz, 0, none⟩), .int .i64 0]) (by simp [results, Tryz.results42, go_sem]) rfl ⟨?_, hB.out⟩
            rw [MR2.out]
            exact ⟨bz, rfl, ZZ.out⟩
end Go.Proofs.YtnfkmpickmonoaaGreat
