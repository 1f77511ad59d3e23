/-
  point.Delays: ends of spans.
-/
import Derived.Test.YteifpplemohdcaaGreatDoorQ15
namespace Go.Proofs.YteifpplemohdcaaGreatDoor
open Go.RowKit Go.Shelf
set_option linter.unusedVariables false
set_option maxRecDepth 100000
/-- An end: a number less a clock; may it be one? -/
structure End where
  n : Int
  cn : Int
  cd : Int
  i : Bool
structure DSt where
  lo : End
  hi : End
  fv : Bool
abbrev endV (e : End) : Value := .agg #[.int .i64 e.n, .int .i64 e.cn, .int .i64 e.cd, .bool e.i]
abbrev dCells (s : DSt) : Array Value := #[.int .i64 s.lo.n, .int .i64 s.lo.cn, .int .i64 s.lo.cd, .bool s.lo.i, .int .i64 s.hi.n, .int .i64 s.hi.cn, .int .i64 s.hi.cd, .bool s.hi.i, .bool s.fv]
def DAt (W : World) (B : Nat) (s : DSt) : Prop := W.heap[B]? = some (.cells (dCells s) 85)
/-- A right end. -/
structure OkE (e : End) : Prop where
  a : I64 e.cn
  b : I64 e.cd
  o : okR e.cn e.cd = true
  l : -1000000000 ≤ e.n
  u : e.n ≤ 1000000000
def cmpE (e o : End) : Int := gapV o.cn o.cd e.cn e.cd (o.n - e.n)
theorem cmpE_any (e o : End) (w : World) (he : OkE e) (ho : OkE o) : Calls Tryz.prog 82 #[endV e, endV o] w fun r w' => r = .returned (.int .i64 (cmpE e o)) ∧ Below w.heap.size w w' := by
  have HG := hideR (fun w => gapP_any o.cn o.cd e.cn e.cd (o.n - e.n) w ho.a ho.b he.a he.b ho.o he.o)
  have hw : wrap64 (o.n - e.n) = o.n - e.n := (w64 ⟨by have := he.u; have := ho.l; omega, by have := he.l; have := ho.u; omega⟩).1
  have B0 := two w (.cells #[.int .i64 e.n, .int .i64 e.cn, .int .i64 e.cd, .bool e.i] 83) (.cells #[.int .i64 o.n, .int .i64 o.cn, .int .i64 o.cd, .bool o.i] 83)
  unfold cmpE
  obtain ⟨e1, e2, e3, e4⟩ := e
  obtain ⟨o1, o2, o3, o4⟩ := o
  simp only at *
  clear he ho
  generalize gapV o2 o3 e2 e3 (o1 - e1) = G at *
  go_enter Tryz.func82, Tryz.ntmps82
  go_wp2_with fail
  refine (HG.out _).mono ?_
  rintro r w1 ⟨rfl, hb⟩
  have HB := hideR (beyond B0 hb)
  clear hb B0 HG
  go_wp2_with fail
  go_ret
  exact ⟨rfl, HB.out⟩
theorem DAt.cells {W : World} {B : Nat} {s : DSt} (h : DAt W B s) : W.cell? ⟨B, 0, none⟩ = some (.int .i64 s.lo.n) ∧ W.cell? ⟨B, 1, none⟩ = some (.int .i64 s.lo.cn) ∧ W.cell? ⟨B, 2, none⟩ = some (.int .i64 s.lo.cd) ∧ W.cell? ⟨B, 3, none⟩ = some (.bool s.lo.i) ∧ W.cell? ⟨B, 4, none⟩ = some (.int .i64 s.hi.n) ∧ W.cell? ⟨B, 5, none⟩ = some (.int .i64 s.hi.cn) ∧ W.cell? ⟨B, 6, none⟩ = some (.int .i64 s.hi.cd) ∧ W.cell? ⟨B, 7, none⟩ = some (.bool s.hi.i) ∧ W.cell? ⟨B, 8, none⟩ = some (.bool s.fv) := by
  have h' : W.heap[B]? = _ := h
  refine ⟨?_, ?_, ?_, ?_, ?_, ?_, ?_, ?_, ?_⟩ <;> simp [World.cell?, h']
theorem DAt.free {W : World} {B : Nat} {s : DSt} (h : DAt W B s) (k : Nat) : W.frozen? ⟨B, k, none⟩ = false := by
  have h' : W.heap[B]? = _ := h
  simp [World.frozen?, h']
theorem DAt.past {W W' : World} {B : Nat} {s : DSt} (h : DAt W B s) (hb : Below W.heap.size W W') : DAt W' B s := (hb.block B (Array.getElem?_eq_some_iff.1 h).1).trans h
theorem set_obj {W : World} {B k : Nat} {cs : Array Value} {t : TypeId} (h : W.heap[B]? = some (.cells cs t)) (v : Value) : (W.setCell ⟨B, k, none⟩ v).heap[B]? = some (.cells (cs.setIfInBounds k v) t) := by
  unfold World.setCell
  simp [Array.getElem?_modify, h]
theorem DAt.setLo {W : World} {B : Nat} {s : DSt} (h : DAt W B s) (e : End) : DAt ((((W.setCell ⟨B, 0, none⟩ (.int .i64 e.n)).setCell ⟨B, 1, none⟩ (.int .i64 e.cn)).setCell ⟨B, 2, none⟩ (.int .i64 e.cd)).setCell ⟨B, 3, none⟩ (.bool e.i)) B ⟨e, s.hi, s.fv⟩ := by
  have := set_obj (k := 3) (set_obj (k := 2) (set_obj (k := 1) (set_obj (k := 0) h (.int .i64 e.n)) (.int .i64 e.cn)) (.int .i64 e.cd)) (.bool e.i)
  unfold DAt
  rw [this]
  rfl
theorem DAt.setHi {W : World} {B : Nat} {s : DSt} (h : DAt W B s) (e : End) : DAt ((((W.setCell ⟨B, 4, none⟩ (.int .i64 e.n)).setCell ⟨B, 5, none⟩ (.int .i64 e.cn)).setCell ⟨B, 6, none⟩ (.int .i64 e.cd)).setCell ⟨B, 7, none⟩ (.bool e.i)) B ⟨s.lo, e, s.fv⟩ := by
  have := set_obj (k := 7) (set_obj (k := 6) (set_obj (k := 5) (set_obj (k := 4) h (.int .i64 e.n)) (.int .i64 e.cn)) (.int .i64 e.cd)) (.bool e.i)
  unfold DAt
  rw [this]
  rfl
theorem DAt.setFv {W : World} {B : Nat} {s : DSt} (h : DAt W B s) (b : Bool) : DAt (W.setCell ⟨B, 8, none⟩ (.bool b)) B ⟨s.lo, s.hi, b⟩ := by
  have := set_obj (k := 8) h (.bool b)
  unfold DAt
  rw [this]
  rfl
theorem grow_set (W : World) (b k : Nat) (v : Value) : W.grownBy (W.setCell ⟨b, k, none⟩ v) (some b) :=
  ⟨rfl, rfl, rfl, (KeepsWalks.setCell W _ v).size, fun j _ hk => Below.heap_setCell _ _ _ j (fun e => hk (by rw [e]))⟩
theorem grow_trans {X Y Z : World} {r : Option Nat} (h : X.grownBy Y r) (k : Y.grownBy Z r) : X.grownBy Z r :=
  ⟨k.os.trans h.os, k.tape.trans h.tape, k.output.trans h.output, Nat.le_trans h.size k.size, fun j hj hne => (k.block j (Nat.lt_of_lt_of_le hj h.size) hne).trans (h.block j hj hne)⟩
theorem grow_of {X Y : World} {r : Option Nat} (h : Below X.heap.size X Y) : X.grownBy Y r := ⟨h.os, h.tape, h.output, h.size, fun j hj _ => h.block j hj⟩
theorem grow_four (W : World) (b : Nat) (k l m n : Nat) (v x y z : Value) : W.grownBy ((((W.setCell ⟨b, k, none⟩ v).setCell ⟨b, l, none⟩ x).setCell ⟨b, m, none⟩ y).setCell ⟨b, n, none⟩ z) (some b) :=
  grow_trans (grow_trans (grow_trans (grow_set _ _ _ _) (grow_set _ _ _ _)) (grow_set _ _ _ _)) (grow_set _ _ _ _)
def fromS (s : DSt) (e : End) : DSt := if 0 < cmpE e s.lo ∨ (cmpE e s.lo = 0 ∧ e.i = false) then ⟨e, s.hi, s.fv⟩ else s
def upS (s : DSt) (e : End) : DSt := if s.fv then ⟨s.lo, e, false⟩ else if cmpE e s.hi < 0 ∨ (cmpE e s.hi = 0 ∧ e.i = false) then ⟨s.lo, e, s.fv⟩ else s
abbrev AskE (e o : End) (G : Int) : Prop := ∀ w, Calls Tryz.prog 82 #[endV e, endV o] w fun r w' => r = .returned (.int .i64 G) ∧ Below w.heap.size w w'
set_option maxHeartbeats 1000000 in
theorem from_raw (B : Nat) (s s' : DSt) (e : End) (G : Int) (w : World) (hD : DAt w B s) (HC : Hid (AskE e s.lo G))
    (hG : (0 < G ∧ s' = ⟨e, s.hi, s.fv⟩) ∨ (¬ 0 < G ∧ (G == 0) = true ∧ e.i = false ∧ s' = ⟨e, s.hi, s.fv⟩) ∨ (¬ 0 < G ∧ (G == 0) = true ∧ e.i = true ∧ s' = s) ∨ (¬ 0 < G ∧ (G == 0) = false ∧ s' = s)) :
    Calls Tryz.prog 50 #[.pointer (some ⟨B, 0, none⟩), endV e] w fun r w' => (∃ v, r = .returned v) ∧ DAt w' B s' ∧ w.grownBy w' (some B) := by
  have B0 := single w (.cells #[.int .i64 e.n, .int .i64 e.cn, .int .i64 e.cd, .bool e.i] 83)
  have HD := hideR (hD.past B0)
  have HGG := hideR hG
  obtain ⟨p0, p1, p2, p3, -⟩ := (hD.past B0).cells
  have hlt := World.block_lt_of_cell? _ _ hD.cells.1
  clear hG hD
  go_enter Tryz.func50, Tryz.ntmps50
  go_upto_region 1 with (fail)
  have q0 : (w.alloc (.cells #[.int .i64 e.n, .int .i64 e.cn, .int .i64 e.cd, .bool e.i] 83)).cell? ⟨w.heap.size, 0, none⟩ = some (.int .i64 e.n) := by simp [go_sem]
  have q1 : (w.alloc (.cells #[.int .i64 e.n, .int .i64 e.cn, .int .i64 e.cd, .bool e.i] 83)).cell? ⟨w.heap.size, 1, none⟩ = some (.int .i64 e.cn) := by simp [go_sem]
  have q2 : (w.alloc (.cells #[.int .i64 e.n, .int .i64 e.cn, .int .i64 e.cd, .bool e.i] 83)).cell? ⟨w.heap.size, 2, none⟩ = some (.int .i64 e.cd) := by simp [go_sem]
  have q3 : (w.alloc (.cells #[.int .i64 e.n, .int .i64 e.cn, .int .i64 e.cd, .bool e.i] 83)).cell? ⟨w.heap.size, 3, none⟩ = some (.bool e.i) := by simp [go_sem]
  have B1 := hideR B0
  clear B0
  generalize w.alloc (.cells #[.int .i64 e.n, .int .i64 e.cn, .int .i64 e.cd, .bool e.i] 83) = W at *
  have B2 := Below.refl W.heap.size W
  go_region_held3 (fun w' => w'.cell? ⟨w.heap.size, 0, none⟩ = some (.int .i64 e.n) ∧ w'.cell? ⟨w.heap.size, 1, none⟩ = some (.int .i64 e.cn) ∧ w'.cell? ⟨w.heap.size, 2, none⟩ = some (.int .i64 e.cd) ∧ w'.cell? ⟨w.heap.size, 3, none⟩ = some (.bool e.i) ∧ w'.cell? ⟨B, 0, none⟩ = some (.int .i64 s.lo.n) ∧ w'.cell? ⟨B, 1, none⟩ = some (.int .i64 s.lo.cn) ∧ w'.cell? ⟨B, 2, none⟩ = some (.int .i64 s.lo.cd) ∧ w'.cell? ⟨B, 3, none⟩ = some (.bool s.lo.i))
    (first | (refine ⟨?_, ?_, ?_, ?_, ?_, ?_, ?_, ?_⟩ <;> (first | with_reducible assumption | assumption)) | go_keep)
    (first | (go_at_call 82; refine (HC.out _).mono ?_; rintro r w' ⟨rfl, hb⟩; have s4 := beyond (w := W) (by first | assumption | (apply Below.drew; assumption)) hb; have s0 := kc ⟨w.heap.size, 0, none⟩ (.int .i64 e.n) hb (by first | assumption | simp [go_sem, *]); have s1 := kc ⟨w.heap.size, 1, none⟩ (.int .i64 e.cn) hb (by first | assumption | simp [go_sem, *]); have s2 := kc ⟨w.heap.size, 2, none⟩ (.int .i64 e.cd) hb (by first | assumption | simp [go_sem, *]); have s3 := kc ⟨w.heap.size, 3, none⟩ (.bool e.i) hb (by first | assumption | simp [go_sem, *]); have t0 := kc ⟨B, 0, none⟩ (.int .i64 s.lo.n) hb (by first | assumption | simp [go_sem, *]); have t1 := kc ⟨B, 1, none⟩ (.int .i64 s.lo.cn) hb (by first | assumption | simp [go_sem, *]); have t2 := kc ⟨B, 2, none⟩ (.int .i64 s.lo.cd) hb (by first | assumption | simp [go_sem, *]); have t3 := kc ⟨B, 3, none⟩ (.bool s.lo.i) hb (by first | assumption | simp [go_sem, *])))
  all_goals
    have D3 := hideR (HD.out.past s4)
    have B4 := hideR (beyond B1.out s4)
    have f0 := D3.out.free 0
    have f1 := D3.out.free 1
    have f2 := D3.out.free 2
    have f3 := D3.out.free 3
    clear s4 s0 s1 s2 t0 t1 t2 t3 hb HC HD B1 B2 p0 p1 p2 p3 q0 q1 q2 q3
    rcases HGG.out with ⟨h1, h2⟩ | ⟨h1, h2, h3, h4⟩ | ⟨h1, h2, h3, h4⟩ | ⟨h1, h2, h4⟩
    · have S := hideR h2
      clear h2 HGG
      go_wp2_with fail
      go_end0
      exact ⟨⟨_, rfl⟩, by rw [S.out]; exact D3.out.setLo e, grow_trans (grow_of B4.out) (grow_four _ _ _ _ _ _ _ _ _ _)⟩
    · have S := hideR h4
      clear h4 HGG
      rw [h3] at s3
      go_wp2_with fail
      go_end0
      have F := D3.out.setLo e
      rw [h3] at F
      exact ⟨⟨_, rfl⟩, by rw [S.out]; exact F, grow_trans (grow_of B4.out) (grow_four _ _ _ _ _ _ _ _ _ _)⟩
    · have S := hideR h4
      clear h4 HGG
      rw [h3] at s3
      go_wp2_with fail
      go_end0
      exact ⟨⟨_, rfl⟩, by rw [S.out]; exact D3.out, grow_of B4.out⟩
    · have S := hideR h4
      clear h4 HGG
      go_wp2_with fail
      go_end0
      exact ⟨⟨_, rfl⟩, by rw [S.out]; exact D3.out, grow_of B4.out⟩
set_option maxHeartbeats 1000000 in
theorem up_raw (B : Nat) (s s' : DSt) (e : End) (G : Int) (w : World) (hD : DAt w B s) (hfv : s.fv = false) (HC : Hid (AskE e s.hi G))
    (hG : (G < 0 ∧ s' = ⟨s.lo, e, s.fv⟩) ∨ (¬ G < 0 ∧ (G == 0) = true ∧ e.i = false ∧ s' = ⟨s.lo, e, s.fv⟩) ∨ (¬ G < 0 ∧ (G == 0) = true ∧ e.i = true ∧ s' = s) ∨ (¬ G < 0 ∧ (G == 0) = false ∧ s' = s)) :
    Calls Tryz.prog 49 #[.pointer (some ⟨B, 0, none⟩), endV e] w fun r w' => (∃ v, r = .returned v) ∧ DAt w' B s' ∧ w.grownBy w' (some B) := by
  have B0 := single w (.cells #[.int .i64 e.n, .int .i64 e.cn, .int .i64 e.cd, .bool e.i] 83)
  have HD := hideR (hD.past B0)
  have HGG := hideR hG
  obtain ⟨-, -, -, -, p0, p1, p2, p3, p8⟩ := (hD.past B0).cells
  rw [hfv] at p8
  have hlt := World.block_lt_of_cell? _ _ hD.cells.1
  clear hG hD hfv
  go_enter Tryz.func49, Tryz.ntmps49
  go_upto_region 3 with (fail)
  have q0 : (w.alloc (.cells #[.int .i64 e.n, .int .i64 e.cn, .int .i64 e.cd, .bool e.i] 83)).cell? ⟨w.heap.size, 0, none⟩ = some (.int .i64 e.n) := by simp [go_sem]
  have q1 : (w.alloc (.cells #[.int .i64 e.n, .int .i64 e.cn, .int .i64 e.cd, .bool e.i] 83)).cell? ⟨w.heap.size, 1, none⟩ = some (.int .i64 e.cn) := by simp [go_sem]
  have q2 : (w.alloc (.cells #[.int .i64 e.n, .int .i64 e.cn, .int .i64 e.cd, .bool e.i] 83)).cell? ⟨w.heap.size, 2, none⟩ = some (.int .i64 e.cd) := by simp [go_sem]
  have q3 : (w.alloc (.cells #[.int .i64 e.n, .int .i64 e.cn, .int .i64 e.cd, .bool e.i] 83)).cell? ⟨w.heap.size, 3, none⟩ = some (.bool e.i) := by simp [go_sem]
  have B1 := hideR B0
  clear B0
  generalize w.alloc (.cells #[.int .i64 e.n, .int .i64 e.cn, .int .i64 e.cd, .bool e.i] 83) = W at *
  have B2 := Below.refl W.heap.size W
  go_region_held3 (fun w' => w'.cell? ⟨w.heap.size, 0, none⟩ = some (.int .i64 e.n) ∧ w'.cell? ⟨w.heap.size, 1, none⟩ = some (.int .i64 e.cn) ∧ w'.cell? ⟨w.heap.size, 2, none⟩ = some (.int .i64 e.cd) ∧ w'.cell? ⟨w.heap.size, 3, none⟩ = some (.bool e.i) ∧ w'.cell? ⟨B, 4, none⟩ = some (.int .i64 s.hi.n) ∧ w'.cell? ⟨B, 5, none⟩ = some (.int .i64 s.hi.cn) ∧ w'.cell? ⟨B, 6, none⟩ = some (.int .i64 s.hi.cd) ∧ w'.cell? ⟨B, 7, none⟩ = some (.bool s.hi.i))
    (first | (refine ⟨?_, ?_, ?_, ?_, ?_, ?_, ?_, ?_⟩ <;> (first | with_reducible assumption | assumption)) | go_keep)
    (first | (go_at_call 82; refine (HC.out _).mono ?_; rintro r w' ⟨rfl, hb⟩; have s4 := beyond (w := W) (by first | assumption | (apply Below.drew; assumption)) hb; have s0 := kc ⟨w.heap.size, 0, none⟩ (.int .i64 e.n) hb (by first | assumption | simp [go_sem, *]); have s1 := kc ⟨w.heap.size, 1, none⟩ (.int .i64 e.cn) hb (by first | assumption | simp [go_sem, *]); have s2 := kc ⟨w.heap.size, 2, none⟩ (.int .i64 e.cd) hb (by first | assumption | simp [go_sem, *]); have s3 := kc ⟨w.heap.size, 3, none⟩ (.bool e.i) hb (by first | assumption | simp [go_sem, *]); have t0 := kc ⟨B, 4, none⟩ (.int .i64 s.hi.n) hb (by first | assumption | simp [go_sem, *]); have t1 := kc ⟨B, 5, none⟩ (.int .i64 s.hi.cn) hb (by first | assumption | simp [go_sem, *]); have t2 := kc ⟨B, 6, none⟩ (.int .i64 s.hi.cd) hb (by first | assumption | simp [go_sem, *]); have t3 := kc ⟨B, 7, none⟩ (.bool s.hi.i) hb (by first | assumption | simp [go_sem, *])))
  all_goals
    have D3 := hideR (HD.out.past s4)
    have B4 := hideR (beyond B1.out s4)
    have f0 := D3.out.free 4
    have f1 := D3.out.free 5
    have f2 := D3.out.free 6
    have f3 := D3.out.free 7
    clear s4 s0 s1 s2 p8 t0 t1 t2 t3 hb HC HD B1 B2 p0 p1 p2 p3 q0 q1 q2 q3
    rcases HGG.out with ⟨h1, h2⟩ | ⟨h1, h2, h3, h4⟩ | ⟨h1, h2, h3, h4⟩ | ⟨h1, h2, h4⟩
    · have S := hideR h2
      clear h2 HGG
      go_wp2_with fail
      go_end0
      exact ⟨⟨_, rfl⟩, by rw [S.out]; exact D3.out.setHi e, grow_trans (grow_of B4.out) (grow_four _ _ _ _ _ _ _ _ _ _)⟩
    · have S := hideR h4
      clear h4 HGG
      rw [h3] at s3
      go_wp2_with fail
      go_end0
      have F := D3.out.setHi e
      rw [h3] at F
      exact ⟨⟨_, rfl⟩, by rw [S.out]; exact F, grow_trans (grow_of B4.out) (grow_four _ _ _ _ _ _ _ _ _ _)⟩
    · have S := hideR h4
      clear h4 HGG
      rw [h3] at s3
      go_wp2_with fail
      go_end0
      exact ⟨⟨_, rfl⟩, by rw [S.out]; exact D3.out, grow_of B4.out⟩
    · have S := hideR h4
      clear h4 HGG
      go_wp2_with fail
      go_end0
      exact ⟨⟨_, rfl⟩, by rw [S.out]; exact D3.out, grow_of B4.out⟩
theorem up_first (B : Nat) (s : DSt) (e : End) (w : World) (hD : DAt w B s) (hfv : s.fv = true) : Calls Tryz.prog 49 #[.pointer (some ⟨B, 0, none⟩), endV e] w fun r w' => (∃ v, r = .returned v) ∧ DAt w' B ⟨s.lo, e, false⟩ ∧ w.grownBy w' (some B) := by
  have B0 := single w (.cells #[.int .i64 e.n, .int .i64 e.cn, .int .i64 e.cd, .bool e.i] 83)
  have HD := hideR (hD.past B0)
  obtain ⟨-, -, -, -, p4, p5, p6, p7, p8⟩ := (hD.past B0).cells
  rw [hfv] at p8
  have f4 := HD.out.free 4
  have f5 := HD.out.free 5
  have f6 := HD.out.free 6
  have f7 := HD.out.free 7
  have f8 := HD.out.free 8
  have hlt := World.block_lt_of_cell? _ _ hD.cells.1
  have hne : ¬ w.heap.size = B := by have h : B < w.heap.size := hlt; omega
  clear hD hfv
  go_enter Tryz.func49, Tryz.ntmps49
  have q0 : (w.alloc (.cells #[.int .i64 e.n, .int .i64 e.cn, .int .i64 e.cd, .bool e.i] 83)).cell? ⟨w.heap.size, 0, none⟩ = some (.int .i64 e.n) := by simp [go_sem]
  have q1 : (w.alloc (.cells #[.int .i64 e.n, .int .i64 e.cn, .int .i64 e.cd, .bool e.i] 83)).cell? ⟨w.heap.size, 1, none⟩ = some (.int .i64 e.cn) := by simp [go_sem]
  have q2 : (w.alloc (.cells #[.int .i64 e.n, .int .i64 e.cn, .int .i64 e.cd, .bool e.i] 83)).cell? ⟨w.heap.size, 2, none⟩ = some (.int .i64 e.cd) := by simp [go_sem]
  have q3 : (w.alloc (.cells #[.int .i64 e.n, .int .i64 e.cn, .int .i64 e.cd, .bool e.i] 83)).cell? ⟨w.heap.size, 3, none⟩ = some (.bool e.i) := by simp [go_sem]
  go_upto_region 1 with (fail)
  have B1 := hideR B0
  clear B0
  generalize w.alloc (.cells #[.int .i64 e.n, .int .i64 e.cn, .int .i64 e.cd, .bool e.i] 83) = W at *
  go_wp2_with fail
  refine bodyPost_ret (results_none rfl _ _ _) rfl ?_
  exact ⟨⟨_, rfl⟩, (HD.out.setHi e).setFv false, grow_trans (grow_of B1.out) (grow_trans (grow_four _ _ _ _ _ _ _ _ _ _) (grow_set _ _ _ _))⟩
theorem from_any (B : Nat) (s : DSt) (e : End) (w : World) (hD : DAt w B s) (he : OkE e) (hl : OkE s.lo) : Calls Tryz.prog 50 #[.pointer (some ⟨B, 0, none⟩), endV e] w fun r w' => (∃ v, r = .returned v) ∧ DAt w' B (fromS s e) ∧ w.grownBy w' (some B) := by
  refine from_raw B s _ e (cmpE e s.lo) w hD (fun w => cmpE_any e s.lo w he hl) ?_
  unfold fromS
  generalize cmpE e s.lo = G
  by_cases h1 : 0 < G
  · exact .inl ⟨h1, by rw [if_pos (.inl h1)]⟩
  · by_cases h2 : G = 0
    · cases h3 : e.i
      · exact .inr (.inl ⟨h1, by simp [h2], rfl, by rw [if_pos (.inr ⟨h2, rfl⟩)]⟩)
      · exact .inr (.inr (.inl ⟨h1, by simp [h2], rfl, by rw [if_neg (by rintro (h | ⟨_, h⟩); exact h1 h; cases h)]⟩))
    · exact .inr (.inr (.inr ⟨h1, by simp [h2], by rw [if_neg (by rintro (h | ⟨h, _⟩); exact h1 h; exact h2 h)]⟩))
theorem up_any (B : Nat) (s : DSt) (e : End) (w : World) (hD : DAt w B s) (he : OkE e) (hl : s.fv = false → OkE s.hi) : Calls Tryz.prog 49 #[.pointer (some ⟨B, 0, none⟩), endV e] w fun r w' => (∃ v, r = .returned v) ∧ DAt w' B (upS s e) ∧ w.grownBy w' (some B) := by
  cases fv : s.fv
  · have hl := hl fv
    refine up_raw B s _ e (cmpE e s.hi) w hD fv (fun w => cmpE_any e s.hi w he hl) ?_
    unfold upS
    rw [fv, if_neg (by simp)]
    generalize cmpE e s.hi = G
    by_cases h1 : G < 0
    · exact .inl ⟨h1, by rw [if_pos (.inl h1)]⟩
    · by_cases h2 : G = 0
      · cases h3 : e.i
        · exact .inr (.inl ⟨h1, by simp [h2], rfl, by rw [if_pos (.inr ⟨h2, rfl⟩)]⟩)
        · exact .inr (.inr (.inl ⟨h1, by simp [h2], rfl, by rw [if_neg (by rintro (h | ⟨_, h⟩); exact h1 h; cases h)]⟩))
      · exact .inr (.inr (.inr ⟨h1, by simp [h2], by rw [if_neg (by rintro (h | ⟨h, _⟩); exact h1 h; exact h2 h)]⟩))
  · have e1 : upS s e = ⟨s.lo, e, false⟩ := by unfold upS; rw [if_pos fv]
    rw [e1]
    exact up_first B s e w hD fv
end Go.Proofs.YteifpplemohdcaaGreatDoor
