/-
  fed: a row of zones, and a zone laid behind it.
-/
import Derived.Test.YtnfkmpickmonoaaGreatQ17
import Derived.Maps.AppendAt
namespace Go.Proofs.YtnfkmpickmonoaaGreat
open Go.RowKit
set_option linter.unusedVariables false
set_option maxRecDepth 100000
theorem info_zp : (Tryz.prog.info? 41).map (fun i => (i.zero, i.size, i.bytes)) = some (some (.pointer none), 1, 8) := by kernel_rfl
/-- A zone's place and its cells. -/
abbrev ZR := Nat × Row
def pvF (e : ZR) : Value := .pointer (some ⟨e.1, 0, none⟩)
/-- A row of zones, in block r, with what it owns behind it. -/
structure RowF (w : World) (base r n : Nat) (zs : List ZR) (v : Value) : Prop where
  c0 : w.cell? ⟨r, 0, none⟩ = some (.int .i64 n)
  c1 : w.cell? ⟨r, 1, none⟩ = some v
  fr : w.frozen? ⟨r, 1, none⟩ = false
  own : w.ownsRow base 41 1 v zs.length (zs.map pvF)
  ne : v.ownBlock ≠ some r
/-- What stays when a row grows. -/
structure Grew (r : Nat) (v v' : Value) (w w' : World) : Prop where
  os : w'.os = w.os
  tape : w'.tape = w.tape
  output : w'.output = w.output
  size : w.heap.size ≤ w'.heap.size
  block : ∀ k, k < w.heap.size → k ≠ r → v.ownBlock ≠ some k → w'.heap[k]? = w.heap[k]?
  own : v'.ownBlock = v.ownBlock ∨ ∀ k, v'.ownBlock = some k → w.heap.size ≤ k
theorem Grew.below {r base : Nat} {v v' : Value} {w w' : World} (h : Grew r v v' w w') (hr : base ≤ r) (hv : ∀ k, v.ownBlock = some k → base ≤ k) (hw : base ≤ w.heap.size) : Below base w w' :=
  ⟨h.os, h.tape, h.output, h.size, fun k hk => h.block k (by omega) (by omega) (fun e => by have := hv k e; omega)⟩
theorem RowF.past {w w' : World} {base r n : Nat} {zs : List ZR} {v : Value} (h : RowF w base r n zs v) (hb : Below w.heap.size w w') : RowF w' base r n zs v :=
  ⟨kc _ _ hb h.c0, kc _ _ hb h.c1, kf _ _ hb h.c1 h.fr, World.ownsRow.kept (row := none) h.own ⟨hb.os, hb.tape, hb.output, hb.size, fun k hk _ => hb.block k hk⟩ (by cases v.ownBlock <;> simp), h.ne⟩
theorem long_any (r q cap : Nat) (ad : Option Addr) (w : World) (c1 : w.cell? ⟨r, 1, none⟩ = some (.slice ad q cap)) :
    Calls Tryz.prog 57 #[.pointer (some ⟨r, 0, none⟩)] w fun e w' => e = .returned (.int .i64 (q : Int)) ∧ w' = w := by
  go_enter Tryz.func57, Tryz.ntmps57
  go_wp2_with fail
  go_ret
  exact ⟨rfl, rfl⟩
/-- What comes of a zone that is to be laid behind a row. -/
def AddOut (base r n : Nat) (zs : List ZR) (b : Nat) (c : Row) (v : Value) (w w' : World) (e : Ending) : Prop :=
  (c 0 < 1 ∧ e = .returned (.bool true) ∧ Below w.heap.size w w') ∨
  (¬ c 0 < 1 ∧ zs.length = 4096 ∧ e = .returned (.bool false) ∧ Below w.heap.size w w') ∨
  (¬ c 0 < 1 ∧ zs.length ≠ 4096 ∧ e = .returned (.bool true) ∧ ∃ v', RowF w' base r n (zs ++ [(b, c)]) v' ∧ Grew r v v' w w')
theorem own_sl {w : World} {base n : Nat} {v : Value} {xs : List Value} (h : w.ownsRow base 41 1 v n xs) : ∃ ad cap, v = .slice ad n cap := by
  rcases h.2 with ⟨rfl, rfl⟩ | ⟨g, cap, cur, rfl, -⟩
  · exact ⟨_, _, rfl⟩
  · exact ⟨_, _, rfl⟩
theorem grown_cell {W W' : World} {row : Option Nat} {a : Addr} {v : Value} (h : W.grownBy W' row) (hc : W.cell? a = some v) (hne : row ≠ some a.block) : W'.cell? a = some v :=
  (World.cell?_of_block (h.block _ (World.block_lt_of_cell? _ _ hc) (fun e => hne e.symm))).trans hc
theorem grown_frozen {W W' : World} {row : Option Nat} {a : Addr} {v : Value} (h : W.grownBy W' row) (hc : W.cell? a = some v) (hf : W.frozen? a = false) (hne : row ≠ some a.block) : W'.frozen? a = false :=
  (World.frozen?_of_block (h.block _ (World.block_lt_of_cell? _ _ hc) (fun e => hne e.symm))).trans hf
theorem grown_set (W : World) (a : Addr) (u : Value) : W.grownBy (W.setCell a u) (some a.block) := ⟨rfl, rfl, rfl, by simp [World.setCell], fun k hk hne => Below.heap_setCell _ _ _ _ (fun e => hne (by rw [e]))⟩
theorem add_done {base r n b : Nat} {c : Row} {zs : List ZR} {v v' : Value} {w w1 w3 : World} {o : Obj} (R1 : RowF w1 base r n zs v) (B1 : Below w.heap.size w w1) (hown : w3.ownsRow base 41 1 v' (zs.length + 1) (zs.map pvF ++ [pvF (b, c)])) (hg : (w1.alloc o).grownBy w3 v.ownBlock) (hat : v'.ownBlock = v.ownBlock ∨ v'.ownBlock = some (w1.alloc o).heap.size) :
    RowF (w3.setCell ⟨r, 1, none⟩ v') base r n (zs ++ [(b, c)]) v' ∧ Grew r v v' w (w3.setCell ⟨r, 1, none⟩ v') := by
  have ba := below_one w1 o
  have c0 := grown_cell hg (kc _ _ ba R1.c0) R1.ne
  have c1 := grown_cell hg (kc _ _ ba R1.c1) R1.ne
  have fr := grown_frozen hg (kc _ _ ba R1.c1) (kf _ _ ba R1.c1 R1.fr) R1.ne
  have lt1 := World.block_lt_of_cell? _ _ R1.c1
  have sz : w1.heap.size ≤ (w1.alloc o).heap.size := by simp
  have ne : v'.ownBlock ≠ some r := by
    rcases hat with h | h
    · rw [h]; exact R1.ne
    · rw [h]
      intro e
      injection e with e
      simp at e
      have : r < w1.heap.size := lt1
      omega
  refine ⟨⟨?_, ?_, ?_, ?_, ne⟩, ?_⟩
  · rw [World.cell?_setCell_other _ _ _ _ (by intro e; injection e; omega)]
    exact c0
  · exact World.cell?_setCell_same _ _ _ c1
  · rw [World.frozen?_setCell]
    exact fr
  · rw [List.length_append, List.map_append]
    exact World.ownsRow.kept hown (grown_set _ _ _) (.inr ne)
  · refine ⟨hg.os.trans (B1.os), hg.tape.trans B1.tape, hg.output.trans B1.output, ?_, fun k hk h1 h2 => ?_, ?_⟩
    · have := hg.size
      have := B1.size
      simp [World.setCell]
      omega
    · have s1 := B1.size
      refine (Below.heap_setCell _ _ _ _ (show k ≠ r from h1)).trans ((hg.block k (by omega) (fun e => h2 e.symm)).trans ((ba.block k (by omega)).trans (B1.block k hk)))
    · rcases hat with h | h
      · exact .inl h
      · refine .inr fun k hk => ?_
        rw [h] at hk
        injection hk with hk
        have := B1.size
        simp at hk
        omega
set_option maxHeartbeats 4000000 in
theorem fadd_any (base r n b : Nat) (c : Row) (zs : List ZR) (v : Value) (w : World) (hn : n ≤ 8) (hz : ZoneAt w b n c) (hR : RowF w base r n zs v) (hl : zs.length ≤ 4096) (hb : base ≤ w.heap.size) :
    Calls Tryz.prog 31 #[.pointer (some ⟨r, 0, none⟩), .pointer (some ⟨b, 0, none⟩)] w fun e w' => AddOut base r n zs b c v w w' e := by
  obtain ⟨i0, hi, hz0, hz1, hz2⟩ := info_parts info_zp
  have HE := hideD (zempty_any b n c w hn hz)
  by_cases ce : c 0 < 1
  · rw [decide_eq_true ce] at HE
    have HO : Hid (∀ w', Below w.heap.size w w' → AddOut base r n zs b c v w w' (.returned (.bool true))) := fun w' h => .inl ⟨ce, rfl, h⟩
    clear hz hR hl hb ce
    go_enter Tryz.func31, Tryz.ntmps31
    go_wp2_with fail
    refine HE.out.mono ?_
    rintro e w1 ⟨rfl, h1⟩
    go_wp2_with fail
    go_ret
    exact HO.out _ h1
  · rw [decide_eq_false ce] at HE
    obtain ⟨q, hq⟩ : ∃ q, zs.length = q := ⟨_, rfl⟩
    obtain ⟨ad, cap, hv⟩ := own_sl hR.own
    rw [hq] at hv
    subst hv
    have lt := World.block_lt_of_cell? _ _ hR.c1
    have HR := hideD hR
    have HL := hideD hl
    have HB := hideD hb
    have HC := hideD ce
    clear hz hR hl hb ce
    have HQ := hideD hq
    have HG := hideD (fun w (h : w.cell? ⟨r, 1, none⟩ = some (.slice ad q cap)) => long_any r q cap ad w h)
    clear hq
    go_enter Tryz.func31, Tryz.ntmps31
    go_wp2_with fail
    refine HE.out.mono ?_
    rintro e w1 ⟨rfl, h1⟩
    have R1 := hideD (HR.out.past h1)
    have B1 := hideD h1
    have d1 := R1.out.c1
    have HG1 := hideD (HG.out w1 d1)
    clear h1 HE HR HG
    go_wp2_with fail
    refine HG1.out.mono ?_
    rintro e w2 ⟨rfl, e2⟩
    obtain rfl := e2.symm
    clear HG1
    by_cases c4 : q = 4096
    · have c5 : ((q : Int) == 4096) = true := by rw [c4]; rfl
      have HO : Hid (AddOut base r n zs b c (.slice ad q cap) w w1 (.returned (.bool false))) := .inr (.inl ⟨by have := HC.out; omega, by rw [HQ.out, c4], rfl, B1.out⟩)
      clear c4 R1 B1 HC HQ HL
      go_wp2_with fail
      go_ret
      exact HO.out
    · have c5 : ((q : Int) == 4096) = false := by simp; omega
      have C4 := hideD c4
      clear c4
      have O0 := R1.out.own
      rw [HQ.out] at O0
      have O1 := hideD (O0.alloc (.cells #[.pointer (some ⟨b, 0, none⟩)] 41))
      have hd : ∀ w3 v', w3.ownsRow base 41 1 v' (q + 1) (zs.map pvF ++ [.pointer (some ⟨b, 0, none⟩)]) → (w1.alloc (.cells #[.pointer (some ⟨b, 0, none⟩)] 41)).grownBy w3 (Value.slice ad q cap).ownBlock → (v'.ownBlock = (Value.slice ad q cap).ownBlock ∨ v'.ownBlock = some (w1.alloc (.cells #[.pointer (some ⟨b, 0, none⟩)] 41)).heap.size) → AddOut base r n zs b c (.slice ad q cap) w (w3.setCell ⟨r, 1, none⟩ v') (.returned (.bool true)) := fun w3 v' h1 h2 h3 => by
        rw [← HQ.out] at h1
        exact .inr (.inr ⟨by have := HC.out; omega, by rw [HQ.out]; exact C4.out, rfl, v', add_done R1.out B1.out h1 h2 h3⟩)
      clear O0
      have hbw := hideD (Nat.le_trans HB.out B1.out.size)
      go_wp2_with (at_builtin; refine wpList_append_own_at _ rfl _ _ 30 rfl base 41 i0 (.pointer none) 1 8 Tryz.underlying30 hi hz0 hz1 hz2 rfl (by decide) _ q _ rfl O1.out ⟨w1.heap.size, 0, none⟩ 1 1 [.pointer (some ⟨b, 0, none⟩)] rfl rfl (cell_one_new _ _ _) (by simp [Value.oneCell']) (by have := HL.out; have := HQ.out; unfold maxLen; omega) (by have := HL.out; have := HQ.out; omega) (by have := hbw.out; simp; omega) ?_; intro v' w3 hown hgrow _ hat; have HD := hideD (hd w3 v' hown hgrow hat); have d3 := grown_cell hgrow (kc _ _ (below_one w1 _) d1) R1.out.ne; have f3 := grown_frozen hgrow (kc _ _ (below_one w1 _) d1) (kf _ _ (below_one w1 _) d1 R1.out.fr) R1.out.ne; obtain ⟨ad', cap', rfl⟩ := own_sl hown; clear hown hgrow hat)
      go_ret
      exact HD.out
end Go.Proofs.YtnfkmpickmonoaaGreat
