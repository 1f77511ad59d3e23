/-
  live of the statements of point.
-/
import Derived.Test.YteifpplemohdcaaGreatQ21
import Derived.Test.YteifpplemohdcaaGreatQ35
import Derived.Test.YteifpplemohdcaaGreatQ24
import Derived.Test.YteifpplemohdcaaGreatQ16
import Derived.Deep.Slices
import Derived.Deep.Strs
import Derived.ProofKit
import Derived.OpenShut
import Derived.Test.YteifpplemohdcaaGreatQ26
import Derived.Test.YteifpplemohdcaaGreatQ19
import Derived.Test.YteifpplemohdcaaGreatQ2
import Derived.Test.YteifpplemohdcaaGreatQ3
import Derived.Test.YteifpplemohdcaaGreatQ39
import Derived.Deep.OwnRows
import Derived.Test.YteifpplemohdcaaGreatQ15
import Derived.Test.YteifpplemohdcaaGreatQ17
import Derived.Test.YteifpplemohdcaaGreatQ33
import Derived.Laws.OwnMore
import Derived.Maps.AppendAt
import Derived.Lib.BufferMore
namespace Go.Proofs.YteifpplemohdcaaGreat
open Go.RowKit Go.Shelf
set_option linter.unusedVariables false
set_option maxRecDepth 100000
theorem narB_rightP (x : Int) : rightB (narB x) = true := by
  unfold narB rightB
  split
  · simp
  · split
    · simp
    · simp; omega
theorem zoneR_right {n : Nat} {r : Mat} {c : Row} (h : zoneR n r = some c) (j : Nat) : rightB (c j) = true := by
  unfold zoneR at h
  split at h
  · cases h
    rfl
  · split at h
    · cases h
      unfold cellsUpto
      split
      · exact narB_rightP _
      · rfl
    · cases h
theorem zoneR_zero {n : Nat} {r : Mat} {c : Row} (h : zoneR n r = some c) (j : Nat) (hj : (n + 1) * (n + 1) ≤ j) : c j = 0 := by
  unfold zoneR at h
  split at h
  · cases h
    rfl
  · split at h
    · cases h
      unfold cellsUpto
      rw [if_neg (by omega)]
    · cases h
def LVp : Lims := ⟨2, fun k => if k = 0 then 1 else 0, fun k => if k = 0 then 0 else 1, fun k => if k = 0 then 16 else -14⟩
def cX : Row := fun k => [1, -14, 16, 1].getD k 0
theorem lvp_zone : (zoneR 1 (tlAll LVp LVp.q (startR 1 (1 + 1) 0))).map (fun c => listOf c 4) = some [1, -14, 16, 1] := by kernel_rfl
theorem lvp_is : zoneR 1 (tlAll LVp LVp.q (startR 1 (1 + 1) 0)) = some cX := by
  cases e : zoneR 1 (tlAll LVp LVp.q (startR 1 (1 + 1) 0)) with
  | none => have h := lvp_zone; rw [e] at h; cases h
  | some c =>
    have h := lvp_zone
    rw [e] at h
    have h : listOf c 4 = [1, -14, 16, 1] := by simpa using h
    congr 1
    funext k
    by_cases hk : k < 4
    · rw [← listOf_get c 4 k hk, h]
      rfl
    · rw [zoneR_zero e k (by omega)]
      unfold cX
      rw [List.getD_eq_getElem?_getD, List.getElem?_eq_none (by simp; omega)]
      rfl
theorem cX_right (k : Nat) : rightB (cX k) = true := zoneR_right lvp_is k
theorem cX_unit : unitsF 1 cX 0 = 15 := by kernel_rfl
theorem new15 : newT 15 2 = (15, 2, 0) := by kernel_rfl
def L7 : Rats := ⟨1, fun _ => 7, fun _ => 1⟩
theorem in75 : inB 1 4 cX (gridL 1 (unitsF 1 cX) ((1 : Nat) + 1)) = true := by kernel_rfl
theorem fit7 : fitB L7 1 = true := by kernel_rfl
theorem del7 : delB 1 4 cX L7 = (spanV 0 1 1 1 false false false, true) := by kernel_rfl
set_option maxHeartbeats 4000000 in
theorem plive_any (w : World) : Calls Tryz.prog 14 #[] w fun e w' => e = .returned (.bool true) ∧ Below w.heap.size w w' := by
  have B0 := hideD (below_one w (.cells #[.int .i64 1, .int .i64 0, .int .i32 16, .int .i64 0, .int .i64 1, .int .i32 (-14)] 95))
  have HL := limits_main 1 w.heap.size 0 2 LVp (w.alloc (.cells #[.int .i64 1, .int .i64 0, .int .i32 16, .int .i64 0, .int .i64 1, .int .i32 (-14)] 95)) (by omega) (fun k hk => by
    rcases (show k = 0 ∨ k = 1 by have : k < 2 := hk; omega) with rfl | rfl <;> simp [go_sem, LVp]) (by simp) (fun k hk => by rcases (show k = 0 ∨ k = 1 by have : k < 2 := hk; omega) with rfl | rfl <;> simp [LVp]) (by show 2 ≤ 9223372036854775807; decide)
  rw [lvp_is] at HL
  have HL := hideD HL
  go_enter Tryz.func14, Tryz.ntmps14
  go_wp2_with fail
  refine HL.out.mono ?_
  rintro e w1 ⟨hb1, ⟨hbad, -⟩ | ⟨-, z, l1, rfl, hz⟩⟩
  · exfalso
    have : okAll 1 LVp LVp.q = true := by kernel_rfl
    rw [this] at hbad
    cases hbad
  have B1 := hideD (beyondD B0.out hb1)
  have H1 := hideD (leastP_any z 1 4 cX w1 (by omega) rfl hz cX_right (by decide) (fun k hk => by
    obtain rfl : k = 0 := by omega
    rw [cX_unit]
    exact congrArg (fun p => p.2.2) new15))
  have Z1 := hideD hz
  clear HL hb1 hz B0
  go_wp2_with fail
  refine H1.out.mono ?_
  rintro e w2 ⟨⟨ad, cp, rfl, hnil, hV, -⟩, hb2⟩
  obtain ⟨g, off, rfl, v0, v1⟩ := hV 0 (by show 0 < 1; omega)
  have V0 : w2.cell? ⟨g, off, none⟩ = some (.int .i64 15) := by
    rw [show (gridL 1 (unitsF 1 cX) (((1 : Nat) : Int) + 1)).n 0 = 15 by show (newT (unitsF 1 cX 0) 2).1 = 15; rw [cX_unit, new15]] at v0
    simpa using v0
  have V1 : w2.cell? ⟨g, off + 1, none⟩ = some (.int .i64 2) := by
    rw [show (gridL 1 (unitsF 1 cX) (((1 : Nat) : Int) + 1)).d 0 = 2 by show (newT (unitsF 1 cX 0) 2).2.1 = 2; rw [cX_unit, new15]] at v1
    simpa using v1
  have HN := hideD hnil
  have HV := hideD hV
  have B2 := hideD (beyondD B1.out hb2)
  have Z2 := hideD (Z1.out.past hb2)
  clear H1 hb2 hnil hV B1 Z1 v0 v1
  obtain ⟨w3, e3⟩ : ∃ w3, w3 = w2.alloc (.cells #[.int .i64 7, .int .i64 1] 24) := ⟨_, rfl⟩
  have bo := below_one w2 (.cells #[.int .i64 7, .int .i64 1] 24)
  rw [← e3] at bo
  have c70 : w3.cell? ⟨w2.heap.size, 0, none⟩ = some (.int .i64 7) := by rw [e3]; simp [go_sem]
  have c71 : w3.cell? ⟨w2.heap.size, 1, none⟩ = some (.int .i64 1) := by rw [e3]; simp [go_sem]
  have HD := callsIn_wide.1 (delays_in z 1 4 1 1 (some ⟨w2.heap.size, 0, none⟩) cX L7 w3 (by omega) rfl (Z2.out.past bo) rfl (fun h => by cases h) (fun k hk => by
    obtain rfl : k = 0 := by have : k < 1 := hk; omega
    exact ⟨w2.heap.size, 0, rfl, c70, c71⟩) (fun k hk => ⟨by show -9223372036854775808 ≤ (7 : Int) ∧ (7 : Int) ≤ 9223372036854775807; decide, by show -9223372036854775808 ≤ (1 : Int) ∧ (1 : Int) ≤ 9223372036854775807; decide⟩) fit7)
  rw [del7] at HD
  rw [e3] at HD
  have HD := hideD HD
  have B3 := hideD (beyondD B2.out bo)
  have Z3 := hideD (Z2.out.past bo)
  have HV3 := hideD (HV.out.later bo)
  have V0 := kc _ _ bo V0
  have V1 := kc _ _ bo V1
  rw [e3] at V0 V1
  have V0 := hideD V0
  have V1 := hideD V1
  clear bo c70 c71 HV Z2 B2
  subst e3
  go_wp2_with fail
  refine HD.out.mono ?_
  rintro e w4 ⟨rfl, hb4⟩
  have B4 := hideD (beyondD B3.out hb4)
  have Z4 := hideD (Z3.out.past hb4)
  have HV4 := hideD (HV3.out.later hb4)
  have V0' := hideD (kc _ _ hb4 V0.out)
  have V1' := hideD (kc _ _ hb4 V1.out)
  clear HD B3 Z3 HV3 V0 V1 hb4
  have bo := below_one w4 (.cells #[.int .i64 0, .int .i64 1, .int .i64 1, .int .i64 1, .bool false, .bool false, .bool false] 73)
  have HI := inP_any z 1 4 1 cp (some ⟨g, off, none⟩) cX (gridL 1 (unitsF 1 cX) (((1 : Nat) : Int) + 1)) _ (by omega) rfl (Z4.out.past bo) rfl (by decide) (fun h => by cases h) (HV4.out.later bo) (fun k hk => by
    obtain rfl : k = 0 := by have : k < 1 := hk; omega
    show I64 (newT (unitsF 1 cX 0) 2).1 ∧ I64 (newT (unitsF 1 cX 0) 2).2.1
    rw [cX_unit, new15]
    exact ⟨by decide, by decide⟩)
  rw [show inB 1 4 cX (gridL 1 (unitsF 1 cX) (((1 : Nat) : Int) + 1)) = true from in75] at HI
  have HI := hideD HI
  have V0 := kc _ _ bo V0'.out
  have V1 := kc _ _ bo V1'.out
  have B5 := hideD (beyondD B4.out bo)
  clear bo V0' V1' B4 Z4 HV4 HN
  go_wp2_with fail
  refine HI.out.mono ?_
  rintro e w5 ⟨rfl, hb5⟩
  have s2 := kc ⟨w4.heap.size, 2, none⟩ (.int .i64 1) hb5 (by simp [go_sem])
  have s3 := kc ⟨w4.heap.size, 3, none⟩ (.int .i64 1) hb5 (by simp [go_sem])
  have s4 := kc ⟨w4.heap.size, 4, none⟩ (.bool false) hb5 (by simp [go_sem])
  have s5 := kc ⟨w4.heap.size, 5, none⟩ (.bool false) hb5 (by simp [go_sem])
  have s6 := kc ⟨w4.heap.size, 6, none⟩ (.bool false) hb5 (by simp [go_sem])
  have B6 := hideD (beyondD B5.out hb5)
  clear HI hb5 V0 V1 B5
  go_wp2_with fail
  go_ret
  exact ⟨rfl, B6.out⟩
end Go.Proofs.YteifpplemohdcaaGreat

/-
  Lists of fractions that are handed over, opened.
-/
namespace Go.Proofs.YteifpplemohdcaaGreat
open Go.RowKit Go.Shelf
open Go.ChangeShapes Go.WideShapes Go.ChangeAt Go.Deep
set_option linter.unusedVariables false
theorem open_rats {H : Type} {enc : TypeId × Value → H} {P : Program} {w : World} {base : Nat} {spare : Nat → Bool} {held : Bool} {t e : TypeId} {f0 f1 : Field} {fuel : Nat} {cs : List Value} {x : DataW H × List MemPlace}
    (ht : P.underlying t = some (.slice e)) (he : P.underlying e = some (.struct #[f0, f1])) (ce : P.cellsOf e = 2) (o0 : f0.offset = 0) (o1 : f1.offset = 1) (c0 : P.cellsOf f0.type = 1) (c1 : P.cellsOf f1.type = 1)
    (u0 : P.underlying f0.type = some (.int .i64)) (u1 : P.underlying f1.type = some (.int .i64)) (h : DataW.trod enc P w base spare held fuel t cs = some x) :
    cs = [.slice none 0 0] ∨ ∃ (a : Addr) (len cap : Nat) (ds ss : List (DataW H)) (L : Rats), cs = [.slice (some a) len cap] ∧ L.q = len ∧ ds.length = len ∧ x.1 = .slice ds ss ∧
      ∀ k, k < len → w.cell? (a.add (k * 2)) = some (.int .i64 (L.n k)) ∧ w.cell? (a.add (k * 2 + 1)) = some (.int .i64 (L.d k)) ∧ (Lit.int .i64 (L.n k)).wf = true ∧ (Lit.int .i64 (L.d k)).wf = true := by
  rcases open_slice ht h with ⟨h0, _⟩ | ⟨a, len, cap, m, n, D, Pl, rfl, hb, hl, hm, hmm, hx', hx⟩
  · exact .inl h0
  · right
    have hlm : len ≤ m := by rw [hmm]; split <;> omega
    have each : ∀ i, i < len → ∃ q : Int × Int, w.cell? (a.add (i * 2)) = some (.int .i64 q.1) ∧ w.cell? (a.add (i * 2 + 1)) = some (.int .i64 q.2) ∧ (Lit.int .i64 q.1).wf = true ∧ (Lit.int .i64 q.2).wf = true := by
      intro i hi
      obtain ⟨cs', h1, h2⟩ := hx i (by omega)
      rw [ce] at h1
      obtain ⟨_, hlen, hcell⟩ := World.cells?_some h1
      obtain ⟨y0, y1, k, -, -, g0, g1⟩ := trod_struct2 he h2
      match cs', hlen with
      | [v0, v1], _ =>
        simp [o0, o1, c0, c1] at g0 g1
        obtain ⟨z0, e0, _, wf0⟩ := DataW.trod_int u0 g0
        obtain ⟨z1, e1, _, wf1⟩ := DataW.trod_int u1 g1
        have k0 := hcell 0 (by omega)
        have k1 := hcell 1 (by omega)
        rw [add_add] at k0 k1
        simp at e0 e1
        subst e0 e1
        exact ⟨(z0, z1), by simpa using k0, by simpa using k1, wf0, wf1⟩
    obtain ⟨q, hq⟩ := choose_lt each
    exact ⟨a, len, cap, (List.range len).map D, _, ⟨len, fun i => (q i).1, fun i => (q i).2⟩, rfl, rfl, by simp, by rw [hx'], fun k hk => hq k hk⟩
/-- A slice that holds them. -/
def RatS (w : World) (v : Value) (L : Rats) : Prop := ∃ ad cap, v = .slice ad L.q cap ∧ (ad = none → L.q = 0 ∧ cap = 0) ∧ RatV w ad L
end Go.Proofs.YteifpplemohdcaaGreat

/-
  The document's zones as point asks of them; both of gnomonlaw06; gnomonmem.SameRats.
-/
namespace Go.Proofs.YteifpplemohdcaaGreat
open Go.RowKit Go.Shelf
set_option linter.unusedVariables false
set_option maxRecDepth 100000

def SliceAt (w : World) (v : Value) (l : List Int) : Prop := (∃ ad c, v = .slice ad 0 c ∧ l = []) ∨ (∃ b off cap, v = .slice (some ⟨b, off, none⟩) l.length cap ∧ ∀ j, j < l.length → w.cell? ⟨b, off + j, none⟩ = some (.int .i32 (l.getD j 0)))
end Go.Proofs.YteifpplemohdcaaGreat

/-
  The document's Right and Wait of valuations.
-/
namespace Go.Proofs.YteifpplemohdcaaGreat
open Go.RowKit Go.Shelf
set_option linter.unusedVariables false
set_option maxRecDepth 100000
theorem rightL_split {L : Rats} {q : Nat} (hq : L.q = q) (h : okL L q = true) : rightL L = decide ((q : Int) ≤ 8) := by
  unfold rightL
  rw [hq, h, Bool.and_true]
  rw [decide_eq_decide]
  omega
theorem rightL_no {L : Rats} {q : Nat} (hq : L.q = q) (h : okL L q = false) : rightL L = false := by
  unfold rightL
  rw [hq, h, Bool.and_false]
set_option maxHeartbeats 2000000 in
theorem rright6_any (ad : Option Addr) (cap q : Nat) (L : Rats) (w : World) (hq : L.q = q) (q1 : q ≤ 9223372036854775807) (hV : RatV w ad L) (hI : RatI L) :
    Calls Tryz.prog 25 #[.slice ad q cap] w fun e w' => e = .returned (.bool (rightL L)) ∧ Below w.heap.size w w' := by
  have HV := hideR hV
  have HI := hideR hI
  have HQ := hideR hq
  clear hV hI hq
  go_enter Tryz.func25, Tryz.ntmps25
  go_wp2_with fail
  go_loopw [3] (fun s wr => ∃ (K : Nat), K ≤ q ∧ s = .int .i64 (K : Int) ∧ Hid (okL L K = true) ∧ Hid (Below w.heap.size w wr)) (fun s _ => q - (intOf s).toNat)
  case atStart => exact ⟨0, by omega, rfl, rfl, Below.refl _ _⟩
  case round =>
    obtain ⟨K, hK, rfl, O, B⟩ := hrel
    by_cases ck : K < q
    · obtain ⟨b, off, rfl, c0, c1⟩ := (HV.out.later B.out) K (by rw [HQ.out]; exact ck)
      have k0 : (K : Int) < (q : Int) := by omega
      have k1 : (0 : Int) ≤ (K : Int) := by omega
      have iK := HI.out K (by rw [HQ.out]; exact ck)
      have HR := hideR (askY (L.n K) (L.d K) iK.1 iK.2)
      have ON : Hid (okL L (K + 1) = okR (L.n K) (L.d K)) := by show _ = _; rw [okL, O.out]; simp
      clear iK
      generalize L.n K = x at *
      generalize L.d K = y at *
      cases o : rightR x y with
      | false =>
        rw [o] at HR
        have F : Hid (rightL L = false) := rightL_no HQ.out (okL_false q (show K + 1 ≤ q by omega) (by rw [ON.out]; simp [okR, o]))
        clear ON
        go_wp2_with fail
        refine (HR.out _).mono ?_
        rintro e w1 ⟨rfl, hb⟩
        have B1 := hideR (beyond B.out hb)
        clear hb B HR c0 c1
        go_wp2_with fail
        go_ret
        exact ⟨by rw [F.out]; rfl, B1.out⟩
      | true =>
        rw [o] at HR
        by_cases x0 : x < 0
        · have F : Hid (rightL L = false) := rightL_no HQ.out (okL_false q (show K + 1 ≤ q by omega) (by rw [ON.out]; simp [okR, o, x0]))
          clear ON
          go_wp2_with fail
          refine (HR.out _).mono ?_
          rintro e w1 ⟨rfl, hb⟩
          have B1 := hideR (beyond B.out hb)
          have c0 := kc _ _ hb c0
          clear hb B HR c1
          go_wp2_with fail
          go_ret
          exact ⟨by rw [F.out]; rfl, B1.out⟩
        · have ON2 : Hid (okL L (K + 1) = true) := by show _ = _; rw [ON.out]; simp [okR, o]; omega
          clear ON
          go_wp2_with fail
          refine (HR.out _).mono ?_
          rintro e w1 ⟨rfl, hb⟩
          have B1 := hideR (beyond B.out hb)
          have c0 := kc _ _ hb c0
          clear hb B HR c1
          go_wp2_with fail
          go_roundw
          case rel => exact ⟨K + 1, by omega, by go_num, ON2, B1⟩
          case measure => simp [intOf]; omega
    · have eK : K = q := by omega
      have F : Hid (rightL L = decide ((q : Int) ≤ 8)) := rightL_split HQ.out (by rw [← eK]; exact O.out)
      have k0 : ¬ (K : Int) < (q : Int) := by omega
      clear eK O
      go_wp2_with fail
      go_ret
      exact ⟨by rw [F.out]; rfl, B.out⟩
theorem okL_get {L : Rats} : ∀ {m : Nat}, okL L m = true → ∀ k, k < m → okR (L.n k) (L.d k) = true
  | 0, _, k, hk => by omega
  | m + 1, h, k, hk => by
    rw [okL] at h
    simp only [Bool.and_eq_true] at h
    by_cases e : k = m
    · subst e; exact h.2
    · exact okL_get h.1 k (by omega)
theorem rightL_at {L : Rats} (h : rightL L = true) : L.q ≤ 8 ∧ ∀ k, k < L.q → okR (L.n k) (L.d k) = true := by
  unfold rightL at h
  simp only [Bool.and_eq_true, decide_eq_true_eq] at h
  exact ⟨h.1, okL_get h.2⟩
end Go.Proofs.YteifpplemohdcaaGreat

/-
  The walk of PointLeast.
-/
namespace Go.Proofs.YteifpplemohdcaaGreat
open Go.RowKit Go.Shelf Go.ChangeShapes Go.WideShapes Go.ChangeAt
set_option linter.unusedVariables false
set_option maxRecDepth 100000
theorem SliceAt.later {w w' : World} {v : Value} {l : List Int} (h : SliceAt w v l) (hb : Below w.heap.size w w') : SliceAt w' v l := by
  rcases h with h | ⟨b, off, cap, e, hc⟩
  · exact .inl h
  · exact .inr ⟨b, off, cap, e, fun j hj => kc _ _ hb (hc j hj)⟩
theorem getD_mem {l : List Int} {j : Nat} (hj : j < l.length) : l.getD j 0 ∈ l := by
  rw [List.getD_eq_getElem?_getD, List.getElem?_eq_getElem hj]
  exact List.getElem_mem hj
/-- A list of the call's own, told with an error. -/
def Tells (L : Rats) (e : Int) (W W' : World) (x : Ending) : Prop := ∃ ad cap, x = .returned (.tuple #[.slice ad L.q cap, .int .i64 e]) ∧ (ad = none → L.q = 0 ∧ cap = 0) ∧ RatV W' ad L ∧ NewAt W' W.heap.size ad L.q cap
def L0 : Rats := ⟨0, fun _ => 0, fun _ => 0⟩
theorem tells_nil (e : Int) (W W' : World) : Tells L0 e W W' (.returned (.tuple #[.slice none 0 0, .int .i64 e])) := ⟨none, 0, rfl, fun _ => ⟨rfl, rfl⟩, fun k hk => absurd hk (Nat.not_lt_zero _), [], World.ownsRow_nil _ _ _ _⟩
end Go.Proofs.YteifpplemohdcaaGreat

/-
  A clock set: by the program, and by the document.
-/
namespace Go.Proofs.YteifpplemohdcaaGreat
open Go.RowKit Go.Shelf
set_option linter.unusedVariables false
set_option maxRecDepth 100000
/-- With a clock set. -/
def setL (L : Rats) (j : Nat) (x : Int) : Rats := ⟨L.q, fun k => if k = j then x else L.n k, fun k => if k = j then 1 else L.d k⟩
def setT (L : Rats) (ck x : Int) : Rats × Int := if rightL L = true then (if 1 ≤ ck ∧ ck ≤ L.q then (if 0 ≤ x ∧ x ≤ 1048576 then (setL L (ck - 1).toNat x, 0) else (L0, 13)) else (L0, 12)) else (L0, 7)
theorem setL_cells (L : Rats) (j : Nat) (x : Int) (hj : j < L.q) : ((ratCk L L.q).set (j * 2) (.int .i64 x)).set (j * 2 + 1) (.int .i64 1) = ratCk (setL L j x) L.q := by
  have len : (ratCk L L.q).length = L.q * 2 := by simp [ratCk]
  apply List.ext_getElem?
  intro t
  have get : ∀ M : Rats, t < L.q * 2 → (ratCk M L.q)[t]? = some (ratJ M t) := fun M ht => by unfold ratCk; rw [List.getElem?_map, List.getElem?_range ht]; rfl
  by_cases ht : t < L.q * 2
  · rw [get _ ht]
    by_cases e1 : t = j * 2 + 1
    · subst e1
      rw [List.getElem?_set_self (by rw [List.length_set, len]; exact ht)]
      unfold ratJ setL
      rw [if_neg (by omega), show (j * 2 + 1) / 2 = j by omega]
      simp
    · rw [List.getElem?_set_ne (by omega)]
      by_cases e2 : t = j * 2
      · subst e2
        rw [List.getElem?_set_self (by rw [len]; exact ht)]
        unfold ratJ setL
        rw [if_pos (by omega), show j * 2 / 2 = j by omega]
        simp
      · rw [List.getElem?_set_ne (by omega), get _ ht]
        unfold ratJ setL
        simp only [show ¬ t / 2 = j by omega, if_false]
  · rw [List.getElem?_eq_none (by rw [List.length_set, List.length_set, len]; omega), List.getElem?_eq_none (by simp [ratCk]; omega)]
theorem set_own {W : World} {base g cap j : Nat} {L : Rats} {x : Int} (hj : j < L.q) (h : W.ownsRow base 24 2 (.slice (some ⟨g, 0, none⟩) L.q cap) L.q (ratCk L L.q)) :
    ((W.setCell ⟨g, j * 2, none⟩ (.int .i64 x)).setCell ⟨g, j * 2 + 1, none⟩ (.int .i64 1)).ownsRow base 24 2 (.slice (some ⟨g, 0, none⟩) L.q cap) L.q (ratCk (setL L j x) L.q) := by
  obtain ⟨o1, -⟩ := World.ownsRow.stored h (j * 2) (.int .i64 x)
  obtain ⟨o2, -⟩ := World.ownsRow.stored o1 (j * 2 + 1) (.int .i64 1)
  rw [setL_cells L j x hj] at o2
  exact o2
set_option maxHeartbeats 1000000 in
theorem clone_any (b off cap : Nat) (L : Rats) (w : World) (hq : L.q ≤ 8) (hV : RatV w (some ⟨b, off, none⟩) L) :
    Calls Tryz.prog 41 #[.slice (some ⟨b, off, none⟩) L.q cap] w fun e w' => (∃ v, e = .returned v ∧ w'.ownsRow w.heap.size 24 2 v L.q (ratCk L L.q)) ∧ Below w.heap.size w w' := by
  obtain ⟨i0, hi, hz0, hz1, hz2⟩ := info_parts info_rat
  have HV := hideR hV
  have he := Lib.run_eql_slice_some_nil (P := Tryz.prog) w (t := 22) ⟨b, off, none⟩ L.q cap Tryz.underlying22
  clear hV
  go_enter Tryz.func41, Tryz.ntmps41
  go_wp2_with (at_builtin; refine wp_app_any _ rfl _ _ 22 rfl w.heap.size 24 i0 (.agg #[.int .i64 0, .int .i64 0]) 2 16 Tryz.underlying22 hi hz0 hz1 hz2 rfl (by decide) _ 0 [] rfl (World.ownsRow_lit w #[] 0 (Nat.le_refl _) (by decide) rfl) (some ⟨b, off, none⟩) L.q cap (ratC L) rfl (fun e => by cases e) (by rw [ratC_len]) (fun d e j u h => ratC_news (L := L) (d := d) (e ▸ HV.out.later (single _ _)) j u h) (ratC_one L) (by unfold maxLen; omega) (by omega) (by simp) ?_; intro v' w2 hown hgrow)
  have hb2 : Hid (Below w.heap.size w w2) := by
    rcases hgrow with e | hg
    · rw [e]; exact single _ _
    · exact (single w _).grown hg (by simp) (fun k hk => own_le hk)
  have hown' : Hid (w2.ownsRow w.heap.size 24 2 v' L.q (ratCk L L.q)) := by
    have := hown
    rw [Nat.zero_add, List.nil_append] at this
    exact this
  clear hown hgrow
  go_ret
  exact ⟨⟨_, rfl, hown'.out⟩, hb2.out⟩
set_option maxHeartbeats 4000000 in
theorem pset_any (ad : Option Addr) (q cap : Nat) (L : Rats) (ck x : Int) (w : World) (hq : L.q = q) (q1 : q ≤ 9223372036854775807) (hV : RatV w ad L) (hI : RatI L) (ic : I64 ck) :
    Calls Tryz.prog 9 #[.slice ad q cap, .int .i64 ck, .int .i64 x] w fun e w' => Tells (setT L ck x).1 (setT L ck x).2 w w' e ∧ Below w.heap.size w w' := by
  have HR := hideR (pright_any ad cap q L w hq q1 hV hI)
  have HV := hideR hV
  have HQ := hideR hq
  have c1 : -9223372036854775808 ≤ ck := ic.1
  have c2 : ck ≤ 9223372036854775807 := ic.2
  unfold setT
  clear hV hI ic
  cases r : rightL L with
  | false =>
    rw [r] at HR
    rw [if_neg (by decide)]
    have T := hideR (fun W => tells_nil 7 w W)
    go_enter Tryz.func9, Tryz.ntmps9
    go_wp2_with fail
    refine HR.out.mono ?_
    rintro e w1 ⟨rfl, hb⟩
    have B1 := hideR hb
    clear hb HR
    go_wp2_with fail
    go_ret2
    exact ⟨T.out _, B1.out⟩
  | true =>
    rw [r] at HR
    rw [if_pos rfl, hq]
    have q8 : q ≤ 8 := by have := (rightL_at r).1; rw [hq] at this; exact this
    by_cases k1 : 1 ≤ ck
    · by_cases k2 : ck ≤ (q : Int)
      · rw [if_pos ⟨k1, k2⟩]
        by_cases x1 : 0 ≤ x
        · by_cases x2 : x ≤ 1048576
          · rw [if_pos ⟨x1, x2⟩]
            obtain ⟨j, hj⟩ : ∃ j : Nat, ck = (j : Int) + 1 := ⟨(ck - 1).toNat, by omega⟩
            have ej : (ck - 1).toNat = j := by omega
            rw [ej]
            have jq : j < q := by omega
            obtain ⟨b, off, rfl, -, -⟩ := HV.out j (by rw [HQ.out]; exact jq)
            have j0 : (0 : Int) ≤ (j : Int) := by omega
            have j1 : (j : Int) < (q : Int) := by omega
            have HO := hideR (fun W => ratOf_any x W)
            have ew : ck - 1 = (j : Int) := by omega
            clear ej r hj
            have HC := hideR (fun W (hb : Below w.heap.size w W) => clone_any b off cap L W (by omega) (HV.out.later hb))
            rw [HQ.out] at HC
            go_enter Tryz.func9, Tryz.ntmps9
            go_wp2_with fail
            refine HR.out.mono ?_
            rintro e w1 ⟨rfl, hb⟩
            have B1 := hideR hb
            have H1 := hideR (HC.out w1 hb)
            clear hb HR HC
            go_wp2_with fail
            refine H1.out.mono ?_
            rintro e w2 ⟨⟨v2, rfl, ho⟩, hb⟩
            have OW := hideR ho
            have B2 := hideR (beyond B1.out hb)
            clear ho hb H1
            have hown := OW.out
            obtain ⟨g, cap2, rfl⟩ : ∃ g cap2, v2 = .slice (some ⟨g, 0, none⟩) q cap2 := by
              rcases hown.2 with ⟨_, h0⟩ | ⟨g, cap2, cur, e, _⟩
              · omega
              · exact ⟨g, cap2, e⟩
            have HB2 := hideR B2.out
            clear hown B2
            go_wp2_with fail
            refine (HO.out _).mono ?_
            rintro e w3 ⟨rfl, hb⟩
            have O3 : w3.ownsRow w1.heap.size 24 2 (.slice (some ⟨g, 0, none⟩) q cap2) q (ratCk L q) := World.ownsRow.kept OW.out (grown_below hb (Nat.le_refl _)) (by simp [Value.ownBlock])
            obtain ⟨y0, z0⟩ : ∃ y, (ratCk L q)[j * 2]? = some y := ⟨_, List.getElem?_eq_getElem (by simp [ratCk]; omega)⟩
            obtain ⟨y1, z1⟩ : ∃ y, (ratCk L q)[j * 2 + 1]? = some y := ⟨_, List.getElem?_eq_getElem (by simp [ratCk]; omega)⟩
            have d0 := O3.cellAt (j * 2) (by omega)
            have d1 := O3.cellAt (j * 2 + 1) (by omega)
            rw [z0] at d0
            rw [z1] at d1
            have f0 := O3.frozenAt (j * 2)
            have f1 := O3.frozenAt (j * 2 + 1)
            have gl := (O3.lt g rfl).1
            have O4 := HQ.out ▸ O3
            have TT : Hid (Tells (setL L j x) 0 w ((w3.setCell ⟨g, j * 2, none⟩ (.int .i64 x)).setCell ⟨g, j * 2 + 1, none⟩ (.int .i64 1)) (.returned (.tuple #[.slice (some ⟨g, 0, none⟩) q cap2, .int .i64 0]))) := by
              have h := set_own (x := x) (j := j) (L := L) (by rw [HQ.out]; exact jq) (by rw [HQ.out]; exact O3)
              obtain ⟨ad5, cap5, e5, h1, h2, h3⟩ := own_ratV (L := setL L j x) rfl h
              injection e5 with e6 e7 e8
              subst e6 e8
              refine ⟨some ⟨g, 0, none⟩, cap2, ?_, h1, h2, h3.mono B1.out.size⟩
              show Ending.returned _ = Ending.returned _
              rw [show (setL L j x).q = q from HQ.out]
            have BF : Hid (Below w.heap.size w ((w3.setCell ⟨g, j * 2, none⟩ (.int .i64 x)).setCell ⟨g, j * 2 + 1, none⟩ (.int .i64 1))) := ((beyond HB2.out hb).setCell (p := ⟨g, j * 2, none⟩) (Nat.le_trans B1.out.size gl) _).setCell (p := ⟨g, j * 2 + 1, none⟩) (Nat.le_trans B1.out.size gl) _
            clear hb HO O3 O4 OW z0 z1 gl HB2
            go_wp2_with fail
            go_ret2
            exact ⟨TT.out, BF.out⟩
          · rw [if_neg (fun h => x2 h.2)]
            have T := hideR (fun W => tells_nil 13 w W)
            go_enter Tryz.func9, Tryz.ntmps9
            go_wp2_with fail
            refine HR.out.mono ?_
            rintro e w1 ⟨rfl, hb⟩
            have B1 := hideR hb
            clear hb HR
            go_wp2_with fail
            go_ret2
            exact ⟨T.out _, B1.out⟩
        · rw [if_neg (fun h => x1 h.1)]
          have x1' : x < 0 := by omega
          have T := hideR (fun W => tells_nil 13 w W)
          go_enter Tryz.func9, Tryz.ntmps9
          go_wp2_with fail
          refine HR.out.mono ?_
          rintro e w1 ⟨rfl, hb⟩
          have B1 := hideR hb
          clear hb HR x1
          go_wp2_with fail
          go_ret2
          exact ⟨T.out _, B1.out⟩
      · rw [if_neg (fun h => k2 h.2)]
        have k2' : ck > (q : Int) := by omega
        have T := hideR (fun W => tells_nil 12 w W)
        go_enter Tryz.func9, Tryz.ntmps9
        go_wp2_with fail
        refine HR.out.mono ?_
        rintro e w1 ⟨rfl, hb⟩
        have B1 := hideR hb
        clear hb HR k2
        go_wp2_with fail
        go_ret2
        exact ⟨T.out _, B1.out⟩
    · rw [if_neg (fun h => k1 h.1)]
      have k1' : ck < 1 := by omega
      have T := hideR (fun W => tells_nil 12 w W)
      go_enter Tryz.func9, Tryz.ntmps9
      go_wp2_with fail
      refine HR.out.mono ?_
      rintro e w1 ⟨rfl, hb⟩
      have B1 := hideR hb
      clear hb HR k1
      go_wp2_with fail
      go_ret2
      exact ⟨T.out _, B1.out⟩
end Go.Proofs.YteifpplemohdcaaGreat
