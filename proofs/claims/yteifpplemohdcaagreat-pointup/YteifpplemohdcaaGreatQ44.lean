/-
  What PointSpans and its like are handed: a valuation, a delay, two numbers and guards, opened.
-/
import Derived.Test.YteifpplemohdcaaGreatQ41
import Derived.Test.YteifpplemohdcaaGreatQ30
import Derived.Lib.SmallJoins
import Derived.Test.YteifpplemohdcaaGreatQ42
import Derived.Test.YteifpplemohdcaaGreatQ43
namespace Go.Proofs.YteifpplemohdcaaGreat
open Go.RowKit Go.Shelf
open Go.ChangeShapes Go.WideShapes Go.ChangeAt Go.Deep
set_option linter.unusedVariables false
theorem six_of {α : Type} {cs : Array α} (h : cs.size = 6) : ∃ a b c d e f, cs = #[a, b, c, d, e, f] := by
  obtain ⟨l⟩ := cs
  match l, h with
  | [a, b, c, d, e, f], _ => exact ⟨a, b, c, d, e, f, rfl⟩
theorem wts_one {H : Type} {P : Program} {ts : List TypeId} {ds : List (DataW H)} (h : (DataW.weightsEach P ts ds).all (· ≤ reachBytes) = true) {j : Nat} {t : TypeId} {d : DataW H} (ht : ts[j]? = some t) (hd : ds[j]? = some d) : ∀ n ∈ d.weights P t, n ≤ reachBytes := fun n hn => of_decide_eq_true (List.all_eq_true.1 h _ (DataW.weights_mem_each ht hd n hn))
theorem open_moved {H : Type} {enc : TypeId × Value → H} {P : Program} {w : World} {r : Reach} {b0 base : Nat} {spare : Nat → Bool} {held : Bool} {t : TypeId} {f0 f1 f2 f3 f4 q0 q1 : Field} {v : Value} {d : DataW H} {p : List MemPlace}
    (hs : P.underlying t = some (.struct #[f0, f1, f2, f3, f4])) (hC : P.cellsOf t = 6) (o0 : f0.offset = 0) (o1 : f1.offset = 1) (o2 : f2.offset = 3) (o3 : f3.offset = 4) (o4 : f4.offset = 5)
    (c0 : P.cellsOf f0.type = 1) (c1 : P.cellsOf f1.type = 2) (c2 : P.cellsOf f2.type = 1) (c3 : P.cellsOf f3.type = 1) (c4 : P.cellsOf f4.type = 1) (u2 : P.underlying f2.type = some (.int .i64)) (u3 : P.underlying f3.type = some (.int .i64))
    (hD : P.underlying f1.type = some (.struct #[q0, q1])) (p0 : q0.offset = 0) (p1 : q1.offset = 1) (k0 : P.cellsOf q0.type = 1) (k1 : P.cellsOf q1.type = 1) (v0 : P.underlying q0.type = some (.int .i64)) (v1 : P.underlying q1.type = some (.int .i64))
    (hv : Value.okWide P w r b0 t v) (h : DataW.Trod enc P w base spare held t v d p) (hw : ∀ n ∈ d.weights P t, n ≤ reachBytes) :
    ∃ (a g : Value) (dn dd ck nn : Int) (y0 y4 : DataW H × List MemPlace) (n : Nat), v = .agg #[a, .int .i64 dn, .int .i64 dd, .int .i64 ck, .int .i64 nn, g] ∧ (Lit.int .i64 dn).wf = true ∧ (Lit.int .i64 dd).wf = true ∧ (Lit.int .i64 ck).wf = true ∧ (Lit.int .i64 nn).wf = true ∧
      DataW.trod enc P w base spare held n f0.type [a] = some y0 ∧ (∀ n ∈ y0.1.weights P f0.type, n ≤ reachBytes) ∧ DataW.trod enc P w base spare held n f4.type [g] = some y4 ∧ (∀ n ∈ y4.1.weights P f4.type, n ≤ reachBytes) := by
  obtain ⟨cs, rfl, hsz⟩ := okWide_struct hs hv
  obtain ⟨fuel, hf⟩ := h
  obtain ⟨xs, n, _, hx, hl, hlen, hf⟩ := DataW.trod_struct hs hf
  obtain ⟨a, b, c, e, f, g, rfl⟩ := six_of (hsz.trans hC)
  have ed : d = .agg (xs.map (·.1)) := congrArg Prod.fst hx
  have wt : ∀ (i : Nat) fi y, (#[f0, f1, f2, f3, f4] : Array Field)[i]? = some fi → xs[i]? = some y → ∀ k ∈ y.1.weights P fi.type, k ≤ reachBytes := fun i fi y hi hy k hk => hw k (by
    rw [ed]
    simp only [DataW.weights, hs]
    exact DataW.weights_mem_each (j := i) (t := fi.type) (d := y.1) (by rw [List.getElem?_map, Array.getElem?_toList, hi]; rfl) (by rw [List.getElem?_map, hy]; rfl) k hk)
  have ex : ∀ i, i < 5 → ∃ y, xs[i]? = some y := fun i hi => ⟨_, List.getElem?_eq_getElem (by rw [hlen]; exact hi)⟩
  obtain ⟨y0, hy0⟩ := ex 0 (by omega)
  obtain ⟨y1, hy1⟩ := ex 1 (by omega)
  obtain ⟨y2, hy2⟩ := ex 2 (by omega)
  obtain ⟨y3, hy3⟩ := ex 3 (by omega)
  obtain ⟨y4, hy4⟩ := ex 4 (by omega)
  have g0 := hf 0 f0 rfl
  have g1 := hf 1 f1 rfl
  have g2 := hf 2 f2 rfl
  have g3 := hf 3 f3 rfl
  have g4 := hf 4 f4 rfl
  rw [o0, c0, hy0] at g0
  rw [o1, c1, hy1] at g1
  rw [o2, c2, hy2] at g2
  rw [o3, c3, hy3] at g3
  rw [o4, c4, hy4] at g4
  obtain ⟨z0, z1, k, -, -, i0, i1⟩ := trod_struct2 hD g1
  simp [Value.cells, p0, p1, k0, k1] at g0 g2 g3 g4 i0 i1
  obtain ⟨m0, e0, _, wf0⟩ := DataW.trod_int v0 i0
  obtain ⟨m1, e1, _, wf1⟩ := DataW.trod_int v1 i1
  obtain ⟨m2, e2, _, wf2⟩ := DataW.trod_int u2 g2
  obtain ⟨m3, e3, _, wf3⟩ := DataW.trod_int u3 g3
  simp at e0 e1 e2 e3
  subst e0 e1 e2 e3
  exact ⟨a, g, m0, m1, m2, m3, y0, y4, n, rfl, wf0, wf1, wf2, wf3, g0, wt 0 f0 y0 rfl hy0, g4, wt 4 f4 y4 rfl hy4⟩
theorem open_ratsW {H : Type} {enc : TypeId × Value → H} {P : Program} {w : World} {base : Nat} {spare : Nat → Bool} {held : Bool} {t e : TypeId} {f0 f1 : Field} {fuel : Nat} {v : Value} {x : DataW H × List MemPlace}
    (ht : P.underlying t = some (.slice e)) (he : P.underlying e = some (.struct #[f0, f1])) (ce : P.cellsOf e = 2) (o0 : f0.offset = 0) (o1 : f1.offset = 1) (c0 : P.cellsOf f0.type = 1) (c1 : P.cellsOf f1.type = 1)
    (u0 : P.underlying f0.type = some (.int .i64)) (u1 : P.underlying f1.type = some (.int .i64)) (be : P.bytesOf e = 16) (h : DataW.trod enc P w base spare held fuel t [v] = some x) (hw : ∀ n ∈ x.1.weights P t, n ≤ reachBytes) :
    ∃ L : Rats, RatS w v L ∧ (∀ k, k < L.q → (Lit.int .i64 (L.n k)).wf = true ∧ (Lit.int .i64 (L.d k)).wf = true) ∧ L.q * 16 ≤ 140737488355328 := by
  rcases open_rats ht he ce o0 o1 c0 c1 u0 u1 h with hcs | ⟨a, len, cap, ds, ss, L, hcs, hq, hds, hx, hc⟩
  · simp at hcs
    subst hcs
    exact ⟨⟨0, fun _ => 0, fun _ => 0⟩, ⟨_, _, rfl, fun _ => ⟨rfl, rfl⟩, fun k hk => absurd hk (Nat.not_lt_zero _)⟩, fun k hk => absurd hk (Nat.not_lt_zero _), by decide⟩
  · simp at hcs
    subst hcs
    have hs := hw ((ds.length + ss.length) * P.bytesOf e) (by rw [hx]; simp only [DataW.weights, ht]; exact List.mem_cons_self)
    rw [be, hds] at hs
    have hr : reachBytes ≤ 140737488355328 := by decide
    refine ⟨L, ⟨some a, cap, by rw [hq], fun h => (by cases h), fun k hk => ?_⟩, fun k hk => (hc k (by omega)).2.2, by omega⟩
    obtain ⟨bk, off, spot⟩ := a
    obtain ⟨a1, a2, _, _⟩ := hc k (by omega)
    have hspot : spot = none := by simpa [Addr.add] using World.cell?_spot (hc 0 (by omega)).1
    subst hspot
    rw [Go.WideShapes.add_plain] at a1 a2
    exact ⟨bk, off, rfl, a1, by rw [Nat.add_assoc]; exact a2⟩
end Go.Proofs.YteifpplemohdcaaGreat

/-
  Guards that are handed over, opened.
-/
namespace Go.Proofs.YteifpplemohdcaaGreat
open Go.RowKit Go.Shelf
open Go.ChangeShapes Go.WideShapes Go.ChangeAt Go.Deep
set_option linter.unusedVariables false
set_option maxRecDepth 100000
def GuaS (w : World) (v : Value) (L : Guas) : Prop := ∃ ad cap, v = .slice ad L.q cap ∧ GuaV w ad L
theorem open_guas {H : Type} {enc : TypeId × Value → H} {w : World} {base : Nat} {spare : Nat → Bool} {held : Bool} {fuel : Nat} {ad : Option Addr} {len cap : Nat} {x : DataW H × List MemPlace}
    (h : DataW.trod enc Tryz.prog w base spare held fuel 25 (Value.slice ad len cap).cells.toList = some x) :
    ∃ L : Guas, L.q = len ∧ GuaV w ad L ∧ (∀ k, k < L.q → 0 ≤ L.k k ∧ L.k k < 256) ∧ (len = 0 ∨ ∃ ds ss, x.1 = .slice ds ss ∧ ds.length = len) := by
  rcases open_slice Tryz.underlying25 h with ⟨h0, _⟩ | ⟨a, len', cap', m, n, D, Pl, h0, hb, hl, hm, hmm, hx', hx⟩
  · simp [Value.cells] at h0
    obtain ⟨rfl, rfl, rfl⟩ := h0
    exact ⟨⟨0, fun _ => 0, fun _ => 0, fun _ => 0, fun _ => 0⟩, rfl, fun k hk => absurd hk (Nat.not_lt_zero _), fun k hk => absurd hk (Nat.not_lt_zero _), .inl rfl⟩
  · simp [Value.cells] at h0
    obtain ⟨rfl, rfl, rfl⟩ := h0
    have hlm : len ≤ m := by rw [hmm]; split <;> omega
    have ce : Tryz.prog.cellsOf 88 = 4 := by kernel_rfl
    have each : ∀ i, i < len → ∃ q : Int × Int × Int × Int, w.cell? (a.add (i * 4)) = some (.int .i64 q.1) ∧ w.cell? (a.add (i * 4 + 1)) = some (.int .i64 q.2.1) ∧ w.cell? (a.add (i * 4 + 2)) = some (.int .u8 q.2.2.1) ∧ w.cell? (a.add (i * 4 + 3)) = some (.int .i64 q.2.2.2) ∧ (0 ≤ q.2.2.1 ∧ q.2.2.1 < 256) := by
      intro i hi
      obtain ⟨cs', h1, h2⟩ := hx i (by omega)
      rw [ce] at h1
      obtain ⟨_, hlen, hcell⟩ := World.cells?_some h1
      obtain ⟨y0, y1, y2, y3, k, -, -, g0, g1, g2, g3⟩ := Go.Joins.trod_struct4 Tryz.underlying88 h2
      match cs', hlen with
      | [v0, v1, v2, v3], _ =>
        have c0 : Tryz.prog.cellsOf 3 = 1 := by kernel_rfl
        have c1 : Tryz.prog.cellsOf 86 = 1 := by kernel_rfl
        simp [c0, c1] at g0 g1 g2 g3
        obtain ⟨z0, e0, _, _⟩ := DataW.trod_int Tryz.underlying3 g0
        obtain ⟨z1, e1, _, _⟩ := DataW.trod_int Tryz.underlying3 g1
        obtain ⟨z2, e2, _, wf⟩ := DataW.trod_int Tryz.underlying86 g2
        obtain ⟨z3, e3, _, _⟩ := DataW.trod_int Tryz.underlying3 g3
        have k0 := hcell 0 (by omega)
        have k1 := hcell 1 (by omega)
        have k2 := hcell 2 (by omega)
        have k3 := hcell 3 (by omega)
        rw [add_add] at k0 k1 k2 k3
        simp at e0 e1 e2 e3
        subst e0 e1 e2 e3
        have := bounds_u8 wf
        exact ⟨(z0, z1, z2, z3), by simpa using k0, by simpa using k1, by simpa using k2, by simpa using k3, by simp only; omega⟩
    obtain ⟨q, hq⟩ := choose_lt each
    refine ⟨⟨len, fun k => (q k).1, fun k => (q k).2.1, fun k => (q k).2.2.1, fun k => (q k).2.2.2⟩, rfl, fun k hk => ?_, fun k hk => (hq k hk).2.2.2.2, .inr ⟨_, _, by rw [hx'], by simp⟩⟩
    obtain ⟨bk, off, spot⟩ := a
    obtain ⟨c0, c1, c2, c3, -⟩ := hq k hk
    have hk' : k < len := hk
    have hspot : spot = none := by have := World.cell?_spot (hq 0 (by omega)).1; simpa [Addr.add] using this
    subst hspot
    rw [Go.WideShapes.add_plain] at c0 c1 c2 c3
    exact ⟨bk, off, rfl, c0, by rw [Nat.add_assoc]; exact c1, by rw [Nat.add_assoc]; exact c2, by rw [Nat.add_assoc]; exact c3⟩
theorem open_guaV {H : Type} {enc : TypeId × Value → H} {w : World} {base : Nat} {spare : Nat → Bool} {held : Bool} {fuel : Nat} {v : Value} {x : DataW H × List MemPlace}
    (h : DataW.trod enc Tryz.prog w base spare held fuel 25 [v] = some x) (hw : ∀ n ∈ x.1.weights Tryz.prog 25, n ≤ reachBytes) :
    ∃ L : Guas, GuaS w v L ∧ (∀ k, k < L.q → 0 ≤ L.k k ∧ L.k k < 256) ∧ L.q * 32 ≤ 140737488355328 := by
  obtain ⟨ad, len, cap, rfl⟩ : ∃ ad len cap, v = .slice ad len cap := by
    rcases open_slice Tryz.underlying25 h with ⟨h0, _⟩ | ⟨a, len', cap', m, n, D, Pl, h0, _⟩
    · simp at h0; exact ⟨_, _, _, h0⟩
    · simp at h0; exact ⟨_, _, _, h0⟩
  obtain ⟨L, h1, h2, h3, h4⟩ := open_guas (ad := ad) (len := len) (cap := cap) h
  refine ⟨L, ⟨ad, cap, by rw [h1], h2⟩, h3, ?_⟩
  rcases h4 with h4 | ⟨ds, ss, hx, hds⟩
  · omega
  · have hb : Tryz.prog.bytesOf 88 = 32 := by kernel_rfl
    have := hw ((ds.length + ss.length) * Tryz.prog.bytesOf 88) (by rw [hx]; simp only [DataW.weights, Tryz.underlying25]; exact List.mem_cons_self)
    rw [hb, hds] at this
    have hr : reachBytes ≤ 140737488355328 := by decide
    omega
end Go.Proofs.YteifpplemohdcaaGreat

/-
  What PointUp asks of Reset, Unset, Set, Wait, Guards, told in one form each.
-/
namespace Go.Proofs.YteifpplemohdcaaGreat
open Go.RowKit Go.Shelf
set_option linter.unusedVariables false
set_option maxRecDepth 100000
/-- A zone, or an error: the zone is there if the error is none. -/
def PZ (w' : World) (n : Nat) (o : Option Row) (e : Ending) : Prop :=
  ∃ (p : Option Addr) (er : Int), e = .returned (.tuple #[.pointer p, .int .i64 er]) ∧ (er = 0 → ∃ c b, o = some c ∧ p = some ⟨b, 0, none⟩ ∧ ZoneAt w' b n c)
theorem pz_err (w' : World) (n : Nat) (er : Int) (h : (er != 0) = true) : PZ w' n none (errOf er) := ⟨none, er, rfl, fun e => by subst e; simp at h⟩
theorem pz_tells {w : World} {n f : Nat} {args : Array Value} {o : Option Row} (h : OTells w n f args o) : Calls Tryz.prog f args w fun e w' => PZ w' n o e ∧ Below w.heap.size w w' := by
  refine Calls.mono h fun e w' ⟨⟨B, hz⟩, hb⟩ => ⟨?_, hb⟩
  cases o with
  | none =>
    have hz : e = .returned (.tuple #[.pointer none, .int .i64 10]) := hz
    exact ⟨none, 10, hz, fun e => by cases e⟩
  | some c =>
    obtain ⟨b', _, he, hz⟩ := hz
    exact ⟨_, 0, he, fun _ => ⟨c, b', rfl, rfl, hz⟩⟩
/-- What Reset and Unset tell of a clock and a number, and what the valuation's Set has to do with it. -/
structure AskSay (n m : Nat) (ck nn : Int) (c : Row) (L : Rats) (o3 o4 : Option Row) : Prop where
  t3 : ∀ w b, ZoneAt w b n c → Calls Tryz.prog 30 #[.pointer (some ⟨b, 0, none⟩), .int .i64 ck, .int .i64 nn] w fun e w' => PZ w' n o3 e ∧ Below w.heap.size w w'
  t4 : ∀ w b, ZoneAt w b n c → Calls Tryz.prog 32 #[.pointer (some ⟨b, 0, none⟩), .int .i64 ck, .int .i64 nn] w fun e w' => PZ w' n o4 e ∧ Below w.heap.size w w'
  s3 : ∀ c3, o3 = some c3 → (setT L ck nn).2 = 0 ∧ (setT L ck nn).1.q = n ∧ (∃ K : Nat, K < n ∧ ck = (K : Int) + 1 ∧ (inB n m c3 L = true → L.n K = nn ∧ L.d K = 1)) ∧ (inB n m c L = true → inB n m c3 (setT L ck nn).1 = true)
  s4 : ∀ c4, o4 = some c4 → (setT L ck nn).2 = 0 ∧ (setT L ck nn).1.q = n ∧ inB n m c4 L = inB n m c (setT L ck nn).1
theorem ask_say {n m : Nat} {ck nn : Int} {c : Row} {L : Rats} (hn : n ≤ 8) (hm : m = (n + 1) * (n + 1)) (zc : ZC n m c) (hf : fitB L n = true) : ∃ o3 o4, AskSay n m ck nn c L o3 o4 := by
  obtain ⟨Lq, hok⟩ := (fitB_iff hn).1 hf
  by_cases h : setE n ck nn = 0
  · have h' := h
    unfold setE clockB at h'
    split at h'
    · rename_i hc
      split at h'
      · rename_i hk
        have hc := of_decide_eq_true hc
        obtain ⟨x, hx⟩ : ∃ x : Nat, ck = x := ⟨ck.toNat, by omega⟩
        subst hx
        obtain ⟨o3, o4, c5, S⟩ := set_say (x := x) (k := nn) hn hm zc (by omega) (by omega) hk.1 hk.2
        obtain ⟨h3, h4⟩ := set_in hn hm zc S hf (by omega) (by omega) hk.1
        have rl : rightL L = true := by
          unfold fitB at hf
          exact (Bool.and_eq_true_iff.1 hf).1
        have st : setT L x nn = (setL L (x - 1) nn, 0) := by
          unfold setT
          rw [if_pos rl, if_pos (by omega), if_pos hk, show ((x : Int) - 1).toNat = x - 1 by omega]
        refine ⟨o3, o4, fun w b hz => pz_tells (S.t3 w b hz), fun w b hz => pz_tells (S.t4 w b hz), fun c3 e => ?_, fun c4 e => ?_⟩
        · rw [st]
          exact ⟨rfl, Lq, ⟨x - 1, by omega, by omega, (h3 c3 e).2⟩, (h3 c3 e).1⟩
        · rw [st]
          exact ⟨rfl, Lq, h4 c4 e⟩
      · omega
    · omega
  · have hb : (setE n ck nn != 0) = true := by simpa using h
    refine ⟨none, none, fun w b hz => ?_, fun w b hz => ?_, (fun c3 e => by cases e), (fun c4 e => by cases e)⟩
    · exact (reset_err _ _ _ _ w hb (settable_any b n c ck nn w hn hz)).mono fun e w' ⟨h1, hb1⟩ => ⟨by rw [h1]; exact pz_err _ _ _ hb, hb1⟩
    · exact (unsetE_err _ _ _ _ w hb (settable_any b n c ck nn w hn hz)).mono fun e w' ⟨h1, hb1⟩ => ⟨by rw [h1]; exact pz_err _ _ _ hb, hb1⟩
/-- What Wait tells, in one form. -/
def WaitS (w' : World) (L : Rats) (dn dd : Int) (e : Ending) : Prop :=
  ∃ (aw : Option Addr) (qw cw : Nat) (ew : Int), e = .returned (.tuple #[.slice aw qw cw, .int .i64 ew]) ∧ (ew = 0 → qw = L.q ∧ (aw = none → qw = 0 ∧ cw = 0) ∧ RatV w' aw (waitL L dn dd) ∧ okR dn dd = true ∧ ∀ K, K < L.q → (addT (L.n K) (L.d K) dn dd).2.2 = 0)
theorem waitS_any (ad : Option Addr) (q cap : Nat) (L : Rats) (n d : Int) (w : World) (hq : L.q = q) (q1 : q ≤ 9223372036854775807) (hV : RatV w ad L) (hI : RatI L) (hn : I64 n) (hd : I64 d) :
    Calls Tryz.prog 7 #[.slice ad q cap, .agg #[.int .i64 n, .int .i64 d]] w fun e w' => WaitS w' L n d e ∧ Below w.heap.size w w' := by
  refine (waitP_any ad q cap L n d w hq q1 hV hI hn hd).mono fun e w' ⟨h, hb⟩ => ⟨?_, hb⟩
  rcases h with ⟨-, h⟩ | ⟨ok, ⟨K, _, hK, h⟩ | ⟨hz, a2, c2, h, hn2, hV2, -⟩⟩
  · exact ⟨none, 0, 0, 7, h, fun e => by cases e⟩
  · exact ⟨none, 0, 0, _, h, fun e => absurd e hK⟩
  · exact ⟨a2, L.q, c2, 0, h, fun _ => ⟨rfl, hn2, hV2, (Bool.and_eq_true_iff.1 ok).2, hz⟩⟩
theorem wait_ratI {L : Rats} {n : Nat} {dn dd : Int} (hn : n ≤ 8) (hf : fitB L n = true) (hd : okR dn dd = true) (hz : ∀ K, K < L.q → (addT (L.n K) (L.d K) dn dd).2.2 = 0) : RatI (waitL L dn dd) := fun k hk => by
  obtain ⟨Lq, hok⟩ := (fitB_iff hn).1 hf
  have hk' : k < L.q := hk
  obtain ⟨_, y1, y2, _⟩ := wait_ok (hok k (by omega)) hd (hz k hk')
  exact ⟨y1, y2⟩
theorem set_ratI {L : Rats} {ck nn : Int} (hI : RatI L) (hn : I64 nn) : RatI (setT L ck nn).1 := by
  unfold setT
  split
  · split
    · split
      · intro k hk
        unfold setL
        simp only
        split
        · exact ⟨hn, by decide⟩
        · exact hI k hk
      · intro k hk; exact absurd hk (Nat.not_lt_zero _)
    · intro k hk; exact absurd hk (Nat.not_lt_zero _)
  · intro k hk; exact absurd hk (Nat.not_lt_zero _)
theorem setT_q (L : Rats) (c x : Int) : (setT L c x).1.q ≤ 8 := by
  unfold setT
  split
  · rename_i h
    have := (rightL_at h).1
    split
    · split
      · exact this
      · decide
    · decide
  · decide
/-- What Guards tells, in one form. -/
def GuaP (w' : World) (n m : Nat) (c : Row) (L : Rats) (G : Guas) (e : Ending) : Prop :=
  ∃ (p : Option Addr) (er : Int), e = .returned (.tuple #[.pointer p, .int .i64 er]) ∧ (er = 0 → ∃ c6 b6, p = some ⟨b6, 0, none⟩ ∧ ZoneAt w' b6 n c6 ∧ (holdsT6 L G).2 = 0 ∧ inB n m c6 L = (inB n m c L && (holdsT6 L G).1))
theorem guaP_any {n m b q cap : Nat} {ad : Option Addr} {c : Row} {L : Rats} {G : Guas} {w : World} (hn : n ≤ 8) (hm : m = (n + 1) * (n + 1)) (zc : ZC n m c) (hf : fitB L n = true) (hz : ZoneAt w b n c) (hG : G.q = q) (hV : GuaV w ad G) (hk : ∀ k, k < G.q → 0 ≤ G.k k ∧ G.k k < 256) (hq : q * 32 ≤ 140737488355328) :
    Calls Tryz.prog 33 #[.pointer (some ⟨b, 0, none⟩), .slice ad q cap] w fun e w' => GuaP w' n m c L G e ∧ Below w.heap.size w w' := by
  refine (guards_say hn hm zc hz hG hV hk hq).mono fun e w' ⟨h, hb⟩ => ⟨?_, hb⟩
  rcases h with ⟨k, hk, h⟩ | ⟨c6, b6, h, hz6, zc6, P6, I6⟩
  · exact ⟨none, k, h, fun e => by subst e; simp at hk⟩
  · obtain ⟨g1, g2⟩ := guards_in hn hm zc zc6 P6 I6 hf
    exact ⟨_, 0, h, fun _ => ⟨c6, b6, rfl, hz6, g1, g2⟩⟩
end Go.Proofs.YteifpplemohdcaaGreat

/-
  Ways through the region of PointUp that asks Reset: its test says false.
-/
namespace Go.Proofs.YteifpplemohdcaaGreat
open Go.RowKit Go.Shelf
set_option linter.unusedVariables false
set_option maxRecDepth 1000000
/-- The region of this number. -/
def regionAt (n : Nat) : Code → Option Code
  | .region k ops d => if k = n then some (.region k ops d) else none
  | .loop c => regionAt n c
  | .seq a b => match regionAt n a with
    | some c => some c
    | none => regionAt n b
  | .block _ c => regionAt n c
  | .scope c => regionAt n c
  | .cond _ a b => match regionAt n a with
    | some c => some c
    | none => regionAt n b
  | _ => none
end Go.Proofs.YteifpplemohdcaaGreat
