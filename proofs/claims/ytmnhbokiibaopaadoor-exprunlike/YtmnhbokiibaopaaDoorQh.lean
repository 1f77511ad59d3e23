/-
  The walk of ExprSames.
-/
import Derived.Test.YtmnhbokiibaopaaDoorQg
import Derived.Test.YtmnhbokiibaopaaDoorQa
namespace Go.Proofs.YtmnhbokiibaopaaDoor
open Go.ChangeShapes Go.WideShapes Go.ChangeAt Go.RowKit Go.Deep
set_option linter.unusedVariables false
def StrS (w : World) (v : Value) (L : List ByteArray) : Prop := ∃ ad cap, v = .slice ad L.length cap ∧ RowV w ad (L.flatMap StrC)
theorem weightsAll_mem {H : Type} {P : Program} {e : TypeId} : ∀ {ds : List (DataW H)} {d : DataW H}, d ∈ ds → ∀ n ∈ d.weights P e, n ∈ DataW.weightsAll P e ds
  | [], d, h, _, _ => by cases h
  | a :: r, d, h, n, hn => by
    simp only [DataW.weightsAll, List.mem_append]
    rcases List.mem_cons.1 h with rfl | h
    · exact Or.inl hn
    · exact Or.inr (weightsAll_mem h n hn)
theorem sized_strs {H : Type} {P : Program} {ts : List TypeId} {ds : List (DataW H)} (h : (DataW.weightsEach P ts ds).all (· ≤ reachBytes) = true) {j : Nat} {t e : TypeId} {elems spare : List (DataW H)} {bs : List UInt8}
    (ht : ts[j]? = some t) (hd : ds[j]? = some (.slice elems spare)) (hu : P.underlying t = some (.slice e)) (hx : DataW.lit (.string bs) ∈ elems) : bs.length ≤ reachBytes := by
  refine of_decide_eq_true (List.all_eq_true.1 h _ (DataW.weights_mem_each ht hd _ ?_))
  simp only [DataW.weights, hu, List.mem_cons, List.mem_append]
  exact Or.inr (Or.inl (weightsAll_mem hx _ (by simp [DataW.weights])))
set_option maxRecDepth 100000 in
theorem open_strsV {H : Type} {enc : TypeId × Value → H} {w : World} {base : Nat} {spare : Nat → Bool} {held : Bool} {fuel : Nat} {ad : Option Addr} {len cap : Nat} {x : DataW H × List MemPlace}
    (h : DataW.trod enc Tryd.prog w base spare held fuel 63 (Value.slice ad len cap).cells.toList = some x) :
    ∃ L : List ByteArray, StrS w (.slice ad len cap) L ∧ L.length = len ∧ ((x.1 = .nil ∧ L = []) ∨ ∃ ds ss, x.1 = .slice ds ss ∧ ds.length = len ∧ ∀ s ∈ L, DataW.lit (.string s.data.toList) ∈ ds) := by
  rcases open_row (α := ByteArray) (f := StrC) (s := 1) (ok := fun s d => d = DataW.lit (.string s.data.toList)) Tryd.underlying63 (by kernel_rfl) (by decide) (fun _ => rfl) (by
    intro n cs' y hy hl
    obtain ⟨s, e0, e1, _⟩ := DataW.trod_string Tryd.underlying9 hy
    exact ⟨s, e0, by rw [e1]⟩) h with ⟨h0, h1⟩ | ⟨ad', len', cap', L, D, ss, h0, hL, hR, hx, hok⟩
  · simp [Value.cells] at h0
    obtain ⟨rfl, rfl, rfl⟩ := h0
    exact ⟨[], ⟨_, _, rfl, RowV.nil _ _⟩, rfl, .inl ⟨h1, rfl⟩⟩
  · simp [Value.cells] at h0
    obtain ⟨rfl, rfl, rfl⟩ := h0
    refine ⟨L, ⟨_, _, by rw [hL], hR⟩, hL, .inr ⟨_, _, hx, by simp, fun s hs => ?_⟩⟩
    obtain ⟨i, hi, rfl⟩ := List.getElem_of_mem hs
    rw [← hok i hi]
    exact List.mem_map_of_mem (List.mem_range.2 (by omega))
set_option maxRecDepth 100000 in
set_option maxHeartbeats 2000000 in
theorem exprSames.inner (ad : Option Addr) (ac : Nat) (a : List Node) (bd : Option Addr) (bc : Nat) (b : List Node) (vd : Option Addr) (vc : Nat) (ns : List ByteArray) (w : World) (hT : OpsT w) (hP : Pow w) (hA : RowV w ad (a.flatMap NodeC)) (hIa : ∀ n ∈ a, n.1 < 256) (hB : RowV w bd (b.flatMap NodeC)) (hIb : ∀ n ∈ b, n.1 < 256) (hV : RowV w vd (ns.flatMap StrC)) (hns : ∀ s ∈ ns, s.size ≤ 140737488355328) (la : a.length * 16 ≤ 140737488355328) (lb : b.length * 16 ≤ 140737488355328) :
    Calls Tryd.prog 7 #[.slice ad a.length ac, .slice bd b.length bc, .slice vd ns.length vc] w fun e w' => e = .returned (.bool true) ∧ Below w.heap.size w w' := by
  have PA := hideR (print_any ad ac a vd vc ns w hT hP hA hIa hV hns)
  have PB : Hid (∀ W, Below w.heap.size w W → Calls Tryd.prog 33 #[.slice bd b.length bc, .slice vd ns.length vc] W fun e w' => e = .returned (.tuple #[.string (printT ns b).1, .int .i64 (printT ns b).2]) ∧ Below W.heap.size W w') := fun W hb => print_any bd bc b vd vc ns W (ops_later hT hb) (pow_later hP hb) (hB.later hb) hIb (hV.later hb) hns
  have LV : Hid (∀ W, Below w.heap.size w W → Calls Tryd.prog 10 #[] W fun e w' => e = .returned (.bool true) ∧ Below W.heap.size W w') := fun W hb => live_any W (ops_later hT hb) (pow_later hP hb)
  have SA : Hid (∀ W, Below w.heap.size w W → Calls Tryd.prog 35 #[.slice ad a.length ac, .slice bd b.length bc] W fun e w' => e = .returned (.bool (decide (a = b))) ∧ Below W.heap.size W w') := fun W hb => same_any ad ac a bd bc b W (hA.later hb) (hB.later hb) la lb
  have SB : Hid (∀ W, Below w.heap.size w W → Calls Tryd.prog 36 #[.slice ad a.length ac, .slice bd b.length bc] W fun e w' => e = .returned (.bool (decide (a = b))) ∧ Below W.heap.size W w') := fun W hb => rsame_any ad ac a bd bc b W (hA.later hb) (hB.later hb) la lb
  have EQ : Hid (decide (a = b) = true → printT ns b = printT ns a) := fun h => by rw [of_decide_eq_true h]
  clear hT hP hA hIa hB hIb hV hns la lb
  generalize decide (a = b) = r at *
  generalize printT ns a = X at *
  generalize printT ns b = Y at *
  generalize a.length = na at *
  generalize b.length = nb at *
  generalize ns.length = nn at *
  obtain ⟨x, ex⟩ := X
  obtain ⟨y, ey⟩ := Y
  simp only at *
  go_enter Tryd.func7, Tryd.ntmps7
  go_wp2_with fail
  refine PA.out.mono ?_
  rintro e w1 ⟨rfl, hb⟩
  have B1 := hideR hb
  clear hb PA
  go_wp2_with fail
  refine (PB.out _ B1.out).mono ?_
  rintro e w2 ⟨rfl, hb⟩
  have B2 := hideR (beyond B1.out hb)
  clear hb PB B1
  go_wp2_with fail
  refine (SA.out _ B2.out).mono ?_
  rintro e w3 ⟨rfl, hb⟩
  have B3 := hideR (beyond B2.out hb)
  clear hb SA B2
  go_wp2_with fail
  refine (LV.out _ B3.out).mono ?_
  rintro e w4 ⟨rfl, hb⟩
  have B4 := hideR (beyond B3.out hb)
  clear hb LV B3
  go_wp2_with fail
  refine (SB.out _ B4.out).mono ?_
  rintro e w5 ⟨rfl, hb⟩
  have B5 := hideR (beyond B4.out hb)
  clear hb SB B4
  cases r with
  | false =>
    clear EQ
    go_wp2_with fail
    go_ret
    exact ⟨rfl, B5.out⟩
  | true =>
    have q := EQ.out rfl
    injection q with q1 q2
    subst q1 q2
    clear EQ
    go_wp2_with fail
    go_ret
    exact ⟨rfl, B5.out⟩
theorem exprSames.walk (v0 : Value) (a : List Node) (v1 : Value) (b : List Node) (v2 : Value) (ns : List ByteArray) (w : World) (hT : OpsT w) (hP : Pow w) (h0 : NodeS w v0 a) (wf0 : ∀ n ∈ a, n.1 < 256 ∧ inR n.2) (by0 : a.length * 16 ≤ 140737488355328) (h1 : NodeS w v1 b) (wf1 : ∀ n ∈ b, n.1 < 256 ∧ inR n.2) (by1 : b.length * 16 ≤ 140737488355328) (h2 : StrS w v2 ns) (wf2 : ∀ s ∈ ns, s.size ≤ 140737488355328) :
    Calls Tryd.prog 7 #[v0, v1, v2] w fun e w' => e = .returned (.bool true) ∧ Below w.heap.size w w' := by
  obtain ⟨ad0, c0, rfl, r0⟩ := h0
  obtain ⟨ad1, c1, rfl, r1⟩ := h1
  obtain ⟨ad2, c2, rfl, r2⟩ := h2
  exact exprSames.inner ad0 c0 a ad1 c1 b ad2 c2 ns w hT hP r0 (fun n hn => (wf0 n hn).1) r1 (fun n hn => (wf1 n hn).1) r2 wf2 by0 by1
end Go.Proofs.YtmnhbokiibaopaaDoor
