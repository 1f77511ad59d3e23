/-
  The walk of the statement OpsLimits.
-/
import Derived.Test.YtfamdajjfpjlaaaDoorZg
import Derived.Deep.Slices
import Derived.Deep.Strs
import Derived.ProofKit
import Derived.OpenShut
namespace Go.Proofs.YtfamdajjfpjlaaaDoor
open Go.ChangeShapes Go.WideShapes Go.ChangeAt Go.RowKit Go.Deep
set_option linter.unusedVariables false
set_option maxRecDepth 100000
def LimS (w : World) (v : Value) (L : Lims) : Prop := (∃ ad c, v = .slice ad 0 c ∧ L.q = 0) ∨ (∃ b off cap, v = .slice (some ⟨b, off, none⟩) L.q cap ∧ b < w.heap.size ∧ LimRow w b off L)
theorem LimS.vals {w : World} {v : Value} {L : Lims} (h : LimS w v L) : ∃ ad cap, v = .slice ad L.q cap ∧ LimV w ad L := by
  rcases h with ⟨ad, c, rfl, e⟩ | ⟨b, off, cap, rfl, -, h⟩
  · exact ⟨ad, c, by rw [e], fun k hk => by omega⟩
  · exact ⟨_, cap, rfl, fun k hk => ⟨b, off, rfl, h k hk⟩⟩
theorem open_lims {H : Type} {enc : TypeId × Value → H} {P : Program} {w : World} {base : Nat} {spare : Nat → Bool} {held : Bool} {t e : TypeId} {f0 f1 f2 : Field} {fuel : Nat} {cs : List Value} {x : DataW H × List MemPlace}
    (ht : P.underlying t = some (.slice e)) (he : P.underlying e = some (.struct #[f0, f1, f2])) (ce : P.cellsOf e = 3) (o0 : f0.offset = 0) (o1 : f1.offset = 1) (o2 : f2.offset = 2) (c0 : P.cellsOf f0.type = 1) (c1 : P.cellsOf f1.type = 1) (c2 : P.cellsOf f2.type = 1)
    (u0 : P.underlying f0.type = some (.int .i64)) (u1 : P.underlying f1.type = some (.int .i64)) (u2 : P.underlying f2.type = some (.int .i32)) (h : DataW.trod enc P w base spare held fuel t cs = some x) :
    cs = [.slice none 0 0] ∨ ∃ (a : Addr) (len cap : Nat) (ds ss : List (DataW H)) (L : Lims), cs = [.slice (some a) len cap] ∧ L.q = len ∧ ds.length = len ∧ x.1 = .slice ds ss ∧
      ∀ k, k < len → w.cell? (a.add (k * 3)) = some (.int .i64 (L.i k)) ∧ w.cell? (a.add (k * 3 + 1)) = some (.int .i64 (L.j k)) ∧ w.cell? (a.add (k * 3 + 2)) = some (.int .i32 (L.b k)) ∧ (Lit.int .i32 (L.b k)).wf = true := by
  rcases open_slice ht h with ⟨h0, _⟩ | ⟨a, len, cap, m, n, D, Pl, rfl, hb, hl, hm, hmm, hx', hx⟩
  · exact .inl h0
  · right
    have hlm : len ≤ m := by rw [hmm]; split <;> omega
    have each : ∀ i, i < len → ∃ q : Int × Int × Int, w.cell? (a.add (i * 3)) = some (.int .i64 q.1) ∧ w.cell? (a.add (i * 3 + 1)) = some (.int .i64 q.2.1) ∧ w.cell? (a.add (i * 3 + 2)) = some (.int .i32 q.2.2) ∧ (Lit.int .i32 q.2.2).wf = true := by
      intro i hi
      obtain ⟨cs', h1, h2⟩ := hx i (by omega)
      rw [ce] at h1
      obtain ⟨_, hlen, hcell⟩ := World.cells?_some h1
      obtain ⟨y0, y1, y2, k, -, -, g0, g1, g2⟩ := trod_struct3 he h2
      match cs', hlen with
      | [v0, v1, v2], _ =>
        simp [o0, o1, o2, c0, c1, c2] at g0 g1 g2
        obtain ⟨z0, e0, _, _⟩ := DataW.trod_int u0 g0
        obtain ⟨z1, e1, _, _⟩ := DataW.trod_int u1 g1
        obtain ⟨z2, e2, _, wf⟩ := DataW.trod_int u2 g2
        have k0 := hcell 0 (by omega)
        have k1 := hcell 1 (by omega)
        have k2 := hcell 2 (by omega)
        rw [add_add] at k0 k1 k2
        simp at e0 e1 e2
        subst e0 e1 e2
        exact ⟨(z0, z1, z2), by simpa using k0, by simpa using k1, by simpa using k2, wf⟩
    obtain ⟨q, hq⟩ := choose_lt each
    exact ⟨a, len, cap, (List.range len).map D, _, ⟨len, fun i => (q i).1, fun i => (q i).2.1, fun i => (q i).2.2⟩, rfl, rfl, by simp, by rw [hx'], fun k hk => hq k hk⟩
set_option maxHeartbeats 4000000 in
theorem opsLimits.walk (n : Int) (hn : (Lit.int .i64 n).wf = true) (v : Value) (l : List Int) (vl : Value) (L : Lims) (w : World) (ht : Pow w) (hS : SliceAt w v l) (wf : ∀ z ∈ l, (Lit.int .i32 z).wf = true) (hby : l.length * 4 ≤ 140737488355328) (hnil : ∀ {c}, v = .slice none 0 c → c = 0) (hL : LimS w vl L) (hiL : ∀ k, k < L.q → -2147483648 ≤ L.b k ∧ L.b k ≤ 2147483647) (hbyL : L.q * 24 ≤ 140737488355328) (hnilL : ∀ {c}, vl = .slice none 0 c → c = 0) :
    Calls Tryd.prog 4 #[.int .i64 n, v, vl] w fun e w' => e = .returned (.bool true) ∧ Below w.heap.size w w' := by
  obtain ⟨o, ho, -, hb⟩ := both_any n v l w hS (wf_cells wf) (by omega)
  obtain ⟨ad, cap, rfl, hV⟩ := hL.vals
  have HB := hideD hb
  have HP := hideD ht
  have HV := hideD hV
  have HT : Hid (∀ {w : World} {p q : Option Addr} {g cap cap' : Nat}, PZ w p o → RZ w q o → LimV w (some ⟨g, 0, none⟩) L → g < w.heap.size → LimV w ad L → _) := fun {w p q g cap cap'} h1 h2 hV hg hV' => two_con (cap := cap) (cap' := cap') h1 h2 ho hV hg hV' hiL (by omega)
  have HK : Hid (∀ g w, LimV w (some ⟨g, 0, none⟩) (roomyL L) → LimV w ad L → _) := fun g w h1 h2 => kept_lims g ad cap L w h1 h2 hbyL
  have HH : Hid (∀ w, LimV w ad L → _) := fun w h1 => hand_lims ad cap L w h1 hbyL
  clear hb ht hS wf hnil hn hby hL hiL hbyL hnilL hV
  go_enter Tryd.func4, Tryd.ntmps4
  go_wp2_with fail
  refine HB.out.mono ?_
  rintro e w1 ⟨⟨p, q, rfl, hp, hq⟩, hb1⟩
  have V1 := hideD (HV.out.past hb1.out)
  have HH1 := hideD (HH.out w1 V1.out)
  clear HB HH HV
  go_wp2_with fail
  refine HH1.out.mono ?_
  rintro e w2 ⟨rfl, hc, hs, hb2⟩
  have V2 := hideD (V1.out.past hb2)
  have CV := hideD hc
  have P2 := hideD (hp.out.past hb2)
  have Q2 := hideD (hq.out.past hb2)
  have B02 := hideD (beyondD hb1.out hb2)
  obtain ⟨k, o2, u1, u2, -⟩ := HT.out (cap := L.q + 9) (cap' := cap) P2.out Q2.out (roomyL_front hc) hs V2.out
  have U1 := hideD (u1 _ (Below.refl _ _))
  have U2 := hideD u2
  generalize w1.heap.size = g at *
  clear HH1 HT u1 u2 hp hq hb1 hb2 hc hs V1
  go_wp2_with fail
  refine U1.out.mono ?_
  rintro e w3 ⟨⟨pa, rfl, hpa⟩, hb3⟩
  have U3 := hideD (U2.out _ hb3.out)
  clear U1 U2
  go_wp2_with fail
  refine U3.out.mono ?_
  rintro e w4 ⟨⟨qa, rfl, hqa⟩, hb4⟩
  have B24 := hideD (beyondD hb3.out hb4.out)
  have PA4 := hideD (hpa.out.past hb4.out)
  have B04 := hideD (beyondD B02.out B24.out)
  have HL := hideD (olive_any w4 (pow_later HP.out B04.out))
  have P4 := hideD (P2.out.past B24.out)
  have Q4 := hideD (Q2.out.past B24.out)
  have V4 := hideD (V2.out.past B24.out)
  have C4 := hideD (CV.out.past B24.out)
  clear U3 hb3 hb4 hpa P2 Q2 V2 CV B02 B24
  go_wp2_with fail
  refine HL.out.mono ?_
  rintro e w5 ⟨rfl, hb5⟩
  have B05 := hideD (beyondD B04.out hb5)
  have HS1 := hideD (same_any (PA4.out.past hb5) (hqa.out.past hb5))
  have P5 := hideD (P4.out.past hb5)
  have Q5 := hideD (Q4.out.past hb5)
  have V5 := hideD (V4.out.past hb5)
  have C5 := hideD (C4.out.past hb5)
  clear HL hb5 PA4 hqa P4 Q4 V4 C4 B04
  go_wp2_with fail
  refine HS1.out.mono ?_
  rintro e w6 ⟨rfl, hb6⟩
  have B06 := hideD (beyondD B05.out hb6)
  have HS2 := hideD (same_any (P5.out.past hb6) (Q5.out.past hb6))
  have V6 := hideD (V5.out.past hb6)
  have C6 := hideD (C5.out.past hb6)
  clear HS1 hb6 P5 Q5 V5 C5 B05
  go_wp2_with fail
  refine HS2.out.mono ?_
  rintro e w7 ⟨rfl, hb7⟩
  have B07 := hideD (beyondD B06.out hb7)
  have HK7 := hideD (HK.out g w7 (C6.out.past hb7) (V6.out.past hb7))
  clear HS2 hb7 V6 C6 B06 HK
  go_wp2_with fail
  refine HK7.out.mono ?_
  rintro e w8 ⟨rfl, hb8⟩
  go_wp2_with fail
  go_ret
  exact ⟨by simp, beyondD B07.out hb8⟩
end Go.Proofs.YtfamdajjfpjlaaaDoor
