/-
  point.mayPass, Right, fits, byNumber.
-/
import Derived.Test.YtnfkmpickmonoaaGreatQ44
import Derived.Test.YtnfkmpickmonoaaGreatQ45
import Derived.Laws.AppendOwnNone
namespace Go.Proofs.YtnfkmpickmonoaaGreat
open Go.RowKit Go.Shelf
set_option linter.unusedVariables false
set_option maxRecDepth 100000
theorem may_no (n d : Int) (w : World) (HR : Hid (AskR n d false)) : Calls Tryz.prog 100 #[rv n d] w fun e w' => e = .returned (.bool false) ∧ Below w.heap.size w w' := by
  go_enter Tryz.func100, Tryz.ntmps100
  go_wp2_with fail
  refine (HR.out _).mono ?_
  rintro e w1 ⟨rfl, hb⟩
  have hB := hideR (beyond (single w _) hb)
  clear hb
  go_wp2_with fail
  go_ret
  exact ⟨rfl, hB.out⟩
theorem may_yes (n d : Int) (w : World) (HR : Hid (AskR n d true)) : Calls Tryz.prog 100 #[rv n d] w fun e w' => e = .returned (.bool (decide (0 ≤ n))) ∧ Below w.heap.size w w' := by
  go_enter Tryz.func100, Tryz.ntmps100
  go_wp2_with fail
  refine (HR.out _).mono ?_
  rintro e w1 ⟨rfl, hb⟩
  have s0 := kc ⟨w.heap.size, 0, none⟩ (.int .i64 n) hb (by first | assumption | simp [go_sem, *])
  have hB := hideR (beyond (single w _) hb)
  clear hb
  go_wp2_with fail
  go_ret
  exact ⟨rfl, hB.out⟩
theorem mayPass_any (n d : Int) (w : World) (hn : I64 n) (hd : I64 d) : Calls Tryz.prog 100 #[rv n d] w fun e w' => e = .returned (.bool (okR n d)) ∧ Below w.heap.size w w' := by
  have k := askR n d hn hd
  cases r : rightR n d
  · rw [r] at k
    rw [show okR n d = false by simp [okR, r]]
    exact may_no n d w k
  · rw [r] at k
    rw [show okR n d = decide (0 ≤ n) by simp [okR, r]]
    exact may_yes n d w k
theorem right1_raw (n d : Int) (o : Bool) (w : World) (H : Hid (∀ w, Calls Tryz.prog 100 #[rv n d] w fun e w' => e = .returned (.bool o) ∧ Below w.heap.size w w')) : Calls Tryz.prog 99 #[rv n d] w fun e w' => e = .returned (.bool (!o)) ∧ Below w.heap.size w w' := by
  go_enter Tryz.func99, Tryz.ntmps99
  go_wp2_with fail
  refine (H.out _).mono ?_
  rintro e w1 ⟨rfl, hb⟩
  have hB := hideR (beyond (single w _) hb)
  clear hb
  go_wp2_with fail
  go_ret
  exact ⟨rfl, hB.out⟩
def okL6 (L : Rats) : Nat → Bool
  | 0 => true
  | k + 1 => okL6 L k && okR (L.n k) (L.d k)
theorem okL_at {L : Rats} : ∀ {m : Nat}, okL6 L m = true → ∀ k, k < m → okR (L.n k) (L.d k) = true
  | 0, _, k, hk => by omega
  | m + 1, h, k, hk => by
    simp only [okL6, Bool.and_eq_true] at h
    by_cases e : k = m
    · subst e; exact h.2
    · exact okL_at h.1 k (by omega)
theorem okL_false {L : Rats} : ∀ {k : Nat} (m : Nat), k ≤ m → okL6 L k = false → okL6 L m = false := by
  intro k m hm h
  induction m with
  | zero => obtain rfl : k = 0 := by omega
            exact h
  | succ m ih =>
    by_cases e : k = m + 1
    · subst e; exact h
    · simp [okL6, ih (by omega)]
set_option maxHeartbeats 1000000 in
theorem index_any (ad : Option Addr) (cap q : Nat) (L : Rats) (w : World) (hq : L.q = q) (q1 : q ≤ 9223372036854775807) (hV : RatV w ad L) (hI : RatI L) :
    Calls Tryz.prog 128 #[.slice ad q cap, .func (.func 99) #[] #[]] w fun e w' => (∃ z : Int, e = .returned (.int .i64 z) ∧ ((okL6 L q = true ∧ z = -1) ∨ (okL6 L q = false ∧ 0 ≤ z))) ∧ Below w.heap.size w w' := by
  have HV := hideR hV
  have HI := hideR hI
  have HQ := hideR hq
  clear hV hI hq
  go_enter Tryz.func128, Tryz.ntmps128
  go_wp2_with fail
  go_loopw [8] (fun s wr => ∃ (K : Nat), K ≤ q ∧ s = .int .i64 (K : Int) ∧ Hid (okL6 L K = true) ∧ Hid (Below w.heap.size w wr)) (fun s _ => q - (intOf s).toNat)
  case atStart => exact ⟨0, by omega, rfl, rfl, Below.refl _ _⟩
  case round =>
    obtain ⟨K, hK, rfl, O, B⟩ := hrel
    by_cases ck : K < q
    · obtain ⟨b, off, rfl, c0, c1⟩ := (HV.out.later B.out) K (by rw [HQ.out]; exact ck)
      have k0 : (K : Int) < (q : Int) := by omega
      have iK := HI.out K (by rw [HQ.out]; exact ck)
      have HR := hideR (fun w => right1_raw (L.n K) (L.d K) _ w (fun w => mayPass_any (L.n K) (L.d K) w iK.1 iK.2))
      have ON : Hid (okL6 L (K + 1) = okR (L.n K) (L.d K)) := by show _ = _; rw [okL6, O.out]; simp
      clear iK
      generalize L.n K = x at *
      generalize L.d K = y at *
      cases o : okR x y with
      | true =>
        rw [o] at HR ON
        go_wp2_with fail
        refine (HR.out _).mono ?_
        rintro e w1 ⟨rfl, hb⟩
        have B1 := hideR (beyond B.out hb)
        clear hb B HR c0 c1
        go_wp2_with fail
        go_roundw
        case rel => exact ⟨K + 1, by omega, by go_num, ON, B1⟩
        case measure => simp [intOf]; omega
      | false =>
        rw [o] at HR ON
        have F : Hid (okL6 L q = false) := okL_false q (by omega) ON.out
        go_wp2_with fail
        refine (HR.out _).mono ?_
        rintro e w1 ⟨rfl, hb⟩
        have B1 := hideR (beyond B.out hb)
        clear hb B HR c0 c1
        go_wp2_with fail
        go_ret
        exact ⟨⟨_, rfl, .inr ⟨F.out, by omega⟩⟩, B1.out⟩
    · have eK : K = q := by omega
      have F : Hid (okL6 L q = true) := by rw [← eK]; exact O
      have k0 : ¬ (K : Int) < (q : Int) := by omega
      clear eK O
      go_wp2_with fail
      go_ret
      exact ⟨⟨_, rfl, .inl ⟨F.out, rfl⟩⟩, B.out⟩
theorem contains_any (ad : Option Addr) (cap q : Nat) (L : Rats) (w : World) (hq : L.q = q) (q1 : q ≤ 9223372036854775807) (hV : RatV w ad L) (hI : RatI L) :
    Calls Tryz.prog 98 #[.slice ad q cap, .func (.func 99) #[] #[]] w fun e w' => e = .returned (.bool (!okL6 L q)) ∧ Below w.heap.size w w' := by
  have H := hideR (index_any ad cap q L w hq q1 hV hI)
  clear hV hI hq
  go_enter Tryz.func98, Tryz.ntmps98
  go_wp2_with fail
  refine H.out.mono ?_
  rintro e w1 ⟨⟨z, rfl, h⟩, hb⟩
  have HB := hideR hb
  have HZ : Hid (decide (0 ≤ z) = !okL6 L q) := by
    show _ = _
    rcases h with ⟨h1, rfl⟩ | ⟨h1, h2⟩
    · rw [h1]; rfl
    · rw [h1]; simpa using h2
  clear h hb H
  go_wp2_with fail
  go_ret
  exact ⟨by rw [HZ.out]; rfl, HB.out⟩
/-- May a list be a valuation? -/
def rightL (L : Rats) : Bool := decide (L.q ≤ 8) && okL6 L L.q
theorem pright_no (ad : Option Addr) (cap q : Nat) (w : World) (h : ¬ (q : Int) ≤ 8) (q1 : q ≤ 9223372036854775807) :
    Calls Tryz.prog 73 #[.slice ad q cap] w fun e w' => e = .returned (.bool false) ∧ Below w.heap.size w w' := by
  go_enter Tryz.func73, Tryz.ntmps73
  go_wp2_with fail
  go_ret
  exact ⟨rfl, Below.refl _ _⟩
theorem pright_yes (ad : Option Addr) (cap q : Nat) (o : Bool) (w : World) (h : (q : Int) ≤ 8) (H : Hid (Calls Tryz.prog 98 #[.slice ad q cap, .func (.func 99) #[] #[]] w fun e w' => e = .returned (.bool (!o)) ∧ Below w.heap.size w w')) :
    Calls Tryz.prog 73 #[.slice ad q cap] w fun e w' => e = .returned (.bool o) ∧ Below w.heap.size w w' := by
  go_enter Tryz.func73, Tryz.ntmps73
  go_wp2_with fail
  refine H.out.mono ?_
  rintro e w1 ⟨rfl, hb⟩
  have HB := hideR hb
  clear hb H
  go_wp2_with fail
  go_ret
  exact ⟨by simp, HB.out⟩
theorem pright_any (ad : Option Addr) (cap q : Nat) (L : Rats) (w : World) (hq : L.q = q) (q1 : q ≤ 9223372036854775807) (hV : RatV w ad L) (hI : RatI L) :
    Calls Tryz.prog 73 #[.slice ad q cap] w fun e w' => e = .returned (.bool (rightL L)) ∧ Below w.heap.size w w' := by
  by_cases h : q ≤ 8
  · rw [show rightL L = okL6 L q by simp [rightL, hq, h]]
    exact pright_yes ad cap q _ w (by omega) (contains_any ad cap q L w hq q1 hV hI)
  · rw [show rightL L = false by simp [rightL, hq, h]]
    exact pright_no ad cap q w (by omega) q1
end Go.Proofs.YtnfkmpickmonoaaGreat

/-
  point.fits, byNumber.
-/
namespace Go.Proofs.YtnfkmpickmonoaaGreat
open Go.RowKit Go.Shelf
set_option linter.unusedVariables false
set_option maxRecDepth 100000
theorem fits_no (b : Nat) (v : Value) (w : World) (H : Hid (Calls Tryz.prog 73 #[v] w fun e w' => e = .returned (.bool false) ∧ Below w.heap.size w w')) : Calls Tryz.prog 51 #[.pointer (some ⟨b, 0, none⟩), v] w fun e w' => e = .returned (.bool false) ∧ Below w.heap.size w w' := by
  go_enter Tryz.func51, Tryz.ntmps51
  go_wp2_with fail
  refine H.out.mono ?_
  rintro e w1 ⟨rfl, hb⟩
  have HB := hideR hb
  clear hb H
  go_wp2_with fail
  go_ret
  exact ⟨rfl, HB.out⟩
theorem fits_yes (b n q cap : Nat) (ad : Option Addr) (c : Row) (w : World) (hz : ZoneAt w b n c) (H : Hid (Calls Tryz.prog 73 #[.slice ad q cap] w fun e w' => e = .returned (.bool true) ∧ Below w.heap.size w w')) : Calls Tryz.prog 51 #[.pointer (some ⟨b, 0, none⟩), .slice ad q cap] w fun e w' => e = .returned (.bool ((q : Int) == (n : Int))) ∧ Below w.heap.size w w' := by
  have HZ := hideR hz
  clear hz
  go_enter Tryz.func51, Tryz.ntmps51
  go_wp2_with fail
  refine H.out.mono ?_
  rintro e w1 ⟨rfl, hb⟩
  have HB := hideR hb
  have HD := hideR (dim_any b n c w1 (HZ.out.past hb))
  clear hb H HZ
  go_wp2_with fail
  refine HD.out.mono ?_
  rintro e w2 ⟨rfl, rfl⟩
  go_wp2_with fail
  go_ret
  exact ⟨rfl, HB.out⟩
/-- Is a list a valuation of n clocks? -/
def fitB (L : Rats) (n : Nat) : Bool := rightL L && (L.q == n)
theorem fitB_iff {L : Rats} {n : Nat} (hn : n ≤ 8) : fitB L n = true ↔ L.q = n ∧ ∀ k, k < n → okR (L.n k) (L.d k) = true := by
  unfold fitB rightL
  constructor
  · intro h
    simp only [Bool.and_eq_true, decide_eq_true_eq, beq_iff_eq] at h
    exact ⟨h.2, fun k hk => okL_at h.1.2 k (by omega)⟩
  · rintro ⟨h1, h2⟩
    have : okL6 L L.q = true := by
      rw [h1]
      clear h1 hn
      induction n with
      | zero => rfl
      | succ n ih => rw [okL6, ih (fun k hk => h2 k (by omega)), h2 n (by omega)]; rfl
    rw [this, h1]
    simp [hn]
theorem fits_any6 (b n q cap : Nat) (ad : Option Addr) (c : Row) (L : Rats) (w : World) (hz : ZoneAt w b n c) (hq : L.q = q) (q1 : q ≤ 9223372036854775807) (hV : RatV w ad L) (hI : RatI L) :
    Calls Tryz.prog 51 #[.pointer (some ⟨b, 0, none⟩), .slice ad q cap] w fun e w' => e = .returned (.bool (fitB L n)) ∧ Below w.heap.size w w' := by
  have H := pright_any ad cap q L w hq q1 hV hI
  cases r : rightL L
  · rw [r] at H
    rw [show fitB L n = false by simp [fitB, r]]
    exact fits_no b _ w H
  · rw [r] at H
    rw [show fitB L n = ((q : Int) == (n : Int)) by simp only [fitB, r, Bool.true_and, hq]; rw [Bool.eq_iff_iff]; simp only [beq_iff_eq]; omega]
    exact fits_yes b n q cap ad c w hz H
/-- A row is appended that is nil or not. -/
theorem wp_app_any {P : Program} (w : World) {ops : Array Oper} {rest : List Oper} {o : Oper} {a : Act} {Q : Exit → Act → World → Prop} (hgd : o.guard = none) (s x : Operand) (t : TypeId)
    (ho : o.op = .call { callee := .builtin .append, args := #[s, x], argTypes := #[t, t] })
    (base : Nat) (e : TypeId) (i : TypeInfo) (z : Value) (size bytes : Nat) (ht : P.underlying t = some (.slice e)) (hi : P.info? e = some i) (hz : i.zero = some z)
    (hsize : i.size = size) (hby : i.bytes = bytes) (hzs : z.cells.size = size) (hsz : 0 < size)
    (v : Value) (n : Nat) (xs : List Value) (hs : a.eval s = v) (hown : w.ownsRow base e size v n xs)
    (ad : Option Addr) (m c : Nat) (news : List Value) (hx : a.eval x = .slice ad m c) (hnil : ad = none → m = 0 ∧ c = 0) (hl : news.length = m * size) (hnews : ∀ d, ad = some d → ∀ j u, news[j]? = some u → w.cell? (d.add j) = some u) (h1 : ∀ u ∈ news, u.oneCell' = true)
    (h63 : n + m ≤ maxLen) (hbytes : (n + m) * bytes ≤ 140737488355328) (hbase : base ≤ w.heap.size)
    (h : ∀ v' w', w'.ownsRow base e size v' (n + m) (xs ++ news) → w' = w ∨ w.grownBy w' v.ownBlock → wpList P ops Q rest (a.put o.dst v') w') : wpList P ops Q (o :: rest) a w := by
  cases ad with
  | none =>
    obtain ⟨rfl, rfl⟩ := hnil rfl
    have e0 : news = [] := List.eq_nil_of_length_eq_zero (by simpa using hl)
    subst e0
    exact wpList_append_own_none hgd s x t ho base e i size ht hi v n xs hs hown hx (h v w (by simpa using hown) (.inl rfl))
  | some d => exact wpList_append_own w hgd s x t ho base e i z size bytes ht hi hz hsize hby hzs hsz v n xs hs hown d m c news hx hl (hnews d rfl) h1 h63 hbytes hbase fun v' w' h2 h3 _ => h v' w' h2 (.inr h3)
/-- Fractions as cells. -/
def ratJ (L : Rats) (j : Nat) : Value := .int .i64 (if j % 2 = 0 then L.n (j / 2) else L.d (j / 2))
def ratC (L : Rats) : List Value := (List.range (L.q * 2)).map (ratJ L)
theorem ratC_len (L : Rats) : (ratC L).length = L.q * 2 := by simp [ratC]
theorem ratC_get (L : Rats) (j : Nat) (u : Value) (h : (ratC L)[j]? = some u) : j < L.q * 2 ∧ u = ratJ L j := by
  unfold ratC at h
  rw [List.getElem?_map] at h
  by_cases hj : j < L.q * 2
  · rw [List.getElem?_range hj] at h
    injection h with h
    exact ⟨hj, h.symm⟩
  · rw [List.getElem?_eq_none (by simp; omega)] at h
    cases h
theorem ratC_one (L : Rats) : ∀ u ∈ ratC L, u.oneCell' = true := by
  intro u hu
  obtain ⟨j, _, rfl⟩ := List.mem_map.1 hu
  rfl
theorem ratC_news {w : World} {d : Addr} {L : Rats} (h : RatV w (some d) L) : ∀ j u, (ratC L)[j]? = some u → w.cell? (d.add j) = some u := fun j u hu => by
  obtain ⟨hj, rfl⟩ := ratC_get L j u hu
  obtain ⟨b, off, e, c0, c1⟩ := h (j / 2) (by omega)
  injection e with e
  subst e
  rw [Addr.add_lit]
  unfold ratJ
  by_cases p : j % 2 = 0
  · rw [if_pos p, show off + j = off + j / 2 * 2 by omega]
    exact c0
  · rw [if_neg p, show off + j = off + j / 2 * 2 + 1 by omega]
    exact c1
/-- A row of fractions of the call's own. -/
def RowR (w : World) (g off : Nat) (L : Rats) : Prop := ∀ k, k < L.q → w.cell? ⟨g, off + k * 2, none⟩ = some (.int .i64 (L.n k)) ∧ w.cell? ⟨g, off + k * 2 + 1, none⟩ = some (.int .i64 (L.d k))
theorem RowR.past {w w' : World} {g off : Nat} {L : Rats} (h : RowR w g off L) (hb : Below w.heap.size w w') : RowR w' g off L := fun k hk => ⟨kc _ _ hb (h k hk).1, kc _ _ hb (h k hk).2⟩
def aheadL (L : Rats) : Rats := ⟨L.q + 1, fun k => if k = 0 then 0 else L.n (k - 1), fun k => if k = 0 then 1 else L.d (k - 1)⟩
theorem ahead_cells (L : Rats) (j : Nat) (hj : j < (L.q + 1) * 2) : ([.int .i64 0, .int .i64 1] ++ ratC L)[j]? = some (ratJ (aheadL L) j) := by
  match j, hj with
  | 0, _ => rfl
  | 1, _ => rfl
  | j + 2, hj =>
    show (ratC L)[j]? = _
    rw [ratC, List.getElem?_map, List.getElem?_range (by omega)]
    show some (ratJ L j) = _
    unfold ratJ aheadL
    simp only [show (j + 2) % 2 = j % 2 by omega, show (j + 2) / 2 = j / 2 + 1 by omega, Nat.add_sub_cancel, if_neg (Nat.succ_ne_zero _)]
theorem own_two (w : World) (x y : Value) (e : TypeId) : (w.alloc (.cells #[x, y] e)).ownsRow w.heap.size e 2 (.slice (some ⟨w.heap.size, 0, none⟩) 1 1) 1 [x, y] :=
  ⟨by simp, .inr ⟨w.heap.size, 1, #[x, y], rfl, Nat.le_refl _, heap_alloc_new w _, Nat.le_refl _, by unfold maxLen; omega, by simp, by simp⟩⟩
theorem own_le {b m c k : Nat} (h : (Value.slice (some ⟨b, 0, none⟩) m c).ownBlock = some k) : b ≤ k := Nat.le_of_eq (by simpa [Value.ownBlock] using h)
theorem byNumber_any (ad : Option Addr) (cap q : Nat) (L : Rats) (w : World) (hq : L.q = q) (q1 : q ≤ 8) (hnil : ad = none → q = 0 ∧ cap = 0) (hV : RatV w ad L) :
    Calls Tryz.prog 74 #[.slice ad q cap] w fun e w' => (∃ g cap', e = .returned (.slice (some ⟨g, 0, none⟩) (q + 1) cap') ∧ w.heap.size ≤ g ∧ RowR w' g 0 (aheadL L)) ∧ Below w.heap.size w w' := by
  obtain ⟨i0, hi, hz0, hz1, hz2⟩ := info_parts info_rat
  have HV := hideR hV
  have HO := hideR (fun w => ratOf_any 0 w)
  clear hV
  go_enter Tryz.func74, Tryz.ntmps74
  go_wp2_with (first
    | (go_at_call 101; refine (HO.out _).mono ?_; rintro e w1 ⟨rfl, hb1⟩; have HB1 := hideR hb1; clear hb1)
    | (at_builtin; refine wp_app_any _ rfl _ _ 27 rfl w1.heap.size 140 i0 (.agg #[.int .i64 0, .int .i64 0]) 2 16 Tryz.underlying27 hi hz0 hz1 hz2 rfl (by decide) _ _ _ rfl (own_two w1 (.int .i64 0) (.int .i64 1) 140) ad q cap (ratC L) rfl hnil (by rw [ratC_len, hq]) (fun d e j u h => ratC_news (L := L) (d := d) (e ▸ HV.out.later (beyond HB1.out (single _ _))) j u h) (ratC_one L) (by unfold maxLen; omega) (by omega) (by simp) ?_; intro v' w2 hown hgrow))
  have hb2 : Hid (Below w1.heap.size w1 w2) := by
    rcases hgrow with e | hg
    · rw [e]; exact single _ _
    · exact (single w1 _).grown hg (by simp) (fun k hk => own_le hk)
  have hown' : w2.ownsRow w1.heap.size 140 2 v' (q + 1) ([.int .i64 0, .int .i64 1] ++ ratC L) := by rw [Nat.add_comm q 1]; exact hown
  obtain ⟨g, cap', rfl⟩ := ownsRow_succ hown'
  have hr : Hid (w1.heap.size ≤ g ∧ RowR w2 g 0 (aheadL L)) := by
    refine ⟨(hown'.lt g rfl).1, fun k hk => ?_⟩
    have hk' : k < L.q + 1 := hk
    have h0 := World.ownsRow.cells hown' (g := g) rfl (k * 2) _ (ahead_cells L (k * 2) (by omega))
    have h1 := World.ownsRow.cells hown' (g := g) rfl (k * 2 + 1) _ (ahead_cells L (k * 2 + 1) (by omega))
    rw [Addr.add_lit] at h0 h1
    unfold ratJ at h0 h1
    rw [if_pos (by omega), show k * 2 / 2 = k by omega] at h0
    rw [if_neg (by omega), show (k * 2 + 1) / 2 = k by omega] at h1
    exact ⟨h0, by rw [Nat.add_assoc]; exact h1⟩
  clear hown hown' hgrow
  go_ret
  exact ⟨⟨g, cap', rfl, Nat.le_trans HB1.out.size hr.out.1, hr.out.2⟩, beyond HB1.out hb2.out⟩
end Go.Proofs.YtnfkmpickmonoaaGreat
