/- A search for all plans of counts tells them one after the other. -/
import Derived.Test.YtbimapbcpmeooaaSeek
namespace Go.Proofs.Ytbimapbcpmeooaa.Cl
open Go Go.Proofs.Ytbimapbcpmeooaa Go.Proofs.Ytbimapbcpmeooaa.AX
set_option maxRecDepth 100000
set_option linter.unusedVariables false
/-- Who is told plans, one after the other: what still comes, and what holds then. -/
structure Fed (r M : Nat) (J : List (List Tb) → AH → Prop) (Z : Nat → AH → Prop) : Prop where
  same : ∀ rest H H', M ≤ H.length → KJ M H H' → J rest H → J rest H'
  sameZ : ∀ l H H', M ≤ H.length → H.length ≤ H'.length → (∀ j, j < H.length → j < M ∨ l ≤ j → H'[j]? = H[j]?) → Z l H → Z l H'
  yld : ∀ T rest H v, M ≤ H.length → J (T :: rest) H → Rs 2 H v (tb T) → AYld Try.prog r [v] H fun u H' => ∃ t : Bool, u = .bool t ∧ (if t = true then J rest H' else Z H.length H') ∧ H.length ≤ H'.length ∧ (∀ j, M ≤ j → j < H.length → H'[j]? = H[j]?)
section
variable {r M ps q n lv : Nat} {J : List (List Tb) → AH → Prop} {Z : Nat → AH → Prop}
def FromOk (r M ps q n lv : Nat) (J : List (List Tb) → AH → Prop) (Z : Nat → AH → Prop) (a b : Nat) (L : List Nat) (T : List Tb) (V : List (List Tb)) : Prop := ∀ (rest : List (List Tb)) (H : AH) (Q : AV → AH → Prop), Sst ps q M n lv r L T H → J (V ++ rest) H →
  (∀ (t : Bool) H', Sst ps q M n lv r L T H' → (if t = true then J rest H' else ∃ l, ps < l ∧ q < l ∧ Z l H') → Q (.bool t) H') → AC Try.prog 89 [.ptr ps 0 0, .int .i64 a, .int .i64 b] H Q
theorem Sst.big {L : List Nat} {T : List Tb} {H : AH} (h : Sst ps q M n lv r L T H) : M ≤ H.length := by have := h.lt; have := h.mps; omega
theorem Fed.keep (hF : Fed r M J Z) {t : Bool} {rest : List (List Tb)} {H H' : AH} (h0 : M ≤ H.length) (h1 : M ≤ ps) (h2 : M ≤ q) (hK : KPQ ps q H H') (h : if t = true then J rest H else ∃ l, ps < l ∧ q < l ∧ Z l H) : if t = true then J rest H' else ∃ l, ps < l ∧ q < l ∧ Z l H' := by
  cases t with
  | true => exact hF.same _ _ _ h0 (hK.kj h1 h2 h0) h
  | false =>
    obtain ⟨l, g1, g2, g3⟩ := h
    exact ⟨l, g1, g2, hF.sameZ _ _ _ h0 hK.1 (fun j hj h => hK.2 j hj (by omega) (by omega)) g3⟩
theorem from_end (hF : Fed r M J Z) (L : List Nat) (T : List Tb) : FromOk r M ps q n lv J Z n (n + 1) L T [T] := by
  intro rest H Q hS hJ h1
  obtain ⟨tv, e0, e1, e2, hT, -⟩ := hS.get
  have hb := hS.big
  refine L_body 72 Try.func89 rfl rfl ?_
  refine L_reg [0, 1, 2] (fun K hK => ?_)
  simp
  apply hK; clear hK K
  refine L_reg [0, 1, 2, 13] (fun K hK => ?_)
  simp [e0, aNil]
  apply hK; clear hK K
  refine L_true (by simp) ?_
  refine L_regM mixed 8 [6] (by decide) (by kernel_rfl) (fun K hK => ?_)
  simp [e1, e2, aNil]
  refine (hF.yld T rest H tv hb (by simpa using hJ) hT.rs).mono ?_
  rintro _ H' ⟨t, rfl, ht, -, g3⟩
  simp
  apply hK; clear hK K
  obtain ⟨l1, l2⟩ := hS.lt
  cases t with
  | true =>
    exact L_ret ⟨.inr rfl, _, rfl, h1 true _ (hS.keep g3) ht⟩
  | false =>
    exact L_ret ⟨.inr rfl, _, rfl, h1 false _ (hS.keep g3) ⟨H.length, l1, l2, ht⟩⟩
theorem with_ok (hF : Fed r M J Z) (a b x y : Nat) (hab : a < b) (L : List Nat) (T : List Tb) (V : List (List Tb)) (hb : b < n) (hL : L.length = n) (hn : n ≤ 8) (ha0 : L[a]? = some (x + 1)) (hb0 : L[b]? = some (y + 1)) (hx8 : x ≤ 8) (hy8 : y ≤ 8) (hT : T.length < 1000)
    (hfrom : FromOk r M ps q n lv J Z a (b + 1) ((L.set a x).set b y) (T ++ [(a, b)]) V)
    (rest : List (List Tb)) (H : AH) (Q : AV → AH → Prop) (hS : Sst ps q M n lv r L T H) (hJ : J (V ++ rest) H)
    (h1 : ∀ (t : Bool) H', Sst ps q M n lv r L T H' → (if t = true then J rest H' else ∃ l, ps < l ∧ q < l ∧ Z l H') → Q (.bool t) H') : AC Try.prog 110 [.ptr ps 0 0, .int .i64 a, .int .i64 b] H Q := by
  have haL : a < L.length := by omega
  have hbL : b < L.length := by omega
  have han : a < n := by omega
  have ea : L[a] = x + 1 := by rw [List.getElem?_eq_getElem haL] at ha0; exact Option.some.inj ha0
  have eb : L[b] = y + 1 := by rw [List.getElem?_eq_getElem hbL] at hb0; exact Option.some.inj hb0
  refine L_body 76 Try.func110 rfl rfl ?_
  refine L_reg [0, 1, 2] (fun K hK => ?_)
  simp
  apply hK; clear hK K
  -- one less for a
  obtain ⟨tv, e0, -, -, -, eq0⟩ := hS.get
  have l1 := eq0 a haL
  rw [ea] at l1
  obtain ⟨H1, st1, S1, K1⟩ := hS.setL haL x
  refine L_reg [0, 1, 2] (fun K hK => ?_)
  simp [aNil, e0, l1, han, wrap_i64 (a := (x : Int)) (by omega), st1]
  apply hK; clear hK K
  -- one less for b
  obtain ⟨tv1, e01, -, -, -, eq1⟩ := S1.get
  have l2 := eq1 b (by simp; omega)
  rw [List.getElem_set_ne (by omega), eb] at l2
  obtain ⟨H2, st2, S2, K2⟩ := S1.setL (i := b) (by simp; omega) y
  refine L_reg [0, 1, 2] (fun K hK => ?_)
  simp [aNil, e01, l2, hb, wrap_i64 (a := (y : Int)) (by omega), st2]
  apply hK; clear hK K
  -- the table
  obtain ⟨tv2, tv3, H3, H4, e2, happ, st3, S3, K3⟩ := S2.push a b hT
  refine L_reg [0, 1, 2] (fun K hK => ?_)
  simp [aNil, e2, bd67, row32, happ, st3]
  apply hK; clear hK K
  -- on
  refine L_reg [0, 1, 2, 7] (fun K hK => ?_)
  simp [okFn_low, wrap_i64 (a := (b : Int) + 1) (by omega)]
  have hbig := hS.big
  refine hfrom rest H4 _ S3 (hF.same _ _ _ hbig (((K1.trans K2).kj hS.mps hS.mq hbig).trans K3) hJ) (fun t H5 S5 hJ5 => ?_)
  simp
  apply hK; clear hK K
  -- the table goes
  obtain ⟨tv5, tv6, H6, e5, hlen, hsl, st5, S6, K6⟩ := S5.pop
  refine L_regT mixed [0, 1, 2, 7] (by kernel_rfl) (fun K hK => ?_)
  simp [aNil, e5, hlen, hsl, st5, wrap_i64 (a := (T.length : Int)) (by omega)]
  apply hK; clear hK K
  obtain ⟨tv7, e7, -, -, -, eq7⟩ := S6.get
  have l7 := eq7 a (by simp; omega)
  rw [List.getElem_set_ne (by omega), List.getElem_set_self] at l7
  obtain ⟨H8, st8, S8, K8⟩ := S6.setL (i := a) (by simp; omega) (x + 1)
  rw [Int.natCast_add, Int.natCast_one] at st8
  refine L_reg [0, 2, 7] (fun K hK => ?_)
  simp [aNil, e7, l7, han, wrap_i64 (a := (x : Int) + 1) (by omega), st8]
  apply hK; clear hK K
  obtain ⟨tv9, e9, -, -, -, eq9⟩ := S8.get
  have l9 := eq9 b (by simp; omega)
  rw [List.getElem_set_ne (by omega), List.getElem_set_self] at l9
  obtain ⟨H10, st10, S10, K10⟩ := S8.setL (i := b) (by simp; omega) (y + 1)
  rw [Int.natCast_add, Int.natCast_one] at st10
  refine L_reg [7] (fun K hK => ?_)
  simp [aNil, e9, l9, hb, wrap_i64 (a := (y : Int) + 1) (by omega), st10]
  apply hK; clear hK K
  refine L_reg [6] (fun K hK => ?_)
  simp
  apply hK; clear hK K
  have hLL : (((L.set a x).set b y).set a (x + 1)).set b (y + 1) = L := by
    apply List.ext_getElem (by simp)
    intro i h3 h4
    rw [List.getElem_set]
    split
    · rename_i e; subst e; exact eb.symm
    · rw [List.getElem_set]
      split
      · rename_i e; subst e; exact ea.symm
      · rw [List.getElem_set_ne (by omega), List.getElem_set_ne (by omega)]
  rw [hLL] at S10
  have hb5 := S5.big
  exact L_ret ⟨.inr rfl, _, rfl, h1 t _ S10 (hF.keep hb5 hS.mps hS.mq ((K6.trans K8).trans K10) hJ5)⟩
theorem pre_get {pre l : List Nat} {x a : Nat} (h : pre.length = a) : (pre ++ x :: l)[a]? = some x := by subst h; simp
theorem pre_get2 {pre done l : List Nat} {x y a b : Nat} (h : pre.length = a) (hb : b = a + 1 + done.length) : (pre ++ x :: (done ++ y :: l))[b]? = some y := by
  subst h; subst hb
  rw [List.getElem?_append_right (by omega), show pre.length + 1 + done.length - pre.length = done.length + 1 by omega, List.getElem?_cons_succ]
  simp
theorem pre_set {pre done l : List Nat} {x y x' y' a b : Nat} (h : pre.length = a) (hb : b = a + 1 + done.length) : ((pre ++ x :: (done ++ y :: l)).set a x').set b y' = pre ++ x' :: (done ++ y' :: l) := by
  subst h; subst hb
  rw [List.set_append_right _ _ (by omega), Nat.sub_self, List.set_cons_zero, List.set_append_right _ _ (by omega), show pre.length + 1 + done.length - pre.length = done.length + 1 by omega, List.set_cons_succ, List.set_append_right _ _ (by omega), Nat.sub_self, List.set_cons_zero]
theorem ld_get {L : List Nat} {H : AH} {i x : Nat} (h : ∀ i (hi : i < L.length), ld H q i lv = some (.int .i64 (L[i] : Nat))) (hx : L[i]? = some x) : ld H q i lv = some (.int .i64 (x : Nat)) := by
  obtain ⟨hi, e⟩ := List.getElem?_eq_some_iff.1 hx
  rw [h i hi, e]
theorem row_from (hF : Fed r M J Z) (hn : n ≤ 8) (k a : Nat) (hk : a + (k + 1) = n)
    (ih : ∀ (L : List Nat) (T : List Tb), L.length = n → (∀ x ∈ L, x ≤ 8) → T.length + k * 8 < 1000 → FromOk r M ps q n lv J Z (a + 1) (a + 2) L T ((sols k (a + 1) (L.drop (a + 1))).map (T ++ ·))) :
    ∀ (todo pre : List Nat) (x : Nat) (done : List Nat) (T : List Tb) (b : Nat), b = a + 1 + done.length → pre.length = a → (pre ++ x :: (done ++ todo)).length = n → (∀ z ∈ pre ++ x :: (done ++ todo), z ≤ 8) → T.length + k * 8 + todo.length < 1000 →
      FromOk r M ps q n lv J Z a b (pre ++ x :: (done ++ todo)) T ((row a (sols k (a + 1)) todo b x done).map (T ++ ·))
  | [], pre, x, done, T, b, hb, hp, hl, h8, hT => by
    intro rest H Q hS hJ h1
    obtain ⟨tv, e0, e1, e2, hTB, eq0⟩ := hS.get
    have hbn : b = n := by simp at hl; omega
    have l0 := ld_get eq0 (pre_get (l := done ++ []) (x := x) hp)
    refine L_body 72 Try.func89 rfl rfl ?_
    refine L_reg [0, 1, 2] (fun K hK => ?_)
    simp
    apply hK; clear hK K
    refine L_reg [0, 1, 2, 13] (fun K hK => ?_)
    simp [e0, aNil]
    apply hK; clear hK K
    refine L_false (by simp; omega) ?_
    refine L_reg [0, 1, 2, 29] (fun K hK => ?_)
    simp [e0, aNil]
    apply hK; clear hK K
    refine L_true (by simp; omega) ?_
    refine L_reg [0, 1, 37] (fun K hK => ?_)
    simp [e0, aNil, l0, show a < n by omega]
    apply hK; clear hK K
    by_cases hx : x = 0
    · subst hx
      refine L_false (by simp) ?_
      have hih := ih (pre ++ 0 :: (done ++ [])) T hl h8 (by simp at hT; omega)
      have hd : (pre ++ 0 :: (done ++ [])).drop (a + 1) = done := by
        rw [List.append_nil, ← hp, List.drop_append, List.drop_of_length_le (by omega), show pre.length + 1 - pre.length = 1 by omega]
        rfl
      rw [hd] at hih
      refine L_reg [6] (fun K hK => ?_)
      simp [okFn_low, wrap_i64 (a := (a : Int) + 1) (by omega), wrap_i64 (a := (a : Int) + 2) (by omega)]
      refine hih rest H _ hS (by simpa [row] using hJ) (fun t H5 S5 hJ5 => ?_)
      simp
      apply hK; clear hK K
      exact L_ret ⟨.inr rfl, _, rfl, h1 t _ S5 hJ5⟩
    · refine L_true (by simp; omega) ?_
      refine L_reg [6] (fun K hK => ?_)
      simp
      apply hK; clear hK K
      exact L_ret ⟨.inr rfl, _, rfl, h1 true _ hS (by simpa [row, hx] using hJ)⟩
  | y :: todo, pre, x, done, T, b, hb, hp, hl, h8, hT => by
    intro rest H Q hS hJ h1
    obtain ⟨tv, e0, e1, e2, hTB, eq0⟩ := hS.get
    have hlb : b < n := by simp at hl; omega
    have l0 := ld_get eq0 (pre_get (l := done ++ y :: todo) (x := x) hp)
    have l1 := ld_get eq0 (pre_get2 (done := done) (x := x) (y := y) (l := todo) hp hb)
    have hx8 : x ≤ 8 := h8 x (by simp)
    have hy8 : y ≤ 8 := h8 y (by simp)
    have eL : done ++ y :: todo = (done ++ [y]) ++ todo := by simp
    have nxt : ∀ (rest : List (List Tb)) (H : AH) (Q : AV → AH → Prop), Sst ps q M n lv r (pre ++ x :: (done ++ y :: todo)) T H → J ((row a (sols k (a + 1)) todo (b + 1) x (done ++ [y])).map (T ++ ·) ++ rest) H →
        (∀ (t : Bool) H', Sst ps q M n lv r (pre ++ x :: (done ++ y :: todo)) T H' → (if t = true then J rest H' else ∃ l, ps < l ∧ q < l ∧ Z l H') → Q (.bool t) H') → AC Try.prog 89 [.ptr ps 0 0, .int .i64 a, .int .i64 (b + 1 : Nat)] H Q := by
      have := row_from hF hn k a hk ih todo pre x (done ++ [y]) T (b + 1) (by simp; omega) hp (by rw [← eL]; exact hl) (by rw [← eL]; exact h8) (by simp at hT; omega)
      rw [← eL] at this
      exact this
    have tail : ∀ (H : AH) (e : Env), Sst ps q M n lv r (pre ++ x :: (done ++ y :: todo)) T H → J ((row a (sols k (a + 1)) todo (b + 1) x (done ++ [y])).map (T ++ ·) ++ rest) H → ∀ Q2 : AV → AH → Prop, (∀ (t : Bool) H', Q (.bool t) H' → Q2 (.bool t) H') → AC Try.prog 89 [.ptr ps 0 0, .int .i64 a, .int .i64 (b + 1 : Nat)] H Q2 := fun H e hS hJ Q2 hQ => nxt rest H Q2 hS hJ fun t H' g1 g2 => hQ t H' (h1 t H' g1 g2)
    refine L_body 72 Try.func89 rfl rfl ?_
    refine L_reg [0, 1, 2] (fun K hK => ?_)
    simp
    apply hK; clear hK K
    refine L_reg [0, 1, 2, 13] (fun K hK => ?_)
    simp [e0, aNil]
    apply hK; clear hK K
    refine L_false (by simp; omega) ?_
    refine L_reg [0, 1, 2, 29] (fun K hK => ?_)
    simp [e0, aNil]
    apply hK; clear hK K
    refine L_false (by simp; omega) ?_
    by_cases c : 0 < x ∧ 0 < y
    · obtain ⟨x, rfl⟩ : ∃ z, x = z + 1 := ⟨x - 1, by omega⟩
      obtain ⟨y, rfl⟩ : ∃ z, y = z + 1 := ⟨y - 1, by omega⟩
      rw [row, if_pos ⟨by omega, by omega⟩, List.map_append, List.append_assoc, List.map_map] at hJ
      simp only [Nat.add_sub_cancel] at hJ
      refine L_reg [0, 1, 2, 61] (fun K hK => ?_)
      simp [e0, aNil, l0, l1, show a < n by omega, hlb, pickV, show (0 : Int) < (x : Int) + 1 by omega, show (0 : Int) < (y : Int) + 1 by omega]
      apply hK; clear hK K
      refine L_true (by simp) ?_
      refine L_reg [0, 1, 2, 66] (fun K hK => ?_)
      simp [okFn_low]
      have hfrom := row_from hF hn k a hk ih todo pre x (done ++ [y]) (T ++ [(a, b)]) (b + 1) (by simp; omega) hp (by simp at hl ⊢; omega) (fun z hz => by
        simp at hz
        rcases hz with hz | rfl | hz | rfl | hz
        · exact h8 z (by simp [hz])
        · omega
        · exact h8 z (by simp [hz])
        · omega
        · exact h8 z (by simp [hz])) (by simp at hT ⊢; omega)
      have e3 : pre ++ x :: (done ++ [y] ++ todo) = ((pre ++ (x + 1) :: (done ++ (y + 1) :: todo)).set a x).set b y := by rw [pre_set hp hb]; simp
      rw [e3] at hfrom
      have e4 : ((T ++ [(a, b)]) ++ · : List Tb → List Tb) = (T ++ ·) ∘ ((a, b) :: ·) := by funext z; simp
      rw [e4] at hfrom
      refine with_ok hF a b x y (by omega) _ T _ hlb hl hn (pre_get hp) (pre_get2 hp hb) (by omega) (by omega) (by simp at hT; omega) hfrom _ H _ hS hJ (fun t H5 S5 hJ5 => ?_)
      simp
      apply hK; clear hK K
      cases t with
      | false =>
        refine L_true (by simp) ?_
        refine L_reg [6] (fun K hK => ?_)
        simp
        apply hK; clear hK K
        exact L_ret ⟨.inr rfl, _, rfl, h1 false _ S5 hJ5⟩
      | true =>
        refine L_false (by simp) ?_
        refine L_reg [6] (fun K hK => ?_)
        simp [okFn_low, wrap_i64 (a := (b : Int) + 1) (by omega)]
        refine tail H5 [] S5 (by simpa using hJ5) _ (fun t H' hq => ?_)
        simp
        apply hK; clear hK K
        exact L_ret ⟨.inr rfl, _, rfl, hq⟩
    · rw [row, if_neg c, List.nil_append] at hJ
      have fin : ∀ (cs : List (Bool)), True := fun _ => trivial
      by_cases cx : 0 < x
      · have cy : ¬ 0 < y := fun h => c ⟨cx, h⟩
        obtain rfl : y = 0 := by omega
        obtain ⟨x, rfl⟩ : ∃ z, x = z + 1 := ⟨x - 1, by omega⟩
        refine L_reg [0, 1, 2, 61] (fun K hK => ?_)
        simp [e0, aNil, l0, l1, show a < n by omega, hlb, pickV, show (0 : Int) < (x : Int) + 1 by omega]
        apply hK; clear hK K
        refine L_false (by simp) ?_
        refine L_reg [6] (fun K hK => ?_)
        simp [okFn_low, wrap_i64 (a := (b : Int) + 1) (by omega)]
        refine tail H [] hS hJ _ (fun t H' hq => ?_)
        simp
        apply hK; clear hK K
        exact L_ret ⟨.inr rfl, _, rfl, hq⟩
      · obtain rfl : x = 0 := by omega
        refine L_reg [0, 1, 2, 61] (fun K hK => ?_)
        simp [e0, aNil, l0, show a < n by omega, pickV]
        apply hK; clear hK K
        refine L_false (by simp) ?_
        refine L_reg [6] (fun K hK => ?_)
        simp [okFn_low, wrap_i64 (a := (b : Int) + 1) (by omega)]
        refine tail H [] hS hJ _ (fun t H' hq => ?_)
        simp
        apply hK; clear hK K
        exact L_ret ⟨.inr rfl, _, rfl, hq⟩
theorem from_ok (hF : Fed r M J Z) (hn : n ≤ 8) : ∀ (k a : Nat), a + k = n → ∀ (L : List Nat) (T : List Tb), L.length = n → (∀ x ∈ L, x ≤ 8) → T.length + k * 8 < 1000 → FromOk r M ps q n lv J Z a (a + 1) L T ((sols k a (L.drop a)).map (T ++ ·))
  | 0, a, hk, L, T, hL, h8, hT => by
    obtain rfl : a = n := by omega
    have := from_end (n := a) (ps := ps) (q := q) (lv := lv) hF L T
    simpa [sols] using this
  | k + 1, a, hk, L, T, hL, h8, hT => by
    have ha : a < L.length := by omega
    have e : L = L.take a ++ L[a] :: ([] ++ L.drop (a + 1)) := by rw [List.nil_append, ← List.drop_eq_getElem_cons ha, List.take_append_drop]
    have hd : L.drop a = L[a] :: L.drop (a + 1) := List.drop_eq_getElem_cons ha
    have := row_from hF hn k a hk (fun L T g1 g2 g3 => from_ok hF hn k (a + 1) (by omega) L T g1 g2 g3) (L.drop (a + 1)) (L.take a) L[a] [] T (a + 1) rfl (by simp; omega) (by rw [← e]; exact hL) (by rw [← e]; exact h8) (by simp; omega)
    rw [← e] at this
    rw [hd, sols]
    exact this
end
end Go.Proofs.Ytbimapbcpmeooaa.Cl
