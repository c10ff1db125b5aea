/- The reference makes the first plan. -/
import Derived.Test.YtbimapbcpmeooaaRefC
import Derived.Test.YtbimapbcpmeooaaWorks
namespace Go.Proofs.Ytbimapbcpmeooaa.Cl
open Go Go.Proofs.Ytbimapbcpmeooaa Go.Proofs.Ytbimapbcpmeooaa.AX
set_option maxRecDepth 100000
set_option linter.unusedVariables false
section
variable {P : Program} {nt : Nat} {ops : Array Oper} {e : Env} {H H0 : AH}
@[simp] theorem wu_consG (b : Bool) (ms : List Bool) (d : Option Tmp) (op : Op) (t : TypeId) (p : String) (af : Array Edge) (j : Nat) (want : Bool) (rest : List Oper) (K : Env → AH → Prop) : wpU P nt ops H0 (b :: ms) (⟨d, op, t, p, af, some (j, want)⟩ :: rest) e H K = wantS (guardVal (slotV e (slotOf ops j)) want)
      (dstOk nt d = true ∧
        if isFnCall op then callS (opCall P (oval e) op) fun f args => exX P H f args (holdQ (fun v H' => wpU P nt ops H0 ms rest (putDst e d (some v)) H' K) ⟨⟩)
        else if b then resS (execN P (oval e) H0 op) (holdQ (fun v _ => wpU P nt ops H0 ms rest (putDst e d v) H K) ⟨⟩)
        else resS (execN P (oval e) H op) (holdQ (fun v H' => extO op H0 H' ∧ wpU P nt ops H0 ms rest (putDst e d v) H' K) ⟨⟩))
      (wpU P nt ops H0 ms rest (putDst e d none) H K) := by
  have : wantedA ops e ⟨d, op, t, p, af, some (j, want)⟩ = guardVal (slotV e (slotOf ops j)) want := by
    unfold wantedA guardVal slotOf slotV
    simp only []
    cases (ops[j]?).bind (·.dst) <;> rfl
  rw [wpU, this]
  rfl
end
/-- Operations that call nothing, run by the kernel; what a guard leaves out is skipped. -/
def runP (P : Program) (nt : Nat) (ops : Array Oper) : List Oper → Env → AH → Option (Env × AH)
  | [], e, H => some (e, H)
  | o :: rest, e, H =>
    match wantedT ops e o with
    | some false => runP P nt ops rest (putSkip e o.dst) H
    | some true => if isFnCall o.op then none else match execN P (oval e) H o.op with
      | some (v, H') => if dstOk nt o.dst then runP P nt ops rest (putDst e o.dst v) H' else none
      | none => none
    | none => none
theorem runT_app {P : Program} {nt : Nat} {ops : Array Oper} {m : List Oper} {K : Env → AH → Prop} : ∀ {l : List Oper} {e e' : Env} {H H' : AH}, runP P nt ops l e H = some (e', H') → wpT P nt ops m e' H' K → wpT P nt ops (l ++ m) e H K
  | [], e, e', H, H', h, hk => by
    simp only [runP, Option.some.injEq, Prod.mk.injEq] at h
    obtain ⟨rfl, rfl⟩ := h
    exact hk
  | o :: rest, e, e', H, H', h, hk => by
    rw [List.cons_append]
    unfold runP at h
    unfold wpT
    split at h
    · rename_i hw
      rw [hw]
      exact ⟨fun h0 => (by cases h0), fun _ => runT_app h hk⟩
    · rename_i hw
      rw [hw]
      refine ⟨fun _ => ?_, fun h0 => (by cases h0)⟩
      by_cases hf : isFnCall o.op = true
      · rw [if_pos hf] at h; cases h
      · rw [if_neg hf] at h ⊢
        split at h
        · rename_i v H1 hx
          by_cases hd : dstOk nt o.dst = true
          · rw [if_pos hd] at h
            rw [hx]
            exact ⟨hd, runT_app h hk⟩
          · rw [if_neg hd] at h; cases h
        · cases h
    · cases h
theorem wpT_end {P : Program} {nt : Nat} {ops : Array Oper} {l : List Oper} {e E : Env} {H : AH} {ks : List Nat} {K : Env → AH → Prop} (hl : l = []) (h : ekeep ks e = E) (hk : K E H) : wpT P nt ops l e H fun e H => K (ekeep ks e) H := by
  subst hl; subst h
  unfold wpT
  exact hk
theorem wpT_cut {P : Program} {nt : Nat} {ops : Array Oper} {l : List Oper} {e e' : Env} {H : AH} {K : Env → AH → Prop} (n : Nat) (h1 : runP P nt ops (l.take n) e H = some (e', H)) (h2 : wpT P nt ops (l.drop n) e' H K) : wpT P nt ops l e H K := by
  rw [← List.take_append_drop n l]
  exact runT_app h1 h2
theorem wpT_step {P : Program} {nt : Nat} {ops : Array Oper} {l : List Oper} {e e' : Env} {H : AH} {K : Env → AH → Prop} {o : Oper} {v : Option AV} (ho : l.take 1 = [o]) (hw : wantedT ops e o = some true) (hf : isFnCall o.op = false) (hd : dstOk nt o.dst = true) (hx : execN P (oval e) H o.op = some (v, H)) (he : putDst e o.dst v = e') (hk : wpT P nt ops (l.drop 1) e' H K) : wpT P nt ops l e H K := by
  rw [← List.take_append_drop 1 l, ho, List.singleton_append]
  unfold wpT
  subst he
  rw [hw, hf, hx]
  exact ⟨fun _ => ⟨hd, hk⟩, fun h => (by cases h)⟩
theorem wpT_call {P : Program} {nt : Nat} {ops : Array Oper} {l : List Oper} {e e' : Env} {H : AH} {K : Env → AH → Prop} {o : Oper} {f : FuncId} {args : List AV} (v : AV) (H1 : AH) (hA : ∀ Q : AV → AH → Prop, Q v H1 → AC P f args H Q) (ho : l.take 1 = [o]) (hw : wantedT ops e o = some true) (hf : isFnCall o.op = true) (hd : dstOk nt o.dst = true) (hc : opCall P (oval e) o.op = some (f, args)) (he : putDst e o.dst (some v) = e') (hk : wpT P nt ops (l.drop 1) e' H1 K) : wpT P nt ops l e H K := by
  rw [← List.take_append_drop 1 l, ho, List.singleton_append]
  unfold wpT
  rw [hw, hf]
  refine ⟨fun _ => ⟨hd, ?_⟩, fun h => (by cases h)⟩
  rw [if_pos rfl, hc]
  exact ⟨v, H1, hA _ ⟨rfl, rfl⟩, by rw [he]; exact hk⟩
theorem AC.tidyK {P : Program} {f : FuncId} {args : List AV} {H : AH} {T : List Tb} (hne : T ≠ []) (h : ∀ Q : AV → AH → Prop, (∀ v' H', OwnK 2 H.length H' v' (tb T) → Ext H H' → Q v' H') → AC P f args H Q) (Q : AV → AH → Prop)
    (hq : Q (.slice (some H.length) 0 T.length 0 2 false) (H ++ [.row (tcl T) 0 (T.length * 2) false])) : AC P f args H Q := by
  refine AC_fin (h _ fun v' H' hO hE => ?_)
  refine ⟨⟨hE.1, fun r o hr ho => .inl (by rw [← hE.2 r hr]; exact ho)⟩, ?_⟩
  have ht : H'.take H.length = H := by
    obtain ⟨T, rfl⟩ := hE.app
    simp
  obtain ⟨-, ⟨h0, -⟩ | ⟨r, ver, stale, hr, rfl, hrow⟩⟩ := hO
  · exact absurd (by simpa [tb] using h0) hne
  · have hl := tcl_len T
    have hrow : H'[r]? = some (.row (tcl T) ver stale false) := hrow
    rw [tb_len]
    have h1 : belB H.length 4 (.slice (some r) 0 T.length ver 2 false) = false := by simp [belB]; omega
    have h2 : finSlice H.length H' (.slice (some r) 0 T.length ver 2 false) = some (.slice (some H.length) 0 T.length 0 2 false, .row (tcl T) 0 (T.length * 2) false) := by
      simp only [finSlice, hrow, if_pos hr, Nat.zero_add, List.drop_zero]
      rw [List.take_of_length_le (by omega), if_pos ⟨trivial, by omega, belB_tcl _ _⟩]
    have hf : finish H.length H' (.slice (some r) 0 T.length ver 2 false) = (.slice (some H.length) 0 T.length 0 2 false, H ++ [.row (tcl T) 0 (T.length * 2) false]) := by
      unfold finish
      rw [h1]
      simp only [Bool.false_eq_true, if_false, h2, ht]
    rw [hf]; exact hq
theorem rs_new (H : AH) (T : List Tb) (s : Nat) : Rs 2 (H ++ [.row (tcl T) 0 s false]) (.slice (some H.length) 0 T.length 0 2 false) (tb T) :=
  OwnK.rs (N := 0) ⟨tb_ok T, .inr ⟨H.length, 0, s, Nat.zero_le _, by rw [tb_len], by simp [tcl]⟩⟩
theorem wt_pos (a : Nat) {m s : Nat} (hs : s < 2 ^ m) (h : s ≠ 0) : ∀ b, wt a b (bt m s) ≠ [] := by
  intro b he
  have h1 := wt_len a b (bt m s)
  rw [he] at h1
  have : ∀ (m s : Nat), s < 2 ^ m → tr (bt m s) = 0 → s = 0 := by
    intro m
    induction m with
    | zero => intro s hs _; simp at hs; omega
    | succ m ih =>
      intro s hs ht
      rw [Nat.pow_succ] at hs
      rw [bt] at ht
      by_cases e : s % 2 = 1
      · simp [e, tr] at ht
      · have := ih (s / 2) (by omega) (by simpa [e, tr] using ht)
        omega
  exact h (this m s hs (by simpa using h1.symm))
theorem with_x (a m s : Nat) (ha : a ≤ 100) (hm : m ≤ 30) (hs : s < 2 ^ m) (H : AH) : ∃ v' H', (∀ Q : AV → AH → Prop, Q v' H' → AC Try.prog 93 [.int .i64 a, .int .i64 s] H Q) ∧ Rs 2 H' v' (tb (wt a (a + 1) (bt m s))) ∧ Ext H H' := by
  by_cases h0 : s = 0
  · subst h0
    refine ⟨.slice none 0 0 0 1 false, H, fun Q h => ?_, ?_, .refl _⟩
    · refine L_body 28 Try.func93 rfl rfl ?_
      refine L_reg [0, 1] (fun K hK => ?_)
      simp
      apply hK; clear hK K
      refine L_reg [0, 1, 5] (fun K hK => ?_)
      simp
      apply hK; clear hK K
      refine L_reg [0, 1, 5, 6] (fun K hK => ?_)
      simp
      apply hK; clear hK K
      refine L_block (L_loopV [5, 6] (fun q vs H' => q = 0 ∧ vs = [.slice none 0 0 0 1 false, .int .i64 0] ∧ H = H') _ [.slice none 0 0 0 1 false, .int .i64 0] rfl ⟨rfl, rfl, rfl⟩ ?_)
      rintro q _ _ ⟨rfl, rfl, rfl⟩
      refine L_reg [0, 1, 5, 6, 10] (fun K hK => ?_)
      simp
      apply hK; clear hK K
      refine L_false (by simp) (L_exit ?_)
      refine L_reg [4] (fun K hK => ?_)
      simp
      apply hK; clear hK K
      exact L_ret ⟨.inr rfl, _, rfl, h⟩
    · rw [wt_zero _ _ _ (bt_zero _)]
      exact Rs.nil 2 H
  · exact ⟨_, _, fun Q h => AC.tidyK (wt_pos a hs h0 (a + 1)) (fun Q h => with_ac a m s ha hm hs H Q h) Q h, rs_new H _ _, .push _ _⟩
theorem src_rs {H : AH} {v : AV} {T : List Tb} (h : Rs 2 H v (tb T)) : aSrc Try.prog H 32 2 v = some (T.length, tcl T) := by
  obtain ⟨e, I, g1, -⟩ := elK_some ek32
  obtain ⟨r, off, ver, sz, full, rfl, hld⟩ := h
  rw [tb_len]
  cases T with
  | nil => cases r <;> simp [aSrc, g1, tcl, tb]
  | cons p T =>
    obtain ⟨r', rfl, rfl, -⟩ := hld 0 (by simp [tb])
    have hfl : ldn H r' ver ((p :: T).length * 2) off = some (tcl (p :: T)) := by
      have := rs_flat (k := 2) (H := H) (r := r') (ver := ver) (off := off) (l := tb (p :: T)) fun i hi => by
        obtain ⟨r2, e2, -, h3⟩ := hld i hi
        cases e2
        exact h3
      rw [tb_len] at this
      exact this
    simp only [aSrc, g1]
    rw [if_pos ⟨trivial, by simp⟩, hfl]; rfl
theorem tcl_one (T : List Tb) : (tcl T).all AV.one = true := by
  rw [List.all_eq_true]
  intro x hx
  obtain ⟨y, hy, hxy⟩ := List.mem_flatten.1 hx
  exact (tb_ok _ y hy).2 x hxy
theorem tcl_cat (T S : List Tb) : tcl (T ++ S) = tcl T ++ tcl S := by simp [tcl, tb]
/-- append(u, w...) -/
theorem ownK_cat {H H0 : AH} (hE : Ext H0 H) {u w : AV} {T S : List Tb} (ho : OwnK 2 H0.length H u (tb T)) (hw : Rs 2 H w (tb S)) (hl : T.length + S.length ≤ 16777216) :
    ∃ v' H', aAppend Try.prog H 32 32 u w = some (v', H') ∧ OwnK 2 H0.length H' v' (tb (T ++ S)) ∧ Ext H0 H' := by
  obtain ⟨e, I, g1, g2, g3, g4, hk0, -⟩ := elK_some ek32
  have hsrc := src_rs hw
  have hall := tcl_one S
  have hcl := tcl_len S
  have hct := tcl_len T
  have hle := hE.1
  obtain ⟨hrows, ho⟩ := ho
  unfold aAppend
  rcases ho with ⟨h0, rfl⟩ | ⟨r, ver, stale, hr0, rfl, hr⟩
  · obtain rfl : T = [] := by simpa [tb] using h0
    rw [List.nil_append]
    by_cases hs : S = []
    · subst hs
      refine ⟨.slice none 0 0 0 1 false, H, ?_, OwnK.nil _ _ _, hE⟩
      simp [g1, g2, g3, g4, hsrc, tcl, tb]
    · have hpos : S.length ≠ 0 := fun h => hs (List.length_eq_zero_iff.1 h)
      have hm : S.length ≤ 16777216 := by omega
      refine ⟨.slice (some H.length) 0 S.length 0 2 false, H ++ [.row (tcl S) 0 0 false], ?_, ⟨tb_ok S, .inr ⟨H.length, 0, 0, by omega, by rw [tb_len], by simp [tcl]⟩⟩, hE.trans (.push _ _)⟩
      simp only [g1, g2, g3, hsrc, hall, Option.bind_some]
      simp [g4, hcl, hpos, hm]
  · have hr : H[r]? = some (.row (tcl T) ver stale false) := hr
    have hlt : r < H.length := (List.getElem?_eq_some_iff.1 hr).1
    rw [tb_len]
    by_cases hs : S = []
    · subst hs
      refine ⟨.slice (some r) 0 T.length ver 2 false, H, ?_, ?_, hE⟩
      · simp [g1, g2, g3, g4, hsrc, tcl, tb]
      · rw [List.append_nil]
        exact ⟨hrows, .inr ⟨r, ver, stale, hr0, by rw [tb_len], hr⟩⟩
    · have hpos : S.length ≠ 0 := fun h => hs (List.length_eq_zero_iff.1 h)
      refine ⟨.slice (some r) 0 (T.length + S.length) (ver + 1) 2 false, H.set r (AObj.row (tcl T ++ tcl S) (ver + 1) (min stale (T.length * 2)) false), ?_, ⟨tb_ok _, .inr ⟨r, ver + 1, min stale (T.length * 2), hr0, by rw [tb_len, List.length_append], ?_⟩⟩, hE.set _ hr0⟩
      · have hin : inPlace H r 0 T.length S.length ver 2 (tcl S) = none := by
          simp only [inPlace, hr]
          rw [if_neg]
          rintro ⟨-, h5⟩
          rw [hct, Nat.add_mul] at h5
          omega
        have hgr : grow H r 0 (T.length * 2) ver (tcl S) = some (H.set r (AObj.row (tcl T ++ tcl S) (ver + 1) (min stale (T.length * 2)) false), ver + 1) := by
          simp only [grow, hr]
          rw [if_pos ⟨trivial, by omega, .inl trivial⟩]
          simp only [List.replicate_zero, List.nil_append, List.drop_zero, Nat.zero_add, List.take_of_length_le (Nat.le_of_eq hct)]
        simp only [g1, g2, g3, hsrc, hall, hin, hgr, Option.bind_some, Option.map_some]
        simp [g4, hcl, hpos, hl]
      · rw [get_set hr, ← tcl_cat]; rfl
def bv : Option Nat → Int
  | none => -1
  | some b => (b : Int)
theorem best_no {x n : Nat} {l : List Nat} {b : Option Nat} (h : BestN x l (n + 1) (if gd x l n = true ∧ (∀ c, b = some c → ltB (bt l.length n) (bt l.length c) = true) then some n else b)) (hn : ¬ (gd x l n = true ∧ (∀ c, b = some c → ltB (bt l.length n) (bt l.length c) = true))) : BestN x l (n + 1) b := by
  rw [if_neg hn] at h
  exact h
theorem best_yes {x n : Nat} {l : List Nat} {b : Option Nat} (h : BestN x l (n + 1) (if gd x l n = true ∧ (∀ c, b = some c → ltB (bt l.length n) (bt l.length c) = true) then some n else b)) (hn : gd x l n = true ∧ (∀ c, b = some c → ltB (bt l.length n) (bt l.length c) = true)) : BestN x l (n + 1) (some n) := by
  rw [if_pos hn] at h
  exact h
theorem sumP (c : List Nat) (hb : ∀ y ∈ c, y ≤ 8) (h8 : c.length ≤ 8) : c.sum ≤ 64 := by
  have := sum_le8 hb
  omega
theorem tk_le : ∀ (S : List Bool) (l : List Nat), (tk S l).length ≤ l.length
  | [], l => by simp [tk]
  | true :: S, [] => by simp [tk]
  | false :: S, [] => by simp [tk]
  | true :: S, y :: l => by have := tk_le S l; simp [tk]; omega
  | false :: S, y :: l => by have := tk_le S l; simp [tk]; omega
theorem bst_le (x : Nat) (l : List Nat) : tr (bst x l) ≤ l.length := by
  unfold bst
  cases hf : (ss x l).find? fun T => canB (tk T l) with
  | none => simp [tr]
  | some T =>
    have h1 := (mem_ss.1 (List.mem_of_find?_eq_some hf)).1
    have h2 := tr_le T
    simp only [Option.getD_some]
    omega
theorem mdd_len : ∀ (n a : Nat) (c : List Nat), c.length ≤ n → (mdd n a c).length ≤ n * n
  | 0, a, c, _ => by simp [mdd]
  | n + 1, a, [], _ => by simp [mdd]
  | n + 1, a, x :: l, h => by
    have h1 : l.length ≤ n := by simpa using h
    have h2 := bst_le x l
    have h3 := tk_le (bst x l) l
    have h4 := mdd_len n (a + 1) (tk (bst x l) l) (by omega)
    rw [mdd, List.length_append, wt_len, Nat.mul_add, Nat.add_mul]
    omega
theorem canB_nil : canB [] = true := by decide
set_option maxHeartbeats 4000000 in
theorem made_ac : ∀ (n : Nat) (c : List Nat) (a : Nat) (v : AV), c.length = n → n ≤ 8 → a + n ≤ 60 → (∀ y ∈ c, y ≤ 8) → canB c = true → ∀ (H : AH), Ls H v (il c) → ∀ (Q : AV → AH → Prop), (∀ v' H', OwnK 2 H.length H' v' (tb (mdd n a c)) → Ext H H' → Q v' H') → AC Try.prog 69 [v, .int .i64 a] H Q
  | 0, c, a, v, hn, h8, ha, hb, hc, H, hv, Q, h => by
    have hvl := ils_len hv
    obtain rfl : c = [] := List.length_eq_zero_iff.1 hn
    refine L_body 74 Try.func69 rfl rfl ?_
    refine L_reg [0, 1] (fun K hK => ?_)
    simp
    apply hK; clear hK K
    refine L_reg [0, 1, 13] (fun K hK => ?_)
    simp [hvl]
    apply hK; clear hK K
    refine L_true (by simp) ?_
    refine L_reg [4] (fun K hK => ?_)
    simp
    apply hK; clear hK K
    exact L_ret ⟨.inr rfl, _, rfl, h _ _ (OwnK.nil _ _ _) (.refl _)⟩
  | n + 1, [], a, v, hn, h8, ha, hb, hc, H, hv, Q, h => by simp at hn
  | n + 1, x :: l, a, v, hn, h8, ha, hb, hc, H, hv, Q, h => by
    have hl : l.length = n := by simpa using hn
    have hvl := ils_len hv
    have hp2 : 2 ^ l.length ≤ 2 ^ 8 := Nat.pow_le_pow_right (by omega) (by omega)
    have hsm := fun h => best_some (x := x) (l := l) (by omega) hc h
    have hbe := fun b h => best_end (x := x) (l := l) (b := b) h
    have hbs := fun n b h1 h2 => best_step (x := x) (l := l) (n := n) (b := b) h1 h2
    refine L_body 74 Try.func69 rfl rfl ?_
    refine L_reg [0, 1] (fun K hK => ?_)
    simp
    apply hK; clear hK K
    refine L_reg [0, 1, 13] (fun K hK => ?_)
    simp [hvl]
    apply hK; clear hK K
    refine L_false (by simp; omega) ?_
    refine L_reg [0, 1, 5] (fun K hK => ?_)
    simp
    apply hK; clear hK K
    refine L_reg [0, 1, 5, 6] (fun K hK => ?_)
    simp
    apply hK; clear hK K
    obtain ⟨N, hN⟩ : ∃ N, 2 ^ l.length = N := ⟨_, rfl⟩
    rw [hN] at hp2 hsm hbe
    refine L_block (L_loopV [5, 6] (fun q vs H' => ∃ (s : Nat) (b : Option Nat), q = N - s ∧ s ≤ N ∧ vs = [.int .i64 (bv b), .int .i64 s] ∧ Ext H H' ∧ BestN x l s b) _ [.int .i64 (-1), .int .i64 (0 : Nat)] rfl ⟨0, none, rfl, Nat.zero_le _, rfl, .refl _, fun s hs => by omega⟩ ?_)
    rintro q _ H1 ⟨s, b, rfl, hs, rfl, hE, hB⟩
    have hv1 := hv.ext hE
    have hvl1 := ils_len hv1
    rw [List.length_cons] at hvl1
    have hsh : IntKind.i64.wrap (2 ^ min l.length IntKind.i64.bits) = (N : Int) := by
      have e : min l.length IntKind.i64.bits = l.length := by show min l.length 64 = l.length; omega
      have e2 : (2 : Int) ^ l.length = (N : Int) := by rw [← hN, Int.natCast_pow]; rfl
      rw [e, e2]
      exact wrap_i64 (by omega)
    refine L_reg [0, 1, 5, 6, 19] (fun K hK => ?_)
    simp [hvl1, wrap_i64 (a := (l.length : Int)) (by omega), hsh]
    apply hK; clear hK K
    refine L_dec (s < N) (by simp) (fun hlt => ?_) (fun hge => L_exit ?_)
    · refine L_block ?_
      have hst := hbs s b (by omega) hB
      refine L_reg [0, 1, 5, 6, 7, 8] (fun K hK => ?_)
      simp [okFn_low]
      refine less_ac x l s v (by omega) hb (by omega) H1 hv1 _ (fun hvd u H2 ho hE2 => ?_) (fun hvd H2 hE2 => ?_)
      · simp
        apply hK; clear hK K
        have hE12 := hE.trans hE2
        obtain ⟨r2, p2, v2, x2, y2⟩ := il_ix (hv1.ext hE2) (i := 0) (by simp)
        rw [List.getElem_cons_zero] at y2
        have x2' : ∀ k, aIndexAddr Try.prog 22 v (.int k 0) = some (.ptr r2 p2 v2) := fun k => x2 k
        have hu := ownF_ls ho
        have hul := ils_len hu
        have htl := tk_len (bt_len l.length s)
        rw [htl] at hul
        by_cases ct : tr (bt l.length s) = x
        · have hgd : gd x l s = canB (tk (bt l.length s) l) := by unfold gd; rw [decide_eq_true ct, hvd]; simp
          have e2 : (((tr (bt l.length s) : Nat) : Int) == (x : Int)) = true := by rw [beq_iff_eq]; omega
          by_cases h0 : l.length = 0
          · have hb0 : b = none := by
              cases b with
              | none => rfl
              | some b0 =>
                have := hB.1
                rw [h0] at hN
                simp at hN
                omega
            subst hb0
            have hl0 : l = [] := List.length_eq_zero_iff.1 h0
            have hl1 : ((l.length : Int) == 0) = true := by rw [beq_iff_eq]; omega
            show AWL _ _ _ [(0, v), (1, .int .i64 (a : Nat)), (5, .int .i64 (-1)), (6, .int .i64 (s : Nat)), (7, u), (8, .bool true)] _ _
            refine L_regU mixed [false, false, false, false, false, false, true] [0, 1, 5, 6, 58] (by kernel_rfl) (fun K hK => ?_)
            suffices hk : K [(0, v), (1, .int .i64 (a : Nat)), (5, .int .i64 (-1)), (6, .int .i64 (s : Nat)), (58, .bool true)] H2 by
              simp [okFn_low, -wu_nil]
              refine exX_mk (fun Q hQ => size_q l.length s (by omega) (by omega) _ Q hQ) (.refl _) ?_
              simp [x2', y2, -wu_nil]
              rw [wu_nil]
              refine wpT_cut 1 (e' := [(0, v), (1, .int .i64 (a : Nat)), (5, .int .i64 (-1)), (6, .int .i64 (s : Nat)), (7, u), (8, .bool true), (28, .bool true), (29, .bool true), (30, .int .i64 (s : Nat)), (31, .int .i64 (tr (bt l.length s) : Nat)), (32, v), (33, .ptr r2 p2 v2), (34, .int .i64 (x : Nat)), (35, .bool ((tr (bt l.length s) : Int) == (x : Int)))]) (by kernel_rfl) ?_
              rw [e2]
              refine wpT_cut 3 (e' := [(0, v), (1, .int .i64 (a : Nat)), (5, .int .i64 (-1)), (6, .int .i64 (s : Nat)), (7, u), (8, .bool true), (28, .bool true), (29, .bool true), (30, .int .i64 (s : Nat)), (31, .int .i64 (tr (bt l.length s) : Nat)), (32, v), (33, .ptr r2 p2 v2), (34, .int .i64 (x : Nat)), (35, .bool true), (36, .bool true), (37, .bool true), (38, u)]) (by kernel_rfl) ?_
              refine wpT_step (v := some (.int .i64 (l.length : Nat))) (e' := [(0, v), (1, .int .i64 (a : Nat)), (5, .int .i64 (-1)), (6, .int .i64 (s : Nat)), (7, u), (8, .bool true), (28, .bool true), (29, .bool true), (30, .int .i64 (s : Nat)), (31, .int .i64 (tr (bt l.length s) : Nat)), (32, v), (33, .ptr r2 p2 v2), (34, .int .i64 (x : Nat)), (35, .bool true), (36, .bool true), (37, .bool true), (38, u), (39, .int .i64 (l.length : Nat))]) rfl (by kernel_rfl) rfl rfl (by simp [hul]) (by kernel_rfl) ?_
              refine wpT_cut 1 (e' := [(0, v), (1, .int .i64 (a : Nat)), (5, .int .i64 (-1)), (6, .int .i64 (s : Nat)), (7, u), (8, .bool true), (28, .bool true), (29, .bool true), (30, .int .i64 (s : Nat)), (31, .int .i64 (tr (bt l.length s) : Nat)), (32, v), (33, .ptr r2 p2 v2), (34, .int .i64 (x : Nat)), (35, .bool true), (36, .bool true), (37, .bool true), (38, u), (39, .int .i64 (l.length : Nat)), (40, .bool ((l.length : Int) == 0))]) (by kernel_rfl) ?_
              rw [hl1]
              refine wpT_cut 6 (e' := [(0, v), (1, .int .i64 (a : Nat)), (5, .int .i64 (-1)), (6, .int .i64 (s : Nat)), (7, u), (8, .bool true), (28, .bool true), (29, .bool true), (30, .int .i64 (s : Nat)), (31, .int .i64 (tr (bt l.length s) : Nat)), (32, v), (33, .ptr r2 p2 v2), (34, .int .i64 (x : Nat)), (35, .bool true), (36, .bool true), (37, .bool true), (38, u), (39, .int .i64 (l.length : Nat)), (40, .bool true), (41, .bool true), (42, .tuple []), (43, .tuple []), (44, .bool true), (45, .bool true), (46, .bool true)]) (by kernel_rfl) ?_
              refine wpT_cut 12 (e' := [(0, v), (1, .int .i64 (a : Nat)), (5, .int .i64 (-1)), (6, .int .i64 (s : Nat)), (7, u), (8, .bool true), (28, .bool true), (29, .bool true), (30, .int .i64 (s : Nat)), (31, .int .i64 (tr (bt l.length s) : Nat)), (32, v), (33, .ptr r2 p2 v2), (34, .int .i64 (x : Nat)), (35, .bool true), (36, .bool true), (37, .bool true), (38, u), (39, .int .i64 (l.length : Nat)), (40, .bool true), (41, .bool true), (42, .tuple []), (43, .tuple []), (44, .bool true), (45, .bool true), (46, .bool true), (47, .int .i64 (-1)), (48, .bool true), (49, .bool true), (50, .tuple []), (51, .tuple []), (52, .tuple []), (53, .tuple []), (54, .tuple []), (55, .tuple []), (56, .tuple []), (57, .bool true), (58, .bool true)]) (by kernel_rfl) ?_
              exact wpT_end (by kernel_rfl) (by kernel_rfl) hk
            apply hK; clear hK K
            refine L_true rfl ?_
            refine L_reg [0, 1, 5, 6] (fun K hK => ?_)
            simp
            apply hK; clear hK K
            refine L_reg [0, 1, 5, 6] (fun K hK => ?_)
            simp [wrap_i64 (a := (s : Int) + 1) (by omega)]
            apply hK; clear hK K
            exact ⟨N - (s + 1), [.int .i64 (s : Nat), .int .i64 (s + 1 : Nat)], by omega, by simp, s + 1, some s, rfl, by omega, rfl, hE12, best_yes hst ⟨by rw [hgd]; subst hl0; exact canB_nil, fun c e => by cases e⟩⟩
          · have hcan := fun Q hQ => can_q (tk (bt l.length s) l) u (mem_tk fun y hy => hb y (by simp [hy])) (by rw [htl]; omega) H2 hu Q hQ
            have hl0 : ((l.length : Int) == 0) = false := by rw [beq_eq_false_iff_ne]; omega
            by_cases hcb : canB (tk (bt l.length s) l) = true
            · rw [hcb] at hcan hgd
              cases b with
              | none =>
                show AWL _ _ _ [(0, v), (1, .int .i64 (a : Nat)), (5, .int .i64 (-1)), (6, .int .i64 (s : Nat)), (7, u), (8, .bool true)] _ _
                refine L_regU mixed [false, false, false, false, false, false, true] [0, 1, 5, 6, 58] (by kernel_rfl) (fun K hK => ?_)
                suffices hk : K [(0, v), (1, .int .i64 (a : Nat)), (5, .int .i64 (-1)), (6, .int .i64 (s : Nat)), (58, .bool true)] H2 by
                  simp [okFn_low, -wu_nil]
                  refine exX_mk (fun Q hQ => size_q l.length s (by omega) (by omega) _ Q hQ) (.refl _) ?_
                  simp [x2', y2, -wu_nil]
                  rw [wu_nil]
                  refine wpT_cut 1 (e' := [(0, v), (1, .int .i64 (a : Nat)), (5, .int .i64 (-1)), (6, .int .i64 (s : Nat)), (7, u), (8, .bool true), (28, .bool true), (29, .bool true), (30, .int .i64 (s : Nat)), (31, .int .i64 (tr (bt l.length s) : Nat)), (32, v), (33, .ptr r2 p2 v2), (34, .int .i64 (x : Nat)), (35, .bool ((tr (bt l.length s) : Int) == (x : Int)))]) (by kernel_rfl) ?_
                  rw [e2]
                  refine wpT_cut 3 (e' := [(0, v), (1, .int .i64 (a : Nat)), (5, .int .i64 (-1)), (6, .int .i64 (s : Nat)), (7, u), (8, .bool true), (28, .bool true), (29, .bool true), (30, .int .i64 (s : Nat)), (31, .int .i64 (tr (bt l.length s) : Nat)), (32, v), (33, .ptr r2 p2 v2), (34, .int .i64 (x : Nat)), (35, .bool true), (36, .bool true), (37, .bool true), (38, u)]) (by kernel_rfl) ?_
                  refine wpT_step (v := some (.int .i64 (l.length : Nat))) (e' := [(0, v), (1, .int .i64 (a : Nat)), (5, .int .i64 (-1)), (6, .int .i64 (s : Nat)), (7, u), (8, .bool true), (28, .bool true), (29, .bool true), (30, .int .i64 (s : Nat)), (31, .int .i64 (tr (bt l.length s) : Nat)), (32, v), (33, .ptr r2 p2 v2), (34, .int .i64 (x : Nat)), (35, .bool true), (36, .bool true), (37, .bool true), (38, u), (39, .int .i64 (l.length : Nat))]) rfl (by kernel_rfl) rfl rfl (by simp [hul]) (by kernel_rfl) ?_
                  refine wpT_cut 1 (e' := [(0, v), (1, .int .i64 (a : Nat)), (5, .int .i64 (-1)), (6, .int .i64 (s : Nat)), (7, u), (8, .bool true), (28, .bool true), (29, .bool true), (30, .int .i64 (s : Nat)), (31, .int .i64 (tr (bt l.length s) : Nat)), (32, v), (33, .ptr r2 p2 v2), (34, .int .i64 (x : Nat)), (35, .bool true), (36, .bool true), (37, .bool true), (38, u), (39, .int .i64 (l.length : Nat)), (40, .bool ((l.length : Int) == 0))]) (by kernel_rfl) ?_
                  rw [hl0]
                  refine wpT_cut 2 (e' := [(0, v), (1, .int .i64 (a : Nat)), (5, .int .i64 (-1)), (6, .int .i64 (s : Nat)), (7, u), (8, .bool true), (28, .bool true), (29, .bool true), (30, .int .i64 (s : Nat)), (31, .int .i64 (tr (bt l.length s) : Nat)), (32, v), (33, .ptr r2 p2 v2), (34, .int .i64 (x : Nat)), (35, .bool true), (36, .bool true), (37, .bool true), (38, u), (39, .int .i64 (l.length : Nat)), (40, .bool false), (41, .bool false), (42, u)]) (by kernel_rfl) ?_
                  refine wpT_call (.bool true) H2 hcan (e' := [(0, v), (1, .int .i64 (a : Nat)), (5, .int .i64 (-1)), (6, .int .i64 (s : Nat)), (7, u), (8, .bool true), (28, .bool true), (29, .bool true), (30, .int .i64 (s : Nat)), (31, .int .i64 (tr (bt l.length s) : Nat)), (32, v), (33, .ptr r2 p2 v2), (34, .int .i64 (x : Nat)), (35, .bool true), (36, .bool true), (37, .bool true), (38, u), (39, .int .i64 (l.length : Nat)), (40, .bool false), (41, .bool false), (42, u), (43, .bool true)]) rfl (by kernel_rfl) rfl rfl (by kernel_rfl) (by kernel_rfl) ?_
                  refine wpT_cut 3 (e' := [(0, v), (1, .int .i64 (a : Nat)), (5, .int .i64 (-1)), (6, .int .i64 (s : Nat)), (7, u), (8, .bool true), (28, .bool true), (29, .bool true), (30, .int .i64 (s : Nat)), (31, .int .i64 (tr (bt l.length s) : Nat)), (32, v), (33, .ptr r2 p2 v2), (34, .int .i64 (x : Nat)), (35, .bool true), (36, .bool true), (37, .bool true), (38, u), (39, .int .i64 (l.length : Nat)), (40, .bool false), (41, .bool false), (42, u), (43, .bool true), (44, .bool true), (45, .bool true), (46, .bool true)]) (by kernel_rfl) ?_
                  refine wpT_cut 12 (e' := [(0, v), (1, .int .i64 (a : Nat)), (5, .int .i64 (-1)), (6, .int .i64 (s : Nat)), (7, u), (8, .bool true), (28, .bool true), (29, .bool true), (30, .int .i64 (s : Nat)), (31, .int .i64 (tr (bt l.length s) : Nat)), (32, v), (33, .ptr r2 p2 v2), (34, .int .i64 (x : Nat)), (35, .bool true), (36, .bool true), (37, .bool true), (38, u), (39, .int .i64 (l.length : Nat)), (40, .bool false), (41, .bool false), (42, u), (43, .bool true), (44, .bool true), (45, .bool true), (46, .bool true), (47, .int .i64 (-1)), (48, .bool true), (49, .bool true), (50, .tuple []), (51, .tuple []), (52, .tuple []), (53, .tuple []), (54, .tuple []), (55, .tuple []), (56, .tuple []), (57, .bool true), (58, .bool true)]) (by kernel_rfl) ?_
                  exact wpT_end (by kernel_rfl) (by kernel_rfl) hk
                apply hK; clear hK K
                refine L_true rfl ?_
                refine L_reg [0, 1, 5, 6] (fun K hK => ?_)
                simp
                apply hK; clear hK K
                refine L_reg [0, 1, 5, 6] (fun K hK => ?_)
                simp [wrap_i64 (a := (s : Int) + 1) (by omega)]
                apply hK; clear hK K
                exact ⟨N - (s + 1), [.int .i64 (s : Nat), .int .i64 (s + 1 : Nat)], by omega, by simp, s + 1, some s, rfl, by omega, rfl, hE12, best_yes hst ⟨hgd, fun c e => by cases e⟩⟩
              | some b0 =>
                have hb0 := hB.1
                have hg0 := (mem_ss_bt.1 (gd_ss hB.2.1).1).1
                obtain ⟨w1, H3, hw1, rw1, hE3⟩ := with_x a l.length s (by omega) (by omega) (by omega) H2
                obtain ⟨w2, H4, hw2, rw2, hE4⟩ := with_x a l.length b0 (by omega) (by omega) (by omega) H3
                have rw1' := rw1.ext hE4
                have hln : (wt a (a + 1) (bt l.length s)).length = (wt a (a + 1) (bt l.length b0)).length := by rw [wt_len, wt_len, ct, hg0]
                have htr := tr_le (bt l.length s)
                rw [bt_len] at htr
                have hsml := fun Q hQ => smaller_q _ _ w1 w2 hln (by rw [wt_len]; omega) H4 rw1' rw2 Q hQ
                rw [smP_wt a (a + 1) _ _ (by rw [bt_len, bt_len]) (by rw [ct, hg0])] at hsml
                have hn1 : decide ((b0 : Int) < 0) = false := decide_eq_false (by omega)
                have hE14 := (hE12.trans hE3).trans hE4
                obtain ⟨lt, hlt2⟩ : ∃ lt, ltB (bt l.length s) (bt l.length b0) = lt := ⟨_, rfl⟩
                rw [hlt2] at hsml
                show AWL _ _ _ [(0, v), (1, .int .i64 (a : Nat)), (5, .int .i64 (b0 : Nat)), (6, .int .i64 (s : Nat)), (7, u), (8, .bool true)] _ _
                refine L_regU mixed [false, false, false, false, false, false, true] [0, 1, 5, 6, 58] (by kernel_rfl) (fun K hK => ?_)
                suffices hk : K [(0, v), (1, .int .i64 (a : Nat)), (5, .int .i64 (b0 : Nat)), (6, .int .i64 (s : Nat)), (58, .bool lt)] H4 by
                  simp [okFn_low, -wu_nil]
                  refine exX_mk (fun Q hQ => size_q l.length s (by omega) (by omega) _ Q hQ) (.refl _) ?_
                  simp [x2', y2, -wu_nil]
                  rw [wu_nil]
                  refine wpT_cut 1 (e' := [(0, v), (1, .int .i64 (a : Nat)), (5, .int .i64 (b0 : Nat)), (6, .int .i64 (s : Nat)), (7, u), (8, .bool true), (28, .bool true), (29, .bool true), (30, .int .i64 (s : Nat)), (31, .int .i64 (tr (bt l.length s) : Nat)), (32, v), (33, .ptr r2 p2 v2), (34, .int .i64 (x : Nat)), (35, .bool ((tr (bt l.length s) : Int) == (x : Int)))]) (by kernel_rfl) ?_
                  rw [e2]
                  refine wpT_cut 3 (e' := [(0, v), (1, .int .i64 (a : Nat)), (5, .int .i64 (b0 : Nat)), (6, .int .i64 (s : Nat)), (7, u), (8, .bool true), (28, .bool true), (29, .bool true), (30, .int .i64 (s : Nat)), (31, .int .i64 (tr (bt l.length s) : Nat)), (32, v), (33, .ptr r2 p2 v2), (34, .int .i64 (x : Nat)), (35, .bool true), (36, .bool true), (37, .bool true), (38, u)]) (by kernel_rfl) ?_
                  refine wpT_step (v := some (.int .i64 (l.length : Nat))) (e' := [(0, v), (1, .int .i64 (a : Nat)), (5, .int .i64 (b0 : Nat)), (6, .int .i64 (s : Nat)), (7, u), (8, .bool true), (28, .bool true), (29, .bool true), (30, .int .i64 (s : Nat)), (31, .int .i64 (tr (bt l.length s) : Nat)), (32, v), (33, .ptr r2 p2 v2), (34, .int .i64 (x : Nat)), (35, .bool true), (36, .bool true), (37, .bool true), (38, u), (39, .int .i64 (l.length : Nat))]) rfl (by kernel_rfl) rfl rfl (by simp [hul]) (by kernel_rfl) ?_
                  refine wpT_cut 1 (e' := [(0, v), (1, .int .i64 (a : Nat)), (5, .int .i64 (b0 : Nat)), (6, .int .i64 (s : Nat)), (7, u), (8, .bool true), (28, .bool true), (29, .bool true), (30, .int .i64 (s : Nat)), (31, .int .i64 (tr (bt l.length s) : Nat)), (32, v), (33, .ptr r2 p2 v2), (34, .int .i64 (x : Nat)), (35, .bool true), (36, .bool true), (37, .bool true), (38, u), (39, .int .i64 (l.length : Nat)), (40, .bool ((l.length : Int) == 0))]) (by kernel_rfl) ?_
                  rw [hl0]
                  refine wpT_cut 2 (e' := [(0, v), (1, .int .i64 (a : Nat)), (5, .int .i64 (b0 : Nat)), (6, .int .i64 (s : Nat)), (7, u), (8, .bool true), (28, .bool true), (29, .bool true), (30, .int .i64 (s : Nat)), (31, .int .i64 (tr (bt l.length s) : Nat)), (32, v), (33, .ptr r2 p2 v2), (34, .int .i64 (x : Nat)), (35, .bool true), (36, .bool true), (37, .bool true), (38, u), (39, .int .i64 (l.length : Nat)), (40, .bool false), (41, .bool false), (42, u)]) (by kernel_rfl) ?_
                  refine wpT_call (.bool true) H2 hcan (e' := [(0, v), (1, .int .i64 (a : Nat)), (5, .int .i64 (b0 : Nat)), (6, .int .i64 (s : Nat)), (7, u), (8, .bool true), (28, .bool true), (29, .bool true), (30, .int .i64 (s : Nat)), (31, .int .i64 (tr (bt l.length s) : Nat)), (32, v), (33, .ptr r2 p2 v2), (34, .int .i64 (x : Nat)), (35, .bool true), (36, .bool true), (37, .bool true), (38, u), (39, .int .i64 (l.length : Nat)), (40, .bool false), (41, .bool false), (42, u), (43, .bool true)]) rfl (by kernel_rfl) rfl rfl (by kernel_rfl) (by kernel_rfl) ?_
                  refine wpT_cut 3 (e' := [(0, v), (1, .int .i64 (a : Nat)), (5, .int .i64 (b0 : Nat)), (6, .int .i64 (s : Nat)), (7, u), (8, .bool true), (28, .bool true), (29, .bool true), (30, .int .i64 (s : Nat)), (31, .int .i64 (tr (bt l.length s) : Nat)), (32, v), (33, .ptr r2 p2 v2), (34, .int .i64 (x : Nat)), (35, .bool true), (36, .bool true), (37, .bool true), (38, u), (39, .int .i64 (l.length : Nat)), (40, .bool false), (41, .bool false), (42, u), (43, .bool true), (44, .bool true), (45, .bool true), (46, .bool true)]) (by kernel_rfl) ?_
                  refine wpT_cut 2 (e' := [(0, v), (1, .int .i64 (a : Nat)), (5, .int .i64 (b0 : Nat)), (6, .int .i64 (s : Nat)), (7, u), (8, .bool true), (28, .bool true), (29, .bool true), (30, .int .i64 (s : Nat)), (31, .int .i64 (tr (bt l.length s) : Nat)), (32, v), (33, .ptr r2 p2 v2), (34, .int .i64 (x : Nat)), (35, .bool true), (36, .bool true), (37, .bool true), (38, u), (39, .int .i64 (l.length : Nat)), (40, .bool false), (41, .bool false), (42, u), (43, .bool true), (44, .bool true), (45, .bool true), (46, .bool true), (47, .int .i64 (b0 : Nat)), (48, .bool (decide ((b0 : Int) < 0)))]) (by kernel_rfl) ?_
                  rw [hn1]
                  refine wpT_cut 3 (e' := [(0, v), (1, .int .i64 (a : Nat)), (5, .int .i64 (b0 : Nat)), (6, .int .i64 (s : Nat)), (7, u), (8, .bool true), (28, .bool true), (29, .bool true), (30, .int .i64 (s : Nat)), (31, .int .i64 (tr (bt l.length s) : Nat)), (32, v), (33, .ptr r2 p2 v2), (34, .int .i64 (x : Nat)), (35, .bool true), (36, .bool true), (37, .bool true), (38, u), (39, .int .i64 (l.length : Nat)), (40, .bool false), (41, .bool false), (42, u), (43, .bool true), (44, .bool true), (45, .bool true), (46, .bool true), (47, .int .i64 (b0 : Nat)), (48, .bool false), (49, .bool false), (50, .int .i64 (a : Nat)), (51, .int .i64 (s : Nat))]) (by kernel_rfl) ?_
                  refine wpT_call w1 H3 hw1 (e' := [(0, v), (1, .int .i64 (a : Nat)), (5, .int .i64 (b0 : Nat)), (6, .int .i64 (s : Nat)), (7, u), (8, .bool true), (28, .bool true), (29, .bool true), (30, .int .i64 (s : Nat)), (31, .int .i64 (tr (bt l.length s) : Nat)), (32, v), (33, .ptr r2 p2 v2), (34, .int .i64 (x : Nat)), (35, .bool true), (36, .bool true), (37, .bool true), (38, u), (39, .int .i64 (l.length : Nat)), (40, .bool false), (41, .bool false), (42, u), (43, .bool true), (44, .bool true), (45, .bool true), (46, .bool true), (47, .int .i64 (b0 : Nat)), (48, .bool false), (49, .bool false), (50, .int .i64 (a : Nat)), (51, .int .i64 (s : Nat)), (52, w1)]) rfl (by kernel_rfl) rfl rfl (by kernel_rfl) (by kernel_rfl) ?_
                  refine wpT_cut 2 (e' := [(0, v), (1, .int .i64 (a : Nat)), (5, .int .i64 (b0 : Nat)), (6, .int .i64 (s : Nat)), (7, u), (8, .bool true), (28, .bool true), (29, .bool true), (30, .int .i64 (s : Nat)), (31, .int .i64 (tr (bt l.length s) : Nat)), (32, v), (33, .ptr r2 p2 v2), (34, .int .i64 (x : Nat)), (35, .bool true), (36, .bool true), (37, .bool true), (38, u), (39, .int .i64 (l.length : Nat)), (40, .bool false), (41, .bool false), (42, u), (43, .bool true), (44, .bool true), (45, .bool true), (46, .bool true), (47, .int .i64 (b0 : Nat)), (48, .bool false), (49, .bool false), (50, .int .i64 (a : Nat)), (51, .int .i64 (s : Nat)), (52, w1), (53, .int .i64 (a : Nat)), (54, .int .i64 (b0 : Nat))]) (by kernel_rfl) ?_
                  refine wpT_call w2 H4 hw2 (e' := [(0, v), (1, .int .i64 (a : Nat)), (5, .int .i64 (b0 : Nat)), (6, .int .i64 (s : Nat)), (7, u), (8, .bool true), (28, .bool true), (29, .bool true), (30, .int .i64 (s : Nat)), (31, .int .i64 (tr (bt l.length s) : Nat)), (32, v), (33, .ptr r2 p2 v2), (34, .int .i64 (x : Nat)), (35, .bool true), (36, .bool true), (37, .bool true), (38, u), (39, .int .i64 (l.length : Nat)), (40, .bool false), (41, .bool false), (42, u), (43, .bool true), (44, .bool true), (45, .bool true), (46, .bool true), (47, .int .i64 (b0 : Nat)), (48, .bool false), (49, .bool false), (50, .int .i64 (a : Nat)), (51, .int .i64 (s : Nat)), (52, w1), (53, .int .i64 (a : Nat)), (54, .int .i64 (b0 : Nat)), (55, w2)]) rfl (by kernel_rfl) rfl rfl (by kernel_rfl) (by kernel_rfl) ?_
                  refine wpT_call (.bool lt) H4 hsml (e' := [(0, v), (1, .int .i64 (a : Nat)), (5, .int .i64 (b0 : Nat)), (6, .int .i64 (s : Nat)), (7, u), (8, .bool true), (28, .bool true), (29, .bool true), (30, .int .i64 (s : Nat)), (31, .int .i64 (tr (bt l.length s) : Nat)), (32, v), (33, .ptr r2 p2 v2), (34, .int .i64 (x : Nat)), (35, .bool true), (36, .bool true), (37, .bool true), (38, u), (39, .int .i64 (l.length : Nat)), (40, .bool false), (41, .bool false), (42, u), (43, .bool true), (44, .bool true), (45, .bool true), (46, .bool true), (47, .int .i64 (b0 : Nat)), (48, .bool false), (49, .bool false), (50, .int .i64 (a : Nat)), (51, .int .i64 (s : Nat)), (52, w1), (53, .int .i64 (a : Nat)), (54, .int .i64 (b0 : Nat)), (55, w2), (56, .bool lt)]) rfl (by kernel_rfl) rfl rfl (by kernel_rfl) (by kernel_rfl) ?_
                  refine wpT_cut 2 (e' := [(0, v), (1, .int .i64 (a : Nat)), (5, .int .i64 (b0 : Nat)), (6, .int .i64 (s : Nat)), (7, u), (8, .bool true), (28, .bool true), (29, .bool true), (30, .int .i64 (s : Nat)), (31, .int .i64 (tr (bt l.length s) : Nat)), (32, v), (33, .ptr r2 p2 v2), (34, .int .i64 (x : Nat)), (35, .bool true), (36, .bool true), (37, .bool true), (38, u), (39, .int .i64 (l.length : Nat)), (40, .bool false), (41, .bool false), (42, u), (43, .bool true), (44, .bool true), (45, .bool true), (46, .bool true), (47, .int .i64 (b0 : Nat)), (48, .bool false), (49, .bool false), (50, .int .i64 (a : Nat)), (51, .int .i64 (s : Nat)), (52, w1), (53, .int .i64 (a : Nat)), (54, .int .i64 (b0 : Nat)), (55, w2), (56, .bool lt), (57, .bool lt), (58, .bool lt)]) (by kernel_rfl) ?_
                  exact wpT_end (by kernel_rfl) (by kernel_rfl) hk
                apply hK; clear hK K
                cases lt with
                | true =>
                  refine L_true rfl ?_
                  refine L_reg [0, 1, 5, 6] (fun K hK => ?_)
                  simp
                  apply hK; clear hK K
                  refine L_reg [0, 1, 5, 6] (fun K hK => ?_)
                  simp [wrap_i64 (a := (s : Int) + 1) (by omega)]
                  apply hK; clear hK K
                  exact ⟨N - (s + 1), [.int .i64 (s : Nat), .int .i64 (s + 1 : Nat)], by omega, by simp, s + 1, some s, rfl, by omega, rfl, hE14, best_yes hst ⟨hgd, fun c e => by cases e; exact hlt2⟩⟩
                | false =>
                  refine L_false rfl ?_
                  refine L_reg [0, 1, 5, 6] (fun K hK => ?_)
                  simp [wrap_i64 (a := (s : Int) + 1) (by omega)]
                  apply hK; clear hK K
                  exact ⟨N - (s + 1), [.int .i64 (b0 : Nat), .int .i64 (s + 1 : Nat)], by omega, by simp, s + 1, some b0, rfl, by omega, rfl, hE14, best_no hst fun hg => by rw [hg.2 b0 rfl] at hlt2; cases hlt2⟩
            · have hcb' : canB (tk (bt l.length s) l) = false := by simpa using hcb
              rw [hcb'] at hcan hgd
              refine L_regU mixed [false, false, false, false, false, false, true] [0, 1, 5, 6, 58] (by kernel_rfl) (fun K hK => ?_)
              suffices hk : K [(0, v), (1, .int .i64 (a : Nat)), (5, .int .i64 (bv b)), (6, .int .i64 (s : Nat)), (58, .bool false)] H2 by
                simp [okFn_low, -wu_nil]
                refine exX_mk (fun Q hQ => size_q l.length s (by omega) (by omega) _ Q hQ) (.refl _) ?_
                simp [x2', y2, -wu_nil]
                rw [wu_nil]
                refine wpT_cut 1 (e' := [(0, v), (1, .int .i64 (a : Nat)), (5, .int .i64 (bv b)), (6, .int .i64 (s : Nat)), (7, u), (8, .bool true), (28, .bool true), (29, .bool true), (30, .int .i64 (s : Nat)), (31, .int .i64 (tr (bt l.length s) : Nat)), (32, v), (33, .ptr r2 p2 v2), (34, .int .i64 (x : Nat)), (35, .bool ((tr (bt l.length s) : Int) == (x : Int)))]) (by kernel_rfl) ?_
                rw [e2]
                refine wpT_cut 3 (e' := [(0, v), (1, .int .i64 (a : Nat)), (5, .int .i64 (bv b)), (6, .int .i64 (s : Nat)), (7, u), (8, .bool true), (28, .bool true), (29, .bool true), (30, .int .i64 (s : Nat)), (31, .int .i64 (tr (bt l.length s) : Nat)), (32, v), (33, .ptr r2 p2 v2), (34, .int .i64 (x : Nat)), (35, .bool true), (36, .bool true), (37, .bool true), (38, u)]) (by kernel_rfl) ?_
                refine wpT_step (v := some (.int .i64 (l.length : Nat))) (e' := [(0, v), (1, .int .i64 (a : Nat)), (5, .int .i64 (bv b)), (6, .int .i64 (s : Nat)), (7, u), (8, .bool true), (28, .bool true), (29, .bool true), (30, .int .i64 (s : Nat)), (31, .int .i64 (tr (bt l.length s) : Nat)), (32, v), (33, .ptr r2 p2 v2), (34, .int .i64 (x : Nat)), (35, .bool true), (36, .bool true), (37, .bool true), (38, u), (39, .int .i64 (l.length : Nat))]) rfl (by kernel_rfl) rfl rfl (by simp [hul]) (by kernel_rfl) ?_
                refine wpT_cut 1 (e' := [(0, v), (1, .int .i64 (a : Nat)), (5, .int .i64 (bv b)), (6, .int .i64 (s : Nat)), (7, u), (8, .bool true), (28, .bool true), (29, .bool true), (30, .int .i64 (s : Nat)), (31, .int .i64 (tr (bt l.length s) : Nat)), (32, v), (33, .ptr r2 p2 v2), (34, .int .i64 (x : Nat)), (35, .bool true), (36, .bool true), (37, .bool true), (38, u), (39, .int .i64 (l.length : Nat)), (40, .bool ((l.length : Int) == 0))]) (by kernel_rfl) ?_
                rw [hl0]
                refine wpT_cut 2 (e' := [(0, v), (1, .int .i64 (a : Nat)), (5, .int .i64 (bv b)), (6, .int .i64 (s : Nat)), (7, u), (8, .bool true), (28, .bool true), (29, .bool true), (30, .int .i64 (s : Nat)), (31, .int .i64 (tr (bt l.length s) : Nat)), (32, v), (33, .ptr r2 p2 v2), (34, .int .i64 (x : Nat)), (35, .bool true), (36, .bool true), (37, .bool true), (38, u), (39, .int .i64 (l.length : Nat)), (40, .bool false), (41, .bool false), (42, u)]) (by kernel_rfl) ?_
                refine wpT_call (.bool false) H2 hcan (e' := [(0, v), (1, .int .i64 (a : Nat)), (5, .int .i64 (bv b)), (6, .int .i64 (s : Nat)), (7, u), (8, .bool true), (28, .bool true), (29, .bool true), (30, .int .i64 (s : Nat)), (31, .int .i64 (tr (bt l.length s) : Nat)), (32, v), (33, .ptr r2 p2 v2), (34, .int .i64 (x : Nat)), (35, .bool true), (36, .bool true), (37, .bool true), (38, u), (39, .int .i64 (l.length : Nat)), (40, .bool false), (41, .bool false), (42, u), (43, .bool false)]) rfl (by kernel_rfl) rfl rfl (by kernel_rfl) (by kernel_rfl) ?_
                refine wpT_cut 3 (e' := [(0, v), (1, .int .i64 (a : Nat)), (5, .int .i64 (bv b)), (6, .int .i64 (s : Nat)), (7, u), (8, .bool true), (28, .bool true), (29, .bool true), (30, .int .i64 (s : Nat)), (31, .int .i64 (tr (bt l.length s) : Nat)), (32, v), (33, .ptr r2 p2 v2), (34, .int .i64 (x : Nat)), (35, .bool true), (36, .bool true), (37, .bool true), (38, u), (39, .int .i64 (l.length : Nat)), (40, .bool false), (41, .bool false), (42, u), (43, .bool false), (44, .bool false), (45, .bool false), (46, .bool false)]) (by kernel_rfl) ?_
                refine wpT_cut 12 (e' := [(0, v), (1, .int .i64 (a : Nat)), (5, .int .i64 (bv b)), (6, .int .i64 (s : Nat)), (7, u), (8, .bool true), (28, .bool true), (29, .bool true), (30, .int .i64 (s : Nat)), (31, .int .i64 (tr (bt l.length s) : Nat)), (32, v), (33, .ptr r2 p2 v2), (34, .int .i64 (x : Nat)), (35, .bool true), (36, .bool true), (37, .bool true), (38, u), (39, .int .i64 (l.length : Nat)), (40, .bool false), (41, .bool false), (42, u), (43, .bool false), (44, .bool false), (45, .bool false), (46, .bool false), (47, .tuple []), (48, .tuple []), (49, .tuple []), (50, .tuple []), (51, .tuple []), (52, .tuple []), (53, .tuple []), (54, .tuple []), (55, .tuple []), (56, .tuple []), (57, .tuple []), (58, .bool false)]) (by kernel_rfl) ?_
                exact wpT_end (by kernel_rfl) (by kernel_rfl) hk
              apply hK; clear hK K
              refine L_false rfl ?_
              refine L_reg [0, 1, 5, 6] (fun K hK => ?_)
              simp [wrap_i64 (a := (s : Int) + 1) (by omega)]
              apply hK; clear hK K
              exact ⟨N - (s + 1), [.int .i64 (bv b), .int .i64 (s + 1 : Nat)], by omega, by simp, s + 1, b, rfl, by omega, rfl, hE12, best_no hst fun hg => by rw [hgd] at hg; cases hg.1⟩
        · have e2 : (((tr (bt l.length s) : Nat) : Int) == (x : Int)) = false := by rw [beq_eq_false_iff_ne]; omega
          refine L_regU mixed [false, false, false, false, false, false, true] [0, 1, 5, 6, 58] (by kernel_rfl) (fun K hK => ?_)
          suffices hk : K [(0, v), (1, .int .i64 (a : Nat)), (5, .int .i64 (bv b)), (6, .int .i64 (s : Nat)), (58, .bool false)] H2 by
            simp [okFn_low, -wu_nil]
            refine exX_mk (fun Q hQ => size_q l.length s (by omega) (by omega) _ Q hQ) (.refl _) ?_
            simp [x2', y2, -wu_nil]
            rw [wu_nil]
            refine wpT_cut 1 (e' := [(0, v), (1, .int .i64 (a : Nat)), (5, .int .i64 (bv b)), (6, .int .i64 (s : Nat)), (7, u), (8, .bool true), (28, .bool true), (29, .bool true), (30, .int .i64 (s : Nat)), (31, .int .i64 (tr (bt l.length s) : Nat)), (32, v), (33, .ptr r2 p2 v2), (34, .int .i64 (x : Nat)), (35, .bool ((tr (bt l.length s) : Int) == (x : Int)))]) (by kernel_rfl) ?_
            rw [e2]
            refine wpT_cut 23 (e' := [(0, v), (1, .int .i64 (a : Nat)), (5, .int .i64 (bv b)), (6, .int .i64 (s : Nat)), (7, u), (8, .bool true), (28, .bool true), (29, .bool true), (30, .int .i64 (s : Nat)), (31, .int .i64 (tr (bt l.length s) : Nat)), (32, v), (33, .ptr r2 p2 v2), (34, .int .i64 (x : Nat)), (35, .bool false), (36, .bool false), (37, .bool false), (38, .tuple []), (39, .tuple []), (40, .tuple []), (41, .tuple []), (42, .tuple []), (43, .tuple []), (44, .tuple []), (45, .bool false), (46, .bool false), (47, .tuple []), (48, .tuple []), (49, .tuple []), (50, .tuple []), (51, .tuple []), (52, .tuple []), (53, .tuple []), (54, .tuple []), (55, .tuple []), (56, .tuple []), (57, .tuple []), (58, .bool false)]) (by kernel_rfl) ?_
            exact wpT_end (by kernel_rfl) (by kernel_rfl) hk
          apply hK; clear hK K
          refine L_false rfl ?_
          refine L_reg [0, 1, 5, 6] (fun K hK => ?_)
          simp [wrap_i64 (a := (s : Int) + 1) (by omega)]
          apply hK; clear hK K
          exact ⟨N - (s + 1), [.int .i64 (bv b), .int .i64 (s + 1 : Nat)], by omega, by simp, s + 1, b, rfl, by omega, rfl, hE12, best_no hst fun hg => by have := hg.1; unfold gd at this; rw [decide_eq_false ct] at this; simp at this⟩
      · simp
        apply hK; clear hK K
        have hE12 := hE.trans hE2
        refine L_regU mixed [false, false, false, false, false, false, true] [0, 1, 5, 6, 58] (by kernel_rfl) (fun K hK => ?_)
        suffices hk : K [(0, v), (1, .int .i64 (a : Nat)), (5, .int .i64 (bv b)), (6, .int .i64 (s : Nat)), (58, .bool false)] H2 by
          simp [-wu_nil]
          rw [wu_nil]
          refine wpT_cut 24 (e' := [(0, v), (1, .int .i64 (a : Nat)), (5, .int .i64 (bv b)), (6, .int .i64 (s : Nat)), (7, .slice none 0 0 0 1 false), (8, .bool false), (28, .bool false), (29, .bool false), (35, .tuple []), (36, .bool false), (37, .bool false), (38, .tuple []), (39, .tuple []), (40, .tuple []), (41, .tuple []), (42, .tuple []), (43, .tuple []), (44, .tuple []), (45, .bool false), (46, .bool false), (47, .tuple []), (48, .tuple []), (49, .tuple []), (50, .tuple []), (51, .tuple []), (52, .tuple []), (53, .tuple []), (54, .tuple []), (55, .tuple []), (56, .tuple []), (57, .tuple []), (58, .bool false)]) (by kernel_rfl) ?_
          exact wpT_end (by kernel_rfl) (by kernel_rfl) hk
        apply hK; clear hK K
        refine L_false rfl ?_
        refine L_reg [0, 1, 5, 6] (fun K hK => ?_)
        simp [wrap_i64 (a := (s : Int) + 1) (by omega)]
        apply hK; clear hK K
        exact ⟨N - (s + 1), [.int .i64 (bv b), .int .i64 (s + 1 : Nat)], by omega, by simp, s + 1, b, rfl, by omega, rfl, hE12, best_no hst fun hg => by have := hg.1; unfold gd at this; rw [hvd] at this; simp at this⟩
    · obtain rfl : s = N := by omega
      cases b with
      | none => exact (hsm hB).elim
      | some b =>
        have hbst := hbe b hB
        have hg := gd_ss hB.2.1
        have hbN := hB.1
        have hvd := (mem_ss_bt.1 hg.1).2
        refine L_reg [1, 5, 9] (fun K hK => ?_)
        simp [okFn_low]
        refine less_ac x l b v (by omega) hb (by omega) H1 hv1 _ (fun _ u H2 ho hE2 => ?_) (fun hvn => by rw [hvd] at hvn; cases hvn)
        simp
        apply hK; clear hK K
        have htl := tk_len (bt_len l.length b)
        refine L_reg [4] (fun K hK => ?_)
        simp [okFn_low]
        refine with_ac a l.length b (by omega) (by omega) (by omega) H2 _ (fun w H3 hw hE3 => ?_)
        simp [okFn_low, wrap_i64 (a := (a : Int) + 1) (by omega)]
        have hu3 := (ownF_ls ho).ext hE3
        have ih := made_ac n (tk (bt l.length b) l) (a + 1) u (by rw [htl]; exact hl) (by omega) (by omega) (mem_tk fun y hy => hb y (by simp [hy])) hg.2 H3 hu3
        refine ih _ (fun z H4 hz hE4 => ?_)
        have hlw := wt_len a (a + 1) (bt l.length b)
        have htr := tr_le (bt l.length b)
        rw [bt_len] at htr
        have hw4 := hw.ext hE4
        obtain ⟨u5, H5, happ, ho5, hE5⟩ := ownK_cat (H0 := H2) (hE3.trans hE4) hw4 hz.rs (by have := mdd_len n (a + 1) (tk (bt l.length b) l) (by omega); have : n * n ≤ 8 * 8 := Nat.mul_le_mul (by omega) (by omega); omega)
        simp [happ]
        apply hK; clear hK K
        have hmd : mdd (n + 1) a (x :: l) = wt a (a + 1) (bt l.length b) ++ mdd n (a + 1) (tk (bt l.length b) l) := by rw [mdd, ← hbst]
        rw [← hmd] at ho5
        have hEE := hE.trans hE2
        obtain ⟨q1, q2⟩ := ho5
        refine L_ret ⟨.inr rfl, _, rfl, h _ _ ⟨q1, ?_⟩ (hEE.trans hE5)⟩
        rcases q2 with q2 | ⟨r, ver, st, q3, q4, q5⟩
        · exact .inl q2
        · exact .inr ⟨r, ver, st, by have := hEE.1; omega, q4, q5⟩
end Go.Proofs.Ytbimapbcpmeooaa.Cl
