/- Where beetles are, and when. -/
import Derived.Test.YtfbpgnjeafadmaaLw
namespace Go.Proofs.Ytfbpgnjeafadmaa.Fl
open Go Go.Proofs.Ytfbpgnjeafadmaa Go.Proofs.Ytfbpgnjeafadmaa.AX
set_option maxRecDepth 100000

/-- The neighbours that had some before, and two days before. -/
theorem near_day {r c n d : Nat} {O S : Nat → Bool} (hn : r * c = n) (_h25 : n ≤ 25) (hS : ∀ b, S b = true → b < n) {b : Nat} (hd : day r c O S b = (d : Nat)) (h1 : 1 ≤ d) :
    2 ≤ bes r c (tb (mOf (fun x => decide (0 ≤ day r c O S x ∧ day r c O S x < (d : Nat))) n)) b ∧ bes r c (tb (mOf (fun x => decide (0 ≤ day r c O S x ∧ day r c O S x < (d : Int) - 1)) n)) b ≤ 1 := by
  have hS' : ∀ b, S b = true → b < r * c := by rw [hn]; exact hS
  have hr := (day_range (r := r) (c := c) (O := O) (S := S) b).2
  have hD : ∀ t, t ≤ 25 → (fun x => decide (0 ≤ day r c O S x ∧ day r c O S x < ((t + 1 : Nat) : Int))) = D r c 2 O S t := by
    intro t ht
    funext x
    have := day_iff (t := t) (b := x) (r := r) (c := c) (O := O) (S := S) ht
    cases h : D r c 2 O S t x with
    | true => exact decide_eq_true (by have := this.2 h; omega)
    | false => exact decide_eq_false fun h2 => by rw [this.1 ⟨h2.1, by omega⟩] at h; cases h
  obtain ⟨d, rfl⟩ : ∃ e, d = e + 1 := ⟨d - 1, by omega⟩
  have hlt : d < 25 := by rw [hd] at hr; omega
  have g1 := hD d (by omega)
  rw [g1, mOf_fun (by rw [← hn]; exact D_sup hS' d)]
  have a1 : D r c 2 O S (d + 1) b = true := (day_iff (by omega)).1 ⟨by omega, by omega⟩
  have a0 : D r c 2 O S d b = false := by
    cases h : D r c 2 O S d b with
    | false => rfl
    | true => have := (day_iff (t := d) (b := b) (r := r) (c := c) (O := O) (S := S) (by omega)).2 h; omega
  have a2 := nxt_iff.1 a1
  rw [a0] at a2
  obtain ⟨b1, b2, b3⟩ : b < r * c ∧ O b = true ∧ 2 ≤ bes r c (D r c 2 O S d) b := by
    rcases a2 with h | h
    · cases h
    · exact h
  refine ⟨b3, ?_⟩
  have e : ((d + 1 : Nat) : Int) - 1 = (d : Int) := by omega
  rw [e]
  cases d with
  | zero =>
    have : (fun x => decide (0 ≤ day r c O S x ∧ day r c O S x < ((0 : Nat) : Int))) = none' := by
      funext x
      exact decide_eq_false (by omega)
    rw [this, mOf_fun (fun x hx => by simp [none'] at hx)]
    have : bes r c none' b = 0 := by
      unfold bes
      rw [List.countP_eq_zero]
      intro x _
      simp [none']
    omega
  | succ d =>
    rw [hD d (by omega), mOf_fun (by rw [← hn]; exact D_sup hS' d)]
    apply Classical.byContradiction
    intro hno
    have : D r c 2 O S (d + 1) b = true := nxt_iff.2 (.inr ⟨b1, b2, by omega⟩)
    rw [this] at a0; cases a0
theorem or1 {x sh : Nat} (hx : x < 4294967296) (hs : sh < 4294967296) (tt : TypeId) (ll : Bool) : binV Try.prog .or tt ll (.int .u32 (x : Int)) (.int .u32 (sh : Int)) = some (.int .u32 ((x ||| sh : Nat) : Int)) := n_or32 x sh hx hs
theorem mOf_t {A : Nat → Bool} {i : Nat} (h : A i = true) : mOf A i ||| 1 <<< i = mOf A (i + 1) := by
  show _ = if A i then _ else _
  rw [if_pos h]
theorem mOf_f {A : Nat → Bool} {i : Nat} (h : A i = false) : mOf A i = mOf A (i + 1) := by
  show _ = if A i then _ else _
  rw [if_neg (by simp [h])]
theorem reached_ac (nn : List Int) (e : nn.length = 4) (b : ∀ (i : Nat) (k : IntKind) (x : Int), ([.u8, .u8, .u32, .u32] : List IntKind)[i]? = some k → nn[i]? = some x → k.min ≤ x ∧ x ≤ k.max) (H : AH) : AC Try.prog 8 [.agg (List.zipWith AV.int [.u8, .u8, .u32, .u32] nn)] H fun v _ => v = .bool true := by
  obtain ⟨a, b0, x, y, hzip, ha, hb, hx, hy⟩ := floor_int nn e b
  rw [hzip]
  refine L_body 115 Try.func8 rfl rfl ?_
  obtain ⟨I, hI, hz⟩ := zeroT_some zt24'
  obtain ⟨J, hJ, hj⟩ := zeroT_some zt57
  refine L_reg [1] (fun K hK => ?_)
  simp [AV.isU, acells]
  apply hK; clear hK K
  have d1 : (H ++ [AObj.row [.int .u8 a, .int .u8 b0, .int .u32 x, .int .u32 y] 0 0 false])[H.length]? = some (.row [.int .u8 a, .int .u8 b0, .int .u32 x, .int .u32 y] 0 0 false) := by simp
  generalize H ++ [AObj.row [.int .u8 a, .int .u8 b0, .int .u32 x, .int .u32 y] 0 0 false] = H1 at d1 ⊢
  have a1 := ldn_fl d1
  refine L_reg [3, 4, 5, 6] (fun K hK => ?_)
  simp [okFn_low, a1]
  refine made_s a b0 x y 5 true ha hb hx hy (.inr rfl) _ _ (fun r c n s z v1 v2 H2 hr5 hc5 hst hsn hzn hz0 o1 o2 hE2 => ?_)
  simp [hI, hz, hJ, hj, two24 _ o1 o2, two57]
  apply hK; clear hK K
  have d3 : (H2 ++ [AObj.row [.int .i64 r, .int .i64 c, v1, v2] 0 0 false, AObj.row [.int .i64 r, .int .i64 c] 0 0 false])[H2.length]? = some (.row [.int .i64 r, .int .i64 c, v1, v2] 0 0 false) := by simp
  have d4 : (H2 ++ [AObj.row [.int .i64 r, .int .i64 c, v1, v2] 0 0 false, AObj.row [.int .i64 r, .int .i64 c] 0 0 false])[H2.length + 1]? = some (.row [.int .i64 r, .int .i64 c] 0 0 false) := by simp
  replace hst := hst.ext (.push H2 [AObj.row [.int .i64 r, .int .i64 c, v1, v2] 0 0 false, AObj.row [.int .i64 r, .int .i64 c] 0 0 false])
  obtain ⟨p3, hp3⟩ : ∃ p, H2.length = p := ⟨_, rfl⟩
  rw [hp3] at d3 d4 ⊢
  generalize H2 ++ [AObj.row [.int .i64 r, .int .i64 c, v1, v2] 0 0 false, AObj.row [.int .i64 r, .int .i64 c] 0 0 false] = H3 at d3 d4 hst ⊢
  clear hE2 hp3 H2 a1 d1 H1 hzip
  have k1 : v1 ≠ .undef := one_known o1
  have k2 : v2 ≠ .undef := one_known o2
  have hs := hst.hs
  have hn := hst.hn
  have h25 := hs.le
  rw [hn] at h25
  have hs32 := p32 h25 hsn
  have hz32 := p32 h25 hzn
  have hSr : ∀ b, tb s b = true → b < r * c := by rw [hn]; exact hst.hS
  obtain ⟨S, hS⟩ : ∃ S, tb s = S := ⟨_, rfl⟩
  obtain ⟨Z, hZ⟩ : ∃ Z, tb z = Z := ⟨_, rfl⟩
  rw [hS] at hst hSr
  rw [hZ] at hst
  have hSn : ∀ b, S b = true → b < n := hst.hS
  have a4 := ldn_f d4
  have hld := fun H Q hQ => ldays_ac hs hn s z hsn hz32 H Q hQ
  have hls : ∀ (H : AH) (Q : AV → AH → Prop), Q (.int .u32 (mOf (sp r c 2 (opn n Z) S) n : Nat)) H → AC Try.prog 42 [.agg [.int .i64 r, .int .i64 c], .int .u32 s, .int .u32 z] H Q := fun H Q hQ => lspread_q hs hn s z hsn hz32 H Q (by rw [hS, hZ]; exact hQ)
  rw [hS, hZ] at hld
  refine L_reg [3, 4, 5, 6, 7] (fun K hK => ?_)
  simp [okFn_low, a4]
  refine hld _ _ (fun v H4 hO4 hE4 => ?_)
  simp
  apply hK; clear hK K
  have hv := ownF_ls hO4
  replace d3 := hE4.row d3
  replace d4 := hE4.row d4
  replace hst := hst.ext hE4
  clear hO4 hE4 a4 hld H3
  have a3 := ldn4 d3 k1 k2
  refine L_reg [3, 4, 5, 6, 7, 8, 9] (fun K hK => ?_)
  simp [okFn_low, a3]
  refine Days_s hst _ (fun w H5 hw hE5 => ?_)
  simp
  apply hK; clear hK K
  replace hv := hv.ext hE5
  replace d3 := hE5.row d3
  replace d4 := hE5.row d4
  replace hst := hst.ext hE5
  clear hE5 a3 H4
  have a3 := ldn4 d3 k1 k2
  refine L_reg [4, 5, 6, 7, 8, 9, 10, 11] (fun K hK => ?_)
  simp [okFn_low, a3]
  refine Spread_s hst _ (fun q H6 hN hE6 => ?_)
  simp
  apply hK; clear hK K
  have hq := ownF_ls hN.2
  replace hv := hv.ext hE6
  replace hw := hw.ext hE6
  replace d4 := hE6.row d4
  clear hE6 a3 hN d3 hst H5
  have a4 := ldn_f d4
  have hlI := iL_len n (day r c (opn n Z) S)
  have hspn : tb (mOf (sp r c 2 (opn n Z) S) n) = sp r c 2 (opn n Z) S := mOf_fun (by rw [← hn]; exact sp_sup hSr)
  have hsp32 : mOf (sp r c 2 (opn n Z) S) n < 4294967296 := p32 h25 (mOf_lt _ (Nat.le_refl _))
  have hnl := num_len (sp r c 2 (opn n Z) S)
  have hbits : ∀ (H : AH) (Q : AV → AH → Prop), (∀ v' H', OwnN H.length H' v' (num (sp r c 2 (opn n Z) S)) → Ext H H' → Q v' H') → AC Try.prog 43 [.int .u32 (mOf (sp r c 2 (opn n Z) S) n : Nat)] H Q := fun H Q hQ => bits_ac _ hsp32 H Q (by rw [hspn]; exact hQ)
  refine L_reg [4, 8, 60] (fun K hK => ?_)
  simp [okFn_low, pickV]
  refine same_q _ _ _ _ _ _ hw hv (by omega) (by omega) ?_
  simp [okFn_low, pickV, a4]
  refine hls _ _ ?_
  simp [okFn_low]
  refine hbits _ _ (fun q2 H7 hN7 hE7 => ?_)
  simp [okFn_low]
  refine same_q _ _ _ _ _ _ (hq.ext hE7) (ownF_ls hN7.2) (by omega) (by omega) ?_
  simp [pickV]
  apply hK; clear hK K
  refine L_false (by simp) ?_
  replace hw := hw.ext hE7
  replace d4 := hE7.row d4
  clear hN7 hE7 a4 hq hv hbits hls hsp32 hspn hnl H6
  obtain ⟨f, hf⟩ : ∃ f, day r c (opn n Z) S = f := ⟨_, rfl⟩
  rw [hf] at hw hlI
  have hwl := ls_len hw
  rw [hlI] at hwl
  have a4 := ldn_f d4
  refine L_reg [4, 8, 61, 62, 63] (fun K hK => ?_)
  simp [hwl]
  apply hK; clear hK K
  refine L_block (L_loopV [63] (fun q vs H' => ∃ i : Nat, q = n - i ∧ i ≤ n ∧ vs = [.int .i64 i] ∧ H7 = H') _ [.int .i64 (0 : Nat)] rfl ⟨0, rfl, by omega, rfl, rfl⟩ ?_)
  rintro q _ _ ⟨i, rfl, hi, rfl, rfl⟩
  refine L_reg [4, 8, 61, 62, 63, 64] (fun K hK => ?_)
  simp
  apply hK; clear hK K
  refine L_dec (i < n) (by simp) (fun hlt => ?_) (fun hge => L_exit ?_)
  · refine L_block ?_
    obtain ⟨rz, pz, vz, hix, hldz⟩ := ls_ix hw (i := i) (by rw [hlI]; exact hlt)
    rw [iL_g f hlt] at hldz
    refine L_reg [4, 8, 12, 13, 61, 62, 63] (fun K hK => ?_)
    simp [hix, hldz]
    apply hK; clear hK K
    refine L_reg [4, 8, 12, 13, 61, 62, 63, 69] (fun K hK => ?_)
    simp
    apply hK; clear hK K
    by_cases hfi : f i < 1
    · refine L_true (by simp [hfi]) ?_
      refine L_exit ?_
      refine L_reg [4, 8, 61, 62, 63] (fun K hK => ?_)
      simp [wrap_i64 (a := (i : Int) + 1) (by omega)]
      apply hK; clear hK K
      exact ⟨n - (i + 1), [.int .i64 (i + 1 : Nat)], by omega, by simp, i + 1, rfl, by omega, rfl, rfl⟩
    · refine L_false (by simp; omega) ?_
      have hfr : f i ≤ 25 := by rw [← hf]; exact (day_range i).2
      obtain ⟨d, hd⟩ : ∃ d : Nat, f i = d := ⟨(f i).toNat, by omega⟩
      have hd1 : 1 ≤ d := by omega
      have hnd := near_day (O := opn n Z) hn h25 hSn (b := i) (d := d) (by rw [hf]; exact hd) hd1
      rw [hf] at hnd
      obtain ⟨A, hA⟩ : ∃ A : Nat → Bool, A = fun x => decide (0 ≤ f x ∧ f x < (d : Nat)) := ⟨_, rfl⟩
      obtain ⟨B, hB⟩ : ∃ B : Nat → Bool, B = fun x => decide (0 ≤ f x ∧ f x < (d : Int) - 1) := ⟨_, rfl⟩
      rw [← hA, ← hB] at hnd
      rw [hd]
      refine L_reg [4, 8, 12, 13, 14, 15, 61, 62, 63] (fun K hK => ?_)
      simp
      apply hK; clear hK K
      refine L_reg [4, 8, 12, 13, 14, 15, 61, 62, 63, 70, 71, 72] (fun K hK => ?_)
      simp [hwl]
      apply hK; clear hK K
      refine L_block (L_loopV [14, 15, 72] (fun q vs H' => ∃ j : Nat, q = n - j ∧ j ≤ n ∧ vs = [.int .u32 (mOf A j : Nat), .int .u32 (mOf B j : Nat), .int .i64 j] ∧ H7 = H') _ [.int .u32 (mOf A 0 : Nat), .int .u32 (mOf B 0 : Nat), .int .i64 (0 : Nat)] rfl ⟨0, rfl, by omega, rfl, rfl⟩ ?_)
      rintro q _ _ ⟨j, rfl, hj, rfl, rfl⟩
      refine L_reg [4, 8, 12, 13, 14, 15, 61, 62, 63, 70, 71, 72, 73] (fun K hK => ?_)
      simp
      apply hK; clear hK K
      refine L_dec (j < n) (by simp) (fun hjt => ?_) (fun hge => L_exit ?_)
      · refine L_block ?_
        obtain ⟨ry, py, vy, hiy, hldy⟩ := ls_ix hw (i := j) (by rw [hlI]; exact hjt)
        rw [iL_g f hjt] at hldy
        have hshl : ∀ tt ll, binV Try.prog .shl tt ll (.int .u32 1) (.int .i64 (j : Int)) = some (.int .u32 ((1 <<< j : Nat) : Int)) := fun tt ll => n_shl32 j (by omega)
        have h1i : 1 <<< j < 4294967296 := by
          rw [Nat.shiftLeft_eq, Nat.one_mul]
          exact Nat.lt_of_lt_of_le (Nat.pow_lt_pow_right (by decide) (show j < 32 by omega)) (by decide)
        have hA32 : mOf A j < 4294967296 := p32 h25 (mOf_lt A hj)
        have hB32 : mOf B j < 4294967296 := p32 h25 (mOf_lt B hj)
        have tA := @mOf_t A j
        have fA := @mOf_f A j
        have tB := @mOf_t B j
        have fB := @mOf_f B j
        have eA : A j = decide (0 ≤ f j ∧ f j < (d : Nat)) := by rw [hA]
        have eB : B j = decide (0 ≤ f j ∧ f j < (d : Int) - 1) := by rw [hB]
        obtain ⟨xa', hxa⟩ : ∃ x, mOf A (j + 1) = x := ⟨_, rfl⟩
        obtain ⟨xb', hxb⟩ : ∃ x, mOf B (j + 1) = x := ⟨_, rfl⟩
        rw [hxa] at tA fA
        rw [hxb] at tB fB
        generalize mOf A j = xa at hA32 tA fA ⊢
        generalize mOf B j = xb at hB32 tB fB ⊢
        obtain ⟨sh, hsh⟩ : ∃ sh, 1 <<< j = sh := ⟨_, rfl⟩
        rw [hsh] at h1i tA tB
        simp only [hsh] at hshl
        have oA := fun tt ll => or1 hA32 h1i tt ll
        have oB := fun tt ll => or1 hB32 h1i tt ll
        have wd : IntKind.i64.wrap ((d : Int) - 1) = (d : Int) - 1 := wrap_i64 (by omega)
        obtain ⟨y, hy⟩ : ∃ y, f j = y := ⟨_, rfl⟩
        rw [hy] at hldy eA eB
        refine L_reg [4, 8, 12, 13, 14, 15, 16, 17, 61, 62, 63, 70, 71, 72] (fun K hK => ?_)
        simp [hiy, hldy]
        apply hK; clear hK K
        obtain ⟨ga, hga⟩ : ∃ g, decide (0 ≤ y ∧ y < (d : Nat)) = g := ⟨_, rfl⟩
        obtain ⟨gb, hgb⟩ : ∃ g, decide (0 ≤ y ∧ y < (d : Int) - 1) = g := ⟨_, rfl⟩
        rw [hga] at eA
        rw [hgb] at eB
        refine L_reg [4, 8, 12, 13, 14, 15, 16, 17, 61, 62, 63, 70, 71, 72, 83] (fun K hK => ?_)
        suffices hk : K [(4, .ptr (p3 + 1) 0 0), (8, w), (12, .int .i64 i), (13, .int .i64 d), (14, .int .u32 xa), (15, .int .u32 xb), (16, .int .i64 j), (17, .int .i64 y), (61, w), (62, .int .i64 n), (63, .int .i64 i), (70, w), (71, .int .i64 n), (72, .int .i64 j), (83, .bool ga)] H7 by
          by_cases hy0 : 0 ≤ y
          · have : decide (y < (d : Int)) = ga := by rw [← hga]; exact decide_eq_decide.2 (by omega)
            simp [hy0, pickV, this]
            exact hk
          · have : ga = false := by rw [← hga]; exact decide_eq_false (by omega)
            subst this
            simp [hy0, pickV]
            exact hk
        apply hK; clear hK K
        refine L_condK [4, 8, 12, 13, 14, 15, 16, 17, 61, 62, 63, 70, 71, 72] (fun e' H' => e' = [(4, .ptr (p3 + 1) 0 0), (8, w), (12, .int .i64 i), (13, .int .i64 d), (14, .int .u32 xa'), (15, .int .u32 xb), (16, .int .i64 j), (17, .int .i64 y), (61, w), (62, .int .i64 n), (63, .int .i64 i), (70, w), (71, .int .i64 n), (72, .int .i64 j)] ∧ H7 = H') (t := ga) (by first | rfl | simp) (fun ht => ?_) (fun ht => ?_) ?_
        · refine L_reg [4, 8, 12, 13, 14, 15, 16, 17, 61, 62, 63, 70, 71, 72] (fun K hK => ?_)
          simp [hshl, oA]
          apply hK; clear hK K
          exact ⟨by rw [← tA (by rw [eA, ht])]; simp, rfl⟩
        · exact ⟨by rw [← fA (by rw [eA, ht])]; rfl, rfl⟩
        rintro _ _ ⟨rfl, rfl⟩
        refine L_reg [4, 8, 12, 13, 14, 15, 16, 61, 62, 63, 70, 71, 72, 95] (fun K hK => ?_)
        suffices hk : K [(4, .ptr (p3 + 1) 0 0), (8, w), (12, .int .i64 i), (13, .int .i64 d), (14, .int .u32 xa'), (15, .int .u32 xb), (16, .int .i64 j), (61, w), (62, .int .i64 n), (63, .int .i64 i), (70, w), (71, .int .i64 n), (72, .int .i64 j), (95, .bool gb)] H7 by
          by_cases hy0 : 0 ≤ y
          · have : decide (y < (d : Int) - 1) = gb := by rw [← hgb]; exact decide_eq_decide.2 (by omega)
            simp [hy0, pickV, wd, this]
            exact hk
          · have : gb = false := by rw [← hgb]; exact decide_eq_false (by omega)
            subst this
            simp [hy0, pickV]
            exact hk
        apply hK; clear hK K
        cases gb with
        | true =>
          refine L_true (by simp) ?_
          refine L_reg [4, 8, 12, 13, 14, 15, 61, 62, 63, 70, 71, 72] (fun K hK => ?_)
          simp [hshl, oB]
          apply hK; clear hK K
          refine L_reg [4, 8, 12, 13, 14, 15, 61, 62, 63, 70, 71, 72] (fun K hK => ?_)
          simp [wrap_i64 (a := (j : Int) + 1) (by omega)]
          apply hK; clear hK K
          exact ⟨n - (j + 1), [.int .u32 xa', .int .u32 xb', .int .i64 (j + 1 : Nat)], by omega, by rw [← tB (by rw [eB])]; simp, j + 1, rfl, by omega, by rw [hxa, hxb], rfl⟩
        | false =>
          refine L_false (by simp) ?_
          refine L_reg [4, 8, 12, 13, 14, 15, 61, 62, 63, 70, 71, 72] (fun K hK => ?_)
          simp [wrap_i64 (a := (j : Int) + 1) (by omega)]
          apply hK; clear hK K
          exact ⟨n - (j + 1), [.int .u32 xa', .int .u32 xb', .int .i64 (j + 1 : Nat)], by omega, by rw [← fB (by rw [eB])]; simp, j + 1, rfl, by omega, by rw [hxa, hxb], rfl⟩
      · have hje : j = n := by omega
        rw [hje]
        have hA32 : mOf A n < 4294967296 := p32 h25 (mOf_lt A (Nat.le_refl _))
        have hB32 : mOf B n < 4294967296 := p32 h25 (mOf_lt B (Nat.le_refl _))
        have q1 := fun (H : AH) (Q : AV → AH → Prop) hQ => near_q hs hn i hlt (mOf A n) hA32 H Q hQ
        have q2 := fun (H : AH) (Q : AV → AH → Prop) hQ => near_q hs hn i hlt (mOf B n) hB32 H Q hQ
        generalize bes r c (tb (mOf A n)) i = ba at hnd q1
        generalize bes r c (tb (mOf B n)) i = bb at hnd q2
        generalize mOf A n = xa at q1 ⊢
        generalize mOf B n = xb at q2 ⊢
        have z1 : ¬ ((ba : Int) < 2) := by omega
        have z2 : ¬ ((1 : Int) < bb) := by omega
        refine L_reg [4, 8, 61, 62, 63, 112] (fun K hK => ?_)
        simp [okFn_low, a4]
        refine q1 _ _ ?_
        simp [okFn_low, z1, a4]
        refine q2 _ _ ?_
        simp [z2, pickV]
        apply hK; clear hK K
        refine L_false (by first | rfl | simp) ?_
        refine L_reg [4, 8, 61, 62, 63] (fun K hK => ?_)
        simp [wrap_i64 (a := (i : Int) + 1) (by omega)]
        apply hK; clear hK K
        exact ⟨n - (i + 1), [.int .i64 (i + 1 : Nat)], by omega, by simp, i + 1, rfl, by omega, rfl, rfl⟩
  · refine L_reg [2] (fun K hK => ?_)
    simp [okFn_low]
    refine works_ac _ _ ?_
    simp
    apply hK; clear hK K
    exact L_ret ⟨.inr rfl, _, rfl, rfl⟩
end Go.Proofs.Ytfbpgnjeafadmaa.Fl
