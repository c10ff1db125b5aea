/- The first plan of counts is made. -/
import Derived.Test.YtbimapbcpmeooaaSeekR
namespace Go.Proofs.Ytbimapbcpmeooaa.Cl
open Go Go.Proofs.Ytbimapbcpmeooaa Go.Proofs.Ytbimapbcpmeooaa.AX
set_option maxRecDepth 100000
set_option linter.unusedVariables false
theorem row32_0 (H : AH) : rowV Try.prog 32 0 [] H = some (some (.slice (some H.length) 0 0 0 2 false), H ++ [.row [] 0 0 false]) := by kernel_rfl
theorem und32 : ∃ e, Try.prog.underlying 32 = some (.slice e) := ⟨_, (by kernel_rfl : Try.prog.underlying 32 = some (.slice 67))⟩
theorem eq_nil32 {l : Bool} (r : Option Nat) (off n ver sz : Nat) (full : Bool) : binV Try.prog .eql 32 l (.slice r off n ver sz full) (.slice none 0 0 0 1 false) = some (.bool r.isNone) := by
  obtain ⟨e, h⟩ := und32
  simp [binV, aBin, aCmp, h]
theorem ldn_app {H : AH} {r ver : Nat} : ∀ {m n p : Nat} {a b : List AV}, ldn H r ver m p = some a → ldn H r ver n (p + m) = some b → ldn H r ver (m + n) p = some (a ++ b)
  | 0, n, p, a, b, h1, h2 => by
    simp only [ldn, Option.some.injEq] at h1
    subst h1
    simpa using h2
  | m + 1, n, p, a, b, h1, h2 => by
    rw [ldn_succ] at h1
    cases hx : ld H r p ver with
    | none => rw [hx] at h1; cases h1
    | some x =>
      rw [hx, Option.bind_some] at h1
      cases hy : ldn H r ver m (p + 1) with
      | none => rw [hy] at h1; cases h1
      | some y =>
        rw [hy, Option.map_some, Option.some.injEq] at h1
        subst h1
        rw [show m + 1 + n = (m + n) + 1 by omega, ldn_succ, hx, Option.bind_some, ldn_app hy (by rw [← h2]; congr 1; omega)]
        rfl
theorem rs_flat {k : Nat} {H : AH} {r off ver : Nat} : ∀ {l : List (List AV)}, (∀ i (h : i < l.length), ldn H r ver k (off + i * k) = some l[i]) → ldn H r ver (l.length * k) off = some l.flatten
  | [], _ => by simp [ldn]
  | x :: l, h => by
    have h0 := h 0 (by simp)
    rw [Nat.zero_mul, Nat.add_zero, List.getElem_cons_zero] at h0
    have h1 := rs_flat (k := k) (H := H) (r := r) (ver := ver) (off := off + k) (l := l) fun i hi => by
      have := h (i + 1) (by simpa using hi)
      rw [List.getElem_cons_succ, Nat.add_mul, Nat.one_mul] at this
      rw [← this]; congr 1; omega
    rw [List.length_cons, Nat.add_mul, Nat.one_mul, Nat.add_comm, List.flatten_cons]
    exact ldn_app h0 h1
/-- slices.Clone of tables: the same each time. -/
theorem CloneT_ex (v : AV) (T : List Tb) (H : AH) (hT : T.length ≤ 1000000) (hv : Rs 2 H v (tb T)) : ∃ v' H', (∀ Q : AV → AH → Prop, Q v' H' → AC Try.prog 68 [v] H Q) ∧ OwnK 2 H.length H' v' (tb T) ∧ Ext H H' ∧ v'.one = true := by
  obtain ⟨e, I, g1, g2, g3, g4, hk0, -⟩ := elK_some ek32
  obtain ⟨r, off, ver, sz, full, rfl, hld⟩ := hv
  cases r with
  | none =>
    have hT0 : T = [] := by
      cases T with
      | nil => rfl
      | cons p T => obtain ⟨r', e, -⟩ := hld 0 (by simp [tb]); cases e
    subst hT0
    refine ⟨.slice none 0 0 0 1 false, H, fun Q h => ?_, OwnK.nil _ _ _, .refl _, rfl⟩
    refine L_body 8 Try.func68 rfl rfl ?_
    refine L_reg [0] (fun K hK => ?_)
    simp
    apply hK; clear hK K
    refine L_reg [0, 4] (fun K hK => ?_)
    simp [eq_nil32]
    apply hK; clear hK K
    refine L_true rfl ?_
    refine L_reg [2] (fun K hK => ?_)
    simp
    apply hK; clear hK K
    exact L_ret ⟨.inr rfl, _, rfl, h⟩
  | some r =>
    cases T with
    | nil =>
      have happ : aAppend Try.prog (H ++ [AObj.row [] 0 0 false]) 32 32 (.slice (some H.length) 0 0 0 2 false) (.slice (some r) off 0 ver sz full) = some (.slice (some H.length) 0 0 0 2 false, H ++ [.row [] 0 0 false]) := by
        simp [aAppend, g1, g2, g3, g4, aSrc]
      refine ⟨.slice (some H.length) 0 0 0 2 false, H ++ [.row [] 0 0 false], fun Q h => ?_, ⟨fun x hx => by simp [tb] at hx, .inr ⟨H.length, 0, 0, Nat.le_refl _, rfl, by simp [tb]⟩⟩, .push _ _, rfl⟩
      refine L_body 8 Try.func68 rfl rfl ?_
      refine L_reg [0] (fun K hK => ?_)
      simp
      apply hK; clear hK K
      refine L_reg [0, 4] (fun K hK => ?_)
      simp [eq_nil32]
      apply hK; clear hK K
      refine L_false rfl ?_
      simp only [tb, List.map_nil, List.length_nil]
      refine L_reg [2] (fun K hK => ?_)
      simp [row32_0, happ]
      apply hK; clear hK K
      exact L_ret ⟨.inr rfl, _, rfl, h⟩
    | cons p T =>
      obtain ⟨r', e, hsz, -⟩ := hld 0 (by simp [tb])
      cases e
      subst hsz
      have hfl : ldn H r ver ((p :: T).length * 2) off = some (tcl (p :: T)) := by
        have := rs_flat (k := 2) (H := H) (r := r) (ver := ver) (off := off) (l := tb (p :: T)) fun i hi => by
          obtain ⟨r2, e2, -, h3⟩ := hld i hi
          cases e2
          exact h3
        rw [tb_len] at this
        exact this
      have hl := tcl_len (p :: T)
      have hall : (tcl (p :: T)).all AV.one = true := by
        rw [List.all_eq_true]
        intro x hx
        obtain ⟨y, hy, hxy⟩ := List.mem_flatten.1 hx
        exact (tb_ok _ y hy).2 x hxy
      have hE : Ext H (H ++ [AObj.row [] 0 0 false]) := .push _ _
      have hfl2 := ldn_ext hE hfl
      have hrow : (H ++ [AObj.row [] 0 0 false])[H.length]? = some (.row [] 0 0 false) := by simp
      have happ : aAppend Try.prog (H ++ [AObj.row [] 0 0 false]) 32 32 (.slice (some H.length) 0 0 0 2 false) (.slice (some r) off (p :: T).length ver 2 full) = some (.slice (some H.length) 0 (p :: T).length 1 2 false, (H ++ [AObj.row [] 0 0 false]).set H.length (.row (tcl (p :: T)) 1 0 false)) := by
        have hsrc : aSrc Try.prog (H ++ [AObj.row [] 0 0 false]) 32 2 (.slice (some r) off (p :: T).length ver 2 full) = some ((p :: T).length, tcl (p :: T)) := by
          simp only [aSrc, g1]
          rw [if_pos ⟨trivial, by simp⟩, hfl2]; rfl
        have hpos : (p :: T).length ≠ 0 := by simp
        generalize tcl (p :: T) = cs at *
        generalize (p :: T).length = m at *
        have hin : inPlace (H ++ [AObj.row [] 0 0 false]) H.length 0 0 m 0 2 cs = none := by
          simp only [inPlace, hrow]
          rw [if_neg]
          rintro ⟨-, h5⟩
          simp at h5
          omega
        have hgr : grow (H ++ [AObj.row [] 0 0 false]) H.length 0 (0 * 2) 0 cs = some ((H ++ [AObj.row [] 0 0 false]).set H.length (AObj.row cs 1 0 false), 1) := by
          simp [grow]
        have hm : m ≤ 16777216 := by omega
        unfold aAppend
        simp only [g1, g2, g3, hsrc, hall, hin, hgr, Option.bind_some, Option.map_some]
        simp [g4, hpos, hl, hm]
      rw [tb_len] at *
      refine ⟨.slice (some H.length) 0 (p :: T).length 1 2 false, H ++ [.row (tcl (p :: T)) 1 0 false], fun Q h => ?_, ⟨tb_ok _, .inr ⟨H.length, 1, 0, Nat.le_refl _, by rw [tb_len], by simp [tcl]⟩⟩, .push _ _, rfl⟩
      generalize (p :: T).length = m at *
      refine L_body 8 Try.func68 rfl rfl ?_
      refine L_reg [0] (fun K hK => ?_)
      simp
      apply hK; clear hK K
      refine L_reg [0, 4] (fun K hK => ?_)
      simp [eq_nil32]
      apply hK; clear hK K
      refine L_false rfl ?_
      refine L_reg [2] (fun K hK => ?_)
      simp [row32_0, happ]
      apply hK; clear hK K
      exact L_ret ⟨.inr rfl, _, rfl, h⟩
theorem tr_le : ∀ S : List Bool, tr S ≤ S.length := fun S => List.countP_le_length
theorem isT_len : ∀ {k a : Nat} {T : List Tb}, isT k a T → T.length ≤ k * k
  | 0, a, T, h => by
    obtain rfl : T = [] := h
    simp
  | k + 1, a, T, ⟨S, R, hS, hR, e⟩ => by
    subst e
    have h1 := isT_len hR
    have h2 := tr_le S
    rw [List.length_append, wt_len, Nat.mul_add, Nat.add_mul]
    omega
def zeroPlan : AV := .agg [.int .i64 0, .slice none 0 0 0 1 false]
theorem built34_0 : aBuilt Try.prog 34 [] = some [.int .i64 0, .slice none 0 0 0 1 false] := by kernel_rfl
theorem built34 (n : Int) {v : AV} {r : Option Nat} {off len ver sz : Nat} {full : Bool} (hv : v = .slice r off len ver sz full) : aBuilt Try.prog 34 [(0, .int .i64 n), (1, v)] = some [.int .i64 n, v] := by subst hv; kernel_rfl
theorem st_two {u : TypeId} (hag : aggSz Try.prog u = some 2) {H : AH} {r s : Nat} {x y a b : AV} (hr : H[r]? = some (.row [a, b] 0 s false)) (ha : a ≠ .undef) (hb : b ≠ .undef) (hx : x.one = true) (hy : y.one = true) : storeV Try.prog u H (.ptr r 0 0) (.agg [x, y]) = some (none, H.set r (.row [x, y] 0 0 false)) :=
  store_agg hag hr (by decide) rfl (by simp [ha, hb]) rfl (by simp [hx, hy])
theorem ld_two {u : TypeId} (hag : aggSz Try.prog u = some 2) {H : AH} {r s : Nat} {x y : AV} (hr : H[r]? = some (.row [x, y] 0 s false)) (hx : x.one = true) (hy : y.one = true) : loadV Try.prog u H (.ptr r 0 0) = some (.agg [x, y]) := by
  rw [load_agg hag, ldn_row hr]
  have := takeKnown_row (l := [x, y]) (fun v hv => one_known (by simp at hv; rcases hv with rfl | rfl <;> assumption)) []
  rw [List.append_nil] at this
  rw [List.drop_zero, show (2 : Nat) = [x, y].length from rfl, this]
  rfl
set_option maxHeartbeats 2000000 in
theorem Make_ac (l : List Int) (v : AV) (hlen : l.length ≤ 1000000) (H : AH) (hv : Ls H v l) (Q : AV → AH → Prop) (h1 : chkC l ≠ 0 → ∀ H', Ext H H' → Q (.tuple [zeroPlan, .int .i64 (chkC l)]) H')
    (h2 : ∀ c, l = il c → Okc c → sols c.length 0 c = [] → ∀ H', Ext H H' → Q (.tuple [zeroPlan, .int .i64 12]) H')
    (h3 : ∀ c T, l = il c → Okc c → (sols c.length 0 c).head? = some T → ∀ u H', OwnK 2 H.length H' u (tb T) → Ext H H' → Q (.tuple [.agg [.int .i64 (c.length : Nat), u], .int .i64 0]) H') : AC Try.prog 23 [v] H Q := by
  have hv1 := ls_one hv
  have hvu : v.isU = false := by cases v <;> simp_all [AV.one, AV.isU]
  have hvc : acells v = [v] := by cases v <;> simp_all [AV.one, acells]
  refine L_body 21 Try.func23 rfl rfl ?_
  obtain ⟨I34, i34, z34⟩ := zeroT_some zt34
  obtain ⟨I24, i24, z24⟩ := zeroT_some zt24
  refine L_reg [1, 2, 3, 5] (fun K hK => ?_)
  simp [i34, z34, i24, z24, hvu, hvc]
  apply hK; clear hK K
  change AWL _ _ _ _ (H ++ [AObj.row [v] 0 0 false, .row [.int .i64 0, .slice none 0 0 0 1 false] 0 0 false, .row [.int .i64 0] 0 0 false]) _
  have hEA : Ext H (H ++ [AObj.row [v] 0 0 false, .row [.int .i64 0, .slice none 0 0 0 1 false] 0 0 false, .row [.int .i64 0] 0 0 false]) := .push _ _
  have hrv : (H ++ [AObj.row [v] 0 0 false, .row [.int .i64 0, .slice none 0 0 0 1 false] 0 0 false, .row [.int .i64 0] 0 0 false])[H.length]? = some (.row [v] 0 0 false) := by simp
  have hrp : (H ++ [AObj.row [v] 0 0 false, .row [.int .i64 0, .slice none 0 0 0 1 false] 0 0 false, .row [.int .i64 0] 0 0 false])[H.length + 1]? = some (.row [.int .i64 0, .slice none 0 0 0 1 false] 0 0 false) := by simp
  have hre : (H ++ [AObj.row [v] 0 0 false, .row [.int .i64 0, .slice none 0 0 0 1 false] 0 0 false, .row [.int .i64 0] 0 0 false])[H.length + 2]? = some (.row [.int .i64 0] 0 0 false) := by simp
  have hlA : (H ++ [AObj.row [v] 0 0 false, .row [.int .i64 0, .slice none 0 0 0 1 false] 0 0 false, .row [.int .i64 0] 0 0 false]).length = H.length + 3 := by simp
  generalize H ++ [AObj.row [v] 0 0 false, .row [.int .i64 0, .slice none 0 0 0 1 false] 0 0 false, .row [.int .i64 0] 0 0 false] = HA at *
  have hv0 := hv.ext hEA
  have ev : ld HA H.length 0 0 = some v := by rw [ld_row hrv]; exact known_one hv1
  -- an error, or a plan without tables
  have fin : ∀ (HX : AH) (s5 s6 : Nat) (e : Int), HX[H.length + 1]? = some (.row [.int .i64 0, .slice none 0 0 0 1 false] 0 s5 false) → HX[H.length + 2]? = some (.row [.int .i64 0] 0 s6 false) → Ext H HX →
      ∃ HY HZ, storeV Try.prog 34 HX (.ptr (H.length + 1) 0 0) (.agg [.int .i64 0, .slice none 0 0 0 1 false]) = some (none, HY) ∧ storeV Try.prog 24 HY (.ptr (H.length + 2) 0 0) (.int .i64 e) = some (none, HZ) ∧
        aResults Try.prog Try.f23 [(2, .ptr (H.length + 1) 0 0), (3, .ptr (H.length + 2) 0 0)] HZ = some (.tuple [zeroPlan, .int .i64 e]) ∧ Ext H HZ := by
    intro HX s5 s6 e k1 k2 k3
    have hst1 := st_two (u := 34) ag34 (x := .int .i64 0) (y := .slice none 0 0 0 1 false) k1 (by simp) (by simp) rfl rfl
    have k2' : (HX.set (H.length + 1) (.row [.int .i64 0, .slice none 0 0 0 1 false] 0 0 false))[H.length + 2]? = some (.row [.int .i64 0] 0 s6 false) := by rw [set_ne (by omega)]; exact k2
    have hst2 := st_one (u := 24) sc24 (x := .int .i64 e) (y := .int .i64 0) k2' rfl rfl
    have q1 := get_set (o' := .row [AV.int .i64 e] 0 0 false) k2'
    have q2 : ((HX.set (H.length + 1) (.row [.int .i64 0, .slice none 0 0 0 1 false] 0 0 false)).set (H.length + 2) (.row [AV.int .i64 e] 0 0 false))[H.length + 1]? = some (.row [.int .i64 0, .slice none 0 0 0 1 false] 0 0 false) := by rw [set_ne (by omega)]; exact get_set k1
    exact ⟨_, _, hst1, hst2, res2 rfl (ld_two ag34 q2 rfl rfl) (by rw [show eget _ 3 = AV.ptr (H.length + 2) 0 0 from rfl, ld24, ld_row q1]; rfl), (k3.set _ (by omega)).set _ (by omega)⟩
  refine L_reg [1, 2, 3, 4, 5] (fun K hK => ?_)
  simp [okFn_low, ev]
  refine Check_q l v hlen _ hv0 _ ?_
  simp
  apply hK; clear hK K
  refine L_reg [1, 2, 3, 4, 5, 9] (fun K hK => ?_)
  simp
  apply hK; clear hK K
  refine L_dec (chkC l ≠ 0) (by simp [bne0]) (fun c1 => ?_) (fun c1 => ?_)
  · obtain ⟨HY, HZ, k1, k2, k3, k4⟩ := fin HA 0 0 (chkC l) hrp hre hEA
    refine L_reg [2, 3] (fun K hK => ?_)
    simp [built34_0, k1, k2]
    apply hK; clear hK K
    exact L_ret ⟨.inr rfl, _, k3, h1 c1 _ k4⟩
  obtain ⟨c, rfl, ho⟩ := chk_okc (Classical.not_not.1 c1)
  have h2 := h2 c rfl ho
  have h3 := fun T hT => h3 c T rfl ho hT
  refine L_reg [1, 2, 3, 5, 13] (fun K hK => ?_)
  simp [okFn_low, ev]
  refine plans_ac v hv1 _ _ ?_
  simp
  apply hK; clear hK K
  have a0 : (HA ++ [AObj.row [v] 0 0 false])[H.length]? = some (.row [v] 0 0 false) := by rw [List.getElem?_append_left (by omega)]; exact hrv
  have a1 : (HA ++ [AObj.row [v] 0 0 false])[H.length + 1]? = some (.row [.int .i64 0, .slice none 0 0 0 1 false] 0 0 false) := by rw [List.getElem?_append_left (by omega)]; exact hrp
  have a2 : (HA ++ [AObj.row [v] 0 0 false])[H.length + 2]? = some (.row [.int .i64 0] 0 0 false) := by rw [List.getElem?_append_left (by omega)]; exact hre
  have a3 : (HA ++ [AObj.row [v] 0 0 false])[H.length + 3]? = some (.row [v] 0 0 false) := by rw [← hlA]; simp
  have a4 : (HA ++ [AObj.row [v] 0 0 false]).length = H.length + 4 := by simp [hlA]
  have a5 : Ext H (HA ++ [AObj.row [v] 0 0 false]) := hEA.trans (.push _ _)
  rw [hlA]
  clear hrv hrp hre ev
  generalize HA ++ [AObj.row [v] 0 0 false] = H1 at a0 a1 a2 a3 a4 a5 ⊢
  have hv1' := hv.ext a5
  generalize hp : H.length = p at a0 a1 a2 a3 a4 hlA fin ⊢
  refine L_block (L_range [1, 2, 3, 5] rfl (okFn_low (by omega) (by omega)) ?_)
  generalize hL : (⟨21, _, _, _, _⟩ : LR) = L
  have hnt : L.nt = 21 := by rw [← hL]
  have hps : L.ps = #[14] := by rw [← hL]
  have hass := congrArg LR.assign hL.symm
  have he : L.e = [(1, .ptr p 0 0), (2, .ptr (p + 1) 0 0), (3, .ptr (p + 2) 0 0)] := by rw [← hL]; rfl
  have hbody := congrArg LR.body hL.symm
  clear hL
  obtain ⟨V, hV⟩ : ∃ V, sols c.length 0 c = V := ⟨_, rfl⟩
  rw [hV] at h2 h3
  have hTl : ∀ T ∈ V, T.length ≤ 1000000 := fun T hT => by
    rw [← hV] at hT
    have h9 := isT_len ((mem_sols rfl).1 hT).1
    have h8 : c.length * c.length ≤ 8 * 8 := Nat.mul_le_mul ho.le ho.le
    omega
  have hr0 : (H1 ++ [AObj.loop .ready .normal L])[H1.length]? = some (.loop .ready .normal L) := by simp
  have hlen : (H1 ++ [AObj.loop .ready .normal L]).length = p + 5 := by simp [a4]
  have hin : ∀ j, j < H1.length → (H1 ++ [AObj.loop .ready .normal L])[j]? = H1[j]? := fun j hj => List.getElem?_append_left hj
  refine plans1_ac (r := H1.length) (M := p + 5) (J := fun rest H' => p + 5 ≤ H'.length ∧ rest = V ∧ (∃ s, H'[p]? = some (.row [v] 0 s false)) ∧ (∃ s, H'[p + 1]? = some (.row [.int .i64 0, .slice none 0 0 0 1 false] 0 s false)) ∧ (∃ s, H'[p + 2]? = some (.row [.int .i64 0] 0 s false)) ∧ H'[H1.length]? = some (.loop .ready .normal L) ∧ Ext H H')
    (Z := fun l H' => p + 5 ≤ H'.length ∧ (∃ T u s, V.head? = some T ∧ H'[p + 1]? = some (.row [.int .i64 (c.length : Nat), u] 0 s false) ∧ u.one = true ∧ OwnK 2 l H' u (tb T)) ∧ (∃ s, H'[p + 2]? = some (.row [.int .i64 0] 0 s false)) ∧ H'[H1.length]? = some (.loop .done .ret L) ∧ Ext H H') ?_ c ho.pos ho.le ho.b (p + 3) 0 v _ _ hlen (by rw [hin _ (by omega)]; exact a3) (hv1'.ext (.push _ _)) ?_ ?_
  · refine ⟨fun rest H2 H3 hM hK ⟨g0, g1, ⟨s, g2⟩, ⟨s5, g5⟩, ⟨s6, g6⟩, g3, g4⟩ => ?_, fun l H2 H3 hM hk hK ⟨g0, ⟨T, u, s, gh, g5, gu, go⟩, ⟨s6, g6⟩, g3, g4⟩ => ?_, fun X rest H2 u hM ⟨g0, g1, ⟨s, g2⟩, ⟨s5, g5⟩, ⟨s6, g6⟩, g3, g4⟩ hu => ?_⟩
    · have hk := hK.1
      exact ⟨by omega, g1, ⟨s, (hK.2 _ (by omega)).trans g2⟩, ⟨s5, (hK.2 _ (by omega)).trans g5⟩, ⟨s6, (hK.2 _ (by omega)).trans g6⟩, (hK.2 _ (by omega)).trans g3, ⟨Nat.le_trans g4.1 hK.1, fun j hj => by rw [hK.2 j (by omega), g4.2 j hj]⟩⟩
    · refine ⟨by omega, ⟨T, u, s, gh, (hK _ (by omega) (.inl (by omega))).trans g5, gu, ?_⟩, ⟨s6, (hK _ (by omega) (.inl (by omega))).trans g6⟩, (hK _ (by omega) (.inl (by omega))).trans g3, ⟨Nat.le_trans g4.1 hk, fun j hj => by rw [hK j (by omega) (.inl (by omega)), g4.2 j hj]⟩⟩
      obtain ⟨o1, o2 | ⟨r, ver, st, o3, o4, o5⟩⟩ := go
      · exact ⟨o1, .inl o2⟩
      · exact ⟨o1, .inr ⟨r, ver, st, o3, o4, (hK _ (List.getElem?_eq_some_iff.1 o5).1 (.inr o3)).trans o5⟩⟩
    · refine AYld_mkA g3 (by rw [hps]; rfl) (by rw [hps, hnt]; simp) ?_
      rw [hnt, hps, he, hass]
      refine L_reg [1, 2, 3, 5] (fun K hK => ?_)
      simp [psEnv]
      apply hK; clear hK K
      refine ⟨rfl, .normal, L, g3, ?_⟩
      rw [hbody]
      have b2 : (H2.set H1.length (.loop .busy .normal L))[p]? = some (.row [v] 0 s false) := by rw [set_ne (by omega)]; exact g2
      have b5 : (H2.set H1.length (.loop .busy .normal L))[p + 1]? = some (.row [.int .i64 0, .slice none 0 0 0 1 false] 0 s5 false) := by rw [set_ne (by omega)]; exact g5
      have b6 : (H2.set H1.length (.loop .busy .normal L))[p + 2]? = some (.row [.int .i64 0] 0 s6 false) := by rw [set_ne (by omega)]; exact g6
      have br : (H2.set H1.length (.loop .busy .normal L))[H1.length]? = some (.loop .busy .normal L) := by rw [List.getElem?_set_self (by omega)]
      have bE : Ext H (H2.set H1.length (.loop .busy .normal L)) := g4.set _ (by omega)
      have bl : (H2.set H1.length (.loop .busy .normal L)).length = H2.length := by simp
      have bo : ∀ j, p + 5 ≤ j → j < H2.length → (H2.set H1.length (.loop .busy .normal L))[j]? = H2[j]? := fun j h3 h4 => by rw [set_ne (by omega)]
      have bu : Rs 2 (H2.set H1.length (.loop .busy .normal L)) u (tb X) := by
        obtain ⟨r, off, ver, sz, full, rfl, hld⟩ := hu
        refine ⟨r, off, ver, sz, full, rfl, fun i hi => ?_⟩
        obtain ⟨r', e1, e2, e3⟩ := hld i hi
        refine ⟨r', e1, e2, ?_⟩
        have hrr : H1.length ≠ r' := by
          rintro rfl
          have hne : ldn H2 H1.length ver 2 (off + i * 2) = none := by simp only [ldn, g3]
          rw [hne] at e3
          cases e3
        rw [← e3]
        simp only [ldn, set_ne hrr]
      generalize H2.set H1.length (.loop .busy .normal L) = H3 at *
      have e2 : ld H3 p 0 0 = some v := by rw [ld_row b2]; exact known_one hv1
      have hv3 := ils_len (hv.ext bE)
      have hX : V.head? = some X := by rw [← g1]; rfl
      obtain ⟨u', H4, hC, hO, hE, hone⟩ := CloneT_ex u X H3 (hTl X (by rw [← g1]; simp)) bu
      have b5' := hE.row b5
      have b6' := hE.row b6
      obtain ⟨r8, v8, z8, hu8⟩ := hO.len
      have hst5 := st_two (u := 34) ag34 (x := .int .i64 (c.length : Nat)) (y := u') b5' (by simp) (by simp) rfl hone
      have b7 : (H4.set (p + 1) (.row [.int .i64 (c.length : Nat), u'] 0 0 false))[p + 2]? = some (.row [.int .i64 0] 0 s6 false) := by rw [set_ne (by omega)]; exact b6'
      have hst6 := st_one (u := 24) sc24 (x := .int .i64 0) (y := .int .i64 0) b7 rfl rfl
      have hle := hE.1
      have k5 : ((H4.set (p + 1) (.row [.int .i64 (c.length : Nat), u'] 0 0 false)).set (p + 2) (.row [.int .i64 0] 0 0 false))[p + 1]? = some (.row [.int .i64 (c.length : Nat), u'] 0 0 false) := by rw [set_ne (by omega)]; exact get_set b5'
      have k6 := get_set (o' := .row [AV.int .i64 0] 0 0 false) b7
      have kE : Ext H ((H4.set (p + 1) (.row [.int .i64 (c.length : Nat), u'] 0 0 false)).set (p + 2) (.row [.int .i64 0] 0 0 false)) := ((bE.trans hE).set _ (by omega)).set _ (by omega)
      have kr : ((H4.set (p + 1) (.row [.int .i64 (c.length : Nat), u'] 0 0 false)).set (p + 2) (.row [.int .i64 0] 0 0 false))[H1.length]? = some (.loop .busy .normal L) := by rw [set_ne (by omega), set_ne (by omega)]; exact hE.row br
      have ko : ∀ j, p + 5 ≤ j → ((H4.set (p + 1) (.row [.int .i64 (c.length : Nat), u'] 0 0 false)).set (p + 2) (.row [.int .i64 0] 0 0 false))[j]? = H4[j]? := fun j hj => by rw [set_ne (by omega), set_ne (by omega)]
      have kl : ((H4.set (p + 1) (.row [.int .i64 (c.length : Nat), u'] 0 0 false)).set (p + 2) (.row [.int .i64 0] 0 0 false)).length = H4.length := by simp
      generalize H4.set (p + 1) (.row [.int .i64 (c.length : Nat), u'] 0 0 false) = H5 at *
      generalize H5.set (p + 2) (.row [.int .i64 0] 0 0 false) = H6 at *
      refine L_block ?_
      refine L_regU mixed [true, false, false, false] [2, 3] (by kernel_rfl) (fun K hK => ?_)
      simp [okFn_low, e2, hv3]
      refine ⟨fun _ => .refl _, exX_mk hC hE ?_⟩
      simp [built34 _ hu8, hst5, hst6]
      apply hK; clear hK K
      refine L_ret ⟨.busy, .normal, L, kr, false, rfl, ?_⟩
      refine ⟨⟨by simp; omega, ⟨X, u', 0, hX, ?_, hone, ?_⟩, ⟨0, ?_⟩, ?_, ?_⟩, by simp; omega, fun j h3 h4 => ?_⟩
      · rw [set_ne (by omega)]; exact k5
      · obtain ⟨o1, o2 | ⟨r, ver, st, o3, o4, o5⟩⟩ := hO
        · exact ⟨o1, .inl o2⟩
        · exact ⟨o1, .inr ⟨r, ver, st, by omega, o4, by rw [set_ne (by omega), ko r (by omega)]; exact o5⟩⟩
      · rw [set_ne (by omega)]; exact k6
      · rw [List.getElem?_set_self (by omega)]; rfl
      · exact kE.set _ (by omega)
      · rw [set_ne (by omega), ko j h3, hE.2 j (by omega)]; exact bo j h3 h4
  · refine ⟨by omega, hV, ⟨0, ?_⟩, ⟨0, ?_⟩, ⟨0, ?_⟩, hr0, a5.trans (.push _ _)⟩
    · rw [hin _ (by omega)]; exact a0
    · rw [hin _ (by omega)]; exact a1
    · rw [hin _ (by omega)]; exact a2
  · intro t H' ht
    cases t with
    | false =>
      obtain ⟨m, hm, g0, ⟨T, u, s, gh, g5, gu, go⟩, ⟨s6, g6⟩, g3, g4⟩ := ht
      refine ⟨.done, .ret, L, g3, by simp, ?_⟩
      have b5 : (H'.set H1.length (.loop .exhausted .ret L))[p + 1]? = some (.row [.int .i64 (c.length : Nat), u] 0 s false) := by rw [set_ne (by omega)]; exact g5
      have b6 : (H'.set H1.length (.loop .exhausted .ret L))[p + 2]? = some (.row [.int .i64 0] 0 s6 false) := by rw [set_ne (by omega)]; exact g6
      refine ⟨.inr rfl, .tuple [.agg [.int .i64 (c.length : Nat), u], .int .i64 0], res2 rfl (by rw [show eget _ 2 = AV.ptr (p + 1) 0 0 from rfl]; exact ld_two ag34 b5 rfl gu) (by rw [show eget _ 3 = AV.ptr (p + 2) 0 0 from rfl, ld24, ld_row b6]; rfl), ?_⟩
      refine h3 T gh u _ ?_ (g4.set (.loop .exhausted .ret L) (show H.length ≤ H1.length by omega))
      obtain ⟨o1, o2 | ⟨r, ver, st, o3, o4, o5⟩⟩ := go
      · exact ⟨o1, .inl o2⟩
      · exact ⟨o1, .inr ⟨r, ver, st, by omega, o4, by rw [set_ne (by omega)]; exact o5⟩⟩
    | true =>
      obtain ⟨g0, gV, -, ⟨s5, g5⟩, ⟨s6, g6⟩, g3, g4⟩ := ht
      refine ⟨.ready, .normal, L, g3, by simp, ?_⟩
      have b5 : (H'.set H1.length (.loop .exhausted .normal L))[p + 1]? = some (.row [.int .i64 0, .slice none 0 0 0 1 false] 0 s5 false) := by rw [set_ne (by omega)]; exact g5
      have b6 : (H'.set H1.length (.loop .exhausted .normal L))[p + 2]? = some (.row [.int .i64 0] 0 s6 false) := by rw [set_ne (by omega)]; exact g6
      have bE : Ext H (H'.set H1.length (.loop .exhausted .normal L)) := g4.set _ (by omega)
      obtain ⟨HY, HZ, k1, k2, k3, k4⟩ := fin _ _ _ 12 b5 b6 bE
      show AWL _ _ _ _ _ _
      generalize H'.set H1.length (.loop .exhausted .normal L) = H4 at *
      refine L_reg [2, 3] (fun K hK => ?_)
      simp [built34_0, k1, k2]
      apply hK; clear hK K
      exact L_ret ⟨.inr rfl, _, k3, h2 gV.symm _ k4⟩
end Go.Proofs.Ytbimapbcpmeooaa.Cl
