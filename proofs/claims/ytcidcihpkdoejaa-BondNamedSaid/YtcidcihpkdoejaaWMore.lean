/- A group more, a lock more, a greater group: the walk. -/
import Derived.Test.YtcidcihpkdoejaaCut
import Derived.Test.YtcidcihpkdoejaaWorks
namespace Go.Proofs.Ytcidcihpkdoejaa.Bo
open Go Go.Proofs.Ytcidcihpkdoejaa Go.Proofs.Ytcidcihpkdoejaa.AX
set_option maxRecDepth 100000
theorem takeK_sV : ∀ b : List Nat, takeKnown b.length (sV b) = some (sV b)
  | [] => rfl
  | x :: b => by
    rw [List.length_cons, takeKnown_succ]
    show Option.map _ (takeKnown b.length (sV b)) = _
    rw [takeK_sV b]; rfl
theorem ldn_sV {H : AH} {p k : Nat} {b : List Nat} (hb : b.length = 10) (hr : H[p]? = some (.row (sV b) 0 k false)) : ldn H p 0 10 0 = some (sV b) := by
  rw [ldn_row hr, List.drop_zero]
  have := takeK_sV b
  rw [hb] at this
  exact this
theorem n_or {P : Program} {t : TypeId} {l : Bool} (x y : Nat) (hx : x < 64) (hy : y < 64) : binV P .or t l (.int .i64 (x : Int)) (.int .i64 (y : Int)) = some (.int .i64 ((x ||| y : Nat) : Int)) := by
  rw [b_or]
  have h1 : (BitVec.ofInt IntKind.i64.bits (x : Int) ||| BitVec.ofInt IntKind.i64.bits (y : Int)).toNat = x ||| y := by
    show (BitVec.ofInt 64 (x : Int) ||| BitVec.ofInt 64 (y : Int)).toNat = x ||| y
    simp only [BitVec.toNat_or, BitVec.ofInt_natCast, BitVec.toNat_ofNat]
    rw [Nat.mod_eq_of_lt (by omega), Nat.mod_eq_of_lt (by omega)]
  have h2 : x ||| y < 2 ^ 6 := Nat.or_lt_two_pow (n := 6) hx hy
  rw [h1, wrap_i64 (by omega)]
theorem within_snoc (l : List Nat) (x a : Nat) : within (l ++ [x]) a = (within l a || sub x a) := by simp [within]
theorem meets_snoc (l : List Nat) (x a : Nat) : meets (l ++ [x]) a = (meets l a && !(x &&& a == 0)) := by simp [meets]
theorem meets_mono {l : List Nat} {g h : Nat} (hs : sub g h = true) (hg : meets l g = true) : meets l h = true := by
  rw [meets_iff] at *
  intro o ho h0
  refine hg o ho ?_
  rw [and_zero] at *
  intro i hi
  cases hb : g.testBit i with
  | false => rfl
  | true =>
    have h1 := sub_iff.1 hs i hb
    rw [h0 i hi] at h1; cases h1
theorem OkR.snoc {n : Nat} {l : List Nat} (h : OkR n l) (hl : l.length ≤ 60) {x : Nat} (hx : x < 2 ^ n) : OkR n (l ++ [x]) where
  n1 := h.n1
  n6 := h.n6
  len := by simp; omega
  ok := fun o ho => by
    rcases List.mem_append.1 ho with h1 | h1
    · exact h.ok o h1
    · simp only [List.mem_cons, List.not_mem_nil, or_false] at h1; rw [h1]; exact hx
set_option maxHeartbeats 1000000 in
theorem more_ac {b : List Nat} (hb : Sb b) (more one two : Nat) (hm : more < 256) (ho : one < 256) (ht : two < 256) (H : AH) : AC Try.prog 11 [.agg (sV b), .int .u8 more, .int .u8 one, .int .u8 two] H fun v _ => v = .bool true := by
  refine L_body 169 Try.func11 rfl rfl ?_
  refine L_reg [1, 2, 3, 4] (fun K hK => ?_)
  simp [AV.isU, acells]
  apply hK; clear hK K
  have r1 : (H ++ [AObj.row (sV b) 0 0 false])[H.length]? = some (.row (sV b) 0 0 false) := by simp
  generalize H ++ [AObj.row (sV b) 0 0 false] = H1 at r1 ⊢
  have a1 := ldn_sV hb.len r1
  refine L_reg [1, 2, 3, 9, 10] (fun K hK => ?_)
  simp [okFn_low, a1]
  refine made_ac (most := 6) (by decide) (by decide) hb _ _ (fun v H2 hO hE2 => ?_)
  simp
  apply hK; clear hK K
  have hr := okS (most := 6) (by decide) (by decide) hb.len
  have hll := sL_len 6 hb.len
  have hm9 := Nat.mod_lt b[1]! (show 0 < 9 by decide)
  clear a1 r1 hE2
  generalize sN 6 b = n at hr ⊢
  generalize sL 6 b = l at hr hll hO ⊢
  have hs := ownF_ls hO
  have hp := pw n
  have h64 := pw64 hr.n6
  have hn6 := hr.n6
  have hshl : ∀ tt ll, binV Try.prog .shl tt ll (.int .i64 1) (.int .i64 (n : Int)) = some (.int .i64 ((2 ^ n : Nat) : Int)) := fun _ _ => n_shl n hn6
  obtain ⟨N, hN⟩ : ∃ N, 2 ^ n = N := ⟨_, rfl⟩
  have hN0 : N ≠ 0 := by omega
  have q1 := rem_nat more N
  have q2 := rem_nat one N
  have q3 := rem_nat two N
  obtain ⟨x, hx⟩ : ∃ x, more % N = x := ⟨_, rfl⟩
  obtain ⟨a, ha⟩ : ∃ a, one % N = a := ⟨_, rfl⟩
  obtain ⟨c, hc⟩ : ∃ c, two % N = c := ⟨_, rfl⟩
  have lx : x < 2 ^ n := by rw [hN, ← hx]; exact Nat.mod_lt _ (by omega)
  have la : a < 2 ^ n := by rw [hN, ← ha]; exact Nat.mod_lt _ (by omega)
  have lc : c < 2 ^ n := by rw [hN, ← hc]; exact Nat.mod_lt _ (by omega)
  rw [hx] at q1
  rw [ha] at q2
  rw [hc] at q3
  rw [hN] at hshl
  have w1 : IntKind.i64.wrap (more : Int) = more := wrap_i64 (by omega)
  have w2 : IntKind.i64.wrap (one : Int) = one := wrap_i64 (by omega)
  have w3 : IntKind.i64.wrap (two : Int) = two := wrap_i64 (by omega)
  have wx : IntKind.i64.wrap (x : Int) = x := wrap_i64 (by omega)
  have wa : IntKind.i64.wrap (a : Int) = a := wrap_i64 (by omega)
  have wc : IntKind.i64.wrap (c : Int) = c := wrap_i64 (by omega)
  refine L_reg [2, 3, 9, 10, 11] (fun K hK => ?_)
  simp [w1, hshl, q1, hN0]
  apply hK; clear hK K
  refine L_reg [2, 3, 9, 10, 11, 12] (fun K hK => ?_)
  simp [okFn_low]
  refine Clone_ac v (il l) _ _ (by rw [il_len]; omega) hs (fun v' H3 hO3 hE3 => ?_)
  obtain ⟨u, H4, happ, hO4, hE4⟩ := ownF_append (P := Try.prog) (m := 1) (x := .int .i64 (x : Nat)) hE3 el22 el22 hO3 rfl (by simp [il_len]; omega)
  simp [happ]
  apply hK; clear hK K
  have hr2 := hr.snoc (by omega) lx
  have hcat : (il l).map (AV.int .i64) ++ [.int .i64 (x : Int)] = (il (l ++ [x])).map (.int .i64) := by simp [il]
  rw [hcat] at hO4
  have hu := ownF_ls hO4
  have hs4 := hs.ext hE4
  clear hO3 hE3 happ hO4 hO hs hE4
  refine L_reg [3, 9, 10, 11, 12, 13] (fun K hK => ?_)
  simp [w2, hshl, q2, hN0]
  apply hK; clear hK K
  have hor : ∀ tt ll, binV Try.prog .or tt ll (.int .i64 (a : Int)) (.int .i64 (c : Int)) = some (.int .i64 ((a ||| c : Nat) : Int)) := fun _ _ => n_or a c (by omega) (by omega)
  have ld := or_lt la lc
  have hsd := sub_or_l a c
  obtain ⟨d, hd⟩ : ∃ d, a ||| c = d := ⟨_, rfl⟩
  rw [hd] at hor ld hsd
  refine L_reg [9, 10, 11, 12, 13, 14] (fun K hK => ?_)
  simp [w3, hshl, q3, hN0, hor]
  apply hK; clear hK K
  refine L_reg [9, 10, 11, 12, 13, 14, 15, 16] (fun K hK => ?_)
  simp [okFn_low]
  refine rule_ac n v (il l) _ hs4 _ (fun H5 hE5 => ?_)
  simp [okFn_low]
  refine May_ok hr v a la _ (hs4.ext hE5) _ ?_
  simp
  apply hK; clear hK K
  have hs5 := hs4.ext hE5
  have hu5 := hu.ext hE5
  clear hs4 hu hE5
  refine L_reg [9, 10, 11, 12, 13, 14, 15, 16, 17, 18] (fun K hK => ?_)
  simp [okFn_low]
  refine rule_ac n u (il (l ++ [x])) _ hu5 _ (fun H6 hE6 => ?_)
  simp [okFn_low]
  refine May_ok hr2 u a la _ (hu5.ext hE6) _ ?_
  simp
  apply hK; clear hK K
  have hs6 := hs5.ext hE6
  have hu6 := hu5.ext hE6
  clear hs5 hu5 hE6
  refine L_reg [9, 10, 11, 12, 13, 14, 15, 16, 17, 18, 19, 20] (fun K hK => ?_)
  simp [okFn_low]
  refine rule_ac n v (il l) _ hs6 _ (fun H7 hE7 => ?_)
  simp [okFn_low]
  refine May_ok hr v d ld _ (hs6.ext hE7) _ ?_
  simp
  apply hK; clear hK K
  have hs7 := hs6.ext hE7
  have hu7 := hu6.ext hE7
  clear hs6 hu6 hE7
  have hand : ∀ tt ll, binV Try.prog .and tt ll (.int .i64 (x : Int)) (.int .i64 (a : Int)) = some (.int .i64 ((x &&& a : Nat) : Int)) := fun _ _ => n_and x a (by omega) (by omega)
  have hsub : sub x a = decide (x &&& a = x) := by
    unfold sub; rw [Bool.eq_iff_iff]; simp
  have hmono := within_mono (l := l) hsd
  have hmono2 := meets_mono (l := l ++ [x]) hsd
  rw [within_snoc]
  refine L_reg [9, 10, 11, 12, 13, 14, 108] (fun K hK => ?_)
  suffices hk : K [(9, .int .i64 (n : Nat)), (10, v), (11, .int .i64 (x : Nat)), (12, u), (13, .int .i64 (a : Nat)), (14, .int .i64 (d : Nat)), (108, .bool false)] H7 by
    rw [hsub]
    generalize within l a = p1 at hmono ⊢
    generalize within l d = p2 at hmono ⊢
    clear hmono2
    by_cases hxa : x &&& a = x
    · have hq : (((x &&& a : Nat) : Int) != (x : Int)) = false := by rw [hxa]; simp
      cases p1 with
      | true =>
        cases p2 with
        | true => simp [pickV, hxa]; exact hk
        | false => exact absurd (hmono rfl) (by simp)
      | false => cases p2 <;> (simp [pickV, hand, hxa]; exact hk)
    · have hq : (((x &&& a : Nat) : Int) != (x : Int)) = true := by simp; omega
      cases p1 with
      | true =>
        cases p2 with
        | true => simp [pickV, hxa]; exact hk
        | false => exact absurd (hmono rfl) (by simp)
      | false => cases p2 <;> (simp [pickV, hxa]; exact hk)
  apply hK; clear hK K
  refine L_false rfl ?_
  refine L_reg [9, 10, 11, 12, 13, 14, 16, 21] (fun K hK => ?_)
  simp [okFn_low]
  refine plan_ac n u (il (l ++ [x])) _ hu7 _ (fun H5 hE5 => ?_)
  simp [okFn_low]
  refine Opens_ok hr2 u a la _ (hu7.ext hE5) _ ?_
  simp
  apply hK; clear hK K
  have hs8 := hs7.ext hE5
  have hu8 := hu7.ext hE5
  refine L_reg [9, 11, 12, 13, 14, 16, 18, 21, 22] (fun K hK => ?_)
  simp [okFn_low]
  refine plan_ac n v (il l) _ hs8 _ (fun H6 hE6 => ?_)
  simp [okFn_low]
  refine Opens_ok hr v a la _ (hs8.ext hE6) _ ?_
  simp
  apply hK; clear hK K
  have hu9 := hu8.ext hE6
  refine L_reg [11, 13, 16, 18, 19, 20, 21, 22] (fun K hK => ?_)
  simp [okFn_low]
  refine plan_ac n u (il (l ++ [x])) _ hu9 _ (fun H8 hE8 => ?_)
  simp [okFn_low]
  refine Opens_ok hr2 u d ld _ (hu9.ext hE8) _ ?_
  simp
  apply hK; clear hK K
  rw [meets_snoc l x a] at hmono2 ⊢
  refine L_reg [8] (fun K hK => ?_)
  suffices hk : K [(8, .bool true)] H8 by
    generalize meets l a = p1 at hmono2 ⊢
    generalize meets (l ++ [x]) d = p2 at hmono2 ⊢
    by_cases hxa : x &&& a = 0
    · have hq : (((x &&& a : Nat) : Int) == 0) = true := by rw [hxa]; rfl
      have hq2 : (x &&& a == 0) = true := by rw [hxa]; rfl
      rw [hq2]
      cases p1 <;> (simp [pickV, hand, hxa, okFn_low]; refine works_ac _ _ ?_; simp [pickV]; exact hk)
    · have hq2 : (x &&& a == 0) = false := by simpa using hxa
      rw [hq2] at hmono2 ⊢
      cases p1 with
      | true =>
        obtain rfl : p2 = true := hmono2 rfl
        simp [pickV, okFn_low]; refine works_ac _ _ ?_; simp [pickV]; exact hk
      | false => simp [pickV, okFn_low]; refine works_ac _ _ ?_; simp [pickV]; exact hk
  apply hK; clear hK K
  exact L_ret ⟨.inr rfl, _, rfl, rfl⟩
end Go.Proofs.Ytcidcihpkdoejaa.Bo
