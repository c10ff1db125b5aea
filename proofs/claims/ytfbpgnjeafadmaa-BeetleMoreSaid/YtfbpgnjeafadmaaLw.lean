/- Stores that laws make: what the program says of them. -/
import Derived.Test.YtfbpgnjeafadmaaPub2
import Derived.Test.YtfbpgnjeafadmaaMade
import Derived.Test.YtfbpgnjeafadmaaWorks
namespace Go.Proofs.Ytfbpgnjeafadmaa.Fl
open Go Go.Proofs.Ytfbpgnjeafadmaa Go.Proofs.Ytfbpgnjeafadmaa.AX
set_option maxRecDepth 100000

theorem floor_int (n : List Int) (e : n.length = 4) (b : ∀ (i : Nat) (k : IntKind) (x : Int), ([.u8, .u8, .u32, .u32] : List IntKind)[i]? = some k → n[i]? = some x → k.min ≤ x ∧ x ≤ k.max) :
    ∃ a b x y : Nat, List.zipWith AV.int [.u8, .u8, .u32, .u32] n = [.int .u8 a, .int .u8 b, .int .u32 x, .int .u32 y] ∧ a < 256 ∧ b < 256 ∧ x < 4294967296 ∧ y < 4294967296 := by
  match n, e, b with
  | [x0, x1, x2, x3], _, b =>
    have h0 := b 0 .u8 x0 rfl rfl
    have h1 := b 1 .u8 x1 rfl rfl
    have h2 := b 2 .u32 x2 rfl rfl
    have h3 := b 3 .u32 x3 rfl rfl
    simp [IntKind.min, IntKind.max, IntKind.bits, IntKind.signed] at h0 h1 h2 h3
    obtain ⟨y0, rfl⟩ : ∃ y : Nat, x0 = y := ⟨x0.toNat, by omega⟩
    obtain ⟨y1, rfl⟩ : ∃ y : Nat, x1 = y := ⟨x1.toNat, by omega⟩
    obtain ⟨y2, rfl⟩ : ∃ y : Nat, x2 = y := ⟨x2.toNat, by omega⟩
    obtain ⟨y3, rfl⟩ : ∃ y : Nat, x3 = y := ⟨x3.toNat, by omega⟩
    exact ⟨y0, y1, y2, y3, rfl, by omega, by omega, by omega, by omega⟩
/-- A store of sets, as it lies in memory. -/
structure St (H : AH) (r c n : Nat) (S Z : Nat → Bool) (u w : AV) : Prop where
  hs : Sd r c
  hn : r * c = n
  hS : ∀ b, S b = true → b < n
  hZ : ∀ b, Z b = true → b < n
  hd : ∀ b, Z b = true → S b = false
  ls : ∃ l o, Ls H u l ∧ Ls H w o ∧ l.Perm (num S) ∧ o.Perm (num Z)
variable {H H' : AH} {r c n : Nat} {S Z : Nat → Bool} {u w : AV}
theorem St.ext (h : St H r c n S Z u w) (hE : Ext H H') : St H' r c n S Z u w := by
  obtain ⟨l, o, h1, h2, h3, h4⟩ := h.ls
  exact ⟨h.hs, h.hn, h.hS, h.hZ, h.hd, l, o, h1.ext hE, h2.ext hE, h3, h4⟩
theorem perm_len {l : List Int} {S : Nat → Bool} (h : l.Perm (num S)) : l.length ≤ 1000000 := by
  have := h.length_eq
  have := num_len S
  omega
theorem Days_s (h : St H r c n S Z u w) (Q : AV → AH → Prop) (hq : ∀ v' H', Ls H' v' (iL n (day r c (opn n Z) S)) → Ext H H' → Q (.tuple [v', .int .i64 0]) H') : AC Try.prog 20 [.agg [.int .i64 r, .int .i64 c, u, w]] H Q := by
  obtain ⟨l, o, h1, h2, h3, h4⟩ := h.ls
  obtain ⟨e1, e2, e3⟩ := chk_sets h.hs h.hn h.hS h.hZ h.hd h3 h4
  refine Days_ac r c u w l o H Q h1 h2 (perm_len h3) (perm_len h4) (fun hc => absurd e1 hc) fun _ v' H' hL hE => hq v' H' ?_ hE
  rwa [Int.toNat_natCast, Int.toNat_natCast, h.hn, e2, e3] at hL
theorem Spread_s (h : St H r c n S Z u w) (Q : AV → AH → Prop) (hq : ∀ v' H', OwnN H.length H' v' (num (sp r c 2 (opn n Z) S)) → Ext H H' → Q (.tuple [v', .int .i64 0]) H') : AC Try.prog 18 [.agg [.int .i64 r, .int .i64 c, u, w]] H Q := by
  obtain ⟨l, o, h1, h2, h3, h4⟩ := h.ls
  obtain ⟨e1, e2, e3⟩ := chk_sets h.hs h.hn h.hS h.hZ h.hd h3 h4
  refine Spread_ac r c u w l o H Q h1 h2 (perm_len h3) (perm_len h4) (fun hc => absurd e1 hc) fun _ v' H' hL hE => hq v' H' ?_ hE
  rwa [Int.toNat_natCast, Int.toNat_natCast, h.hn, e2, e3] at hL
theorem Outline_s (h : St H r c n S Z u w) (Q : AV → AH → Prop) (hq : ∀ H', Ext H H' → Q (.tuple [.int .i64 (ol r c S), .int .i64 (ol r c (sp r c 2 (opn n Z) S)), .int .i64 0]) H') : AC Try.prog 22 [.agg [.int .i64 r, .int .i64 c, u, w]] H Q := by
  obtain ⟨l, o, h1, h2, h3, h4⟩ := h.ls
  obtain ⟨e1, e2, e3⟩ := chk_sets h.hs h.hn h.hS h.hZ h.hd h3 h4
  refine Outline_ac r c u w l o H Q h1 h2 (perm_len h3) (perm_len h4) (fun hc => absurd e1 hc) fun _ H' hE => ?_
  have := hq H' hE
  rwa [Int.toNat_natCast, Int.toNat_natCast, h.hn, e2, e3]
theorem Idle_s (h : St H r c n S Z u w) (Q : AV → AH → Prop) (hq : ∀ v' H', OwnN H.length H' v' (num fun b => S b && idleB r c n S Z b) → Ext H H' → Q (.tuple [v', .int .i64 0]) H') : AC Try.prog 29 [.agg [.int .i64 r, .int .i64 c, u, w]] H Q := by
  obtain ⟨l, o, h1, h2, h3, h4⟩ := h.ls
  obtain ⟨e1, e2, e3⟩ := chk_sets h.hs h.hn h.hS h.hZ h.hd h3 h4
  refine Idle_ac r c u w l o H Q h1 h2 (perm_len h3) (perm_len h4) (fun hc => absurd e1 hc) fun _ v' H' hL hE => hq v' H' ?_ hE
  rwa [Int.toNat_natCast, Int.toNat_natCast, h.hn, e2, e3] at hL
theorem ownF_one {N : Nat} {H : AH} {v : AV} {l : List AV} (h : OwnF N H v l) : v.one = true := by
  rcases h with ⟨-, rfl⟩ | ⟨r, ver, s, -, rfl, -⟩ <;> rfl
/-- The laws' stores. -/
theorem made_s (a b x y most : Nat) (fz : Bool) (ha : a < 256) (hb : b < 256) (hx : x < 4294967296) (hy : y < 4294967296) (hm : most = 3 ∨ most = 5) (H : AH) (Q : AV → AH → Prop)
    (h : ∀ r c n s z v1 v2 H', r ≤ most → c ≤ most → St H' r c n (tb s) (tb z) v1 v2 → s < 2 ^ n → z < 2 ^ n → (fz = false → z = 0) → v1.one = true → v2.one = true → Ext H H' → Q (.tuple [.agg [.int .i64 r, .int .i64 c, v1, v2], .agg [.int .i64 r, .int .i64 c], .int .u32 s, .int .u32 z]) H') :
    AC Try.prog 40 [.agg [.int .u8 a, .int .u8 b, .int .u32 x, .int .u32 y], .int .i64 most, .bool fz] H Q := by
  refine made_ac a b x y most fz ha hb hx hy hm H Q fun r c n s z v1 v2 H' h1 h2 h3 h4 h5 h6 h7 h8 h9 h10 h11 => ?_
  exact h r c n s z v1 v2 H' h1 h2 ⟨h3, h4, tb_lt h5, tb_lt h6, h7, _, _, ownF_ls h9, ownF_ls h10, List.reverse_perm _, .refl _⟩ h5 h6 h8 (ownF_one h9) (ownF_one h10) h11
theorem ldn_fl {H : AH} {p s : Nat} {ro : Bool} {a b x y : Nat} (hr : H[p]? = some (.row [.int .u8 a, .int .u8 b, .int .u32 x, .int .u32 y] 0 s ro)) : ldn H p 0 4 0 = some [.int .u8 a, .int .u8 b, .int .u32 x, .int .u32 y] := by
  rw [ldn_row hr]; rfl
theorem two24 (H : AH) {m k : Int} {u w : AV} (hu : u.one = true) (hw : w.one = true) (T : AH) : storeV Try.prog 24 (H ++ .row zst 0 0 false :: T) (.ptr H.length 0 0) (.agg [.int .i64 m, .int .i64 k, u, w]) = some (none, H ++ .row [.int .i64 m, .int .i64 k, u, w] 0 0 false :: T) := by
  rw [st24 (c := zst) (s := 0) (by simp) rfl (by simp [zst]) hu hw]; simp
theorem two57 (H : AH) {m k : Int} (A : AObj) (T : AH) : storeV Try.prog 57 (H ++ A :: .row [.int .i64 0, .int .i64 0] 0 0 false :: T) (.ptr (H.length + 1) 0 0) (.agg [.int .i64 m, .int .i64 k]) = some (none, H ++ A :: .row [.int .i64 m, .int .i64 k] 0 0 false :: T) := by
  rw [st57 (a := 0) (b := 0) (s := 0) (by simp)]; simp
theorem zt24' : zeroT Try.prog 24 = some zst := zt24
end Go.Proofs.Ytfbpgnjeafadmaa.Fl
