/- Two orders by numbers. -/
import Derived.Test.YtbhdddifpgfemaaDealt
namespace Go.Proofs.Ytbhdddifpgfemaa
open Go Go.Proofs.Ytbhdddifpgfemaa.AX
theorem ag53 : aggSz Try.prog 53 = some 7 := by kernel_rfl
theorem ag55 : aggSz Try.prog 55 = some 15 := by kernel_rfl
@[simp] theorem ld53 (H : AH) (r off ver : Nat) : loadV Try.prog 53 H (.ptr r off ver) = (ldn H r ver 7 off).map .agg := load_agg ag53 ..
@[simp] theorem ld55 (H : AH) (r off ver : Nat) : loadV Try.prog 55 H (.ptr r off ver) = (ldn H r ver 15 off).map .agg := load_agg ag55 ..
@[simp] theorem fa550 (r off ver : Nat) : aFieldAddr Try.prog 55 (.ptr r off ver) 0 = some (.ptr r (off + 0) ver) := fld_ptr (by kernel_rfl) ..
@[simp] theorem fa551 (r off ver : Nat) : aFieldAddr Try.prog 55 (.ptr r off ver) 1 = some (.ptr r (off + 1) ver) := fld_ptr (by kernel_rfl) ..
@[simp] theorem fa552 (r off ver : Nat) : aFieldAddr Try.prog 55 (.ptr r off ver) 2 = some (.ptr r (off + 8) ver) := fld_ptr (by kernel_rfl) ..
def aOf (n : Nat) (ns : List Nat) : List Int := dealS (iota n) (((ns.drop 1).take 7).take n)
def bOf (n : Nat) (ns : List Nat) : List Int := dealS (iota n) (((ns.drop 8).take 7).take n)
theorem u8s_known (ns : List Nat) : ∀ v ∈ u8s ns, v ≠ .undef := by simp [u8s]
theorem u8s_ldn {H : AH} {r : Nat} {ns : List Nat} {s : Nat} {ro : Bool} (hr : H[r]? = some (.row (u8s ns) 0 s ro)) {o : Nat} (ho : o + 7 ≤ ns.length) : ldn H r 0 7 o = some (u8s ((ns.drop o).take 7)) := by
  rw [ldn_row hr]
  have e : (u8s ns).drop o = u8s ((ns.drop o).take 7) ++ u8s ((ns.drop o).drop 7) := by
    unfold u8s
    rw [← List.map_append, List.take_append_drop, List.map_drop]
  have hl : (u8s ((ns.drop o).take 7)).length = 7 := by simp [u8s]; omega
  rw [e]
  have := takeKnown_row (u8s_known ((ns.drop o).take 7)) (u8s ((ns.drop o).drop 7))
  rwa [hl] at this

set_option maxRecDepth 100000 in
theorem made_ac (ns : List Nat) (most : Nat) (H : AH) (Q : AV → AH → Prop) (hns : ns.length = 15) (hb : ∀ x ∈ ns, x < 256) (hm : 1 ≤ most ∧ most ≤ 7)
    (h : ∀ u v H' n, n = 1 + (ns[0]?.getD 0) % most → OwnF H.length H' u ((aOf n ns).map (.int .i64)) → OwnF H.length H' v ((bOf n ns).map (.int .i64)) → Ext H H' → Q (.tuple [u, v]) H') : AC Try.prog 53 [.agg (u8s ns), .int .i64 most] H Q := by
  refine L_body 21 Try.func53 rfl rfl ?_
  refine L_reg [1, 2] (fun K hK => ?_)
  simp [AV.isU, acells]
  apply hK; clear hK K
  have hE1 : Ext H (H ++ [AObj.row (u8s ns) 0 0 false]) := .push _ _
  have hb1 : (H ++ [AObj.row (u8s ns) 0 0 false])[H.length]? = some (.row (u8s ns) 0 0 false) := by simp
  have hlen : H.length ≤ (H ++ [AObj.row (u8s ns) 0 0 false]).length := by simp
  generalize H ++ [AObj.row (u8s ns) 0 0 false] = H1 at hE1 hb1 hlen ⊢
  generalize hb0 : H.length = b at hb1 h hlen ⊢
  have hl0 : ld H1 b 0 0 = some (.int .u8 ((ns[0]?.getD 0 : Nat) : Int)) := by
    rw [ld_row hb1]
    cases ns with
    | nil => simp at hns
    | cons x ns => simp [u8s]
  have hx : ns[0]?.getD 0 < 256 := by
    cases ns with
    | nil => simp
    | cons x ns => simpa using hb x (by simp)
  generalize ns[0]?.getD 0 = x at hl0 hx h
  have hr := rem_nat x most
  have hmod : x % most < most := Nat.mod_lt _ (by omega)
  have hm0 : most ≠ 0 := by omega
  obtain ⟨n, hn⟩ : ∃ n, n = 1 + x % most := ⟨_, rfl⟩
  have hcast : 1 + ((x % most : Nat) : Int) = (n : Int) := by omega
  refine L_reg [2, 6] (fun K hK => ?_)
  simp [hl0, wrap_i64 (a := (x : Int)) (by omega), hm0, hr, wrap_i64 (a := 1 + ((x % most : Nat) : Int)) (by omega), -Int.natCast_emod]
  rw [hcast]
  apply hK; clear hK K
  have h1 := u8s_ldn hb1 (o := 1) (by omega)
  have h8 := u8s_ldn hb1 (o := 8) (by omega)
  have hbd : ∀ o : Nat, ∀ x ∈ (ns.drop o).take 7, x < 256 := fun o x hx => hb x (List.mem_of_mem_drop (List.mem_of_mem_take hx))
  have hbd1 := hbd 1
  have hbd8 := hbd 8
  have hle1 : ((ns.drop 1).take 7).length = 7 := by rw [List.length_take, List.length_drop]; omega
  have hle8 : ((ns.drop 8).take 7).length = 7 := by rw [List.length_take, List.length_drop]; omega
  unfold aOf bOf at h
  generalize (ns.drop 1).take 7 = l1 at h1 hbd1 hle1 h
  generalize (ns.drop 8).take 7 = l2 at h8 hbd8 hle8 h
  refine L_regY mixed [4, 5] (by kernel_rfl) (fun K hK => ?_)
  simp [h1, okFn_low]
  refine exX_mk (fun Q hQ => dealt_q n l1 H1 (by omega) hle1 hbd1 Q hQ) (ordE _ _) ?_
  simp [h8, okFn_low]
  refine exX_mk (fun Q hQ => dealt_q n l2 _ (by omega) hle8 hbd8 Q hQ) (ordE _ _) ?_
  simp
  apply hK; clear hK K
  refine L_ret ⟨.inr rfl, _, rfl, ?_⟩
  have h := fun u v H' => h u v H' n hn
  generalize dealS (iota n) (l1.take n) = a at h ⊢
  generalize dealS (iota n) (l2.take n) = c at h ⊢
  show Q (.tuple [ordV H1 a, ordV (ordH H1 a) c]) (ordH (ordH H1 a) c)
  have hrow1 : (ordH H1 a)[H1.length]? = some (.row (a.map (.int .i64)) 0 a.length false) := by simp [ordH]
  refine h _ _ _ (.inr ⟨H1.length, 0, _, by omega, ?_, (ordE (ordH H1 a) c).row hrow1⟩) (.inr ⟨(ordH H1 a).length, 0, c.length, ?_, ?_, ?_⟩) ((hE1.trans (ordE _ _)).trans (ordE _ _))
  · simp [ordV]
  · simp [ordH]; omega
  · simp [ordV]
  · simp [ordH]
end Go.Proofs.Ytbhdddifpgfemaa
