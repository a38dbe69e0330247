/- sort.Sort over a queue's address: the row stands in order. -/
import Derived.Test.YteiadigafkollaaSt9
namespace Go.Proofs.Yteiadigafkollaa
open Go.RowKit Go.Sort Go.Shelf Go.Lib

set_option maxHeartbeats 4000000 in
set_option maxRecDepth 100000 in
theorem sort_q (w : World) (qb qo X cap : Nat) (d : Array Tm) (h : QAt w qb qo X cap d) (hm : d.size ≤ 1000000000000) :
    Calls Try.prog 37 #[.iface 74 (.pointer (some ⟨qb, qo, none⟩))] w fun e w' => e = .returned (.tuple #[]) ∧ ∃ d', d'.toList.Perm d.toList ∧ SortedIn tlt 0 d.size d' ∧ QAt w' qb qo X cap d' ∧ Keep X w w' := by
  have eN := ent_len
  have mN := inv_len h.head
  by_cases h1 : (d.size : Int) ≤ 1
  · have HQ : Hid _ := h
    clear h
    go_enter Try.func37, Try.ntmps37
    go_wp2_with (go_at_fn 91; refine (len_any _ _ _ _).mono ?_; rintro e w' ⟨rfl, rfl⟩)
    first | go_end0 | ((try simp only [Exit.inBlock, Exit.then]); refine bodyPost_ret (results_none rfl _ _ _) rfl ?_)
    exact ⟨rfl, d, List.Perm.refl _, fun i j _ _ _ => by omega, HQ.out, Keep.refl _ _⟩
  · have hlim : Lib.bitLen d.size ≤ 62 := Lib.bitLen_le d.size 62 (by omega) (by omega)
    have B := Try.bits_Len (d.size : Int) w (by omega) (by omega)
    rw [show ((d.size : Int)).toNat = d.size by omega] at B
    have C := pdq_q d.size w qb qo X cap d h 0 d.size (Lib.bitLen d.size) (Nat.zero_le _) (Nat.le_refl _) (by omega) hm (by omega) (Or.inl rfl) 0 d.size (Lib.bitLen d.size) rfl rfl rfl
    have wr : IntKind.u64.wrap (d.size : Int) = d.size := by simp [IntKind.wrap, IntKind.bits, IntKind.signed]; omega
    clear h
    go_enter Try.func37, Try.ntmps37
    go_wp2_with (first | (go_at_fn 91; refine (len_any _ _ _ _).mono ?_; rintro e w' ⟨rfl, rfl⟩) | (go_at_call 47; refine B.mono ?_; rintro e w' ⟨rfl, rfl⟩) | (go_at_call 48; refine C.mono ?_; rintro e w1 ⟨rfl, d', p1, s1, q1, k1⟩))
    first | go_end0 | ((try simp only [Exit.inBlock, Exit.then]); refine bodyPost_ret (results_none rfl _ _ _) rfl ?_)
    refine ⟨rfl, d', ?_, s1, q1, k1⟩
    have e := p1.2.2
    have hd : d'.toList.take d.size = d'.toList := List.take_of_length_le (by simp [p1.1])
    simpa [p1.1, hd] using e
end Go.Proofs.Yteiadigafkollaa
