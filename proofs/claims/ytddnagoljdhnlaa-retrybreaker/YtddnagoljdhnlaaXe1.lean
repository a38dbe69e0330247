/- Retry: breakers told of failures alone, or that all is fine: plain. -/
import Derived.Test.YtddnagoljdhnlaaXb1
namespace Go.Proofs.Ytddnagoljdhnlaa
open Go.RowKit

/-- Behind k failures. -/
structure TS (L R : Int) (k : Nat) (a : Int) (s : Bk) : Prop where
  lim : s.lim = L
  rst : s.rst = R
  ways : s.ways = []
  trs : s.trs = k
  ab : 0 ≤ a ∧ a ≤ 1000 * k
  md : ((k : Int) < L ∧ s.st = 1 ∧ s.row = k ∧ s.unt = 0 ∧ s.lst = 0 ∧ a = 0) ∨ (L ≤ k ∧ s.st = 2 ∧ s.unt = a ∧ s.lst = a - 1 ∧ 1 ≤ a)
theorem ts_new {L R : Int} (hL : 1 ≤ L) : TS L R 0 0 (newK L R) := ⟨rfl, rfl, rfl, rfl, ⟨by omega, by omega⟩, Or.inl ⟨by show (0 : Int) < L; omega, rfl, rfl, rfl, rfl, rfl⟩⟩
theorem timB_in {a : Int} (h : 0 ≤ a ∧ a ≤ 1099511627776) : timB a = true := by unfold timB; simpa using h
theorem tdE_0 {k : Bk} {a : Int} (h : 0 ≤ a ∧ a ≤ 1099511627776) (hl : k.lst ≤ a) : tdE k a = 0 := by
  unfold tdE
  rw [timB_in h, if_neg (by decide), if_neg (by omega)]
theorem ts_ask {L R : Int} {k : Nat} {a : Int} {s : Bk} (h : TS L R k a s) (hk : k < 40) : askN s a = k + 1 ∧ askB s a = true ∧ askE s a = 0 ∧ askX s a = lettry (hlf { s with lst := a }) := by
  have hab := h.ab
  have hmd := h.md
  have t0 : tdE s a = 0 := tdE_0 ⟨hab.1, by omega⟩ (by omega)
  have lb : letB s a = true := by unfold letB; simp; omega
  have hw : s.ways.length ≠ 1024 := by rw [h.ways]; simp
  have e : askE s a = 0 := by unfold askE; rw [if_neg (by simp [t0]), if_neg (by simp [hw])]
  have b : askB s a = true := by unfold askB; rw [e, lb]; rfl
  refine ⟨by unfold askN; rw [b, h.trs]; rfl, b, e, by unfold askX; rw [e, if_neg (by simp), if_pos lb]⟩
/-- The failure told: what there is behind it. -/
theorem ts_tell {L R : Int} {k : Nat} {a : Int} {s : Bk} (h : TS L R k a s) (hk : k < 40) (hL : 1 ≤ L ∧ L ≤ 12) (hR : 1 ≤ R ∧ R ≤ 1000) : telE (askX s a) (k + 1) a = 0 ∧
    ((k : Int) + 1 < L → (telX (askX s a) (k + 1) false a).st = 1 ∧ (telX (askX s a) (k + 1) false a).row = k + 1 ∧ (telX (askX s a) (k + 1) false a).unt = 0 ∧ TS L R (k + 1) a (telX (askX s a) (k + 1) false a)) ∧
    (¬ (k : Int) + 1 < L → (telX (askX s a) (k + 1) false a).st = 2 ∧ (telX (askX s a) (k + 1) false a).row = 0 ∧ (telX (askX s a) (k + 1) false a).unt = a + R ∧ (askN (telX (askX s a) (k + 1) false a) (a + R - 1) = 0 ∧ askB (telX (askX s a) (k + 1) false a) (a + R - 1) = false ∧ askE (telX (askX s a) (k + 1) false a) (a + R - 1) = 0) ∧ TS L R (k + 1) (a + R) (askX (telX (askX s a) (k + 1) false a) (a + R - 1))) := by
  obtain ⟨_, _, _, eX⟩ := ts_ask h hk
  rw [eX]
  obtain ⟨h1, h2, h3, h4, h5, h6⟩ := h
  obtain ⟨lim, rst, st, row, unt, trn, lst, trs, ways⟩ := s
  simp only at h1 h2 h3 h4 h6
  subst h1 h2 h3 h4
  -- the breaker that has let the try
  obtain ⟨s1, hs1⟩ : ∃ s1, s1 = lettry (hlf { lim := lim, rst := rst, st := st, row := row, unt := unt, trn := trn, lst := a, trs := (k : Int), ways := [] }) := ⟨_, rfl⟩
  rw [← hs1]
  have q : s1.lim = lim ∧ s1.rst = rst ∧ s1.lst = a ∧ s1.trs = (k : Int) + 1 ∧ s1.ways = [((k : Int) + 1, s1.trn)] ∧ (s1.st = if st = 2 then 3 else st) ∧ (s1.row = if st = 2 then 0 else row) ∧ (s1.unt = if st = 2 then 0 else unt) := by
    rw [hs1]
    unfold hlf lettry Bk.turn
    by_cases e : st = 2 <;> simp [e]
  obtain ⟨q1, q2, q3, q4, q5, q6, q7, q8⟩ := q
  clear hs1 eX
  have t0 : tdE s1 a = 0 := tdE_0 ⟨h5.1, by omega⟩ (by omega)
  have lk : lkp s1.ways ((k : Int) + 1) = some s1.trn := by rw [q5]; simp [lkp]
  have e0 : telE s1 ((k : Int) + 1) a = 0 := by unfold telE; rw [lk, if_neg (by simp), t0]
  have rm : rmv s1.ways ((k : Int) + 1) = [] := by rw [q5]; simp [rmv]
  have eX : telX s1 ((k : Int) + 1) false a = hdX { s1 with lst := a, ways := [] } false := by unfold telX; rw [e0, if_neg (by simp), if_pos lk, rm]
  refine ⟨e0, fun hlt => ?_, fun hge => ?_⟩
  · rw [eX]
    have m1 : st = 1 ∧ row = k ∧ unt = 0 ∧ lst = 0 ∧ a = 0 := by omega
    obtain ⟨rfl, rfl, rfl, rfl, rfl⟩ := m1
    rw [if_neg (by decide)] at q6 q7 q8
    have c : hdX { s1 with lst := 0, ways := [] } false = { s1 with lst := 0, ways := [], row := s1.row + 1 } := by
      unfold hdX
      rw [if_neg (by decide), if_pos ⟨q6, by show s1.row + 1 < s1.lim; rw [q7, q1]; exact hlt⟩]
    rw [c]
    refine ⟨q6, by show s1.row + 1 = _; rw [q7], q8, q1, q2, rfl, by show s1.trs = _; rw [q4]; rfl, ⟨by omega, by omega⟩, Or.inl ⟨hlt, q6, by show s1.row + 1 = _; rw [q7]; rfl, q8, rfl, rfl⟩⟩
  · have c : hdX { s1 with lst := a, ways := [] } false = ({ s1 with lst := a, ways := [] } : Bk).turn 2 (a + rst) := by
      unfold hdX
      rw [if_neg (by decide), if_neg ?_]
      · show Bk.turn _ 2 (min (a + s1.rst) 1099511627776) = _
        rw [q2, show min (a + rst) 1099511627776 = a + rst by omega]
      · intro ⟨z1, z2⟩
        have z1 : s1.st = 1 := z1
        have z2 : s1.row + 1 < s1.lim := z2
        rw [q1, q7] at z2
        rcases h6 with ⟨y1, y2, y3, _⟩ | ⟨y1, y2, _⟩
        · rw [if_neg (by omega)] at z2; omega
        · rw [q6, if_pos y2] at z1; cases z1
    rw [eX, c]
    generalize hs2 : ({ s1 with lst := a, ways := [] } : Bk).turn 2 (a + rst) = s2
    have g1 : s2.st = 2 ∧ s2.row = 0 ∧ s2.unt = a + rst ∧ s2.lst = a ∧ s2.lim = lim ∧ s2.rst = rst ∧ s2.ways = [] ∧ s2.trs = (k : Int) + 1 := by
      rw [← hs2]; exact ⟨rfl, rfl, rfl, rfl, q1, q2, rfl, q4⟩
    obtain ⟨g1, g2, g3, g4, g5, g6, g7, g8⟩ := g1
    have u0 : tdE s2 (a + rst - 1) = 0 := tdE_0 ⟨by omega, by omega⟩ (by omega)
    have ub : letB s2 (a + rst - 1) = false := by unfold letB; rw [g1, g3]; simp; omega
    have ue : askE s2 (a + rst - 1) = 0 := by unfold askE; rw [if_neg (by simp [u0]), if_neg (by simp [ub])]
    have ubb : askB s2 (a + rst - 1) = false := by unfold askB; rw [ue, ub]; rfl
    have ux : askX s2 (a + rst - 1) = { s2 with lst := a + rst - 1 } := by unfold askX; rw [ue, if_neg (by simp), if_neg (by simp [ub])]
    refine ⟨g1, g2, g3, ⟨by unfold askN; rw [ubb]; rfl, ubb, ue⟩, ?_⟩
    rw [ux]
    exact ⟨g5, g6, g7, by show s2.trs = _; rw [g8]; rfl, ⟨by omega, by omega⟩, Or.inr ⟨by show lim ≤ ((k + 1 : Nat) : Int); omega, g1, g3, rfl, by omega⟩⟩
/-- Behind k tries that went well. -/
structure FS (k : Nat) (s : Bk) : Prop where
  st : s.st = 1
  row : s.row = 0
  ways : s.ways = []
  lst : 0 ≤ s.lst ∧ s.lst ≤ k
theorem fs_new (L R : Int) : FS 0 (newK L R) := ⟨rfl, rfl, rfl, ⟨Int.le_refl _, Int.le_refl _⟩⟩
theorem fs_step {k : Nat} {s : Bk} (h : FS k s) (hk : k < 40) : askB s k = true ∧ askE s k = 0 ∧ telE (askX s k) (askN s k) k = 0 ∧ (telX (askX s k) (askN s k) true k).st = 1 ∧ (telX (askX s k) (askN s k) true k).row = 0 ∧ FS (k + 1) (telX (askX s k) (askN s k) true k) := by
  have hl := h.lst
  have t0 : tdE s k = 0 := tdE_0 ⟨by omega, by omega⟩ (by omega)
  have lb : letB s k = true := by unfold letB; simp [h.st]
  have hw : s.ways.length ≠ 1024 := by rw [h.ways]; simp
  have e : askE s k = 0 := by unfold askE; rw [if_neg (by simp [t0]), if_neg (by simp [hw])]
  have b : askB s k = true := by unfold askB; rw [e, lb]; rfl
  have n : askN s k = s.trs + 1 := by unfold askN; rw [b]; rfl
  have x : askX s k = lettry { s with lst := k } := by
    unfold askX
    rw [e, if_neg (by simp), if_pos lb]
    unfold hlf
    rw [if_neg (by show s.st ≠ 2; rw [h.st]; decide)]
  rw [n, x]
  obtain ⟨s1, hs1⟩ : ∃ s1, s1 = lettry { s with lst := (k : Int) } := ⟨_, rfl⟩
  rw [← hs1]
  have q : s1.lst = k ∧ s1.ways = [(s.trs + 1, s1.trn)] ∧ s1.st = 1 ∧ s1.row = 0 := by
    rw [hs1]
    exact ⟨rfl, by show s.ways ++ [_] = _; rw [h.ways]; rfl, h.st, h.row⟩
  obtain ⟨q1, q2, q3, q4⟩ := q
  have u0 : tdE s1 k = 0 := tdE_0 ⟨by omega, by omega⟩ (by omega)
  have lk : lkp s1.ways (s.trs + 1) = some s1.trn := by rw [q2]; simp [lkp]
  have e0 : telE s1 (s.trs + 1) k = 0 := by unfold telE; rw [lk, if_neg (by simp), u0]
  have rm : rmv s1.ways (s.trs + 1) = [] := by rw [q2]; simp [rmv]
  have eX : telX s1 (s.trs + 1) true k = { s1 with lst := (k : Int), ways := [], row := 0 } := by
    unfold telX
    rw [e0, if_neg (by simp), if_pos lk, rm]
    unfold hdX
    rw [if_pos rfl, if_pos q3]
  rw [eX]
  exact ⟨b, e, e0, q3, rfl, q3, rfl, rfl, ⟨by show (0 : Int) ≤ k; omega, by show (k : Int) ≤ ((k + 1 : Nat) : Int); omega⟩⟩
end Go.Proofs.Ytddnagoljdhnlaa
