package signal

import (
	"slices"
	"testing"

	"rudder/api"
	"rudder/latch"
)

// model is a signal by the document's words, without any layer below.
type model struct {
	c     api.Config
	value int
	votes []int // of all cycles
	own   [4]owned
}

// owned is what the document says that each channel has.
type owned struct {
	came          []Raw // of all cycles
	level, offset int
	state         latch.State
}

func newModel(c api.Config) *model { return &model{c: c, value: c.Safe} }

// floor divides by a number above 0, and rounds down.
func floor(n, by int) int {
	q := n / by
	if n%by < 0 {
		q--
	}
	return q
}

func far(a, b int) int { return max(a-b, b-a) }

func clamp(n, lo, hi int) int { return min(max(n, lo), hi) }

// midOf is the mid of 1 to 4 numbers.
func midOf(l []int) int {
	l = slices.Clone(l)
	slices.Sort(l)
	n := len(l)
	if n%2 == 1 {
		return l[n/2]
	}
	return floor(l[n/2-1]+l[n/2], 2)
}

func has(mask, i int) bool { return mask>>i&1 == 1 }

// mayBe tells whether a cycle may be.
func (m *model) mayBe(raws [4]Raw, shut int) bool {
	for i := range m.c.N {
		if raws[i].Is && (raws[i].N < -2147483648 || raws[i].N > 2147483647) {
			return false
		}
	}
	return shut >= 0 && shut <= 15
}

// step is a cycle, in its order of eight.
func (m *model) step(raws [4]Raw, shut int) (Result, api.Errno) {
	if !m.mayBe(raws, shut) {
		return Result{}, api.ErrArg
	}
	r := Result{Status: api.Status{Suspect: -1}}
	for i := range m.c.N {
		r.Trips[i] = m.ahead(i, raws[i])
	}
	var in []int
	for i := range m.c.N {
		if raws[i].Is && r.Trips[i]&6 == 0 && !m.own[i].state.Latched && !has(shut, i) {
			in = append(in, i)
			r.Status.In += 1 << i
		}
	}
	r.Status.Fail = len(in) == 0
	m.drift(raws, in, &r)
	var evens, weights []int
	for _, i := range in {
		evens = append(evens, raws[i].N-m.own[i].offset)
		weights = append(weights, m.c.Weights[i])
	}
	if len(in) > 0 {
		m.value = m.vote(evens, weights)
	}
	r.Value = m.value
	for i := range m.c.N {
		if raws[i].Is && far(raws[i].N-m.own[i].offset, m.value) > m.c.Mis {
			r.Trips[i] += 32
		}
	}
	if at := m.suspect(evens); at >= 0 {
		r.Status.Suspect = in[at]
	}
	m.learn(raws)
	for i := range m.c.N {
		r.Events[i] = m.latch(i, r.Trips[i] > 0)
		if m.own[i].state.Latched {
			r.Status.Latched += 1 << i
		}
	}
	return r, api.OK
}

// ahead are the trips ahead of the vote.
func (m *model) ahead(i int, raw Raw) int {
	o := &m.own[i]
	o.came = append(o.came, raw)
	if !raw.Is {
		return 1
	}
	trips := 0
	if raw.N < m.c.Lo || raw.N > m.c.Hi {
		trips += 2
	}
	if n := len(o.came); n > 1 && o.came[n-2].Is && far(raw.N, o.came[n-2].N) > m.c.Step {
		trips += 4
	}
	if m.frozen(i, raw) {
		trips += 8
	}
	return trips
}

// frozen tells whether a value came in all cycles of the window, while the votes of all of these but this one moved.
func (m *model) frozen(i int, raw Raw) bool {
	came, votes := m.own[i].came, m.votes
	if len(came) < m.c.Window {
		return false
	}
	came = came[len(came)-m.c.Window:]
	votes = votes[len(votes)-m.c.Window+1:]
	for _, x := range came {
		if !x.Is || x.N != raw.N {
			return false
		}
	}
	return slices.Max(votes)-slices.Min(votes) > m.c.Stuck
}

func (m *model) drift(raws [4]Raw, in []int, r *Result) {
	if len(in) == 0 {
		return
	}
	var l []int
	for _, i := range in {
		l = append(l, raws[i].N)
	}
	for i := range m.c.N {
		if !raws[i].Is {
			continue
		}
		o := &m.own[i]
		o.level += floor(raws[i].N-midOf(l)-o.level, 1<<m.c.Lag)
		if far(o.level, 0) > m.c.Drift {
			r.Trips[i] += 16
		}
	}
}

func (m *model) vote(values, weights []int) int {
	mid, sum, all := midOf(values), 0, 0
	for i, n := range values {
		sum += clamp(n, mid-m.c.Clip, mid+m.c.Clip) * weights[i]
		all += weights[i]
	}
	return clamp(floor(sum, all), m.c.Lo, m.c.Hi)
}

// suspect is the one value that is more than Mis from the mid of the others, by its place.
func (m *model) suspect(values []int) int {
	var l []int
	for i := range values {
		if len(values) < 2 {
			break
		}
		others := slices.Delete(slices.Clone(values), i, i+1)
		if far(values[i], midOf(others)) > m.c.Mis {
			l = append(l, i)
		}
	}
	if len(l) != 1 {
		return -1
	}
	return l[0]
}

func (m *model) learn(raws [4]Raw) {
	for i := range m.c.N {
		if o := &m.own[i]; raws[i].Is {
			o.offset = clamp(o.offset+floor(raws[i].N-m.value-o.offset, 1<<m.c.Gain), -m.c.Auth, m.c.Auth)
		}
	}
	m.votes = append(m.votes, m.value)
}

// latch is a latch's cycle, and what happened.
func (m *model) latch(i int, tripped bool) int {
	s := &m.own[i].state
	switch {
	case s.Out:
	case s.Latched && tripped:
		s.Clean = 0
	case s.Latched:
		s.Clean++
		if s.Clean == m.c.Clean {
			*s = latch.State{Back: s.Back + 1}
			return 2
		}
	case tripped:
		s.Strikes++
		if s.Strikes == m.c.Latch {
			s.Latched, s.Out = true, s.Back == m.c.Budget
			if s.Out {
				return 3
			}
			return 1
		}
	default:
		s.Strikes = 0
	}
	return 0
}

// latched is the mask of those that are.
func (m *model) latched() int {
	mask := 0
	for i := range m.c.N {
		if m.own[i].state.Latched {
			mask += 1 << i
		}
	}
	return mask
}

// stands holds all that a signal tells behind a cycle against the words, of channels that there are not, too.
func stands(t testing.TB, s *Signal, m *model) {
	t.Helper()
	if s.Value() != m.value || s.Latched() != m.latched() {
		t.Fatalf("behind %d cycles Value() = %d, not %d, Latched() = %d, not %d", len(m.votes), s.Value(), m.value, s.Latched(), m.latched())
	}
	for i := -1; i <= 4; i++ {
		is := i >= 0 && i < m.c.N
		var want owned
		if is {
			want = m.own[i]
		}
		if state, ok := s.State(i); ok != is || state != want.state {
			t.Fatalf("behind %d cycles State(%d) = %v, %t, not %v, %t", len(m.votes), i, state, ok, want.state, is)
		}
		if got := s.Offset(i); got != want.offset {
			t.Fatalf("behind %d cycles Offset(%d) = %d, not %d", len(m.votes), i, got, want.offset)
		}
	}
}

// steps holds a cycle, and all that is told behind it, against the words.
func steps(t testing.TB, s *Signal, m *model, raws [4]Raw, shut int) Result {
	t.Helper()
	want, fault := m.step(raws, shut)
	got, e := s.Step(raws, shut)
	if e != fault || got != want {
		t.Fatalf("of %+v\ncycle %d: Step(%v, %d) = %+v, %d,\nnot %+v, %d", m.c, len(m.votes), raws, shut, got, e, want, fault)
	}
	stands(t, s, m)
	return got
}
