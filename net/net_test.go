package net_test

import (
	"bytes"
	"fmt"
	"math"
	"strings"
	"testing"

	"conclave/api"
	"conclave/net"
)

// among answers a net without messages.
func among(t *testing.T, nodes int) *net.Net {
	t.Helper()
	n, why := net.New(nodes)
	if why != api.OK || n == nil {
		t.Fatalf("New(%d): %d", nodes, why)
	}
	return n
}

func send(t *testing.T, n *net.Net, from, to int, body string) {
	t.Helper()
	if why := n.Send(from, to, []byte(body)); why != api.OK {
		t.Fatalf("Send(%d, %d, %q): %d", from, to, body, why)
	}
}

// with answers a net among five with one message a word, each between two nodes of its own.
func with(t *testing.T, words string) *net.Net {
	t.Helper()
	n := among(t, 5)
	for i, w := range strings.Fields(words) {
		send(t, n, i%5, (i+1)%5, w)
	}
	return n
}

// told answers a message as a text.
func told(m net.Msg) string { return fmt.Sprintf("%d>%d:%s", m.From, m.To, m.Body) }

// way answers all that is under way as one text.
func way(n *net.Net) string {
	var all []string
	for _, m := range n.Pending() {
		all = append(all, told(m))
	}
	return strings.Join(all, " ")
}

// holds looks whether just this is under way, and so many were sent.
func holds(t *testing.T, what string, n *net.Net, all string, sent int) {
	t.Helper()
	if got := way(n); got != all || n.Sent() != sent {
		t.Errorf("%s: %q, %d sent; not %q, %d sent", what, got, n.Sent(), all, sent)
	}
}

// none looks whether Take, Drop and Twice of k answer that there is none.
func none(t *testing.T, n *net.Net, k int) {
	t.Helper()
	if m, ok := n.Take(k); ok || m.From != 0 || m.To != 0 || len(m.Body) != 0 {
		t.Errorf("Take(%d) of nothing: %v, %v", k, m, ok)
	}
	if n.Drop(k) {
		t.Errorf("Drop(%d) of nothing", k)
	}
	if n.Twice(k) {
		t.Errorf("Twice(%d) of nothing", k)
	}
}

func TestP5_1_Runs(t *testing.T) {
	n := among(t, 2)
	send(t, n, 0, 1, "a")
	if !n.Twice(0) {
		t.Error("Twice(0)")
	}
	for range 2 {
		if m, ok := n.Take(0); !ok || told(m) != "0>1:a" {
			t.Errorf("Take(0): %s, %v", told(m), ok)
		}
	}
	none(t, n, 0)
	holds(t, "the chapter's runs", n, "", 1)
}

func TestP5_1_Examples(t *testing.T) {
	n := among(t, 3)
	if why := n.Send(5, 0, []byte("a")); why != api.ErrArg {
		t.Errorf("example 1: %d", why)
	}
	holds(t, "example 1", n, "", 0)
	send(t, n, 0, 1, "a")
	send(t, n, 1, 2, "b")
	if !n.Drop(-1) {
		t.Error("example 2")
	}
	holds(t, "example 2", n, "1>2:b", 2)
}

func TestP5_1_New(t *testing.T) {
	for _, c := range []struct {
		nodes int
		why   api.Errno
	}{
		{1, api.OK}, {2, api.OK}, {3, api.OK}, {4, api.OK}, {api.MaxNodes, api.OK},
		{0, api.ErrArg}, {-1, api.ErrArg}, {api.MaxNodes + 1, api.ErrArg},
		{math.MaxInt, api.ErrArg}, {math.MinInt, api.ErrArg},
	} {
		n, why := net.New(c.nodes)
		if why != c.why || (n != nil) != (c.why == api.OK) {
			t.Errorf("New(%d): %v, %d; not %d", c.nodes, n, why, c.why)
			continue
		}
		if n != nil {
			holds(t, "a new net", n, "", 0)
			none(t, n, 0)
		}
	}
}

func TestP5_1_NetsAreApart(t *testing.T) {
	a, b := among(t, 2), among(t, 2)
	send(t, a, 0, 1, "a")
	holds(t, "another net", b, "", 0)
	holds(t, "the net itself", a, "0>1:a", 1)
}

func TestP5_1_SendBetweenNodes(t *testing.T) {
	ends := []int{math.MinInt, -6, -5, -2, -1, 0, 1, 2, 3, 4, 5, 6, math.MaxInt}
	for nodes := 1; nodes <= api.MaxNodes; nodes++ {
		n := among(t, nodes)
		var all []string
		for _, from := range ends {
			for _, to := range ends {
				want := api.ErrArg
				if from >= 0 && from < nodes && to >= 0 && to < nodes {
					want = api.OK
					all = append(all, fmt.Sprintf("%d>%d:x", from, to))
				}
				if why := n.Send(from, to, []byte("x")); why != want {
					t.Errorf("Send(%d, %d) among %d: %d, not %d", from, to, nodes, why, want)
				}
			}
		}
		if len(all) != nodes*nodes {
			t.Fatalf("%d pairs among %d", len(all), nodes)
		}
		holds(t, "all pairs", n, strings.Join(all, " "), len(all))
	}
}

func TestP5_1_Bodies(t *testing.T) {
	n := among(t, 1)
	long := strings.Repeat("\x00\xffé", 100000)
	for _, b := range []string{"", "a", "\x00", "\xff\xfe", "two words", long} {
		send(t, n, 0, 0, b)
		if all := n.Pending(); len(all) != 1 || string(all[0].Body) != b {
			t.Errorf("Pending of a body of %d bytes", len(b))
		}
		if m, ok := n.Take(0); !ok || string(m.Body) != b {
			t.Errorf("Take of a body of %d bytes: %v", len(b), ok)
		}
	}
	if n.Send(0, 0, nil) != api.OK || n.Send(0, 0, []byte{}) != api.OK {
		t.Error("a body without bytes")
	}
	holds(t, "nil and empty", n, "0>0: 0>0:", 8)
	for range 2 {
		if m, ok := n.Take(1); !ok || len(m.Body) != 0 {
			t.Errorf("Take of no bytes: %v, %v", m, ok)
		}
	}
}

// where holds the place among n that each k means, worked out by hand.
func where() []struct{ n, k, at int } {
	return []struct{ n, k, at int }{
		{1, 0, 0}, {1, 1, 0}, {1, 7, 0}, {1, -1, 0}, {1, -2, 0}, {1, math.MaxInt, 0}, {1, math.MinInt, 0},
		{2, 0, 0}, {2, 1, 1}, {2, 2, 0}, {2, 3, 1}, {2, -1, 0}, {2, -2, 1}, {2, -3, 0}, {2, -4, 1},
		{2, math.MaxInt, 1}, {2, math.MaxInt - 1, 0}, {2, math.MinInt, 1}, {2, math.MinInt + 1, 0},
		{4, 0, 0}, {4, 1, 1}, {4, 2, 2}, {4, 3, 3}, {4, 4, 0}, {4, 5, 1}, {4, 7, 3}, {4, 8, 0}, {4, 1002, 2},
		{4, -1, 0}, {4, -2, 1}, {4, -3, 2}, {4, -4, 3}, {4, -5, 0}, {4, -6, 1}, {4, -1003, 2},
		{4, math.MaxInt, 3}, {4, math.MinInt, 3}, {4, math.MinInt + 1, 2},
		// 2^63 - 1 is 7 times a whole number; 2^63 - 2 is one below that.
		{7, math.MaxInt, 0}, {7, math.MaxInt - 1, 6}, {7, math.MinInt, 0}, {7, math.MinInt + 1, 6},
	}
}

// names answers the words of a net of so many messages.
func names(n int) []string { return strings.Fields("a b c d e f g")[:n] }

// rest answers how a net made by with stands, with the messages in this order.
func rest(order []int) string {
	var all []string
	for _, i := range order {
		all = append(all, fmt.Sprintf("%d>%d:%s", i%5, (i+1)%5, names(7)[i]))
	}
	return strings.Join(all, " ")
}

// places answers 0 to n - 1 without gone (none of them is, if it is -1).
func places(n, gone int) []int {
	var all []int
	for i := range n {
		if i != gone {
			all = append(all, i)
		}
	}
	return all
}

func TestP5_1_Take(t *testing.T) {
	for _, c := range where() {
		n := with(t, strings.Join(names(c.n), " "))
		m, ok := n.Take(c.k)
		if want := rest([]int{c.at}); !ok || told(m) != want {
			t.Errorf("Take(%d) of %d: %s, %v; not %s", c.k, c.n, told(m), ok, want)
		}
		holds(t, fmt.Sprintf("behind Take(%d) of %d", c.k, c.n), n, rest(places(c.n, c.at)), c.n)
	}
}

func TestP5_1_Drop(t *testing.T) {
	for _, c := range where() {
		n := with(t, strings.Join(names(c.n), " "))
		if !n.Drop(c.k) {
			t.Errorf("Drop(%d) of %d", c.k, c.n)
		}
		holds(t, fmt.Sprintf("behind Drop(%d) of %d", c.k, c.n), n, rest(places(c.n, c.at)), c.n)
	}
}

func TestP5_1_Twice(t *testing.T) {
	for _, c := range where() {
		n := with(t, strings.Join(names(c.n), " "))
		if !n.Twice(c.k) {
			t.Errorf("Twice(%d) of %d", c.k, c.n)
		}
		holds(t, fmt.Sprintf("behind Twice(%d) of %d", c.k, c.n), n, rest(append(places(c.n, -1), c.at)), c.n)
	}
}

func TestP5_1_NoneWithoutAny(t *testing.T) {
	ks := []int{0, 1, 2, 511, 512, math.MaxInt, -1, -2, -513, math.MinInt}
	empty := among(t, 3)
	emptied := among(t, 3)
	send(t, emptied, 0, 1, "a")
	send(t, emptied, 1, 2, "b")
	emptied.Take(0)
	emptied.Drop(0)
	for _, k := range ks {
		none(t, empty, k)
		none(t, emptied, k)
	}
	holds(t, "a net without any", empty, "", 0)
	holds(t, "a net that was emptied", emptied, "", 2)
	send(t, emptied, 2, 0, "c")
	holds(t, "one behind that", emptied, "2>0:c", 3)
}

// One row with all of them: what is sent or doubled comes behind, what is taken or dropped leaves no gap.
func TestP5_1_Order(t *testing.T) {
	n := with(t, "a b c d")
	n.Take(1)
	holds(t, "b is taken", n, "0>1:a 2>3:c 3>4:d", 4)
	n.Twice(0)
	holds(t, "a is doubled", n, "0>1:a 2>3:c 3>4:d 0>1:a", 4)
	send(t, n, 4, 4, "e")
	holds(t, "e is sent", n, "0>1:a 2>3:c 3>4:d 0>1:a 4>4:e", 5)
	n.Drop(0)
	holds(t, "the first a is dropped", n, "2>3:c 3>4:d 0>1:a 4>4:e", 5)
	n.Twice(-3)
	holds(t, "the other a is doubled", n, "2>3:c 3>4:d 0>1:a 4>4:e 0>1:a", 5)
	n.Drop(-5)
	n.Drop(3)
	holds(t, "the last ones are dropped", n, "2>3:c 3>4:d 0>1:a", 5)
	send(t, n, 1, 0, "f")
	holds(t, "f is sent", n, "2>3:c 3>4:d 0>1:a 1>0:f", 6)
}

func TestP5_1_Sent(t *testing.T) {
	n := among(t, 3)
	for i := range 10 {
		if n.Send(3, 0, nil) != api.ErrArg || n.Send(0, -1, nil) != api.ErrArg || n.Sent() != i {
			t.Fatalf("refused behind %d: %d", i, n.Sent())
		}
		send(t, n, 0, 2, "a")
		n.Pending()
		if n.Sent() != i+1 {
			t.Fatalf("%d were sent: %d", i+1, n.Sent())
		}
	}
	n.Take(3)
	n.Drop(3)
	n.Drop(-1)
	for range 5 {
		n.Twice(2)
	}
	if n.Sent() != 10 || len(n.Pending()) != 12 {
		t.Errorf("taken, dropped and doubled: %d sent, %d under way", n.Sent(), len(n.Pending()))
	}
}

// filled answers a net with so many under way, each with its number.
func filled(t *testing.T, many int) *net.Net {
	t.Helper()
	n := among(t, 3)
	for i := range many {
		send(t, n, i%3, i/3%3, fmt.Sprint(i))
	}
	return n
}

func TestP5_1_SendToMaxNet(t *testing.T) {
	n := filled(t, api.MaxNet-1)
	send(t, n, 2, 1, "last")
	all := way(n)
	if !strings.HasSuffix(all, " 2>1:last") || len(n.Pending()) != api.MaxNet {
		t.Errorf("the last one: %d", len(n.Pending()))
	}
	for _, b := range [][]byte{nil, []byte("more")} {
		if why := n.Send(0, 1, b); why != api.ErrFull {
			t.Errorf("beyond MaxNet: %d", why)
		}
	}
	for _, c := range [][2]int{{3, 0}, {0, 3}, {-1, 0}, {0, -1}} {
		if why := n.Send(c[0], c[1], nil); why != api.ErrArg {
			t.Errorf("Send%v beyond MaxNet: ErrArg comes first, not %d", c, why)
		}
	}
	holds(t, "refused at MaxNet", n, all, api.MaxNet)
}

func TestP5_1_TwiceToMaxNet(t *testing.T) {
	n := filled(t, api.MaxNet-1)
	before := way(n)
	if !n.Twice(4) {
		t.Error("Twice with one fewer than MaxNet")
	}
	all := before + " 1>1:4"
	holds(t, "doubled to MaxNet", n, all, api.MaxNet-1)
	for _, k := range []int{0, 4, api.MaxNet - 1, api.MaxNet, -1, math.MaxInt, math.MinInt} {
		if n.Twice(k) {
			t.Errorf("Twice(%d) with MaxNet under way", k)
		}
	}
	if why := n.Send(0, 1, nil); why != api.ErrFull {
		t.Errorf("a doubled one fills too: %d", why)
	}
	holds(t, "refused at MaxNet", n, all, api.MaxNet-1)
}

func TestP5_1_RoomComesBack(t *testing.T) {
	n := filled(t, api.MaxNet)
	if m, ok := n.Take(api.MaxNet + 7); !ok || told(m) != "1>2:7" {
		t.Errorf("Take of a full net: %s, %v", told(m), ok)
	}
	send(t, n, 0, 1, "x")
	if n.Send(0, 1, nil) != api.ErrFull {
		t.Error("one was taken: one has room, two have not")
	}
	if !n.Drop(-api.MaxNet) || !n.Drop(-1) || !n.Twice(0) || !n.Twice(0) || n.Twice(0) {
		t.Error("two were dropped: two have room, three have not")
	}
	var want []string
	for i := 1; i < api.MaxNet; i++ {
		if i != 7 {
			want = append(want, fmt.Sprintf("%d>%d:%d", i%3, i/3%3, i))
		}
	}
	want = append(want, "1>0:1", "1>0:1")
	holds(t, "0 and 7 are gone, 1 is there thrice", n, strings.Join(want, " "), api.MaxNet+1)
}

// All that a full net holds is taken, the last one first, then the first one first.
func TestP5_1_AllAreTaken(t *testing.T) {
	n := filled(t, api.MaxNet)
	for i := api.MaxNet - 1; i >= api.MaxNet/2; i-- {
		if m, ok := n.Take(i); !ok || string(m.Body) != fmt.Sprint(i) {
			t.Fatalf("Take(%d): %s, %v", i, told(m), ok)
		}
	}
	for i := range api.MaxNet / 2 {
		if m, ok := n.Take(0); !ok || string(m.Body) != fmt.Sprint(i) {
			t.Fatalf("Take(0), the %dth time: %s, %v", i, told(m), ok)
		}
	}
	none(t, n, 0)
	holds(t, "all are taken", n, "", api.MaxNet)
}

// book holds beside each message, as a text, how often it came under way and how often it left.
type book struct {
	came, left map[string]int
	line       []string // all that is under way
	sent       int
}

func (b *book) come(m string) {
	b.came[m]++
	b.line = append(b.line, m)
}

func (b *book) leave(at int) string {
	m := b.line[at]
	b.left[m]++
	var line []string
	line = append(line, b.line[:at]...)
	b.line = append(line, b.line[at+1:]...)
	return m
}

// meant counts to the message k one step at a time.
func (b *book) meant(k int) int {
	at := 0
	for ; k < -1; k++ {
		at++
	}
	for ; k > 0; k-- {
		at++
	}
	for at >= len(b.line) {
		at -= len(b.line)
	}
	return at
}

// do does one of the steps to the net and to the book, and holds the answers against each other.
func (b *book) do(t *testing.T, n *net.Net, step, mark int) {
	some, k := len(b.line) > 0, step%4-2
	switch step / 4 {
	case 0:
		from, to, body := step%2, step/2%2, fmt.Sprint(mark/2)
		send(t, n, from, to, body)
		b.come(fmt.Sprintf("%d>%d:%s", from, to, body))
		b.sent++
	case 1:
		m, ok := n.Take(k)
		if ok != some {
			t.Fatalf("Take(%d) of %d: %v", k, len(b.line), ok)
		}
		if !some {
			return
		}
		if b.came[told(m)] <= b.left[told(m)] {
			t.Fatalf("Take(%d): %s was not under way", k, told(m))
		}
		if want := b.leave(b.meant(k)); told(m) != want {
			t.Fatalf("Take(%d): %s, not %s", k, told(m), want)
		}
	case 2:
		if n.Drop(k) != some {
			t.Fatalf("Drop(%d) of %d", k, len(b.line))
		}
		if some {
			b.leave(b.meant(k))
		}
	default:
		if n.Twice(k) != some {
			t.Fatalf("Twice(%d) of %d", k, len(b.line))
		}
		if some {
			b.come(b.line[b.meant(k)])
		}
	}
}

// drain takes what is left: each was sent just so, and none comes more often than it was under way.
func (b *book) drain(t *testing.T, n *net.Net) {
	for range len(b.line) {
		m, ok := n.Take(0)
		if !ok || b.came[told(m)] <= b.left[told(m)] {
			t.Fatalf("%s, %v: sent and doubled %d times, left %d times", told(m), ok, b.came[told(m)], b.left[told(m)])
		}
		b.leave(0)
	}
	none(t, n, 0)
}

// Every row of four of sixteen steps behind two Sends: Send between two nodes, Take, Drop and Twice of -2 to 1.
func TestP5_2_WhatIsTakenWasSent(t *testing.T) {
	const steps, long = 16, 4
	for row := range steps * steps * steps * steps {
		n, b := among(t, 2), &book{came: map[string]int{}, left: map[string]int{}}
		b.do(t, n, 2, 0)
		b.do(t, n, 1, 1)
		left := row
		for i := range long {
			b.do(t, n, left%steps, i)
			left /= steps
			if got := way(n); got != strings.Join(b.line, " ") || n.Sent() != b.sent {
				t.Fatalf("row %d, step %d: %q, %d sent; not %q, %d sent", row, i, got, n.Sent(), b.line, b.sent)
			}
		}
		b.drain(t, n)
	}
}

// Long rows, by a rule that goes through the steps unevenly.
func TestP5_2_LongRows(t *testing.T) {
	for seed := range uint32(20) {
		n, b := among(t, 2), &book{came: map[string]int{}, left: map[string]int{}}
		turn := seed*2654435761 + 1
		for i := range 400 {
			turn = turn*1664525 + 1013904223
			b.do(t, n, int(turn>>28), i)
		}
		if got := way(n); got != strings.Join(b.line, " ") || n.Sent() != b.sent {
			t.Fatalf("row %d: %q, %d sent; not %q, %d sent", seed, got, n.Sent(), b.line, b.sent)
		}
		b.drain(t, n)
	}
}

// spoil writes to all of b, its spare room too.
func spoil(b []byte) {
	b = b[:cap(b)]
	for i := range b {
		b[i] = '?'
	}
}

// roomy answers a body with spare room behind it.
func roomy(s string) []byte { return append([]byte(s), "########"...)[:len(s)] }

func TestR2_WhatIsHandedIn(t *testing.T) {
	n := among(t, 2)
	b := roomy("abc")
	if n.Send(0, 1, b) != api.OK || n.Send(1, 0, b[:2]) != api.OK || n.Send(2, 0, b) != api.ErrArg {
		t.Fatal("Send")
	}
	n.Twice(0)
	n.Pending()
	n.Take(2)
	if string(b[:11]) != "abc########" {
		t.Errorf("a call wrote to what Send was given: %q", b[:11])
	}
	spoil(b)
	holds(t, "written to behind Send", n, "0>1:abc 1>0:ab", 2)
	full := filled(t, api.MaxNet)
	c := roomy("xyz")
	if full.Send(0, 1, c) != api.ErrFull || string(c[:11]) != "xyz########" {
		t.Errorf("a refused Send wrote to what it was given: %q", c[:11])
	}
}

func TestR2_WhatPendingAnswers(t *testing.T) {
	n := with(t, "abc de")
	n.Twice(0)
	const all = "0>1:abc 1>2:de 0>1:abc"
	one, two := n.Pending(), n.Pending()
	for i := range one {
		spoil(one[i].Body)
		one[i] = net.Msg{From: 9, To: 9, Body: []byte("?")}
	}
	one = append(one[:1], net.Msg{}, net.Msg{}, net.Msg{}, net.Msg{})
	holds(t, "written to behind Pending", n, all, 2)
	spoil(two[0].Body)
	if string(two[2].Body) != "abc" || string(two[1].Body) != "de" {
		t.Errorf("a pair of one answer shares memory: %q, %q", two[2].Body, two[1].Body)
	}
	three := n.Pending()
	n.Drop(0)
	send(t, n, 3, 3, "f")
	n.Take(0)
	if len(one) != 5 || told(three[0]) != "0>1:abc" || told(three[1]) != "1>2:de" || told(three[2]) != "0>1:abc" {
		t.Errorf("an answer turned with the net: %v", three)
	}
}

func TestR2_WhatTakeAnswers(t *testing.T) {
	for _, k := range []int{0, 2} {
		n := with(t, "abc de")
		n.Twice(0)
		n.Twice(0)
		before := n.Pending()
		m, _ := n.Take(k)
		spoil(m.Body)
		m.From, m.To = 9, 9
		if got := way(n); strings.Count(got, "0>1:abc") != 2 || strings.Count(got, "1>2:de") != 1 {
			t.Errorf("written to behind Take(%d): %s", k, got)
		}
		if told(before[0]) != "0>1:abc" || told(before[2]) != "0>1:abc" {
			t.Errorf("Take(%d) and Pending share memory: %v", k, before)
		}
		if other, _ := n.Take(2); told(other) != "0>1:abc" {
			t.Errorf("the other one of a pair turned: %s", told(other))
		}
	}
}

// Bodies that were taken stay as they are while the net goes on, in their spare room too.
func TestR2_TakenBodiesStay(t *testing.T) {
	n := with(t, "abc")
	n.Twice(0)
	one, _ := n.Take(0)
	two, _ := n.Take(0)
	_ = append(one.Body, "!!!!!!!!"...)
	send(t, n, 0, 1, "xyz")
	n.Drop(0)
	if !bytes.Equal(one.Body, two.Body) || told(two) != "0>1:abc" {
		t.Errorf("%s, %s", told(one), told(two))
	}
}
