package hmac

import "testing"

// Two unlike sides with one tag can't be had of keys and messages, so that they are made up here.
func TestClashOfSides(t *testing.T) {
	one := side{block: "B", msg: "m", inner: "Bm", outer: "Bs", tag: "t"}
	for _, c := range []struct {
		what   string
		change func(s *side)
		a, b   string
		found  bool
	}{
		{"the same", func(s *side) {}, "", "", false},
		{"unlike tags", func(s *side) { s.tag = "u" }, "", "", false},
		{"unlike in all, tags too", func(s *side) { *s = side{"C", "n", "Cn", "Cr", "u"} }, "", "", false},
		{"unlike blocks", func(s *side) { *s = side{"C", "m", "Cm", "Cr", "t"} }, "Bs", "Cr", true},
		{"unlike messages", func(s *side) { *s = side{"B", "n", "Bn", "Br", "t"} }, "Bs", "Br", true},
		{"unlike in both", func(s *side) { *s = side{"C", "n", "Cn", "Cr", "t"} }, "Bs", "Cr", true},
		{"unlike messages, one Outer", func(s *side) { s.msg, s.inner = "n", "Bn" }, "Bm", "Bn", true},
	} {
		other := one
		c.change(&other)
		if a, b, found := clash(one, other); a != c.a || b != c.b || found != c.found {
			t.Errorf("%s: %q %q %t", c.what, a, b, found)
		}
		if b, a, found := clash(other, one); a != c.a || b != c.b || found != c.found {
			t.Errorf("%s, the other way: %q %q %t", c.what, a, b, found)
		}
	}
}

// What a side holds is what the calls tell of its key and message.
func TestSideOf(t *testing.T) {
	for _, key := range []string{"", "k", "a key of more than sixty-four bytes, so that its sum stands for it in its block"} {
		for _, msg := range []string{"", "m", "a message"} {
			w := side{block: Key(key), msg: msg, inner: Inner(key, msg), outer: Outer(key, msg), tag: Mac(key, msg)}
			if s := sideOf(key, msg); s != w {
				t.Errorf("side of %q and %q: %q, asked %q", key, msg, s, w)
			}
		}
	}
}
