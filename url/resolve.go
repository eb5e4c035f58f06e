package url

import (
	"bytes"
	"strings"

	"marginalia/api"
)

// resolved is u in the light of a base.
func resolved(base, u api.Url) api.Url {
	if u.HasScheme {
		u.Path = withoutDots(u.Path)
		return u
	}
	u.Scheme, u.HasScheme = base.Scheme, true
	if u.HasAuthority {
		u.Path = withoutDots(u.Path)
		return u
	}
	u.Authority, u.HasAuthority = base.Authority, base.HasAuthority
	if u.Path == "" && !u.HasQuery {
		u.Query, u.HasQuery = base.Query, base.HasQuery
	}
	u.Path = withoutDots(merged(base, u.Path))
	return u
}

// merged path of a link that has neither scheme nor authority: where it is, seen from the base.
func merged(base api.Url, path string) string {
	switch {
	case path == "":
		return base.Path
	case path[0] == '/':
		return path
	case base.HasAuthority && base.Path == "":
		return "/" + path
	}
	return base.Path[:strings.LastIndexByte(base.Path, '/')+1] + path
}

// withoutDots is a path as RFC 3986 (5.2.4) leaves it. One of any length: a merged path may be longer than each of those that it is of.
func withoutDots(path string) string {
	in := path
	var out []byte
	begins := func(mark string) bool { return strings.HasPrefix(in, mark) }
	for in != "" {
		switch {
		case begins("../"):
			in = in[3:]
		case begins("./"), begins("/./"):
			in = in[2:]
		case begins("/../"):
			in = in[3:]
			out = withoutLast(out)
		case in == "/.":
			in = "/"
		case in == "/..":
			in = "/"
			out = withoutLast(out)
		case in == ".", in == "..":
			in = ""
		default:
			n := firstPart(in)
			out = append(out, in[:n]...)
			in = in[n:]
		}
	}
	return string(out)
}

// withoutLast is a path without its last /, and what is behind it.
func withoutLast(path []byte) []byte {
	return path[:max(bytes.LastIndexByte(path, '/'), 0)]
}

// firstPart of a path that has one, with the / ahead of it if there is one: its length.
func firstPart(path string) int {
	n := strings.IndexByte(path[1:], '/')
	if n < 0 {
		return len(path)
	}
	return n + 1
}
