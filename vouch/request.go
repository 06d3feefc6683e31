package vouch

import "vouch/api"

const (
	requestMark = 'S'
	firstTenant = '0'
)

// asked is what a request asks: to take an entry of a tenant.
type asked struct {
	tenant int
	entry  string
}

// noRequest is what the reading of a request that is none is given up with.
type noRequest struct{}

// readRequest is not ok if the text is no request. What it answers shares the
// text's memory.
func readRequest(text string) (a asked, ok bool) {
	defer func() {
		switch given := recover().(type) {
		case nil:
		case noRequest:
			a, ok = asked{}, false
		default:
			panic(given)
		}
	}()
	r := reader{rest: text}
	r.within(requestMark, requestMark)
	a.tenant = r.within(firstTenant, firstTenant+api.Tenants-1) - firstTenant
	a.entry = r.take(r.within(1, api.MaxEntry))
	r.end()
	return a, true
}

// reader goes through a text; where the text is not as it must be, it gives up.
type reader struct {
	rest string
}

// within is the next byte, which must be from least to most.
func (r *reader) within(least, most int) int {
	b := int(r.take(1)[0])
	if b < least || b > most {
		panic(noRequest{})
	}
	return b
}

func (r *reader) take(n int) string {
	if len(r.rest) < n {
		panic(noRequest{})
	}
	taken := r.rest[:n]
	r.rest = r.rest[n:]
	return taken
}

func (r *reader) end() {
	if r.rest != "" {
		panic(noRequest{})
	}
}
